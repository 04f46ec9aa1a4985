/- The lengths of the shortest ways, as the law reckons them. -/
import Derived.Test.YtkanebolfmpnfaaRtNet
namespace Go.Proofs.Ytkanebolfmpnfaa.Rt
open Go.RowKit
set_option linter.unusedVariables false

def relax (lk : Nat → Nat → Bool) (o : Nat → Int) (i k : Nat) : Nat → Int := if lk i k = true then upd o k (min (o k) (o i + 1)) else o
def relK (lk : Nat → Nat → Bool) (i : Nat) (o : Nat → Int) (m : Nat) : Nat → Int := (List.range m).foldl (fun o k => relax lk o i k) o
def relI (lk : Nat → Nat → Bool) (n : Nat) (o : Nat → Int) (m : Nat) : Nat → Int := (List.range m).foldl (fun o i => relK lk i o n) o
def relR (lk : Nat → Nat → Bool) (n : Nat) (o : Nat → Int) (m : Nat) : Nat → Int := (List.range m).foldl (fun o _ => relI lk n o n) o
def len0 (a : Nat) : Nat → Int := upd (fun _ => 99) a 0
def lenO (lk : Nat → Nat → Bool) (n a : Nat) : Nat → Int := relR lk n (len0 a) n
theorem relK_succ (lk : Nat → Nat → Bool) (i : Nat) (o : Nat → Int) (m : Nat) : relK lk i o (m + 1) = relax lk (relK lk i o m) i m := by simp [relK, List.range_succ]
theorem relI_succ (lk : Nat → Nat → Bool) (n : Nat) (o : Nat → Int) (m : Nat) : relI lk n o (m + 1) = relK lk m (relI lk n o m) n := by simp [relI, List.range_succ]
theorem relR_succ (lk : Nat → Nat → Bool) (n : Nat) (o : Nat → Int) (m : Nat) : relR lk n o (m + 1) = relI lk n (relR lk n o m) n := by simp [relR, List.range_succ]
/-- b is reached from a within m steps. -/
def Rch (n : Nat) (lk : Nat → Nat → Bool) : Nat → Nat → Nat → Prop
  | 0, a, b => a = b
  | m + 1, a, b => Rch n lk m a b ∨ ∃ c, c < n ∧ lk c b = true ∧ Rch n lk m a c
section
variable {n : Nat} {lk : Nat → Nat → Bool}
theorem Rch.more {a b : Nat} : ∀ {m m' : Nat}, Rch n lk m a b → m ≤ m' → Rch n lk m' a b
  | m, 0, h, e => by obtain rfl : m = 0 := by omega
                     exact h
  | m, m' + 1, h, e => by
    by_cases e2 : m = m' + 1
    · subst e2; exact h
    · exact .inl (Rch.more h (by omega))
theorem Rch.cons {k i : Nat} (hk : k < n) (hl : lk k i = true) : ∀ {m d : Nat}, Rch n lk m i d → Rch n lk (m + 1) k d
  | 0, d, h => by
    obtain rfl : i = d := h
    exact .inr ⟨k, hk, hl, rfl⟩
  | m + 1, d, h => by
    rcases h with h | ⟨c, hc, hcl, h⟩
    · exact .inl (Rch.cons hk hl h)
    · exact .inr ⟨c, hc, hcl, Rch.cons hk hl h⟩
theorem Rch.first {k : Nat} : ∀ {m d : Nat}, d < n → Rch n lk (m + 1) k d → Rch n lk m k d ∨ ∃ i, i < n ∧ lk k i = true ∧ Rch n lk m i d
  | 0, d, hd, h => by
    rcases h with h | ⟨c, hc, hcl, h⟩
    · exact .inl h
    · obtain rfl : k = c := h
      exact .inr ⟨d, hd, hcl, rfl⟩
  | m + 1, d, hd, h => by
    rcases h with h | ⟨c, hc, hcl, h⟩
    · exact .inl h
    · rcases Rch.first hc h with h | ⟨i, hi, hil, h⟩
      · exact .inl (.inr ⟨c, hc, hcl, h⟩)
      · exact .inr ⟨i, hi, hil, .inr ⟨c, hc, hcl, h⟩⟩
/-- What is kept: a number that stands is a way's length. -/
def Snd (n : Nat) (lk : Nat → Nat → Bool) (a : Nat) (o : Nat → Int) : Prop := ∀ b, b < n → 0 ≤ o b ∧ o b ≤ 99 ∧ (o b < 99 → Rch n lk (o b).toNat a b)
theorem Snd.relax {a : Nat} {o : Nat → Int} (h : Snd n lk a o) {i k : Nat} (hi : i < n) : Snd n lk a (relax lk o i k) := by
  intro b hb
  unfold Rt.relax
  split
  · rename_i hl
    unfold upd
    split
    · rename_i e
      subst e
      obtain ⟨h1, h2, h3⟩ := h b hb
      obtain ⟨g1, g2, g3⟩ := h i hi
      refine ⟨by omega, by omega, fun hlt => ?_⟩
      by_cases hm : o b ≤ o i + 1
      · rw [show min (o b) (o i + 1) = o b by omega]
        exact h3 (by omega)
      · rw [show min (o b) (o i + 1) = o i + 1 by omega, show (o i + 1).toNat = (o i).toNat + 1 by omega]
        exact .inr ⟨i, hi, hl, g3 (by omega)⟩
    · exact h b hb
  · exact h b hb
theorem relax_le (o : Nat → Int) (i k b : Nat) : relax lk o i k b ≤ o b := by
  unfold relax
  split
  · unfold upd
    split
    · rename_i e; subst e; omega
    · exact Int.le_refl _
  · exact Int.le_refl _
theorem relax_hit {o : Nat → Int} {i k : Nat} (h : lk i k = true) : relax lk o i k k ≤ o i + 1 := by
  unfold relax
  rw [if_pos h]
  unfold upd
  rw [if_pos rfl]
  omega
theorem Snd.relK {a : Nat} {o : Nat → Int} {i : Nat} (hi : i < n) (h : Snd n lk a o) : ∀ m, Snd n lk a (relK lk i o m)
  | 0 => h
  | m + 1 => by rw [relK_succ]; exact (Snd.relK hi h m).relax hi
theorem relK_le (i : Nat) (o : Nat → Int) (b : Nat) : ∀ m, relK lk i o m b ≤ o b
  | 0 => Int.le_refl _
  | m + 1 => by rw [relK_succ]; exact Int.le_trans (relax_le _ _ _ _) (relK_le i o b m)
theorem relK_hit {i : Nat} {o : Nat → Int} {b : Nat} (h : lk i b = true) : ∀ m, b < m → relK lk i o m b ≤ o i + 1
  | 0, hb => by omega
  | m + 1, hb => by
    rw [relK_succ]
    by_cases e : b = m
    · subst e
      have := relax_hit (o := Rt.relK lk i o b) h
      have := relK_le (lk := lk) i o i b
      omega
    · have := relK_hit (o := o) h m (by omega)
      have := relax_le (lk := lk) (Rt.relK lk i o m) i m b
      omega
theorem Snd.relI {a : Nat} {o : Nat → Int} (h : Snd n lk a o) : ∀ m, m ≤ n → Snd n lk a (relI lk n o m)
  | 0, _ => h
  | m + 1, hm => by rw [relI_succ]; exact (Snd.relI h m (by omega)).relK (by omega) n
theorem relI_le (o : Nat → Int) (b : Nat) : ∀ m, relI lk n o m b ≤ o b
  | 0 => Int.le_refl _
  | m + 1 => by rw [relI_succ]; exact Int.le_trans (relK_le _ _ _ _) (relI_le o b m)
theorem relI_hit {o : Nat → Int} {c b : Nat} (hb : b < n) (h : lk c b = true) : ∀ m, c < m → relI lk n o m b ≤ o c + 1
  | 0, hc => by omega
  | m + 1, hc => by
    rw [relI_succ]
    by_cases e : c = m
    · subst e
      have := relK_hit (o := Rt.relI lk n o c) h n hb
      have := relI_le (lk := lk) (n := n) o c c
      omega
    · have := relI_hit (o := o) hb h m (by omega)
      have := relK_le (lk := lk) m (Rt.relI lk n o m) b n
      omega
theorem Snd.relR {a : Nat} {o : Nat → Int} (h : Snd n lk a o) : ∀ m, Snd n lk a (relR lk n o m)
  | 0 => h
  | m + 1 => by rw [relR_succ]; exact (Snd.relR h m).relI n (Nat.le_refl _)
theorem relR_reach {a : Nat} (ha : a < n) : ∀ r m b, b < n → m ≤ r → Rch n lk m a b → relR lk n (len0 a) r b ≤ m
  | 0, m, b, hb, hm, h => by
    obtain rfl : m = 0 := by omega
    obtain rfl : a = b := h
    show upd (fun _ => 99) a 0 a ≤ _
    simp [upd]
  | r + 1, m, b, hb, hm, h => by
    rw [relR_succ]
    match m, h, hm with
    | 0, h, _ =>
      have := relR_reach ha r 0 b hb (by omega) h
      have := relI_le (lk := lk) (n := n) (relR lk n (len0 a) r) b n
      omega
    | m + 1, h, hm =>
      rcases h with h | ⟨c, hc, hcl, h⟩
      · by_cases e : m ≤ r
        · have := relR_reach ha r m b hb e h
          have := relI_le (lk := lk) (n := n) (relR lk n (len0 a) r) b n
          omega
        · omega
      · have := relR_reach ha r m c hc (by omega) h
        have := relI_hit (o := relR lk n (len0 a) r) hb hcl n hc
        omega
theorem snd_len0 {a : Nat} : Snd n lk a (len0 a) := by
  intro b hb
  unfold len0 upd
  split
  · rename_i e
    subst e
    exact ⟨by decide, by decide, fun _ => rfl⟩
  · exact ⟨by show (0 : Int) ≤ 99; decide, by show (99 : Int) ≤ 99; decide, fun h => absurd h (by show ¬ (99 : Int) < 99; decide)⟩
theorem chain_up (hch : ∀ i, i + 1 < n → lk i (i + 1) = true) : ∀ m a, a + m < n → Rch n lk m a (a + m)
  | 0, a, _ => rfl
  | m + 1, a, h => .inr ⟨a + m, by omega, hch (a + m) (by omega), chain_up hch m a (by omega)⟩
theorem chain_down (hch : ∀ i, i + 1 < n → lk (i + 1) i = true) : ∀ m a, a + m < n → Rch n lk m (a + m) a
  | 0, a, _ => rfl
  | m + 1, a, h => .inr ⟨a + 1, by omega, hch a (by omega), by
      have := chain_down hch m (a + 1) (by omega)
      rwa [show a + 1 + m = a + (m + 1) by omega] at this⟩
/-- The lengths that the law reckons are the shortest ways'. -/
def distO (lk : Nat → Nat → Bool) (n k d : Nat) : Nat := if d < n then (lenO lk n k d).toNat else 16
theorem dist_len (hn : n ≤ 8) (hsym : ∀ a b, lk a b = lk b a) (hch : ∀ i, i + 1 < n → lk i (i + 1) = true) : Dist n lk (distO lk n) ∧ ∀ k d, k < n → d < n → lenO lk n k d = (distO lk n k d : Int) := by
  have hdn : ∀ i, i + 1 < n → lk (i + 1) i = true := fun i hi => by rw [hsym]; exact hch i hi
  have reach : ∀ k d, k < n → d < n → ∃ m, m < n ∧ Rch n lk m k d := fun k d hk hd => by
    by_cases h : k ≤ d
    · refine ⟨d - k, by omega, ?_⟩
      have := chain_up hch (d - k) k (by omega)
      rwa [show k + (d - k) = d by omega] at this
    · refine ⟨k - d, by omega, ?_⟩
      have := chain_down hdn (k - d) d (by omega)
      rwa [show d + (k - d) = k by omega] at this
  have le : ∀ k d m, k < n → d < n → m ≤ n → Rch n lk m k d → lenO lk n k d ≤ m := fun k d m hk hd hm h => relR_reach hk n m d hd hm h
  have snd : ∀ k d, k < n → d < n → 0 ≤ lenO lk n k d ∧ lenO lk n k d < n ∧ Rch n lk (lenO lk n k d).toNat k d := fun k d hk hd => by
    obtain ⟨h1, h2, h3⟩ := (snd_len0 (n := n) (lk := lk) (a := k)).relR n d hd
    obtain ⟨m, hm, hr⟩ := reach k d hk hd
    have := le k d m hk hd (by omega) hr
    exact ⟨h1, by omega, h3 (by show lenO lk n k d < 99; omega)⟩
  have eq : ∀ k d, k < n → d < n → lenO lk n k d = (distO lk n k d : Int) := fun k d hk hd => by
    unfold distO
    rw [if_pos hd]
    have := (snd k d hk hd).1
    omega
  have d1 : ∀ k i d, k < n → i < n → d < n → lk k i = true → distO lk n k d ≤ distO lk n i d + 1 := fun k i d hk hi hd hl => by
    obtain ⟨_, h2, h3⟩ := snd i d hi hd
    have h4 := le k d _ hk hd (by omega) (Rch.cons hk hl h3)
    have e1 := eq k d hk hd
    have e2 := eq i d hi hd
    omega
  refine ⟨⟨fun k hk => ?_, fun k i d hk hi hl => ?_, fun k d hk hd e => ?_, fun k d hk hd => ?_, fun k d _ hd => ?_⟩, eq⟩
  · have h := le k k 0 hk hk (Nat.zero_le _) rfl
    have := eq k k hk hk
    omega
  · by_cases hd : d < n
    · exact d1 k i d hk hi hd hl
    · simp [distO, hd]
  · obtain ⟨h1, h2, h3⟩ := snd k d hk hd
    obtain ⟨m, hm⟩ : ∃ m, (lenO lk n k d).toNat = m := ⟨_, rfl⟩
    have e1 := eq k d hk hd
    rw [hm] at h3
    match m, h3, hm with
    | 0, h3, _ => exact absurd h3 e
    | m + 1, h3, hm =>
      rcases Rch.first hd h3 with h | ⟨i, hi, hl, h⟩
      · have := le k d m hk hd (by omega) h
        omega
      · refine ⟨i, hi, hl, ?_⟩
        have := le i d m hi hd (by omega) h
        have e2 := eq i d hi hd
        have := d1 k i d hk hi hd hl
        omega
  · have := (snd k d hk hd).2.1
    have := eq k d hk hd
    omega
  · unfold distO
    rw [if_neg (by omega)]
end
end Go.Proofs.Ytkanebolfmpnfaa.Rt
