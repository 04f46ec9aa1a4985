/- Tables that tell one another their vectors find the shortest ways: the reckoning alone. -/
import Derived.Test.YtkanebolfmpnfaaRtCalls
namespace Go.Proofs.Ytkanebolfmpnfaa.Rt
open Go.RowKit
set_option linter.unusedVariables false

/-- How long the shortest ways are: of a node of the net, or 16. -/
structure Dist (n : Nat) (lk : Nat → Nat → Bool) (dist : Nat → Nat → Nat) : Prop where
  d0 : ∀ k, k < n → dist k k = 0
  d1 : ∀ k i d, k < n → i < n → lk k i = true → dist k d ≤ dist i d + 1
  d2 : ∀ k d, k < n → d < n → k ≠ d → ∃ i, i < n ∧ lk k i = true ∧ dist k d = dist i d + 1
  d3 : ∀ k d, k < n → d < n → dist k d ≤ 7
  d4 : ∀ k d, k < n → n ≤ d → dist k d = 16
/-- What node i says to node k. -/
def sayS (C H : Nat → Nat → Int) (i k d : Nat) : Int := if H i d = (k : Int) then 16 else C i d
/-- All tables behind a round in which all were told. -/
structure Told (n : Nat) (lk : Nat → Nat → Bool) (C H C' H' : Nat → Nat → Int) : Prop where
  self : ∀ k, k < n → C' k k = 0 ∧ H' k k = -1
  le : ∀ k d, k < n → d < 64 → k ≠ d → C' k d ≤ 16
  all : ∀ k d i, k < n → d < 64 → k ≠ d → i < n → lk k i = true → C' k d ≤ sayS C H i k d + 1
  one : ∀ k d, k < n → d < 64 → k ≠ d → (C' k d = 16 ∧ H' k d = -1) ∨ (C' k d < 16 ∧ ∃ i, i < n ∧ lk k i = true ∧ H' k d = (i : Int) ∧ C' k d = sayS C H i k d + 1)
section
variable {n : Nat} {lk : Nat → Nat → Bool} {dist : Nat → Nat → Nat} {C H : Nat → Nat → Nat → Int}
theorem say_ge {C H : Nat → Nat → Int} {i k d : Nat} {z : Int} (h : z ≤ C i d) (hz : z ≤ 16) : z ≤ sayS C H i k d := by
  unfold sayS
  split <;> omega
theorem dist_16 (hd : Dist n lk dist) {k d : Nat} (hk : k < n) : dist k d ≤ 16 := by
  by_cases h : d < n
  · have := hd.d3 k d hk h; omega
  · rw [hd.d4 k d hk (by omega)]; exact Nat.le_refl _
/-- No cost is below the shortest way's length, once what was stale has grown. -/
theorem net_low (hd : Dist n lk dist) (hn : n ≤ 8) (h0 : ∀ k d, k < n → d < 64 → 0 ≤ C 0 k d) (ht : ∀ r, Told n lk (C r) (H r) (C (r + 1)) (H (r + 1))) : ∀ r k d, k < n → d < 64 → ((min (dist k d) r : Nat) : Int) ≤ C r k d
  | 0, k, d, hk, hd' => by
    have := h0 k d hk hd'
    simpa using this
  | r + 1, k, d, hk, hd' => by
    by_cases e : k = d
    · subst e
      rw [((ht r).self k hk).1, hd.d0 k hk]
      simp
    · have h16 := dist_16 hd (d := d) hk
      rcases (ht r).one k d hk hd' e with ⟨h1, _⟩ | ⟨_, i, hi, hl, _, h2⟩
      · omega
      · have ih := net_low hd hn h0 ht r i d hi hd'
        have h17 := dist_16 hd (d := d) hi
        have hs : ((min (dist i d) r : Nat) : Int) ≤ sayS (C r) (H r) i k d := say_ge ih (by omega)
        have := hd.d1 k i d hk hi hl
        omega
/-- No cost is above it, eight rounds and its length later. -/
theorem net_up (hd : Dist n lk dist) (hn : n ≤ 8) (hsym : ∀ a b, lk a b = lk b a) (h0 : ∀ k d, k < n → d < 64 → 0 ≤ C 0 k d) (ht : ∀ r, Told n lk (C r) (H r) (C (r + 1)) (H (r + 1))) : ∀ m k d, k < n → d < n → dist k d = m → ∀ r, 9 + m ≤ r → C r k d ≤ m
  | 0, k, d, hk, hd', hm, r, hr => by
    by_cases e : k = d
    · subst e
      obtain ⟨q, rfl⟩ : ∃ q, r = q + 1 := ⟨r - 1, by omega⟩
      rw [((ht q).self k hk).1]
      simp
    · obtain ⟨i, _, _, h⟩ := hd.d2 k d hk hd' e
      omega
  | m + 1, k, d, hk, hd', hm, r, hr => by
    have e : k ≠ d := fun e => by subst e; rw [hd.d0 k hk] at hm; omega
    obtain ⟨i, hi, hl, h⟩ := hd.d2 k d hk hd' e
    obtain ⟨q, rfl⟩ : ∃ q, r = q + 1 + 1 := ⟨r - 2, by omega⟩
    have ih := net_up hd hn hsym h0 ht m i d hi hd' (by omega) (q + 1) (by omega)
    have h7 := hd.d3 k d hk hd'
    have hall := (ht (q + 1)).all k d i hk (by omega) e hi hl
    have hs : sayS (C (q + 1)) (H (q + 1)) i k d = C (q + 1) i d := by
      unfold sayS
      split
      · rename_i hh
        exfalso
        have e2 : i ≠ d := fun e2 => by
          subst e2
          rw [((ht q).self i hi).2] at hh
          omega
        rcases (ht q).one i d hi (by omega) e2 with ⟨_, h2⟩ | ⟨_, j, hj, hlj, h2, h3⟩
        · omega
        · obtain rfl : j = k := by omega
          have lo := net_low hd hn h0 ht q j d hk (by omega)
          have hq : ((min (dist j d) q : Nat) : Int) ≤ sayS (C q) (H q) j i d := say_ge lo (by omega)
          omega
      · rfl
    rw [hs] at hall
    omega
/-- What all cost behind sixteen rounds. -/
theorem net_cost (hd : Dist n lk dist) (hn : n ≤ 8) (hsym : ∀ a b, lk a b = lk b a) (h0 : ∀ k d, k < n → d < 64 → 0 ≤ C 0 k d) (ht : ∀ r, Told n lk (C r) (H r) (C (r + 1)) (H (r + 1))) {r k d : Nat} (hr : 16 ≤ r) (hk : k < n) (hd' : d < 64) : C r k d = (dist k d : Int) := by
  have lo := net_low hd hn h0 ht r k d hk hd'
  have h16 := dist_16 hd (d := d) hk
  by_cases hdn : d < n
  · have up := net_up hd hn hsym h0 ht _ k d hk hdn rfl r (by have := hd.d3 k d hk hdn; omega)
    omega
  · obtain ⟨q, rfl⟩ : ∃ q, r = q + 1 := ⟨r - 1, by omega⟩
    have := (ht q).le k d hk hd' (by omega)
    have := hd.d4 k d hk (by omega)
    omega
/-- Each next hop lies nearer. -/
theorem net_hop (hd : Dist n lk dist) (hn : n ≤ 8) (hsym : ∀ a b, lk a b = lk b a) (h0 : ∀ k d, k < n → d < 64 → 0 ≤ C 0 k d) (ht : ∀ r, Told n lk (C r) (H r) (C (r + 1)) (H (r + 1))) {r k d : Nat} (hr : 17 ≤ r) (hk : k < n) (hd' : d < n) (e : k ≠ d) : ∃ i, i < n ∧ lk k i = true ∧ H r k d = (i : Int) ∧ dist i d + 1 = dist k d := by
  obtain ⟨q, rfl⟩ : ∃ q, r = q + 1 := ⟨r - 1, by omega⟩
  have hc := net_cost hd hn hsym h0 ht (r := q + 1) (k := k) (d := d) (by omega) hk (by omega)
  have h7 := hd.d3 k d hk hd'
  rcases (ht q).one k d hk (by omega) e with ⟨h1, _⟩ | ⟨_, i, hi, hl, h2, h3⟩
  · omega
  · refine ⟨i, hi, hl, h2, ?_⟩
    have hci := net_cost hd hn hsym h0 ht (r := q) (k := i) (d := d) (by omega) hi (by omega)
    have h17 := dist_16 hd (d := d) hi
    have hs : (dist i d : Int) ≤ sayS (C q) (H q) i k d := say_ge (by omega) (by omega)
    have := hd.d1 k i d hk hi hl
    omega
end
/-! ### Tables of such a net -/
/-- A node's table in a net of n nodes: nothing set, heard of its neighbours alone. -/
structure NetT (n : Nat) (lk : Nat → Nat → Bool) (T : Nat → Tb) : Prop where
  ok : ∀ k, k < n → (T k).Ok
  self : ∀ k, k < n → (T k).self = k
  ns : ∀ k, k < n → ∀ d, d < 64 → (T k).set d = -1
  nbs : ∀ k, k < n → ∀ x : Int, x ∈ (T k).nbs ↔ ∃ i : Nat, x = (i : Int) ∧ i < n ∧ lk k i = true
/-- All have heard what all their neighbours say. -/
def Heard (n : Nat) (lk : Nat → Nat → Bool) (T T' : Nat → Tb) : Prop := ∀ k i, k < n → i < n → lk k i = true → ∃ p, (T' k).heard i = some p ∧ ∀ d, d < 64 → p.c d = vecF (T i) (k : Int) d
theorem told_of {n : Nat} {lk : Nat → Nat → Bool} {T T' : Nat → Tb} (hn : n ≤ 8) (h' : NetT n lk T') (hh : Heard n lk T T') : Told n lk (fun k d => waysC (T k) d) (fun k d => waysH (T k) d) (fun k d => waysC (T' k) d) (fun k d => waysH (T' k) d) := by
  have sp : ∀ k d, k < n → d < 64 → k ≠ d → Spec (T' k).heard (froms (T' k).heard) d (waysC (T' k) d) (waysH (T' k) d) := fun k d hk hd e => by
    have hs : d ≠ (T' k).self := by rw [h'.self k hk]; exact fun e2 => e e2.symm
    rw [wC_way hs (h'.ns k hk d hd), wH_way hs (h'.ns k hk d hd)]
    exact ways_spec _ _
  have co : ∀ k i d, k < n → i < n → lk k i = true → d < 64 → costsOf (T' k).heard i d = sayS (fun k d => waysC (T k) d) (fun k d => waysH (T k) d) i k d := fun k i d hk hi hl hd => by
    obtain ⟨p, hp, hc⟩ := hh k i hk hi hl
    rw [costsOf_some hp, hc d hd]
    rfl
  refine ⟨fun k hk => ?_, fun k d hk hd e => (sp k d hk hd e).1, fun k d i hk hd e hi hl => ?_, fun k d hk hd e => ?_⟩
  · have h1 := wC_self (T' k)
    have h2 := wH_self (T' k)
    rw [h'.self k hk] at h1 h2
    exact ⟨h1, h2⟩
  · rw [← co k i d hk hi hl hd]
    obtain ⟨p, hp, _⟩ := hh k i hk hi hl
    exact (sp k d hk hd e).2.1 i (mem_froms.2 ⟨by omega, by rw [hp]; rfl⟩)
  · rcases (sp k d hk hd e).2.2 with h | ⟨h1, f, hf, h2, h3, _⟩
    · exact .inl h
    · obtain ⟨hf1, hf2⟩ := mem_froms.1 hf
      obtain ⟨p, hp⟩ := Option.isSome_iff_exists.1 hf2
      obtain ⟨i, hi, hin, hl⟩ := (h'.nbs k hk (f : Int)).1 ((h'.ok k hk).heard f p hf1 hp).1
      obtain rfl : f = i := by omega
      exact .inr ⟨h1, f, hin, hl, h2, by rw [← co k f d hk hin hl hd]; exact h3⟩
theorem ways_nonneg {t : Tb} (ok : t.Ok) (ns : ∀ d, d < 64 → t.set d = -1) {d : Nat} (hd : d < 64) : 0 ≤ waysC t d := by
  by_cases hs : d = t.self
  · subst hs
    rw [wC_self]
    exact Int.le_refl _
  · rw [wC_way hs (ns d hd)]
    rcases (ways_spec t.heard d).2.2 with ⟨h, _⟩ | ⟨_, f, hf, _, h3, _⟩
    · omega
    · obtain ⟨hf1, hf2⟩ := mem_froms.1 hf
      obtain ⟨p, hp⟩ := Option.isSome_iff_exists.1 hf2
      rw [h3, costsOf_some hp]
      have := (ok.heard f p hf1 hp).2.1 d hd
      omega
/-- What is said is always taken. -/
theorem vec_hear {t t' : Tb} (ok : t.Ok) (ns : ∀ d, d < 64 → t.set d = -1) {i : Nat} {to : Int} (hi : (i : Int) ∈ t'.nbs) : hearE t' (i : Int) (listOf (vecF t to)) = 0 := by
  unfold hearE
  rw [if_neg (by simp [hi]), if_neg]
  rintro (h | h)
  · exact h (list_len _)
  · obtain ⟨x, hx, hb⟩ := List.any_eq_true.1 h
    obtain ⟨d, hd, rfl⟩ := List.mem_iff_getElem.1 hx
    rw [list_len] at hd
    have e := list_at (vecF t to) hd
    rw [Mi.at_get (by rw [list_len]; exact hd)] at e
    rw [e] at hb
    have h1 := ways_nonneg ok ns hd
    have h2 : waysC t d ≤ 16 := by
      by_cases hs : d = t.self
      · subst hs; rw [wC_self]; decide
      · rw [wC_way hs (ns d hd)]; exact (ways_spec t.heard d).1
    unfold vecF at hb
    split at hb
    · simp [badC] at hb
    · simp only [badC, Bool.or_eq_true, decide_eq_true_eq] at hb
      omega
end Go.Proofs.Ytkanebolfmpnfaa.Rt
