/- Tables that tell one another, round by round: the reckoning of the law's tell. -/
import Derived.Test.YtkanebolfmpnfaaRtLens
namespace Go.Proofs.Ytkanebolfmpnfaa.Rt
open Go.RowKit Go.Maps
open Go.Proofs.Ytkanebolfmpnfaa.Sb
set_option linter.unusedVariables false
set_option linter.unusedSimpArgs false

/-- Table k, told by the first m nodes. -/
def toldK (lk : Nat → Nat → Bool) (T : Nat → Tb) (k : Nat) : Nat → Tb
  | 0 => T k
  | m + 1 => if lk m k = true then hearT (toldK lk T k m) (m : Int) (listOf (vecF (T m) (k : Int))) else toldK lk T k m
theorem toldK_succ (lk : Nat → Nat → Bool) (T : Nat → Tb) (k m : Nat) : toldK lk T k (m + 1) = if lk m k = true then hearT (toldK lk T k m) (m : Int) (listOf (vecF (T m) (k : Int))) else toldK lk T k m := rfl
theorem hearT_self (t : Tb) (n : Int) (l : List Int) : (hearT t n l).self = t.self := by unfold hearT; split <;> rfl
theorem hearT_set (t : Tb) (n : Int) (l : List Int) : (hearT t n l).set = t.set := by unfold hearT; split <;> rfl
section
variable {n : Nat} {lk : Nat → Nat → Bool} {T : Nat → Tb}
theorem toldK_nbs (k : Nat) : ∀ m, (toldK lk T k m).nbs = (T k).nbs
  | 0 => rfl
  | m + 1 => by
    unfold toldK
    split
    · rw [hearT_nbs, toldK_nbs k m]
    · exact toldK_nbs k m
theorem toldK_self (k : Nat) : ∀ m, (toldK lk T k m).self = (T k).self
  | 0 => rfl
  | m + 1 => by
    unfold toldK
    split
    · rw [hearT_self, toldK_self k m]
    · exact toldK_self k m
theorem toldK_set (k : Nat) : ∀ m, (toldK lk T k m).set = (T k).set
  | 0 => rfl
  | m + 1 => by
    unfold toldK
    split
    · rw [hearT_set, toldK_set k m]
    · exact toldK_set k m
theorem toldK_ok {k : Nat} (ok : (T k).Ok) : ∀ m, (toldK lk T k m).Ok
  | 0 => ok
  | m + 1 => by
    unfold toldK
    split
    · exact hearT_ok (toldK_ok ok m) _ _
    · exact toldK_ok ok m
theorem hearT_heard {t : Tb} {i : Nat} {l : List Int} (h : hearE t (i : Int) l = 0) : (hearT t (i : Int) l).heard i = some (nwOf l) := by
  unfold hearT
  rw [if_pos h]
  simp [putK]
theorem hearT_other {t : Tb} {i m : Nat} {l : List Int} (h : i ≠ m) : (hearT t (m : Int) l).heard i = t.heard i := by
  unfold hearT
  split
  · simp only [putK, Int.toNat_natCast, if_neg h]
  · rfl
theorem toldK_heard (hn : NetT n lk T) (hsym : ∀ a b, lk a b = lk b a) {k i : Nat} (hk : k < n) (hi : i < n) (hl : lk k i = true) : ∀ m, i < m → (toldK lk T k m).heard i = some (nwOf (listOf (vecF (T i) (k : Int))))
  | 0, h => absurd h (by omega)
  | m + 1, h => by
    unfold toldK
    by_cases e : i = m
    · subst e
      rw [if_pos (by rw [hsym]; exact hl)]
      refine hearT_heard (vec_hear (hn.ok i hi) (hn.ns i hi) ?_)
      rw [toldK_nbs]
      exact (hn.nbs k hk _).2 ⟨i, rfl, hi, hl⟩
    · split
      · rw [hearT_other e]
        exact toldK_heard hn hsym hk hi hl m (by omega)
      · exact toldK_heard hn hsym hk hi hl m (by omega)
theorem told_net (h : NetT n lk T) : NetT n lk fun k => toldK lk T k n where
  ok k hk := toldK_ok (h.ok k hk) n
  self k hk := (toldK_self k n).trans (h.self k hk)
  ns k hk d hd := by rw [toldK_set]; exact h.ns k hk d hd
  nbs k hk x := by rw [toldK_nbs]; exact h.nbs k hk x
theorem told_heard (h : NetT n lk T) (hsym : ∀ a b, lk a b = lk b a) : Heard n lk T fun k => toldK lk T k n := fun k i hk hi hl =>
  ⟨_, toldK_heard h hsym hk hi hl n hi, fun d hd => list_at _ hd⟩
/-- One table more hears. -/
def updT (T : Nat → Tb) (k : Nat) (t : Tb) : Nat → Tb := fun j => if j = k then t else T j
theorem NetT.hear (h : NetT n lk T) (k : Nat) (x : Int) (l : List Int) : NetT n lk (updT T k (hearT (T k) x l)) where
  ok j hj := by
    unfold updT
    split
    · next e => subst e; exact hearT_ok (h.ok j hj) _ _
    · exact h.ok j hj
  self j hj := by
    unfold updT
    split
    · next e => subst e; exact (hearT_self _ _ _).trans (h.self j hj)
    · exact h.self j hj
  ns j hj d hd := by
    unfold updT
    split
    · next e => subst e; rw [hearT_set]; exact h.ns j hj d hd
    · exact h.ns j hj d hd
  nbs j hj y := by
    unfold updT
    split
    · next e => subst e; rw [hearT_nbs]; exact h.nbs j hj y
    · exact h.nbs j hj y
/-- The tables behind r rounds. -/
def rnd (lk : Nat → Nat → Bool) (n : Nat) (T : Nat → Tb) : Nat → Nat → Tb
  | 0 => T
  | r + 1 => fun k => toldK lk (rnd lk n T r) k n
theorem rnd_net (h : NetT n lk T) : ∀ r, NetT n lk (rnd lk n T r)
  | 0 => h
  | r + 1 => told_net (rnd_net h r)
theorem rnd_told (hn : n ≤ 8) (h : NetT n lk T) (hsym : ∀ a b, lk a b = lk b a) (r : Nat) : Told n lk (fun k d => waysC (rnd lk n T r k) d) (fun k d => waysH (rnd lk n T r k) d) (fun k d => waysC (rnd lk n T (r + 1) k) d) (fun k d => waysH (rnd lk n T (r + 1) k) d) :=
  told_of hn (rnd_net h (r + 1)) (told_heard (rnd_net h r) hsym)
end
/-! ### What the law asks behind 24 rounds -/
section
variable {n L : Nat} {T : Nat → Tb}
theorem find_dist (hn : n ≤ 8) : Dist n (lkB L) (distO (lkB L) n) := (dist_len hn (lkB_sym L) fun i _ => lkB_next L i).1
theorem find_len (hn : n ≤ 8) {k d : Nat} (hk : k < n) (hd : d < n) : lenO (lkB L) n k d = (distO (lkB L) n k d : Int) := (dist_len hn (lkB_sym L) fun i _ => lkB_next L i).2 k d hk hd
theorem find_waysC (hn : n ≤ 8) (h : NetT n (lkB L) T) {k d : Nat} (hk : k < n) (hd : d < 64) : waysC (rnd (lkB L) n T 24 k) d = (distO (lkB L) n k d : Int) :=
  net_cost (C := fun r k d => waysC (rnd (lkB L) n T r k) d) (H := fun r k d => waysH (rnd (lkB L) n T r k) d) (find_dist hn) hn (lkB_sym L)
    (fun k d hk hd => ways_nonneg (h.ok k hk) (h.ns k hk) hd) (fun r => rnd_told hn h (lkB_sym L) r) (r := 24) (by omega) hk hd
/-- What a node of the net costs, and one beyond it. -/
theorem find_cost (hn : n ≤ 8) (h : NetT n (lkB L) T) {k d : Nat} (hk : k < n) (hd : d < n) : costN (rnd (lkB L) n T 24 k) (d : Int) = lenO (lkB L) n k d := by
  unfold costN
  rw [if_pos (isN_nat (by omega)), Int.toNat_natCast, find_waysC hn h hk (by omega), find_len hn hk hd]
theorem find_past (hn : n ≤ 8) (h : NetT n (lkB L) T) {k : Nat} (hk : k < n) : costN (rnd (lkB L) n T 24 k) (n : Int) = 16 := by
  unfold costN
  rw [if_pos (isN_nat (by omega)), Int.toNat_natCast, find_waysC hn h hk (by omega), (find_dist hn).d4 k n hk (Nat.le_refl _)]
  rfl
/-- The next hop lies one nearer. -/
theorem find_next (hn : n ≤ 8) (h : NetT n (lkB L) T) {k d : Nat} (hk : k < n) (hd : d < n) (e : k ≠ d) : ∃ i, i < n ∧ lkB L k i = true ∧ nextN (rnd (lkB L) n T 24 k) (d : Int) = ((i : Int), true) ∧ distO (lkB L) n i d + 1 = distO (lkB L) n k d := by
  obtain ⟨i, hi, hl, hh, hd'⟩ := net_hop (C := fun r k d => waysC (rnd (lkB L) n T r k) d) (H := fun r k d => waysH (rnd (lkB L) n T r k) d) (find_dist hn) hn (lkB_sym L)
    (fun k d hk hd => ways_nonneg (h.ok k hk) (h.ns k hk) hd) (fun r => rnd_told hn h (lkB_sym L) r) (r := 24) (by omega) hk hd e
  refine ⟨i, hi, hl, ?_, hd'⟩
  unfold nextN
  have hh' : waysH (rnd (lkB L) n T 24 k) d = (i : Int) := hh
  rw [Int.toNat_natCast, hh', if_pos ⟨isN_nat (by omega), by omega⟩]
end
end Go.Proofs.Ytkanebolfmpnfaa.Rt
