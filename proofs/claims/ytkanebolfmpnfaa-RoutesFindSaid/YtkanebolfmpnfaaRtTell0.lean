/- The law's tell: its lists, round by round. -/
import Derived.Test.YtkanebolfmpnfaaRtSaid
namespace Go.Proofs.Ytkanebolfmpnfaa.Rt
open Go.RowKit Go.Maps
open Go.Proofs.Ytkanebolfmpnfaa.Sb
set_option linter.unusedVariables false
set_option linter.unusedSimpArgs false

/-- What a table says to a node. -/
def vcL (t : Tb) (to : Int) : List Int := if t.nbs.contains to = true then listOf (vecF t to) else []
theorem Vec_f {s : Nat} {w : World} {D mb : Nat} {v : Value} {t : Tb} (h : Tn s w D mb v t) (to : Int) : Calls Try.prog 21 #[.pointer (some ⟨D, 0, none⟩), .int .i64 to] w fun e w' => ∃ A n c, e = .returned (.slice A n c) ∧ Hid (Vr w' (.slice A n c) (vcL t to)) ∧ Hid (Below w.heap.size w w') := by
  unfold vcL
  cases hc : t.nbs.contains to with
  | false =>
    refine (Vector_no w D mb v t (Lib.hid h.tq) to h.nl hc).mono ?_
    rintro e w' ⟨rfl, rfl⟩
    exact ⟨none, 0, 0, rfl, Lib.hid (.inl ⟨rfl, by simp⟩), Lib.hid (Below.refl _ _)⟩
  | true =>
    refine (Vector_any w D mb v t (Lib.hid h.tq) (Lib.hid h.ok) to h.nl hc).mono ?_
    rintro e w' ⟨g, rfl, _, ha, hb⟩
    exact ⟨_, _, _, rfl, Lib.hid (.inr ⟨g, _, rfl, ha.out, by simp⟩), hb⟩
def vls (T : Nat → Tb) (j m : Nat) : List (List Int) := (List.range m).map fun k : Nat => vcL (T j) (k : Int)
theorem vls_len (T : Nat → Tb) (j m : Nat) : (vls T j m).length = m := by simp [vls]
theorem vls_succ (T : Nat → Tb) (j m : Nat) : vls T j (m + 1) = vls T j m ++ [vcL (T j) (m : Int)] := by simp [vls, List.range_succ]
theorem vls_at (T : Nat → Tb) (j : Nat) {m k : Nat} (h : k < m) : (vls T j m).getD k [] = vcL (T j) (k : Int) := by simp [vls, List.getD_eq_getElem?_getD, h]
/-- The rows behind i whole ones and k vectors of the next. -/
def lsAt (T : Nat → Tb) (n i k : Nat) : Nat → List (List Int) := fun j => if j < i then vls T j n else if j = i then vls T j k else []
theorem lsAt_here (T : Nat → Tb) (n i k : Nat) : lsAt T n i k i = vls T i k := by simp [lsAt]
theorem lsAt_step (T : Nat → Tb) (n i k : Nat) : updV (lsAt T n i k) i (lsAt T n i k i ++ [vcL (T i) (k : Int)]) = lsAt T n i (k + 1) := by
  funext j
  by_cases e : j = i
  · subst e
    rw [updV_same, lsAt_here, lsAt_here, vls_succ]
  · rw [updV_ne _ _ e]
    simp [lsAt, e]
theorem lsAt_next (T : Nat → Tb) (n i : Nat) : lsAt T n i n = lsAt T n (i + 1) 0 := by
  funext j
  unfold lsAt
  by_cases h1 : j < i
  · rw [if_pos h1, if_pos (by omega)]
  · rw [if_neg h1]
    by_cases h2 : j = i
    · rw [if_pos h2, if_pos (by omega)]
    · rw [if_neg h2, if_neg (by omega)]
      split
      · simp [vls]
      · rfl
theorem lsAt_zero (T : Nat → Tb) (n : Nat) : lsAt T n 0 0 = fun _ => [] := by
  funext j
  simp [lsAt, vls]
theorem lsAt_all (T : Nat → Tb) {n j : Nat} (h : j < n) : lsAt T n n 0 j = vls T j n := if_pos h
/-- The tables while the first i have told all, and node i the first k. -/
def tAt (lk : Nat → Nat → Bool) (T : Nat → Tb) (i k : Nat) : Nat → Tb := fun j => if j < k then toldK lk T j (i + 1) else toldK lk T j i
theorem tAt_zero (lk : Nat → Nat → Bool) (T : Nat → Tb) : tAt lk T 0 0 = T := by funext j; rfl
theorem tAt_here (lk : Nat → Nat → Bool) (T : Nat → Tb) (i k : Nat) : tAt lk T i k k = toldK lk T k i := if_neg (Nat.lt_irrefl _)
theorem tAt_first (lk : Nat → Nat → Bool) (T : Nat → Tb) (i : Nat) : tAt lk T i 0 = fun j => toldK lk T j i := by funext j; rfl
theorem tAt_step (lk : Nat → Nat → Bool) (T : Nat → Tb) (i k : Nat) : updT (tAt lk T i k) k (toldK lk T k (i + 1)) = tAt lk T i (k + 1) := by
  funext j
  unfold updT tAt
  by_cases e : j = k
  · subst e
    rw [if_pos rfl, if_pos (by omega)]
  · rw [if_neg e]
    by_cases h : j < k
    · rw [if_pos h, if_pos (by omega)]
    · rw [if_neg h, if_neg (by omega)]
theorem tAt_idle {lk : Nat → Nat → Bool} {T : Nat → Tb} {i k : Nat} (h : lk i k = false) : tAt lk T i k = tAt lk T i (k + 1) := by
  rw [← tAt_step]
  funext j
  unfold updT
  by_cases e : j = k
  · subst e
    rw [if_pos rfl, tAt_here, toldK_succ, h]
    rfl
  · rw [if_neg e]
theorem tAt_heard {n : Nat} {lk : Nat → Nat → Bool} {T : Nat → Tb} (hT : NetT n lk T) (hsym : ∀ a b, lk a b = lk b a) {i k : Nat} (hi : i < n) (hk : k < n) (h : lk i k = true) : updT (tAt lk T i k) k (hearT (toldK lk T k i) (i : Int) (vcL (T i) (k : Int))) = tAt lk T i (k + 1) := by
  rw [← tAt_step]
  congr 1
  have hc : (T i).nbs.contains (k : Int) = true := List.contains_iff_mem.2 ((hT.nbs i hi _).2 ⟨k, rfl, hk, h⟩)
  unfold vcL
  rw [if_pos hc]
  rw [toldK_succ, if_pos h]
theorem tAt_next {n : Nat} (lk : Nat → Nat → Bool) (T : Nat → Tb) (i : Nat) : ∀ k, k < n → tAt lk T i n k = tAt lk T (i + 1) 0 k := fun k hk => by
  show (if k < n then _ else _) = _
  rw [if_pos hk]
  rfl
/-- make of n lists of lists. -/
theorem madeS (n : Nat) : (madeCells (Value.slice none 0 0).cells (n * 1)).toList = List.replicate n (.slice none 0 0) := by
  rw [show (Value.slice none 0 0).cells = #[.slice none 0 0] from rfl, Nat.mul_one, toList_madeCells_one]
theorem made_sy {w1 w2 : World} {n B : Nat} (T : Nat → Tb) (hB : B ≤ w1.heap.size) (h : w2.ownsRow w1.heap.size 55 1 (.slice (some ⟨w1.heap.size, 0, none⟩) n n) n (madeCells (Value.slice none 0 0).cells (n * 1)).toList) :
    Sy B w2 w1.heap.size n (lsAt T n 0 0) (fun _ => .slice none 0 0) fun _ => [] := by
  rw [madeS] at h
  rw [lsAt_zero]
  rcases h.2 with ⟨e, _⟩ | ⟨g', cap, cur, e, _, h3, _, _, h6, h7⟩
  · cases e
  · simp only [Value.slice.injEq, Option.some.injEq, Addr.mk.injEq, and_true, true_and] at e
    obtain ⟨rfl, rfl⟩ := e
    refine ⟨⟨cur, h3, by omega, fun j hj => ?_⟩, fun j _ => Row.nil w2, fun j k _ _ _ b e => (by cases e), fun j _ b e => (by cases e), hB⟩
    have : cur.toList[j]? = some (.slice none 0 0) := by
      have h8 := congrArg (fun l : List Value => l[j]?) h7
      simp only [List.getElem?_replicate, if_pos hj] at h8
      rw [List.getElem?_take, if_pos (by omega)] at h8
      exact h8
    simpa using this
end Go.Proofs.Ytkanebolfmpnfaa.Rt
