/- The document's line in memory: lists of bytes with how many ticks they need; a line by value, and its box. -/
import Derived.Test.YtcdpdijfgeeenaaLnDef
import Derived.Maps.AppendAt
namespace Go.Proofs.Ytcdpdijfgeeenaa.Li
open Go.RowKit
open Go.Proofs.Ytcdpdijfgeeenaa.Sb
set_option linter.unusedVariables false
set_option linter.unusedSimpArgs false

abbrev Wy := Nat × Int
def encW (p : Wy) : List Value := [.int .u8 (p.1 : Int), .int .i64 p.2]
def encWs (L : List Wy) : List Value := L.flatMap encW
theorem encWs_len (L : List Wy) : (encWs L).length = L.length * 2 := by
  unfold encWs
  induction L with
  | nil => rfl
  | cons a r ih => rw [List.flatMap_cons, List.length_append, ih, List.length_cons]; show 2 + _ = _; omega
theorem encWs_app (L R : List Wy) : encWs (L ++ R) = encWs L ++ encWs R := by unfold encWs; rw [List.flatMap_append]
theorem encWs_get : ∀ (L : List Wy) (j : Nat) (a : Wy), L[j]? = some a → ∀ i, i < 2 → (encWs L)[j * 2 + i]? = (encW a)[i]?
  | [], j, a, h, i, _ => by simp at h
  | x :: r, 0, a, h, i, hi => by
    simp only [List.getElem?_cons_zero, Option.some.injEq] at h
    subst h
    show (encW x ++ encWs r)[_]? = _
    rw [Nat.zero_mul, Nat.zero_add, List.getElem?_append_left (by show i < 2; exact hi)]
  | x :: r, j + 1, a, h, i, hi => by
    rw [List.getElem?_cons_succ] at h
    show (encW x ++ encWs r)[_]? = _
    have e : (encW x).length = 2 := rfl
    rw [List.getElem?_append_right (by rw [e]; omega), e, show (j + 1) * 2 + i - 2 = j * 2 + i by omega]
    exact encWs_get r j a h i hi
theorem encWs_drop (L : List Wy) (k : Nat) : encWs (L.drop k) = (encWs L).drop (k * 2) := by
  induction k generalizing L with
  | zero => simp
  | succ k ih =>
    cases L with
    | nil => simp [encWs]
    | cons a r =>
      rw [List.drop_succ_cons, ih]
      show _ = (encW a ++ encWs r).drop _
      have e : (encW a).length = 2 := rfl
      have d1 : (encW a).drop ((k + 1) * 2) = [] := List.drop_eq_nil_of_le (by rw [e]; omega)
      rw [List.drop_append, e, show (k + 1) * 2 - 2 = k * 2 by omega, d1, List.nil_append]
theorem encWs_take (L : List Wy) (k : Nat) : encWs (L.take k) = (encWs L).take (k * 2) := by
  induction k generalizing L with
  | zero => simp [encWs]
  | succ k ih =>
    cases L with
    | nil => simp [encWs]
    | cons a r =>
      rw [List.take_succ_cons]
      show encW a ++ encWs (r.take k) = (encW a ++ encWs r).take _
      have e : (encW a).length = 2 := rfl
      have d1 : (encW a).take ((k + 1) * 2) = encW a := List.take_of_length_le (by rw [e]; omega)
      rw [ih, List.take_append, e, show (k + 1) * 2 - 2 = k * 2 by omega, d1]
theorem encW_one (L : List Wy) : ∀ v ∈ encWs L, v.oneCell' = true := by
  intro v hv
  obtain ⟨p, _, hp⟩ := List.mem_flatMap.1 hv
  simp only [encW, List.mem_cons, List.not_mem_nil, or_false] at hp
  rcases hp with rfl | rfl <;> rfl
/-- A slice of such of the call's own. -/
def OW (w : World) (B : Nat) (v : Value) (L : List Wy) : Prop := w.ownsRow B 62 2 v L.length (encWs L)
/-- A slice that leads to such: read. -/
structure RW (w : World) (A : Option Addr) (n c : Nat) (L : List Wy) : Prop where
  len : n = L.length
  le : n ≤ c
  cap : c ≤ 9223372036854775807
  nil : A = none → n = 0 ∧ c = 0
  at_ : ∀ a, A = some a → ∃ g off, a = ⟨g, off, none⟩ ∧ g < w.heap.size ∧ (∃ cs, w.heap[g]? = some (.cells cs 62 (0, 0))) ∧ ∀ j u, (encWs L)[j]? = some u → w.cell? ⟨g, off + j, none⟩ = some u
theorem RW.nil0 (w : World) : RW w none 0 0 [] := ⟨rfl, Nat.le_refl _, Nat.zero_le _, fun _ => ⟨rfl, rfl⟩, fun a e => by cases e⟩
/-- Blocks of other types than a line's own lie as they lay. -/
def Wk (w : World) (k : Nat) : Prop := ∃ cs, w.heap[k]? = some (.cells cs 62 (0, 0))
theorem RW.keep {w w' : World} {A : Option Addr} {n c : Nat} {L : List Wy} (h : RW w A n c L) (hk : ∀ k, Wk w k → w'.heap[k]? = w.heap[k]?) : RW w' A n c L := by
  refine ⟨h.len, h.le, h.cap, h.nil, fun a e => ?_⟩
  obtain ⟨g, off, e1, h1, h2, h3⟩ := h.at_ a e
  have hg := hk g h2
  obtain ⟨cs, h4⟩ := h2
  refine ⟨g, off, e1, (Array.getElem?_eq_some_iff.1 (hg.trans h4)).1, ⟨cs, hg.trans h4⟩, fun j u hu => ?_⟩
  exact (World.cell?_of_block (w := w) (a := ⟨g, off + j, none⟩) hg).trans (h3 j u hu)
theorem RW.below {w w' : World} {A : Option Addr} {n c : Nat} {L : List Wy} (h : RW w A n c L) (hb : Below w.heap.size w w') : RW w' A n c L := h.keep fun k ⟨cs, hk⟩ => hb.block k (Array.getElem?_eq_some_iff.1 hk).1
theorem OW.rw {w : World} {B : Nat} {v : Value} {L : List Wy} (h : OW w B v L) : ∃ A c, v = .slice A L.length c ∧ RW w A L.length c L := by
  rcases h.2 with ⟨h1, h2⟩ | ⟨g, cap, cur, h1, h2, h3, h4, h5, h6, h7⟩
  · have : L = [] := List.eq_nil_of_length_eq_zero h2
    subst this
    exact ⟨none, 0, h1, RW.nil0 w⟩
  · subst h1
    refine ⟨_, cap, rfl, rfl, h4, by unfold maxLen at h5; omega, (fun e => by cases e), fun a e => ?_⟩
    cases e
    refine ⟨g, 0, rfl, (World.ownsRow.lt h g rfl).2, ⟨cur, h3⟩, fun j u hu => ?_⟩
    have := World.ownsRow.cells h (g := g) rfl j u hu
    have e : (⟨g, 0, none⟩ : Addr).add j = ⟨g, 0 + j, none⟩ := Addr.add_mid _ _ _
    rw [e] at this
    exact this
theorem OW.made (w : World) : OW (w.alloc (.cells #[] 62)) w.heap.size (.slice (some ⟨w.heap.size, 0, none⟩) 0 0) [] := World.ownsRow_made w #[] 0 (Nat.le_refl _) (by unfold maxLen; omega) (by simp)
theorem OW.below {w w' : World} {B : Nat} {v : Value} {L : List Wy} (h : OW w B v L) (hb : Below w.heap.size w w') : OW w' B v L := own_same h fun k _ hk => hb.block k hk
theorem OW.base {w : World} {B B' : Nat} {v : Value} {L : List Wy} (h : OW w B v L) (hB : ∀ k, v.ownBlock = some k → B' ≤ k) : OW w B' v L := own_base h hB
/-- What lies at a place. -/
theorem RW.cells {w : World} {A : Option Addr} {n c : Nat} {L : List Wy} (h : RW w A n c L) {j : Nat} {p : Wy} (hj : L[j]? = some p) : ∃ g off, A = some ⟨g, off, none⟩ ∧ w.cell? ⟨g, off + j * 2, none⟩ = some (.int .u8 (p.1 : Int)) ∧ w.cell? ⟨g, off + j * 2 + 1, none⟩ = some (.int .i64 p.2) := by
  have hlt := (List.getElem?_eq_some_iff.1 hj).1
  cases A with
  | none => exact absurd (h.nil rfl).1 (by rw [h.len]; omega)
  | some a =>
    obtain ⟨g, off, rfl, _, _, h3⟩ := h.at_ a rfl
    refine ⟨g, off, rfl, ?_, ?_⟩
    · exact h3 (j * 2) _ (by have := encWs_get L j p hj 0 (by omega); rw [Nat.add_zero] at this; rw [this]; rfl)
    · rw [Nat.add_assoc]; exact h3 (j * 2 + 1) _ (by rw [encWs_get L j p hj 1 (by omega)]; rfl)
theorem RW.take {w : World} {A : Option Addr} {n c : Nat} {L : List Wy} (h : RW w A n c L) (k : Nat) (hk : k ≤ n) : RW w A k c (L.take k) := by
  refine ⟨by rw [List.length_take, ← h.len]; omega, Nat.le_trans hk h.le, h.cap, fun e => by have := h.nil e; omega, fun a e => ?_⟩
  obtain ⟨g, off, e1, h1, h2, h3⟩ := h.at_ a e
  refine ⟨g, off, e1, h1, h2, fun j u hu => h3 j u ?_⟩
  rw [encWs_take] at hu
  by_cases hj : j < k * 2
  · rwa [List.getElem?_take_of_lt hj] at hu
  · rw [List.getElem?_eq_none (by simp; omega)] at hu; cases hu
theorem RW.drop {w : World} {A A2 : Option Addr} {n c : Nat} {L : List Wy} (h : RW w A n c L) (k : Nat) (hk : k ≤ n) (hA : (if c = k then A else Option.map (fun x => x.add (k * 2)) A) = A2) : RW w A2 (n - k) (c - k) (L.drop k) := by
  have hle := h.le
  refine ⟨by rw [List.length_drop, ← h.len], by omega, by have := h.cap; omega, fun e => ?_, fun a e => ?_⟩
  · subst hA
    split at e
    · omega
    · cases A with
      | none => have := h.nil rfl; omega
      | some a => cases e
  · subst hA
    split at e
    · rename_i hc
      obtain ⟨g, off, e1, h1, h2, _⟩ := h.at_ a e
      refine ⟨g, off, e1, h1, h2, fun j u hu => ?_⟩
      have hd : L.drop k = [] := List.drop_eq_nil_of_le (by rw [← h.len]; omega)
      rw [hd] at hu
      simp [encWs] at hu
    · cases A with
      | none => cases e
      | some a0 =>
        obtain ⟨g, off, e1, h1, h2, h3⟩ := h.at_ a0 rfl
        subst e1
        simp only [Option.map_some, Option.some.injEq] at e
        have e2 : (⟨g, off, none⟩ : Addr).add (k * 2) = ⟨g, off + k * 2, none⟩ := Addr.add_mid _ _ _
        rw [e2] at e
        refine ⟨g, off + k * 2, e.symm, h1, h2, fun j u hu => ?_⟩
        rw [encWs_drop, List.getElem?_drop] at hu
        rw [Nat.add_assoc]
        exact h3 _ u hu
theorem rw_new (w : World) (p : Wy) (W : World) (hW : W.heap[w.heap.size]? = some (.cells (encW p).toArray 62 (0, 0))) : RW W (some ⟨w.heap.size, 0, none⟩) 1 1 [p] := by
  refine ⟨rfl, Nat.le_refl _, by omega, (fun e => by cases e), fun a e => ?_⟩
  cases e
  refine ⟨w.heap.size, 0, rfl, (Array.getElem?_eq_some_iff.1 hW).1, ⟨_, hW⟩, fun j u hu => ?_⟩
  rw [Nat.zero_add, cell_of_row W _ j _ _ (0, 0) hW]
  simpa [encWs] using hu
theorem infoW : (Try.prog.info? 62).map (fun i => (i.zero, i.size, i.bytes)) = some (some (.agg #[.int .u8 0, .int .i64 0]), 2, 16) := by kernel_rfl
/-- Such appended to a slice of the call's own, as one operation. -/
theorem appW {w0 w : World} {o : Oper} {a : Act} {K : Act → World → Prop} {Q : Exit → Act → World → Prop} (s x : Operand)
    (ho : o.op = .call { callee := .builtin .append, args := #[s, x], argTypes := #[27, 27] })
    (B : Nat) (v : Value) (L R : List Wy) (hs : a.eval s = v) (hown : OW w B v L) (hb : Below B w0 w) (hB : B ≤ w.heap.size) (A : Option Addr) (n c : Nat) (hx : a.eval x = .slice A n c) (hr : RW w A n c R) (hlen : L.length + R.length ≤ 1000000)
    (h : ∀ v' w', OW w' B v' (L ++ R) → Below B w0 w' → K (a.put o.dst v') w') : o.wp Try.prog a w K Q := by
  obtain ⟨i0, hi, hz0, hz1, hz2⟩ := info_parts infoW
  cases A with
  | none =>
    obtain ⟨h1, h2⟩ := hr.nil rfl
    have hR : R = [] := List.eq_nil_of_length_eq_zero (by rw [← hr.len]; exact h1)
    subst h1 h2 hR
    have hrun := run_append_owned_none (P := Try.prog) (w := w) B 27 o.type 62 i0 2 Try.underlying27 hi v L.length (encWs L) hown
    unfold Oper.wp
    simp [execOp, ho, resolve, invoke, builtin, hs, hx, hrun, Result.andThen]
    exact h v w (by rw [List.append_nil]; exact hown) hb
  | some ad =>
    obtain ⟨g, off, rfl, _, _, h3⟩ := hr.at_ ad rfl
    obtain ⟨v', w', hrun, h1, h2, _⟩ := run_append_own (P := Try.prog) w B 27 o.type 62 i0 (.agg #[.int .u8 0, .int .i64 0]) 2 16 Try.underlying27 hi hz0 hz1 hz2 rfl (by decide) v L.length (encWs L) hown ⟨g, off, none⟩ n c (encWs R) (by rw [encWs_len, hr.len]) (fun j u hu => by
      have e : (⟨g, off, none⟩ : Addr).add j = ⟨g, off + j, none⟩ := Addr.add_mid _ _ _
      rw [e]; exact h3 j u hu) (encW_one R) (by unfold maxLen; rw [hr.len]; omega) (by rw [hr.len]; omega) hB
    unfold Oper.wp execOp
    simp only [ho, resolve, invoke, builtin, Sem.run_bind, Sem.run_pure, Result.andThen_ok, List.map_toArray, List.map_cons, List.map_nil, hs, hx, hrun]
    refine h v' w' ?_ (hb.grown h2 hB fun k hk => (hown.lt k hk).1)
    unfold OW
    rw [List.length_append, encWs_app, ← hr.len]
    exact h1
theorem appWL {w0 w : World} {ops : Array Oper} {rest : List Oper} {o : Oper} {a : Act} {Q : Exit → Act → World → Prop} (hgd : o.guard = none) (s x : Operand)
    (ho : o.op = .call { callee := .builtin .append, args := #[s, x], argTypes := #[27, 27] })
    (B : Nat) (v : Value) (L R : List Wy) (hs : a.eval s = v) (hown : OW w B v L) (hb : Below B w0 w) (hB : B ≤ w.heap.size) (A : Option Addr) (n c : Nat) (hx : a.eval x = .slice A n c) (hr : RW w A n c R) (hlen : L.length + R.length ≤ 1000000)
    (h : ∀ v' w', OW w' B v' (L ++ R) → Below B w0 w' → wpList Try.prog ops Q rest (a.put o.dst v') w') : wpList Try.prog ops Q (o :: rest) a w :=
  wpList_plain hgd fun K hK => appW s x ho B v L R hs hown hb hB A n c hx hr hlen fun v' w' h1 h2 => hK _ _ (h v' w' h1 h2)
/-! ### A line by value -/
def lnV (d : Nat) (A : Option Addr) (n c : Nat) : Array Value := #[.int .i64 (d : Int), .slice A n c]
theorem ln_size (d : Nat) (A : Option Addr) (n c : Nat) : (Try.prog.info? 29).map (·.size) = some (lnV d A n c).size := by
  show _ = some 2
  kernel_rfl
theorem ln_one (d : Nat) (A : Option Addr) (n c : Nat) : (lnV d A n c).all (·.oneCell') = true := by simp [lnV, Value.oneCell']
/-- A box that holds a line. -/
def Bl (w : World) (g d : Nat) (A : Option Addr) (n c : Nat) : Prop := w.heap[g]? = some (.cells (lnV d A n c) 29 (0, 0))
theorem Bl.lt {w : World} {g d n c : Nat} {A : Option Addr} (h : Bl w g d A n c) : g < w.heap.size := (Array.getElem?_eq_some_iff.1 h).1
theorem Bl.cells {w : World} {g d n c : Nat} {A : Option Addr} (h : Bl w g d A n c) : w.cell? ⟨g, 0, none⟩ = some (.int .i64 (d : Int)) ∧ w.cell? ⟨g, 1, none⟩ = some (.slice A n c) := by
  constructor
  all_goals
    rw [cell_of_row _ g _ _ _ (0, 0) h]
    rfl
theorem Bl.alloc {w : World} {g d n c : Nat} {A : Option Addr} (h : Bl w g d A n c) (o : Obj) : (w.alloc o).cell? ⟨g, 0, none⟩ = some (.int .i64 (d : Int)) ∧ (w.alloc o).cell? ⟨g, 1, none⟩ = some (.slice A n c) :=
  Bl.cells (show Bl (w.alloc o) g d A n c from (Below.heap_alloc w o g h.lt).trans h)
/-- A store into a box turns no list. -/
theorem Bl.rw_set {w : World} {g d n c : Nat} {A : Option Addr} (h : Bl w g d A n c) {A' : Option Addr} {n' c' : Nat} {L : List Wy} (hr : RW w A' n' c' L) (cs : Array Value) : RW (w.setRow g cs) A' n' c' L :=
  hr.keep fun q hq => setRow_other _ _ q _ fun e => by
    obtain ⟨cs', hcs⟩ := hq
    subst e
    rw [h] at hcs
    injection hcs with hcs
    injection hcs with _ hT _
    cases hT
theorem Bl.at_ {w w' : World} {g d n c B : Nat} {A : Option Addr} (h : Bl w g d A n c) (hb : Below B w w') (hg : g < B) : Bl w' g d A n c := (hb.block g hg).trans h
theorem Bl.below {w w' : World} {g d n c : Nat} {A : Option Addr} (h : Bl w g d A n c) (hb : Below w.heap.size w w') : Bl w' g d A n c := (hb.block g h.lt).trans h
theorem alloc_ln (ρ : Operand → Value) (o : Oper) (ho : o.op = .alloc 29) (w : World) : (execOp ρ o).run Try.prog w = .ok (.value (.pointer (some ⟨w.heap.size, 0, none⟩))) (w.alloc (.cells (lnV 0 none 0 0) 29 (0, 0))) := by
  unfold execOp
  rw [ho]
  kernel_rfl
theorem exec_boxl (ρ : Operand → Value) (o : Oper) (d : Nat) (A : Option Addr) (n c : Nat) (x : Operand) (ho : o.op = .box 29 x) (h0 : ρ x = .agg (lnV d A n c)) (w : World) :
    (execOp ρ o).run Try.prog w = .ok (.value (.pointer (some ⟨w.heap.size, 0, none⟩))) (w.alloc (.cells (lnV d A n c) 29 (0, 0))) := by
  unfold execOp
  rw [ho]
  simp only [h0]
  kernel_rfl
/-- The two boxes of a function that takes a line and answers one. -/
theorem two_ln (w : World) (d : Nat) (A : Option Addr) (n c : Nat) (L : List Wy) (h : RW w A n c L) : ∃ w1, (w.alloc (.cells (lnV d A n c) 29)).alloc (.cells (lnV 0 none 0 0) 29) = w1 ∧ Bl w1 w.heap.size d A n c ∧ Bl w1 (w.heap.size + 1) 0 none 0 0 ∧ w1.heap.size = w.heap.size + 2 ∧ Below w.heap.size w w1 ∧ RW w1 A n c L := by
  have hb : Below w.heap.size w ((w.alloc (.cells (lnV d A n c) 29)).alloc (.cells (lnV 0 none 0 0) 29)) := Me.below_alloc (Me.below_alloc (Below.refl _ _))
  refine ⟨_, rfl, ?_, ?_, by simp, hb, h.below hb⟩
  · have h1 : (w.alloc (.cells (lnV d A n c) 29)).heap[w.heap.size]? = _ := heap_alloc_new w _
    exact (Below.heap_alloc _ _ _ (by simp)).trans h1
  · have h2 := heap_alloc_new (w.alloc (.cells (lnV d A n c) 29)) (.cells (lnV 0 none 0 0) 29)
    rw [World.size_alloc] at h2
    exact h2
end Go.Proofs.Ytcdpdijfgeeenaa.Li
