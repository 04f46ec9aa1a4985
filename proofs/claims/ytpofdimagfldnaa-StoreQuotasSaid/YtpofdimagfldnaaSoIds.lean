/- Lists of ids of the call's own. -/
import Derived.Test.YtpofdimagfldnaaZ3
import Derived.Test.YtpofdimagfldnaaZ4
import Derived.Maps.AppendAt
namespace Go.Proofs.Ytpofdimagfldnaa.So
open Go.RowKit Go.Deep
open Go.ChangeShapes Go.WideShapes Go.Joins
open Go.Proofs.Ytpofdimagfldnaa.Me Go.Proofs.Ytpofdimagfldnaa.Sb
set_option linter.unusedVariables false
set_option linter.unusedSimpArgs false

theorem add_mk (g off n : Nat) : (⟨g, off, none⟩ : Addr).add n = ⟨g, off + n, none⟩ := by unfold Addr.add; split <;> simp_all
def idAt (ls : List Mg.Id4) (j : Nat) : Mg.Id4 := ls.getD j ⟨0, 0, 0, 0⟩
/-- A slice's address leads to these ids. -/
def Ids (w : World) (a : Option Addr) (ls : List Mg.Id4) : Prop :=
  ∀ j, j < ls.length → ∃ b off, a = some ⟨b, off, none⟩ ∧ b < w.heap.size ∧ w.cell? ⟨b, off + j * 4, none⟩ = some (.int .i64 (idAt ls j).o) ∧ w.cell? ⟨b, off + j * 4 + 1, none⟩ = some (.int .i64 (idAt ls j).d) ∧ w.cell? ⟨b, off + j * 4 + 2, none⟩ = some (.int .i64 (idAt ls j).e) ∧ w.cell? ⟨b, off + j * 4 + 3, none⟩ = some (.int .i64 (idAt ls j).c)
def idc (i : Mg.Id4) : List Value := [.int .i64 i.o, .int .i64 i.d, .int .i64 i.e, .int .i64 i.c]
def idsV (l : List Mg.Id4) : List Value := l.flatMap idc
theorem idsV_len (l : List Mg.Id4) : (idsV l).length = l.length * 4 := by
  induction l with
  | nil => rfl
  | cons p r ih => unfold idsV at ih ⊢; rw [List.flatMap_cons, List.length_append, ih]; simp [idc]; omega
theorem idsV_app (a b : List Mg.Id4) : idsV (a ++ b) = idsV a ++ idsV b := by unfold idsV; rw [List.flatMap_append]
theorem idsV_get {l : List Mg.Id4} : ∀ {j : Nat}, j < l.length → ∀ {i : Nat}, i < 4 → (idsV l)[j * 4 + i]? = (idc (idAt l j))[i]? := by
  induction l with
  | nil => intro j h; simp at h
  | cons x r ih =>
    intro j h i hi
    have e : idsV (x :: r) = idc x ++ idsV r := by unfold idsV; rw [List.flatMap_cons]
    rw [e]
    cases j with
    | zero =>
      rw [List.getElem?_append_left (by simp [idc]; omega)]
      simp [idAt]
    | succ j =>
      rw [List.getElem?_append_right (by simp [idc]; omega)]
      have h2 := ih (j := j) (by simpa using h) hi
      rw [show (j + 1) * 4 + i - (idc x).length = j * 4 + i by simp [idc]; omega, h2]
      simp [idAt]
/-- A slice of ids of the call's own. -/
def Ki (w : World) (B : Nat) (v : Value) (l : List Mg.Id4) : Prop := w.ownsRow B 28 4 v l.length (idsV l)
theorem infoId : (Try.prog.info? 28).map (fun i => (i.zero, i.size, i.bytes)) = some (some (.agg #[.int .i64 0, .int .i64 0, .int .i64 0, .int .i64 0]), 4, 32) := by kernel_rfl
theorem Ki.form {w : World} {B : Nat} {v : Value} {l : List Mg.Id4} (h : Ki w B v l) : ∃ A c, v = .slice A l.length c ∧ l.length ≤ c ∧ c ≤ 9223372036854775807 ∧ Ids w A l := by
  have h0 := h
  rcases h.2 with ⟨h1, h2⟩ | ⟨g, cap, cur, h1, h2, h3, h4, h5, h6, h7⟩
  · have : l = [] := by simpa using h2
    subst this
    exact ⟨none, 0, h1, Nat.le_refl _, Nat.zero_le _, fun j hj => absurd hj (by simp)⟩
  · subst h1
    have hl := World.ownsRow.lt h0 g rfl
    refine ⟨_, cap, rfl, h4, by unfold maxLen at h5; omega, fun j hj => ⟨g, 0, rfl, hl.2, ?_⟩⟩
    have hx : ∀ i u, i < 4 → (idc (idAt l j))[i]? = some u → w.cell? ⟨g, 0 + j * 4 + i, none⟩ = some u := fun i u hi hu => by
      have := World.ownsRow.cells h0 (g := g) rfl (j * 4 + i) u (by rw [idsV_get hj hi]; exact hu)
      rw [add_mk] at this
      rwa [Nat.add_assoc]
    exact ⟨hx 0 _ (by omega) rfl, hx 1 _ (by omega) rfl, hx 2 _ (by omega) rfl, hx 3 _ (by omega) rfl⟩
theorem Ki.form2 {w : World} {B : Nat} {v : Value} {l : List Mg.Id4} (h : Ki w B v l) : ∃ A c, v = .slice A l.length c ∧ l.length ≤ c ∧ c ≤ 9223372036854775807 ∧ (A = none → c = 0) ∧ Ids w A l ∧ ∀ g off, A = some ⟨g, off, none⟩ → off = 0 ∧ B ≤ g := by
  obtain ⟨A, c, e, h1, h2, h3⟩ := h.form
  refine ⟨A, c, e, h1, h2, fun hA => ?_, h3, fun g off hA => ?_⟩
  · subst hA
    rcases h.2 with ⟨h4, _⟩ | ⟨g, cap, cur, h4, _⟩
    · rw [e] at h4; injection h4 with _ _ h5
    · rw [e] at h4; injection h4 with h5; cases h5
  · subst hA
    rcases h.2 with ⟨h4, _⟩ | ⟨g', cap, cur, h4, h5, _⟩
    · rw [e] at h4; injection h4 with h6; cases h6
    · rw [e] at h4; injection h4 with h6; cases h6; exact ⟨rfl, h5⟩
theorem Ki.lit {w : World} : Ki (w.alloc (.cells #[] 28)) w.heap.size (.slice (some ⟨w.heap.size, 0, none⟩) 0 0) [] := World.ownsRow_made w #[] 0 (Nat.le_refl _) (by unfold maxLen; omega) rfl
theorem Ki.lt {w : World} {B k : Nat} {v : Value} {l : List Mg.Id4} (h : Ki w B v l) (hk : v.ownBlock = some k) : B ≤ k ∧ k < w.heap.size := World.ownsRow.lt h k hk
theorem Ids.below {w w' : World} {A : Option Addr} {l : List Mg.Id4} (h : Ids w A l) (hb : Below w.heap.size w w') : Ids w' A l := fun j hj => by
  obtain ⟨b, off, e1, e2, c0, c1, c2, c3⟩ := h j hj
  exact ⟨b, off, e1, Nat.lt_of_lt_of_le e2 hb.size, (hb.cell e2).trans c0, (hb.cell e2).trans c1, (hb.cell e2).trans c2, (hb.cell e2).trans c3⟩
theorem Ids.take {w : World} {A : Option Addr} {l : List Mg.Id4} (h : Ids w A l) (n : Nat) : Ids w A (l.take n) := fun j hj => by
  have hj' : j < l.length := by rw [List.length_take] at hj; omega
  have e : idAt (l.take n) j = idAt l j := by
    unfold idAt
    rw [List.length_take] at hj
    rw [List.getD_eq_getElem?_getD, List.getD_eq_getElem?_getD, List.getElem?_take, if_pos (by omega)]
  rw [e]
  exact h j hj'
/-- Ids appended to a list of one's own. -/
theorem appIds {w : World} {ops : Array Oper} {rest : List Oper} {o : Oper} {a : Act} {Q : Exit → Act → World → Prop} (hgd : o.guard = none) (s x : Operand)
    (ho : o.op = .call { callee := .builtin .append, args := #[s, x], argTypes := #[56, 56] })
    (B : Nat) (v : Value) (l r : List Mg.Id4) (hs : a.eval s = v) (hown : Ki w B v l) (hB : B ≤ w.heap.size)
    (A : Option Addr) (n c : Nat) (hn : n = r.length) (hx : a.eval x = .slice A n c) (hr : Ids w A r) (hA : A = none → c = 0) (hlen : l.length + r.length ≤ 1000)
    (h : ∀ v' w', Ki w' B v' (l ++ r) → w.grownBy w' v.ownBlock → (∀ k, v.ownBlock = some k → B ≤ k) → wpList Try.prog ops Q rest (a.put o.dst v') w') : wpList Try.prog ops Q (o :: rest) a w := by
  obtain ⟨i0, hi, hz0, hz1, hz2⟩ := info_parts infoId
  subst hn
  have hlt : ∀ k, v.ownBlock = some k → B ≤ k := fun k hk => (hown.lt hk).1
  rcases A with _ | ad
  · have hr0 : r = [] := by
      cases r with
      | nil => rfl
      | cons x t => obtain ⟨b, off, e, _⟩ := hr 0 (by simp); cases e
    subst hr0
    obtain rfl := hA rfl
    refine wpList_append_own_none hgd s x 56 ho B 28 i0 4 Try.underlying56 hi v l.length (idsV l) hs hown hx ?_
    exact h v w (by rw [List.append_nil]; exact hown) ⟨rfl, rfl, rfl, Nat.le_refl _, fun _ _ _ => rfl⟩ hlt
  · have hnews : ∀ j u, (idsV r)[j]? = some u → w.cell? (ad.add j) = some u := by
      intro j u hj
      have hj1 := (List.getElem?_eq_some_iff.1 hj).1
      rw [idsV_len] at hj1
      have hj4 : j / 4 < r.length := by omega
      obtain ⟨b, off, e, _, c0, c1, c2, c3⟩ := hr (j / 4) hj4
      cases e
      rw [add_mk]
      have hg := idsV_get hj4 (i := j % 4) (by omega)
      rw [show j / 4 * 4 + j % 4 = j by omega, hj] at hg
      have hm : j % 4 = 0 ∨ j % 4 = 1 ∨ j % 4 = 2 ∨ j % 4 = 3 := by omega
      rcases hm with hm | hm | hm | hm
      · rw [hm] at hg; rw [show off + j = off + j / 4 * 4 by omega, c0, hg]; rfl
      · rw [hm] at hg; rw [show off + j = off + j / 4 * 4 + 1 by omega, c1, hg]; rfl
      · rw [hm] at hg; rw [show off + j = off + j / 4 * 4 + 2 by omega, c2, hg]; rfl
      · rw [hm] at hg; rw [show off + j = off + j / 4 * 4 + 3 by omega, c3, hg]; rfl
    have hone : ∀ u ∈ idsV r, u.oneCell' = true := by
      intro u hu
      obtain ⟨p, _, hp⟩ := List.mem_flatMap.1 hu
      simp only [idc, List.mem_cons, List.not_mem_nil, or_false] at hp
      rcases hp with rfl | rfl | rfl | rfl <;> rfl
    refine wpList_append_own w hgd s x 56 ho B 28 i0 (.agg #[.int .i64 0, .int .i64 0, .int .i64 0, .int .i64 0]) 4 32 Try.underlying56 hi hz0 hz1 hz2 rfl (by decide) v l.length (idsV l) hs hown ad r.length c (idsV r) hx (idsV_len r) hnews hone (by unfold maxLen; omega) (by omega) hB ?_
    intro v' w' h1 h2 _
    refine h v' w' ?_ h2 hlt
    unfold Ki
    rw [List.length_append, idsV_app]; exact h1
end Go.Proofs.Ytpofdimagfldnaa.So
