/- slices.IndexFunc, slices.DeleteFunc with release's closure. -/
import Derived.Test.YtpofdimagfldnaaSoDel
import Derived.Shelf.Abstract
namespace Go.Proofs.Ytpofdimagfldnaa.So
open Go.RowKit
open Go.Proofs.Ytpofdimagfldnaa.Me Go.Proofs.Ytpofdimagfldnaa.Sb
set_option linter.unusedVariables false
set_option linter.unusedSimpArgs false

set_option maxHeartbeats 4000000 in
theorem same_yes (X : Nat) (i : Mg.Id4) (w : World) (hX : Hid (w.heap[X]? = some (.cells (Mg.idC i) 28 (0, 0)))) : Calls Try.prog 73 #[.agg (Mg.idC i), .pointer (some ⟨X, 0, none⟩)] w fun e w' => e = .returned (.bool true) ∧ Hid (Below w.heap.size w w') := by
  have HB : Hid (Below w.heap.size w (w.alloc (.cells (Mg.idC i) 28))) := Me.below_alloc (Below.refl _ _)
  have hx := (HB.out.block X (Array.getElem?_eq_some_iff.1 hX.out).1).trans hX.out
  obtain ⟨o, d, ee, c⟩ := i
  simp only [Mg.idC] at HB hx ⊢
  obtain ⟨x0, x1, x2, x3⟩ := id_cells hx
  clear hx hX
  go_enter Try.func73, Try.ntmps73
  go_wp2
  go_ret
  exact ⟨rfl, HB.out⟩
set_option maxHeartbeats 4000000 in
theorem same_no (X : Nat) (i x : Mg.Id4) (w : World) (hne : x ≠ i) (hX : Hid (w.heap[X]? = some (.cells (Mg.idC i) 28 (0, 0)))) : Calls Try.prog 73 #[.agg (Mg.idC x), .pointer (some ⟨X, 0, none⟩)] w fun e w' => e = .returned (.bool false) ∧ Hid (Below w.heap.size w w') := by
  have HB : Hid (Below w.heap.size w (w.alloc (.cells (Mg.idC x) 28))) := Me.below_alloc (Below.refl _ _)
  have hx := (HB.out.block X (Array.getElem?_eq_some_iff.1 hX.out).1).trans hX.out
  obtain ⟨o, d, ee, c⟩ := i
  obtain ⟨o', d', ee', c'⟩ := x
  have hc : ¬ o' = o ∨ (o' = o ∧ ¬ d' = d) ∨ (o' = o ∧ d' = d ∧ ¬ ee' = ee) ∨ (o' = o ∧ d' = d ∧ ee' = ee ∧ ¬ c' = c) := by
    by_cases a0 : o' = o
    · by_cases a1 : d' = d
      · by_cases a2 : ee' = ee
        · exact .inr (.inr (.inr ⟨a0, a1, a2, fun h => hne (by rw [a0, a1, a2, h])⟩))
        · exact .inr (.inr (.inl ⟨a0, a1, a2⟩))
      · exact .inr (.inl ⟨a0, a1⟩)
    · exact .inl a0
  clear hne
  simp only [Mg.idC] at HB hx ⊢
  obtain ⟨x0, x1, x2, x3⟩ := id_cells hx
  clear hx hX
  rcases hc with h | ⟨rfl, h⟩ | ⟨rfl, rfl, h⟩ | ⟨rfl, rfl, rfl, h⟩
  all_goals
    go_enter Try.func73, Try.ntmps73
    go_wp2
    go_ret
    exact ⟨rfl, HB.out⟩
theorem Ki.cells {w : World} {g n c : Nat} {l : List Mg.Id4} (h : Ki w 0 (.slice (some ⟨g, 0, none⟩) n c) l) {k : Nat} (hk : k < l.length) : w.cell? ⟨g, k * 4, none⟩ = some (.int .i64 (idAt l k).o) ∧ w.cell? ⟨g, k * 4 + 1, none⟩ = some (.int .i64 (idAt l k).d) ∧ w.cell? ⟨g, k * 4 + 2, none⟩ = some (.int .i64 (idAt l k).e) ∧ w.cell? ⟨g, k * 4 + 3, none⟩ = some (.int .i64 (idAt l k).c) := by
  obtain ⟨A, c', e, _, _, hi⟩ := h.form
  injection e with e1 _ _
  obtain ⟨b, off, e2, _, c0, c1, c2, c3⟩ := hi k hk
  rw [← e1] at e2
  injection e2 with e2
  injection e2 with e3 e4 _
  subst e3 e4
  simp only [Nat.zero_add] at c0 c1 c2 c3
  exact ⟨c0, c1, c2, c3⟩
set_option maxRecDepth 100000 in
set_option maxHeartbeats 8000000 in
theorem IndexFunc_any (g c X : Nat) (a : List Mg.Id4) (i : Mg.Id4) (b : List Mg.Id4) (w : World) (N M : Nat) (hN : (a ++ i :: b).length = N) (hM : a.length = M) (hNb : N ≤ 1000) (ha : i ∉ a) (hK : Hid (Ki w 0 (.slice (some ⟨g, 0, none⟩) N c) (a ++ i :: b))) (hX : Hid (w.heap[X]? = some (.cells (Mg.idC i) 28 (0, 0)))) :
    Calls Try.prog 97 #[.slice (some ⟨g, 0, none⟩) N c, .func (.func 73) #[] #[.pointer (some ⟨X, 0, none⟩)]] w fun e w' => e = .returned (.int .i64 (M : Int)) ∧ Hid (Below w.heap.size w w') := by
  have eg : ∀ args w, (callFunc 73 args).run Try.prog w = .ok (.enter 73 args) w := enters_of Try.func73 (by kernel_rfl) rfl
  have hMN : M < N := by rw [← hN, ← hM]; simp
  have HI : Hid (∀ W, Below w.heap.size w W → ∀ k, k < N → W.cell? ⟨g, k * 4, none⟩ = some (.int .i64 (idAt (a ++ i :: b) k).o) ∧ W.cell? ⟨g, k * 4 + 1, none⟩ = some (.int .i64 (idAt (a ++ i :: b) k).d) ∧ W.cell? ⟨g, k * 4 + 2, none⟩ = some (.int .i64 (idAt (a ++ i :: b) k).e) ∧ W.cell? ⟨g, k * 4 + 3, none⟩ = some (.int .i64 (idAt (a ++ i :: b) k).c)) := fun W hW k hk => (ki_at hK.out fun x e => hW.block x (Ki.lt hK.out e).2).cells (by omega)
  have HX : Hid (∀ W, Below w.heap.size w W → Hid (W.heap[X]? = some (.cells (Mg.idC i) 28 (0, 0)))) := fun W hW => (hW.block X (Array.getElem?_eq_some_iff.1 hX.out).1).trans hX.out
  have hat : idAt (a ++ i :: b) M = i := by unfold idAt; rw [List.getD_eq_getElem?_getD, List.getElem?_append_right (by omega)]; simp [hM]
  have hne : ∀ k, k < M → idAt (a ++ i :: b) k ≠ i := fun k hk e => ha (by
    unfold idAt at e
    rw [List.getD_eq_getElem?_getD, List.getElem?_append_left (by omega), List.getElem?_eq_getElem (by omega)] at e
    simp at e
    rw [← e]
    exact List.getElem_mem _)
  have HAt := Lib.hid hat
  have HNe := Lib.hid hne
  obtain ⟨l, hl⟩ : ∃ l, a ++ i :: b = l := ⟨_, rfl⟩
  rw [hl] at HI HAt HNe
  clear hat hne hl hN hM ha hK hX
  go_enter Try.func97, Try.ntmps97
  go_wp2
  go_loopw [8] (fun v8 wr => ∃ k : Nat, k ≤ M ∧ v8 = .int .i64 (k : Int) ∧ Hid (Below w.heap.size w wr)) (fun v8 _ => N - (intOf v8).toNat)
  case atStart => exact ⟨0, Nat.zero_le _, rfl, Below.refl _ _⟩
  case round =>
    obtain ⟨k, hk, rfl, HB⟩ := hrel
    obtain ⟨e0, e1, e2, e3⟩ := HI.out wr HB.out k (by omega)
    have g1 : (k : Int) < (N : Int) := by omega
    have g2 : ¬ (N : Int) ≤ (k : Int) := by omega
    by_cases hlt : k < M
    · have hn := HNe.out k hlt
      obtain ⟨x, hx⟩ : ∃ x, idAt l k = x := ⟨_, rfl⟩
      rw [hx] at e0 e1 e2 e3 hn
      have HF := Lib.hid (same_no X i x wr hn (HX.out wr HB.out))
      obtain ⟨o', d', ee', c'⟩ := x
      simp only [Mg.idC] at e0 e1 e2 e3 HF
      clear hx hn
      go_wp2_with (go_at_call 73; refine HF.out.mono ?_; rintro e w2 ⟨rfl, hb2⟩)
      go_roundw
      case rel => exact ⟨k + 1, by omega, by go_num, HB.out.trans (hb2.out.mono HB.out.size)⟩
      case measure => simp [intOf]; omega
    · obtain rfl : k = M := by omega
      have HF := Lib.hid (same_yes X i wr (HX.out wr HB.out))
      rw [HAt.out] at e0 e1 e2 e3
      obtain ⟨o', d', ee', c'⟩ := i
      simp only [Mg.idC] at e0 e1 e2 e3 HF
      go_wp2_with (go_at_call 73; refine HF.out.mono ?_; rintro e w2 ⟨rfl, hb2⟩)
      go_ret
      exact ⟨rfl, HB.out.trans (hb2.out.mono HB.out.size)⟩
end Go.Proofs.Ytpofdimagfldnaa.So
