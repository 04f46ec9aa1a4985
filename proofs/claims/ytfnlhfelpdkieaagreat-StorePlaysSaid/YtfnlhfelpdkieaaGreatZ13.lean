/- The store's small questions: is a number a node, does an id fit, is an event right. -/
import Derived.Test.YtfnlhfelpdkieaaGreatZ3
import Derived.Test.YtfnlhfelpdkieaaGreatZ4
import Derived.Test.YtfnlhfelpdkieaaGreatZ2
import Derived.Test.YtfnlhfelpdkieaaGreatZ12
import Derived.Test.YtfnlhfelpdkieaaGreatZ11
namespace Go.Proofs.YtfnlhfelpdkieaaGreat.So
open Go.RowKit
open Go.Proofs.YtfnlhfelpdkieaaGreat.Me Go.Proofs.YtfnlhfelpdkieaaGreat.Sb
set_option linter.unusedVariables false
set_option linter.unusedSimpArgs false

/-- An event as a value. -/
def evC (k : Int) (i : Mg.Id4) (A : Option Addr) (n c : Nat) : Array Value := #[.int .i64 k, .int .i64 i.o, .int .i64 i.d, .int .i64 i.e, .int .i64 i.c, .slice A n c]
theorem ev_cells {W : World} {D : Nat} {k o d e c : Int} {A : Option Addr} {n q : Nat} (h : W.heap[D]? = some (.cells #[.int .i64 k, .int .i64 o, .int .i64 d, .int .i64 e, .int .i64 c, .slice A n q] 48 (0, 0))) :
    W.cell? ⟨D, 0, none⟩ = some (.int .i64 k) ∧ W.cell? ⟨D, 1, none⟩ = some (.int .i64 o) ∧ W.cell? ⟨D, 2, none⟩ = some (.int .i64 d) ∧ W.cell? ⟨D, 3, none⟩ = some (.int .i64 e) ∧ W.cell? ⟨D, 4, none⟩ = some (.int .i64 c) ∧ W.cell? ⟨D, 5, none⟩ = some (.slice A n q) := by
  refine ⟨?_, ?_, ?_, ?_, ?_, ?_⟩
  all_goals
    rw [cell_of_row _ D _ _ _ (0, 0) h]
    rfl
theorem isNode_any (n : Int) (w : World) : Calls Tryz.prog 23 #[.int .i64 n] w fun e w' => e = .returned (.bool (Mg.nodeB n)) ∧ w = w' := by
  by_cases a : 0 ≤ n
  · by_cases b : n < 64
    · have HE : Hid (Mg.nodeB n = true) := decide_eq_true ⟨a, b⟩
      rw [HE.out]
      go_enter Tryz.func23, Tryz.ntmps23
      go_wp2
      go_ret
      exact ⟨rfl, rfl⟩
    · have HE : Hid (Mg.nodeB n = false) := decide_eq_false fun h => b h.2
      rw [HE.out]
      go_enter Tryz.func23, Tryz.ntmps23
      go_wp2
      go_ret
      exact ⟨rfl, rfl⟩
  · have HE : Hid (Mg.nodeB n = false) := decide_eq_false fun h => a h.1
    rw [HE.out]
    go_enter Tryz.func23, Tryz.ntmps23
    go_wp2
    go_ret
    exact ⟨rfl, rfl⟩
set_option maxHeartbeats 4000000 in
theorem fits_any (i : Mg.Id4) (self epoch : Int) (w : World) : Calls Tryz.prog 79 #[.agg (Mg.idC i), .int .i64 self, .int .i64 epoch] w fun e w' => e = .returned (.bool (fitsB i self epoch)) ∧ Hid (Below w.heap.size w w') := by
  have HB : Hid (Below w.heap.size w (w.alloc (.cells (Mg.idC i) 43))) := Me.below_alloc (Below.refl _ _)
  obtain ⟨r, hr⟩ : ∃ r, fitsB i self epoch = r := ⟨_, rfl⟩
  rw [hr]
  unfold fitsB at hr
  obtain ⟨o, d, ee, c⟩ := i
  simp only [Mg.idC] at HB hr ⊢
  by_cases h1 : d = self
  · have e1 : (d != self) = false := by simp [h1]
    obtain rfl : r = false := by rw [← hr]; simp [h1]
    clear hr h1
    go_enter Tryz.func79, Tryz.ntmps79
    go_wp2
    go_ret
    exact ⟨rfl, HB.out⟩
  · have e1 : (d != self) = true := by simp [h1]
    by_cases h2 : o = self
    · have e2 : (o != self) = false := by simp [h2]
      by_cases h3 : ee ≤ epoch
      · obtain rfl : r = true := by rw [← hr]; simp [h1, h3]
        clear hr h1 h2
        go_enter Tryz.func79, Tryz.ntmps79
        go_wp2
        go_ret
        exact ⟨rfl, HB.out⟩
      · obtain rfl : r = false := by rw [← hr]; simp [h2, h3]
        clear hr h1 h2
        go_enter Tryz.func79, Tryz.ntmps79
        go_wp2
        go_ret
        exact ⟨rfl, HB.out⟩
    · have e2 : (o != self) = true := by simp [h2]
      obtain rfl : r = true := by rw [← hr]; simp [h1, h2]
      clear hr h1 h2
      go_enter Tryz.func79, Tryz.ntmps79
      go_wp2
      go_ret
      exact ⟨rfl, HB.out⟩
set_option maxRecDepth 100000 in
set_option maxHeartbeats 8000000 in
theorem check_any (k : Int) (i : Mg.Id4) (A : Option Addr) (n q : Nat) (w : World) : Calls Tryz.prog 46 #[.agg (evC k i A n q)] w fun e w' => e = .returned (.int .i64 (chkE k i n : Int)) ∧ Hid (Below w.heap.size w w') := by
  have HB : Hid (Below w.heap.size w (w.alloc (.cells (evC k i A n q) 48))) := Me.below_alloc (Below.refl _ _)
  have HR : Hid (∀ W, Below (w.alloc (.cells (evC k i A n q) 48)).heap.size (w.alloc (.cells (evC k i A n q) 48)) W → W.heap[w.heap.size]? = some (.cells (evC k i A n q) 48 (0, 0))) := fun W hW => (hW.block _ (by simp)).trans (heap_alloc_new w _)
  have HK := Lib.hid (fun W => Mg.Check_any i W)
  have HM := Lib.hid (fun W => Mg.CheckMsg_any i A n q W)
  obtain ⟨c, hc⟩ : ∃ c, Mg.chkN i = c := ⟨_, rfl⟩
  obtain ⟨z, hz⟩ : ∃ z, Mg.msgN i n = z := ⟨_, rfl⟩
  unfold chkE
  rw [hc, hz]
  rw [hc] at HK
  rw [hz] at HM
  by_cases k1 : k = 1
  · subst k1
    rw [if_pos rfl]
    clear HK HM hc hz
    by_cases hi : i = zeroI
    · subst hi
      by_cases hn : n = 0
      · subst hn
        rw [if_pos ⟨rfl, rfl⟩]
        simp only [evC, zeroI] at HB HR ⊢
        go_enter Tryz.func46, Tryz.ntmps46
        go_wp2
        go_ret
        exact ⟨rfl, HB.out⟩
      · rw [if_neg (fun h => hn h.2)]
        have e1 : decide ((0 : Int) < (n : Int)) = true := by simp; omega
        have e2 : (0 : Int) < (n : Int) := by omega
        simp only [evC, zeroI] at HB HR ⊢
        go_enter Tryz.func46, Tryz.ntmps46
        go_wp2
        go_ret
        exact ⟨rfl, HB.out⟩
    · rw [if_neg (fun h => hi h.1)]
      obtain ⟨o, d, ee, cc⟩ := i
      have hne : ¬ o = 0 ∨ (o = 0 ∧ ¬ d = 0) ∨ (o = 0 ∧ d = 0 ∧ ¬ ee = 0) ∨ (o = 0 ∧ d = 0 ∧ ee = 0 ∧ ¬ cc = 0) := by
        by_cases a0 : o = 0
        · by_cases a1 : d = 0
          · by_cases a2 : ee = 0
            · exact .inr (.inr (.inr ⟨a0, a1, a2, fun h => hi (by rw [a0, a1, a2, h]; rfl)⟩))
            · exact .inr (.inr (.inl ⟨a0, a1, a2⟩))
          · exact .inr (.inl ⟨a0, a1⟩)
        · exact .inl a0
      clear hi
      simp only [evC] at HB HR ⊢
      rcases hne with h | ⟨rfl, h⟩ | ⟨rfl, rfl, h⟩ | ⟨rfl, rfl, rfl, h⟩
      all_goals
        go_enter Tryz.func46, Tryz.ntmps46
        go_wp2
        go_ret
        exact ⟨rfl, HB.out⟩
  · rw [if_neg k1]
    have g1 : (k == 1) = false := by simpa using k1
    by_cases k2 : k = 2
    · subst k2
      rw [if_pos rfl]
      obtain ⟨o, d, ee, cc⟩ := i
      simp only [evC, Mg.msgC] at HB HR HM ⊢
      go_enter Tryz.func46, Tryz.ntmps46
      go_wp2_with (go_at_call 77; refine (HM.out _).mono ?_; rintro e w2 ⟨rfl, b2⟩)
      go_ret
      exact ⟨rfl, go_on HB.out b2.out⟩
    · rw [if_neg k2]
      have g2 : (k == 2) = false := by simpa using k2
      by_cases k3 : k = 3 ∨ k = 4
      · rw [if_pos k3]
        obtain ⟨o, d, ee, cc⟩ := i
        have g3 : (k == 3) = true ∨ ((k == 3) = false ∧ (k == 4) = true) := by
          rcases k3 with rfl | rfl
          · exact .inl (by decide)
          · exact .inr ⟨by decide, by decide⟩
        have HG := Lib.hid g3
        simp only [evC, Mg.idC] at HB HR HK ⊢
        by_cases h0 : c = 0
        · subst h0
          rw [if_neg (by simp)]
          simp only [show ((0 : Nat) : Int) = 0 from rfl] at HK
          by_cases hn : n = 0
          · subst hn
            rw [if_pos rfl]
            clear k3 g3 hc hz HM k1 k2
            rcases HG.out with g3 | ⟨g3, g4⟩
            all_goals
              go_enter Tryz.func46, Tryz.ntmps46
              go_wp2_with (go_at_call 78; refine (HK.out _).mono ?_; rintro e w2 ⟨rfl, b2⟩; obtain ⟨x0, x1, x2, x3, x4, x5⟩ := ev_cells (HR.out w2 b2.out))
              go_ret
              exact ⟨rfl, go_on HB.out b2.out⟩
          · rw [if_neg hn]
            have hn2 : ((n : Int) == 0) = false := Mg.nz hn
            clear k3 g3 hc hz HM k1 k2 hn
            rcases HG.out with g3 | ⟨g3, g4⟩
            all_goals
              go_enter Tryz.func46, Tryz.ntmps46
              go_wp2_with (go_at_call 78; refine (HK.out _).mono ?_; rintro e w2 ⟨rfl, b2⟩; obtain ⟨x0, x1, x2, x3, x4, x5⟩ := ev_cells (HR.out w2 b2.out))
              go_ret
              exact ⟨rfl, go_on HB.out b2.out⟩
        · rw [if_pos h0]
          have hc2 : ((c : Int) == 0) = false := Mg.nz h0
          clear k3 g3 hc hz HM k1 k2 h0
          rcases HG.out with g3 | ⟨g3, g4⟩
          all_goals
            go_enter Tryz.func46, Tryz.ntmps46
            go_wp2_with (go_at_call 78; refine (HK.out _).mono ?_; rintro e w2 ⟨rfl, b2⟩; obtain ⟨x0, x1, x2, x3, x4, x5⟩ := ev_cells (HR.out w2 b2.out))
            go_ret
            exact ⟨rfl, go_on HB.out b2.out⟩
      · rw [if_neg k3]
        have g3 : (k == 3) = false := by simp; omega
        have g4 : (k == 4) = false := by simp; omega
        obtain ⟨o, d, ee, cc⟩ := i
        clear k3 k1 k2 hc hz HM HK
        simp only [evC] at HB HR ⊢
        go_enter Tryz.func46, Tryz.ntmps46
        go_wp2
        go_ret
        exact ⟨rfl, HB.out⟩
end Go.Proofs.YtfnlhfelpdkieaaGreat.So
/- What an event would be told: the store's May. -/
namespace Go.Proofs.YtfnlhfelpdkieaaGreat.So
open Go.RowKit
open Go.Proofs.YtfnlhfelpdkieaaGreat.Me Go.Proofs.YtfnlhfelpdkieaaGreat.Sb
set_option linter.unusedVariables false
set_option linter.unusedSimpArgs false

section
variable (E : Nat → Prop) (D hb sd sb m : Nat) (v : Value) (s : Sto) (w : World)
theorem holds_nil (i : Mg.Id4) : Calls Tryz.prog 61 #[.pointer none, .agg (Mg.idC i)] w fun e w' => e = .returned (.bool false) ∧ Hid (Below w.heap.size w w') := by
  have HB : Hid (Below w.heap.size w (w.alloc (.cells (Mg.idC i) 43))) := Me.below_alloc (Below.refl _ _)
  obtain ⟨o, d, ee, c⟩ := i
  simp only [Mg.idC] at HB ⊢
  go_enter Tryz.func61, Tryz.ntmps61
  go_wp2
  go_ret
  exact ⟨rfl, HB.out⟩
set_option maxRecDepth 100000 in
set_option maxHeartbeats 4000000 in
theorem holds_any (i : Mg.Id4) (hf : Fit i) (hS : Hid (Sq E w D hb sd sb m v s)) : Calls Tryz.prog 61 #[.pointer (some ⟨D, 0, none⟩), .agg (Mg.idC i)] w fun e w' => e = .returned (.bool (hasH s.held i)) ∧ Hid (Below w.heap.size w w') := by
  obtain ⟨V, hV⟩ : ∃ V, w.alloc (.cells (Mg.idC i) 43) = V := ⟨_, rfl⟩
  have hB : Below w.heap.size w V := by rw [← hV]; exact Me.below_alloc (Below.refl _ _)
  have hR : V.heap[w.heap.size]? = some (.cells (Mg.idC i) 43 (0, 0)) := by rw [← hV]; exact heap_alloc_new w _
  have hbox := hS.out.box.below hB
  have hmb := hB.block _ hS.out.map.lt
  have HL : Hid (∃ x : Value, (Instr.lookup 74 (.map (some hb)) (.agg (Mg.idC i)) true).run Tryz.prog V = .ok (.tuple #[x, .bool (hasH s.held i)]) V) := by
    unfold hasH
    cases hk : findH s.held i with
    | none => exact ⟨_, hS.out.map.no hf hk V hmb⟩
    | some p => obtain ⟨x, _, h1, _⟩ := hS.out.map.yes hf hk; exact ⟨_, h1 V hmb⟩
  obtain ⟨x, hx⟩ := HL.out
  have HX : Hid (∀ W, Below V.heap.size V W → (Instr.lookup 74 (.map (some hb)) (.agg (Mg.idC i)) true).run Tryz.prog W = .ok (.tuple #[x, .bool (hasH s.held i)]) W) := fun W hW => by
    have hWb := (hW.block hb (Nat.lt_of_lt_of_le hS.out.map.lt hB.size)).trans hmb
    unfold hasH at hx ⊢
    cases hk : findH s.held i with
    | none =>
      rw [hk] at hx
      have e1 := hS.out.map.no hf hk V hmb
      rw [e1] at hx
      injection hx with hx
      injection hx with hx
      have hx := congrArg Array.toList hx
      simp at hx
      rw [← hx]
      exact hS.out.map.no hf hk _ hWb
    | some p =>
      rw [hk] at hx
      obtain ⟨y, _, h1, _⟩ := hS.out.map.yes hf hk
      have e1 := h1 V hmb
      rw [e1] at hx
      injection hx with hx
      injection hx with hx
      have hx := congrArg Array.toList hx
      simp at hx
      rw [← hx]
      exact h1 _ hWb
  have HC : Hid (∀ W, Below V.heap.size V W → W.cell? ⟨D, 69, none⟩ = some (.map (some hb))) := fun W hW => (hbox.below hW).map
  have HI : Hid (∀ W, Below V.heap.size V W → W.heap[w.heap.size]? = some (.cells (Mg.idC i) 43 (0, 0))) := fun W hW => (hW.block _ (Array.getElem?_eq_some_iff.1 hR).1).trans hR
  have HV := Lib.hid hV
  have HB := Lib.hid hB
  obtain ⟨r, hr⟩ : ∃ r, hasH s.held i = r := ⟨_, rfl⟩
  rw [hr] at HX ⊢
  obtain ⟨o, d, ee, c⟩ := i
  simp only [Mg.idC] at HV HX HI ⊢
  clear hV hB hx hR HL hr hbox hmb hS
  go_enter Tryz.func61, Tryz.ntmps61
  go_wp2
  rw [HV.out]
  have S0 := (Below.refl V.heap.size V).drew
  refine wp_region_held_drew (S := fun W => Below V.heap.size V W) (by kernel_rfl) S0 (fun hHeld => ?_)
  refine wpAnyH_take (i := 0) (v := .pointer (some ⟨D, 0, none⟩)) rfl (by kernel_rfl) (by kernel_rfl) (by kernel_rfl) (fun _ _ _ h => h) (Or.inl ⟨by rfl, ?_⟩) (by first | assumption | exact trivial) ?_
  · intro W hSW; go_simp; try (with_reducible rfl)
  simp only [Act.put, List.getElem_toArray, List.getElem_cons_succ, List.getElem_cons_zero, List.setIfInBounds_toArray, List.set_cons_zero, List.set_cons_succ]
  refine wpAnyH_take (i := 1) (v := .pointer (some ⟨D, 0, none⟩)) rfl (by kernel_rfl) (by kernel_rfl) (by kernel_rfl) (fun _ _ _ h => h) (Or.inl ⟨by rfl, ?_⟩) (by first | assumption | exact trivial) ?_
  · intro W hSW; go_simp; try (with_reducible rfl)
  simp only [Act.put, List.getElem_toArray, List.getElem_cons_succ, List.getElem_cons_zero, List.setIfInBounds_toArray, List.set_cons_zero, List.set_cons_succ]
  refine wpAnyH_take (i := 2) (v := .pointer (some ⟨D, 69, none⟩)) rfl (by kernel_rfl) (by kernel_rfl) (by kernel_rfl) (fun _ _ _ h => h) (Or.inl ⟨by rfl, ?_⟩) (by first | assumption | exact trivial) ?_
  · intro W hSW; go_simp; try (with_reducible rfl)
  simp only [Act.put, List.getElem_toArray, List.getElem_cons_succ, List.getElem_cons_zero, List.setIfInBounds_toArray, List.set_cons_zero, List.set_cons_succ]
  refine wpAnyH_take (i := 3) (v := .map (some hb)) rfl (by kernel_rfl) (by kernel_rfl) (by kernel_rfl) (fun _ _ _ h => h) (Or.inl ⟨by rfl, ?_⟩) (by first | assumption | exact trivial) ?_
  · intro W hSW; have y0 := HC.out W hSW; go_simp; try (with_reducible rfl)
  simp only [Act.put, List.getElem_toArray, List.getElem_cons_succ, List.getElem_cons_zero, List.setIfInBounds_toArray, List.set_cons_zero, List.set_cons_succ]
  refine wpAnyH_take (i := 4) (v := .agg #[.int .i64 o, .int .i64 d, .int .i64 ee, .int .i64 c]) rfl (by kernel_rfl) (by kernel_rfl) (by kernel_rfl) (fun _ _ _ h => h) (Or.inl ⟨by rfl, ?_⟩) (by first | assumption | exact trivial) ?_
  · intro W hSW; obtain ⟨y0, y1, y2, y3⟩ := id_cells (HI.out W hSW); go_simp; try (with_reducible rfl)
  simp only [Act.put, List.getElem_toArray, List.getElem_cons_succ, List.getElem_cons_zero, List.setIfInBounds_toArray, List.set_cons_zero, List.set_cons_succ]
  refine wpAnyH_take (i := 5) (v := .tuple #[x, .bool r]) rfl (by kernel_rfl) (by kernel_rfl) (by kernel_rfl) (fun _ _ _ h => h) (Or.inl ⟨by rfl, ?_⟩) (by first | assumption | exact trivial) ?_
  · intro W hSW; have y0 := HX.out W hSW; go_simp; try (with_reducible rfl)
  simp only [Act.put, List.getElem_toArray, List.getElem_cons_succ, List.getElem_cons_zero, List.setIfInBounds_toArray, List.set_cons_zero, List.set_cons_succ]
  refine wpAnyH_take (i := 6) (v := .tuple #[x, .bool r]) rfl (by kernel_rfl) (by kernel_rfl) (by kernel_rfl) (fun _ _ _ h => h) (Or.inl ⟨by rfl, ?_⟩) (by first | assumption | exact trivial) ?_
  · intro W hSW; go_simp; try (with_reducible rfl)
  simp only [Act.put, List.getElem_toArray, List.getElem_cons_succ, List.getElem_cons_zero, List.setIfInBounds_toArray, List.set_cons_zero, List.set_cons_succ]
  refine wpAnyH_take (i := 7) (v := x) rfl (by kernel_rfl) (by kernel_rfl) (by kernel_rfl) (fun _ _ _ h => h) (Or.inl ⟨by rfl, ?_⟩) (by first | assumption | exact trivial) ?_
  · intro W hSW; go_simp; try (with_reducible rfl)
  simp only [Act.put, List.getElem_toArray, List.getElem_cons_succ, List.getElem_cons_zero, List.setIfInBounds_toArray, List.set_cons_zero, List.set_cons_succ]
  refine wpAnyH_take (i := 8) (v := .bool r) rfl (by kernel_rfl) (by kernel_rfl) (by kernel_rfl) (fun _ _ _ h => h) (Or.inl ⟨by rfl, ?_⟩) (by first | assumption | exact trivial) ?_
  · intro W hSW; go_simp; try (with_reducible rfl)
  simp only [Act.put, List.getElem_toArray, List.getElem_cons_succ, List.getElem_cons_zero, List.setIfInBounds_toArray, List.set_cons_zero, List.set_cons_succ]
  refine wpAnyH_take (i := 9) (v := x) rfl (by kernel_rfl) (by kernel_rfl) (by kernel_rfl) (fun _ _ _ h => h) (Or.inl ⟨by rfl, ?_⟩) (by first | assumption | exact trivial) ?_
  · intro W hSW; go_simp; try (with_reducible rfl)
  simp only [Act.put, List.getElem_toArray, List.getElem_cons_succ, List.getElem_cons_zero, List.setIfInBounds_toArray, List.set_cons_zero, List.set_cons_succ]
  refine wpAnyH_take (i := 10) (v := .bool r) rfl (by kernel_rfl) (by kernel_rfl) (by kernel_rfl) (fun _ _ _ h => h) (Or.inl ⟨by rfl, ?_⟩) (by first | assumption | exact trivial) ?_
  · intro W hSW; go_simp; try (with_reducible rfl)
  simp only [Act.put, List.getElem_toArray, List.getElem_cons_succ, List.getElem_cons_zero, List.setIfInBounds_toArray, List.set_cons_zero, List.set_cons_succ]
  refine wpAnyH_done (by kernel_rfl) ?_ _
  go_wp2
  go_ret
  exact ⟨rfl, HB.out.trans (S0.mono HB.out.size)⟩
theorem mayBoot_any (hS : Hid (Sq E w D hb sd sb m v s)) : Calls Tryz.prog 47 #[.pointer (some ⟨D, 0, none⟩)] w fun e w' => e = .returned (.int .i64 (mayB s : Int)) ∧ w = w' := by
  have ce := hS.out.box.epoch
  unfold mayB
  by_cases h : s.epoch = 65535
  · rw [if_pos h]
    rw [h] at ce
    clear h hS
    go_enter Tryz.func47, Tryz.ntmps47
    go_wp2
    go_ret
    exact ⟨rfl, rfl⟩
  · rw [if_neg h]
    obtain ⟨ep, hep⟩ : ∃ x, s.epoch = x := ⟨_, rfl⟩
    rw [hep] at ce h
    have g : (ep == 65535) = false := by simpa using h
    clear h hS hep
    go_enter Tryz.func47, Tryz.ntmps47
    go_wp2
    go_ret
    exact ⟨rfl, rfl⟩
set_option maxRecDepth 100000 in
set_option maxHeartbeats 4000000 in
theorem mayRelease_any (i : Mg.Id4) (hf : Fit i) (hS : Hid (Sq E w D hb sd sb m v s)) : Calls Tryz.prog 49 #[.pointer (some ⟨D, 0, none⟩), .agg (Mg.idC i)] w fun e w' => e = .returned (.int .i64 (mayR s i : Int)) ∧ Hid (Below w.heap.size w w') := by
  have HH : Hid (∀ W, Below w.heap.size w W → Calls Tryz.prog 61 #[.pointer (some ⟨D, 0, none⟩), .agg (Mg.idC i)] W fun e w' => e = .returned (.bool (hasH s.held i)) ∧ Hid (Below W.heap.size W w')) := fun W hW => holds_any E D hb sd sb m v s W i hf (hS.out.below hW)
  have HB : Hid (Below w.heap.size w (w.alloc (.cells (Mg.idC i) 43))) := Me.below_alloc (Below.refl _ _)
  unfold mayR
  obtain ⟨r, hr⟩ : ∃ r, hasH s.held i = r := ⟨_, rfl⟩
  rw [hr] at HH ⊢
  obtain ⟨o, d, ee, c⟩ := i
  simp only [Mg.idC] at HB HH ⊢
  clear hr hS
  cases r
  all_goals
    go_enter Tryz.func49, Tryz.ntmps49
    go_wp2_with (go_at_call 61; refine (HH.out _ HB.out).mono ?_; rintro e w2 ⟨rfl, b2⟩)
    go_ret
    exact ⟨rfl, go_on HB.out b2.out⟩
set_option maxRecDepth 100000 in
set_option maxHeartbeats 4000000 in
theorem mayDeliver_any (i : Mg.Id4) (hS : Hid (Sq E w D hb sd sb m v s)) : Calls Tryz.prog 50 #[.pointer (some ⟨D, 0, none⟩), .agg (Mg.idC i)] w fun e w' => e = .returned (.int .i64 (mayD s i : Int)) ∧ Hid (Below w.heap.size w w') := by
  have HM : Hid (∀ W, Below w.heap.size w W → Calls Tryz.prog 68 #[.pointer (some ⟨sd, 0, none⟩), .agg (Mg.idC i)] W fun e w' => e = .returned (.int .i64 (Se.mayN s.seen i : Int)) ∧ Hid (Below W.heap.size W w')) := fun W hW => Se.May_any true sd sb m s.seen i W (hS.out.below hW).set
  obtain ⟨V, hV⟩ : ∃ V, w.alloc (.cells (Mg.idC i) 43) = V := ⟨_, rfl⟩
  have hB : Below w.heap.size w V := by rw [← hV]; exact Me.below_alloc (Below.refl _ _)
  have hR : V.heap[w.heap.size]? = some (.cells (Mg.idC i) 43 (0, 0)) := by rw [← hV]; exact heap_alloc_new w _
  have HC : Hid (∀ W, Below V.heap.size V W → W.cell? ⟨D, 0, none⟩ = some (.int .i64 s.self) ∧ W.cell? ⟨D, 72, none⟩ = some (.pointer (some ⟨sd, 0, none⟩)) ∧ W.heap[w.heap.size]? = some (.cells (Mg.idC i) 43 (0, 0)) ∧ Below w.heap.size w W) := fun W hW => by
    have h := hB.trans (hW.mono hB.size)
    have hs := hS.out.box.below h
    exact ⟨hs.self, hs.set, (hW.block _ (Array.getElem?_eq_some_iff.1 hR).1).trans hR, h⟩
  have HV := Lib.hid hV
  have HB := Lib.hid hB
  unfold mayD
  obtain ⟨z, hz⟩ : ∃ z, Se.mayN s.seen i = z := ⟨_, rfl⟩
  rw [hz] at HM ⊢
  obtain ⟨o, d, ee, c⟩ := i
  obtain ⟨me, hme⟩ : ∃ x, s.self = x := ⟨_, rfl⟩
  rw [hme] at HC ⊢
  simp only [Mg.idC] at HC HV HM hR ⊢
  have S1 := (Below.refl V.heap.size V)
  obtain ⟨q0, q1, q2, q3⟩ := HC.out V S1
  obtain ⟨x0, x1, x2, x3⟩ := id_cells hR
  clear hV hB hR hz hme hS
  by_cases h : d = me
  · subst h
    rw [if_neg (by simp)]
    have g : (d != d) = false := by simp
    go_enter Tryz.func50, Tryz.ntmps50
    go_wp2
    rw [HV.out]
    go_quiet (fail)
    have hnq : Below V.heap.size V (V.drewN nq) := Me.below_drewN S1 _
    obtain ⟨Wq, hWq⟩ : ∃ W, V.drewN nq = W := ⟨_, rfl⟩
    rw [hWq] at hnq ⊢
    clear hWq
    obtain ⟨p0, p1, p2, p3⟩ := HC.out Wq hnq
    obtain ⟨y0, y1, y2, y3⟩ := id_cells p2
    have HP := Lib.hid p3
    clear q0 q1 q2 q3 x0 x1 x2 x3 p2 p3
    go_wp2
    have S0 := hnq.drew
    refine wp_region_held_drew (S := fun W => Below V.heap.size V W) (by kernel_rfl) S0 (fun hHeld => ?_)
    refine wpAnyH_take (i := 0) (v := .pointer (some ⟨D, 0, none⟩)) rfl (by kernel_rfl) (by kernel_rfl) (by kernel_rfl) (fun _ _ _ h => h) (Or.inl ⟨by rfl, ?_⟩) (by first | assumption | exact trivial) ?_
    · intro W hSW; go_simp; try (with_reducible rfl)
    simp only [Act.put, List.getElem_toArray, List.getElem_cons_succ, List.getElem_cons_zero, List.setIfInBounds_toArray, List.set_cons_zero, List.set_cons_succ]
    refine wpAnyH_take (i := 1) (v := .pointer (some ⟨D, 0, none⟩)) rfl (by kernel_rfl) (by kernel_rfl) (by kernel_rfl) (fun _ _ _ h => h) (Or.inl ⟨by rfl, ?_⟩) (by first | assumption | exact trivial) ?_
    · intro W hSW; go_simp; try (with_reducible rfl)
    simp only [Act.put, List.getElem_toArray, List.getElem_cons_succ, List.getElem_cons_zero, List.setIfInBounds_toArray, List.set_cons_zero, List.set_cons_succ]
    refine wpAnyH_take (i := 2) (v := .pointer (some ⟨D, 72, none⟩)) rfl (by kernel_rfl) (by kernel_rfl) (by kernel_rfl) (fun _ _ _ h => h) (Or.inl ⟨by rfl, ?_⟩) (by first | assumption | exact trivial) ?_
    · intro W hSW; go_simp; try (with_reducible rfl)
    simp only [Act.put, List.getElem_toArray, List.getElem_cons_succ, List.getElem_cons_zero, List.setIfInBounds_toArray, List.set_cons_zero, List.set_cons_succ]
    refine wpAnyH_take (i := 3) (v := .pointer (some ⟨sd, 0, none⟩)) rfl (by kernel_rfl) (by kernel_rfl) (by kernel_rfl) (fun _ _ _ h => h) (Or.inl ⟨by rfl, ?_⟩) (by first | assumption | exact trivial) ?_
    · intro W hSW; obtain ⟨z0, z1, z2, z3⟩ := HC.out W hSW; go_simp; try (with_reducible rfl)
    simp only [Act.put, List.getElem_toArray, List.getElem_cons_succ, List.getElem_cons_zero, List.setIfInBounds_toArray, List.set_cons_zero, List.set_cons_succ]
    refine wpAnyH_take (i := 4) (v := .agg #[.int .i64 o, .int .i64 d, .int .i64 ee, .int .i64 c]) rfl (by kernel_rfl) (by kernel_rfl) (by kernel_rfl) (fun _ _ _ h => h) (Or.inl ⟨by rfl, ?_⟩) (by first | assumption | exact trivial) ?_
    · intro W hSW; obtain ⟨z0, z1, z2, z3⟩ := id_cells (HC.out W hSW).2.2.1; go_simp; try (with_reducible rfl)
    simp only [Act.put, List.getElem_toArray, List.getElem_cons_succ, List.getElem_cons_zero, List.setIfInBounds_toArray, List.set_cons_zero, List.set_cons_succ]
    refine wpAnyH_ready (rs := [5]) (by kernel_rfl) (by simp) ?_
    refine AllReadyH.cons rfl (fun K hK => ?_) AllReadyH.nil
    go_simp
    go_wp2_with (go_at_call 68; refine (HM.out _ (HC.out _ S0).2.2.2).mono ?_; rintro e w2 ⟨rfl, b2⟩)
    have S2 := S0.trans (b2.out.mono S0.size)
    refine hK.out _ _ (S2) (fun hHeld => ?_)
    clear hK K
    refine wpAnyH_take (i := 6) (v := .int .i64 (z : Int)) rfl (by kernel_rfl) (by kernel_rfl) (by kernel_rfl) (fun _ _ _ h => h) (Or.inl ⟨by rfl, ?_⟩) (by first | assumption | exact trivial) ?_
    · intro W hSW; go_simp; try (with_reducible rfl)
    simp only [Act.put, List.getElem_toArray, List.getElem_cons_succ, List.getElem_cons_zero, List.setIfInBounds_toArray, List.set_cons_zero, List.set_cons_succ]
    refine wpAnyH_done (by kernel_rfl) ?_ _
    go_wp2
    go_ret
    exact ⟨rfl, (HC.out _ S2).2.2.2⟩
  · rw [if_pos h]
    have g : (d != me) = true := by simpa using h
    clear h
    go_enter Tryz.func50, Tryz.ntmps50
    go_wp2
    rw [HV.out]
    go_quiet (fail)
    have hnq : Below V.heap.size V (V.drewN nq) := Me.below_drewN S1 _
    go_wp2
    go_ret
    exact ⟨rfl, (HC.out _ hnq).2.2.2⟩
end
end Go.Proofs.YtfnlhfelpdkieaaGreat.So
