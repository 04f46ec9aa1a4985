/- What a message would be told: mayHold; May. -/
import Derived.Test.YtfnlhfelpdkieaaGreatZ14
namespace Go.Proofs.YtfnlhfelpdkieaaGreat.So
open Go.RowKit
open Go.Proofs.YtfnlhfelpdkieaaGreat.Me Go.Proofs.YtfnlhfelpdkieaaGreat.Sb
set_option linter.unusedVariables false
set_option linter.unusedSimpArgs false

theorem msg_cells {W : World} {D : Nat} {o d e c : Int} {A : Option Addr} {n k : Nat} (h : W.heap[D]? = some (.cells #[.int .i64 o, .int .i64 d, .int .i64 e, .int .i64 c, .slice A n k] 46 (0, 0))) : W.cell? ⟨D, 0, none⟩ = some (.int .i64 o) ∧ W.cell? ⟨D, 1, none⟩ = some (.int .i64 d) ∧ W.cell? ⟨D, 2, none⟩ = some (.int .i64 e) ∧ W.cell? ⟨D, 3, none⟩ = some (.int .i64 c) ∧ W.cell? ⟨D, 4, none⟩ = some (.slice A n k) := by
  refine ⟨?_, ?_, ?_, ?_, ?_⟩
  all_goals
    rw [cell_of_row _ D _ _ _ (0, 0) h]
    rfl
/-- What mayHold reads of the store. -/
structure Rds (s : Sto) (D hb : Nat) (W : World) : Prop where
  self : W.cell? ⟨D, 0, none⟩ = some (.int .i64 s.self)
  qh : W.cell? ⟨D, 1, none⟩ = some (.int .i64 s.qh)
  qb : W.cell? ⟨D, 2, none⟩ = some (.int .i64 s.qb)
  epoch : W.cell? ⟨D, 4, none⟩ = some (.int .i64 s.epoch)
  map : W.cell? ⟨D, 69, none⟩ = some (.map (some hb))
  byt : W.cell? ⟨D, 71, none⟩ = some (.int .i64 (bytesOf s.held))
  len : ∀ ty, (Builtin.len_ #[74] ty #[.map (some hb)]).run Tryz.prog W = .ok (.int .i64 (s.held.length : Int)) W
theorem Sq.rds {E : Nat → Prop} {w : World} {D hb sd sb m : Nat} {v : Value} {s : Sto} (h : Sq E w D hb sd sb m v s) : Rds s D hb w :=
  ⟨h.box.self, h.box.qh, h.box.qb, h.box.epoch, h.box.map, h.box.byt, fun ty => h.map.len ty w rfl⟩
section
variable (E : Nat → Prop) (D hb sd sb m : Nat) (v : Value) (s : Sto) (w : World)
set_option maxRecDepth 100000 in
set_option maxHeartbeats 8000000 in
theorem mayHold_any (i : Mg.Id4) (A : Option Addr) (n c : Nat) (hf : Fit i) (hn : n ≤ 1000) (hS : Hid (Sq E w D hb sd sb m v s)) : Calls Tryz.prog 48 #[.pointer (some ⟨D, 0, none⟩), .agg (Mg.msgC i A n c)] w fun e w' => e = .returned (.int .i64 (mayH s i n : Int)) ∧ Hid (Below w.heap.size w w') := by
  have HH : Hid (∀ W, Below w.heap.size w W → Calls Tryz.prog 61 #[.pointer (some ⟨D, 0, none⟩), .agg (Mg.idC i)] W fun e w' => e = .returned (.bool (hasH s.held i)) ∧ Hid (Below W.heap.size W w')) := fun W hW => holds_any E D hb sd sb m v s W i hf (hS.out.below hW)
  have HF := Lib.hid (fun W => fits_any i s.self s.epoch W)
  have hb0 := hS.out.ok.byt
  have hb1 := hS.out.ok.b1
  have hb2 := bytesOf_nonneg s.held
  obtain ⟨V, hV⟩ : ∃ V, w.alloc (.cells (Mg.msgC i A n c) 46) = V := ⟨_, rfl⟩
  have hB : Below w.heap.size w V := by rw [← hV]; exact Me.below_alloc (Below.refl _ _)
  have hR : V.heap[w.heap.size]? = some (.cells (Mg.msgC i A n c) 46 (0, 0)) := by rw [← hV]; exact heap_alloc_new w _
  have HC : Hid (∀ W, Below V.heap.size V W → Rds s D hb W ∧ W.heap[w.heap.size]? = some (.cells (Mg.msgC i A n c) 46 (0, 0)) ∧ Below w.heap.size w W) := fun W hW => by
    have h := hB.trans (hW.mono hB.size)
    exact ⟨(hS.out.below h).rds, (hW.block _ (Array.getElem?_eq_some_iff.1 hR).1).trans hR, h⟩
  have HV := Lib.hid hV
  have HB := Lib.hid hB
  have HWr : Hid (IntKind.i64.wrap (bytesOf s.held + (n : Int)) = bytesOf s.held + (n : Int)) := Mi.fits' ⟨by omega, by omega⟩
  have hM : mayH s i n = if fitsB i s.self s.epoch = false then 2 else if hasH s.held i = true then 5 else if s.qh ≤ s.held.length ∨ s.qb < bytesOf s.held + n then 6 else 0 := rfl
  rw [hM]
  obtain ⟨b1, hb1⟩ : ∃ b, fitsB i s.self s.epoch = b := ⟨_, rfl⟩
  obtain ⟨b2, hb2⟩ : ∃ b, hasH s.held i = b := ⟨_, rfl⟩
  rw [hb1] at HF ⊢
  rw [hb2] at HH ⊢
  have HR : Hid (∀ W, Below V.heap.size V W → W.cell? ⟨D, 0, none⟩ = some (.int .i64 s.self) ∧ W.cell? ⟨D, 1, none⟩ = some (.int .i64 s.qh) ∧ W.cell? ⟨D, 2, none⟩ = some (.int .i64 s.qb) ∧ W.cell? ⟨D, 4, none⟩ = some (.int .i64 s.epoch) ∧ W.cell? ⟨D, 69, none⟩ = some (.map (some hb)) ∧ W.cell? ⟨D, 71, none⟩ = some (.int .i64 (bytesOf s.held)) ∧ ∀ ty, (Builtin.len_ #[74] ty #[.map (some hb)]).run Tryz.prog W = .ok (.int .i64 (s.held.length : Int)) W) := fun W hW => by
    obtain ⟨⟨a, b, c, d, e, f, g⟩, _⟩ := HC.out W hW
    exact ⟨a, b, c, d, e, f, g⟩
  have HM : Hid (∀ W, Below V.heap.size V W → W.heap[w.heap.size]? = some (.cells (Mg.msgC i A n c) 46 (0, 0))) := fun W hW => (HC.out W hW).2.1
  have HW : Hid (∀ W, Below V.heap.size V W → Below w.heap.size w W) := fun W hW => (HC.out W hW).2.2
  obtain ⟨by0, hby⟩ : ∃ x, bytesOf s.held = x := ⟨_, rfl⟩
  obtain ⟨ln, hln⟩ : ∃ x, s.held.length = x := ⟨_, rfl⟩
  obtain ⟨me, hme⟩ : ∃ x, s.self = x := ⟨_, rfl⟩
  obtain ⟨ep, hep⟩ : ∃ x, s.epoch = x := ⟨_, rfl⟩
  obtain ⟨qh, hqh⟩ : ∃ x, s.qh = x := ⟨_, rfl⟩
  obtain ⟨qb, hqb⟩ : ∃ x, s.qb = x := ⟨_, rfl⟩
  rw [hby, hln, hme, hep, hqh, hqb] at HR
  rw [hme, hep] at HF
  rw [hby] at HWr
  rw [hby, hln, hqh, hqb]
  obtain ⟨z, hz⟩ : ∃ z : Nat, (if b1 = false then 2 else if b2 = true then 5 else if qh ≤ (ln : Int) ∨ qb < by0 + (n : Int) then 6 else 0) = z := ⟨_, rfl⟩
  rw [hz]
  have HZ := Lib.hid hz
  clear hz
  obtain ⟨o, d, ee, cc⟩ := i
  simp only [Mg.msgC, Mg.idC] at HV HF HH HM ⊢
  clear hV hB hR HC hM hb1 hb2 hby hln hme hep hqh hqb hS hf hb0 hn
  have fin : ∀ W, Below V.heap.size V W → Below w.heap.size w W := HW.out
  have Hfin := Lib.hid fin
  clear fin
  go_enter Tryz.func48, Tryz.ntmps48
  go_wp2
  rw [HV.out]
  have S0 := (Below.refl V.heap.size V).drew
  refine wp_region_held_drew (S := fun W => Below V.heap.size V W) (by kernel_rfl) S0 (fun hHeld => ?_)
  refine wpAnyH_take (i := 0) (v := .pointer (some ⟨w.heap.size, 0, none⟩)) rfl (by kernel_rfl) (by kernel_rfl) (by kernel_rfl) (fun _ _ _ h => h) (Or.inl ⟨by rfl, ?_⟩) (by first | assumption | exact trivial) ?_
  · intro W hSW; go_simp; try (with_reducible rfl)
  simp only [Act.put, List.getElem_toArray, List.getElem_cons_succ, List.getElem_cons_zero, List.setIfInBounds_toArray, List.set_cons_zero, List.set_cons_succ]
  refine wpAnyH_take (i := 1) (v := .agg #[.int .i64 o, .int .i64 d, .int .i64 ee, .int .i64 cc]) rfl (by kernel_rfl) (by kernel_rfl) (by kernel_rfl) (fun _ _ _ h => h) (Or.inl ⟨by rfl, ?_⟩) (by first | assumption | exact trivial) ?_
  · intro W hSW; obtain ⟨z0, z1, z2, z3, z4⟩ := msg_cells (HM.out W hSW); go_simp; try (with_reducible rfl)
  simp only [Act.put, List.getElem_toArray, List.getElem_cons_succ, List.getElem_cons_zero, List.setIfInBounds_toArray, List.set_cons_zero, List.set_cons_succ]
  refine wpAnyH_take (i := 2) (v := .pointer (some ⟨D, 0, none⟩)) rfl (by kernel_rfl) (by kernel_rfl) (by kernel_rfl) (fun _ _ _ h => h) (Or.inl ⟨by rfl, ?_⟩) (by first | assumption | exact trivial) ?_
  · intro W hSW; go_simp; try (with_reducible rfl)
  simp only [Act.put, List.getElem_toArray, List.getElem_cons_succ, List.getElem_cons_zero, List.setIfInBounds_toArray, List.set_cons_zero, List.set_cons_succ]
  refine wpAnyH_take (i := 3) (v := .pointer (some ⟨D, 0, none⟩)) rfl (by kernel_rfl) (by kernel_rfl) (by kernel_rfl) (fun _ _ _ h => h) (Or.inl ⟨by rfl, ?_⟩) (by first | assumption | exact trivial) ?_
  · intro W hSW; go_simp; try (with_reducible rfl)
  simp only [Act.put, List.getElem_toArray, List.getElem_cons_succ, List.getElem_cons_zero, List.setIfInBounds_toArray, List.set_cons_zero, List.set_cons_succ]
  refine wpAnyH_take (i := 4) (v := .pointer (some ⟨D, 0, none⟩)) rfl (by kernel_rfl) (by kernel_rfl) (by kernel_rfl) (fun _ _ _ h => h) (Or.inl ⟨by rfl, ?_⟩) (by first | assumption | exact trivial) ?_
  · intro W hSW; go_simp; try (with_reducible rfl)
  simp only [Act.put, List.getElem_toArray, List.getElem_cons_succ, List.getElem_cons_zero, List.setIfInBounds_toArray, List.set_cons_zero, List.set_cons_succ]
  refine wpAnyH_take (i := 5) (v := .int .i64 me) rfl (by kernel_rfl) (by kernel_rfl) (by kernel_rfl) (fun _ _ _ h => h) (Or.inl ⟨by rfl, ?_⟩) (by first | assumption | exact trivial) ?_
  · intro W hSW; obtain ⟨y0, y1, y2, y3, y4, y5, y6⟩ := HR.out W hSW; go_simp; try (with_reducible rfl)
  simp only [Act.put, List.getElem_toArray, List.getElem_cons_succ, List.getElem_cons_zero, List.setIfInBounds_toArray, List.set_cons_zero, List.set_cons_succ]
  refine wpAnyH_take (i := 6) (v := .pointer (some ⟨D, 0, none⟩)) rfl (by kernel_rfl) (by kernel_rfl) (by kernel_rfl) (fun _ _ _ h => h) (Or.inl ⟨by rfl, ?_⟩) (by first | assumption | exact trivial) ?_
  · intro W hSW; go_simp; try (with_reducible rfl)
  simp only [Act.put, List.getElem_toArray, List.getElem_cons_succ, List.getElem_cons_zero, List.setIfInBounds_toArray, List.set_cons_zero, List.set_cons_succ]
  refine wpAnyH_take (i := 7) (v := .pointer (some ⟨D, 0, none⟩)) rfl (by kernel_rfl) (by kernel_rfl) (by kernel_rfl) (fun _ _ _ h => h) (Or.inl ⟨by rfl, ?_⟩) (by first | assumption | exact trivial) ?_
  · intro W hSW; go_simp; try (with_reducible rfl)
  simp only [Act.put, List.getElem_toArray, List.getElem_cons_succ, List.getElem_cons_zero, List.setIfInBounds_toArray, List.set_cons_zero, List.set_cons_succ]
  refine wpAnyH_take (i := 8) (v := .pointer (some ⟨D, 4, none⟩)) rfl (by kernel_rfl) (by kernel_rfl) (by kernel_rfl) (fun _ _ _ h => h) (Or.inl ⟨by rfl, ?_⟩) (by first | assumption | exact trivial) ?_
  · intro W hSW; go_simp; try (with_reducible rfl)
  simp only [Act.put, List.getElem_toArray, List.getElem_cons_succ, List.getElem_cons_zero, List.setIfInBounds_toArray, List.set_cons_zero, List.set_cons_succ]
  refine wpAnyH_take (i := 9) (v := .int .i64 ep) rfl (by kernel_rfl) (by kernel_rfl) (by kernel_rfl) (fun _ _ _ h => h) (Or.inl ⟨by rfl, ?_⟩) (by first | assumption | exact trivial) ?_
  · intro W hSW; obtain ⟨y0, y1, y2, y3, y4, y5, y6⟩ := HR.out W hSW; go_simp; try (with_reducible rfl)
  simp only [Act.put, List.getElem_toArray, List.getElem_cons_succ, List.getElem_cons_zero, List.setIfInBounds_toArray, List.set_cons_zero, List.set_cons_succ]
  refine wpAnyH_ready (rs := [10]) (by kernel_rfl) (by simp) ?_
  refine AllReadyH.cons rfl (fun K hK => ?_) AllReadyH.nil
  go_simp
  go_wp2_with (go_at_call 79; refine (HF.out _).mono ?_; rintro e w2 ⟨rfl, hb2⟩)
  have S2 := S0.trans (hb2.out.mono S0.size)
  refine hK.out _ _ (S2) (fun hHeld => ?_)
  clear hK K
  cases b1
  case false =>
    have hz := HZ.out
    rw [if_pos rfl] at hz
    subst hz
    clear HZ
    refine wpAnyH_take (i := 11) (v := .bool true) rfl (by kernel_rfl) (by kernel_rfl) (by kernel_rfl) (fun _ _ _ h => h) (Or.inl ⟨by rfl, ?_⟩) (by first | assumption | exact trivial) ?_
    · intro W hSW; go_simp; try (with_reducible rfl)
    simp only [Act.put, List.getElem_toArray, List.getElem_cons_succ, List.getElem_cons_zero, List.setIfInBounds_toArray, List.set_cons_zero, List.set_cons_succ]
    refine wpAnyH_take (i := 12) (v := .bool true) rfl (by kernel_rfl) (by kernel_rfl) (by kernel_rfl) (fun _ _ _ h => h) (Or.inl ⟨by rfl, ?_⟩) (by first | assumption | exact trivial) ?_
    · intro W hSW; go_simp; try (with_reducible rfl)
    simp only [Act.put, List.getElem_toArray, List.getElem_cons_succ, List.getElem_cons_zero, List.setIfInBounds_toArray, List.set_cons_zero, List.set_cons_succ]
    refine wpAnyH_done (by kernel_rfl) ?_ _
    go_wp2
    go_ret
    exact ⟨rfl, Hfin.out _ S2⟩
  refine wpAnyH_take (i := 11) (v := .bool false) rfl (by kernel_rfl) (by kernel_rfl) (by kernel_rfl) (fun _ _ _ h => h) (Or.inl ⟨by rfl, ?_⟩) (by first | assumption | exact trivial) ?_
  · intro W hSW; go_simp; try (with_reducible rfl)
  simp only [Act.put, List.getElem_toArray, List.getElem_cons_succ, List.getElem_cons_zero, List.setIfInBounds_toArray, List.set_cons_zero, List.set_cons_succ]
  refine wpAnyH_take (i := 12) (v := .bool false) rfl (by kernel_rfl) (by kernel_rfl) (by kernel_rfl) (fun _ _ _ h => h) (Or.inl ⟨by rfl, ?_⟩) (by first | assumption | exact trivial) ?_
  · intro W hSW; go_simp; try (with_reducible rfl)
  simp only [Act.put, List.getElem_toArray, List.getElem_cons_succ, List.getElem_cons_zero, List.setIfInBounds_toArray, List.set_cons_zero, List.set_cons_succ]
  refine wpAnyH_done (by kernel_rfl) ?_ _
  have HS2 := Lib.hid S2
  obtain ⟨z0, z1, z2, z3, z4⟩ := msg_cells (HM.out _ S2)
  clear hHeld S0 S2 hb2 HF HV
  cases b2
  case true =>
    have hz := HZ.out
    rw [if_neg (by simp), if_pos rfl] at hz
    subst hz
    clear HZ
    go_wp2_with (go_at_call 61; refine (HH.out _ (Hfin.out _ HS2.out)).mono ?_; rintro e w3 ⟨rfl, hb3⟩)
    go_ret
    exact ⟨rfl, Hfin.out _ (HS2.out.trans (hb3.out.mono HS2.out.size))⟩
  go_wp2_with (go_at_call 61; refine (HH.out _ (Hfin.out _ HS2.out)).mono ?_; rintro e w3 ⟨rfl, hb3⟩)
  have S3 := HS2.out.trans (hb3.out.mono HS2.out.size)
  clear z0 z1 z2 z3 z4 hb3 HH
  have S4 := S3.drew
  refine wp_region_held_drew (S := fun W => Below V.heap.size V W) (by kernel_rfl) S4 (fun hHeld => ?_)
  refine wpAnyH_take (i := 0) (v := .pointer (some ⟨D, 0, none⟩)) rfl (by kernel_rfl) (by kernel_rfl) (by kernel_rfl) (fun _ _ _ h => h) (Or.inl ⟨by rfl, ?_⟩) (by first | assumption | exact trivial) ?_
  · intro W hSW; go_simp; try (with_reducible rfl)
  simp only [Act.put, List.getElem_toArray, List.getElem_cons_succ, List.getElem_cons_zero, List.setIfInBounds_toArray, List.set_cons_zero, List.set_cons_succ]
  refine wpAnyH_take (i := 1) (v := .pointer (some ⟨D, 0, none⟩)) rfl (by kernel_rfl) (by kernel_rfl) (by kernel_rfl) (fun _ _ _ h => h) (Or.inl ⟨by rfl, ?_⟩) (by first | assumption | exact trivial) ?_
  · intro W hSW; go_simp; try (with_reducible rfl)
  simp only [Act.put, List.getElem_toArray, List.getElem_cons_succ, List.getElem_cons_zero, List.setIfInBounds_toArray, List.set_cons_zero, List.set_cons_succ]
  refine wpAnyH_take (i := 2) (v := .pointer (some ⟨D, 69, none⟩)) rfl (by kernel_rfl) (by kernel_rfl) (by kernel_rfl) (fun _ _ _ h => h) (Or.inl ⟨by rfl, ?_⟩) (by first | assumption | exact trivial) ?_
  · intro W hSW; go_simp; try (with_reducible rfl)
  simp only [Act.put, List.getElem_toArray, List.getElem_cons_succ, List.getElem_cons_zero, List.setIfInBounds_toArray, List.set_cons_zero, List.set_cons_succ]
  refine wpAnyH_take (i := 3) (v := .map (some hb)) rfl (by kernel_rfl) (by kernel_rfl) (by kernel_rfl) (fun _ _ _ h => h) (Or.inl ⟨by rfl, ?_⟩) (by first | assumption | exact trivial) ?_
  · intro W hSW; obtain ⟨y0, y1, y2, y3, y4, y5, y6⟩ := HR.out W hSW; go_simp; try (with_reducible rfl)
  simp only [Act.put, List.getElem_toArray, List.getElem_cons_succ, List.getElem_cons_zero, List.setIfInBounds_toArray, List.set_cons_zero, List.set_cons_succ]
  refine wpAnyH_take (i := 4) (v := .int .i64 (ln : Int)) rfl (by kernel_rfl) (by kernel_rfl) (by kernel_rfl) (fun _ _ _ h => h) (Or.inl ⟨by rfl, ?_⟩) (by first | assumption | exact trivial) ?_
  · intro W hSW; obtain ⟨y0, y1, y2, y3, y4, y5, y6⟩ := HR.out W hSW; go_simp; try (with_reducible rfl)
  simp only [Act.put, List.getElem_toArray, List.getElem_cons_succ, List.getElem_cons_zero, List.setIfInBounds_toArray, List.set_cons_zero, List.set_cons_succ]
  refine wpAnyH_take (i := 5) (v := .pointer (some ⟨D, 0, none⟩)) rfl (by kernel_rfl) (by kernel_rfl) (by kernel_rfl) (fun _ _ _ h => h) (Or.inl ⟨by rfl, ?_⟩) (by first | assumption | exact trivial) ?_
  · intro W hSW; go_simp; try (with_reducible rfl)
  simp only [Act.put, List.getElem_toArray, List.getElem_cons_succ, List.getElem_cons_zero, List.setIfInBounds_toArray, List.set_cons_zero, List.set_cons_succ]
  refine wpAnyH_take (i := 6) (v := .pointer (some ⟨D, 0, none⟩)) rfl (by kernel_rfl) (by kernel_rfl) (by kernel_rfl) (fun _ _ _ h => h) (Or.inl ⟨by rfl, ?_⟩) (by first | assumption | exact trivial) ?_
  · intro W hSW; go_simp; try (with_reducible rfl)
  simp only [Act.put, List.getElem_toArray, List.getElem_cons_succ, List.getElem_cons_zero, List.setIfInBounds_toArray, List.set_cons_zero, List.set_cons_succ]
  refine wpAnyH_take (i := 7) (v := .pointer (some ⟨D, 1, none⟩)) rfl (by kernel_rfl) (by kernel_rfl) (by kernel_rfl) (fun _ _ _ h => h) (Or.inl ⟨by rfl, ?_⟩) (by first | assumption | exact trivial) ?_
  · intro W hSW; go_simp; try (with_reducible rfl)
  simp only [Act.put, List.getElem_toArray, List.getElem_cons_succ, List.getElem_cons_zero, List.setIfInBounds_toArray, List.set_cons_zero, List.set_cons_succ]
  refine wpAnyH_take (i := 8) (v := .pointer (some ⟨D, 1, none⟩)) rfl (by kernel_rfl) (by kernel_rfl) (by kernel_rfl) (fun _ _ _ h => h) (Or.inl ⟨by rfl, ?_⟩) (by first | assumption | exact trivial) ?_
  · intro W hSW; go_simp; try (with_reducible rfl)
  simp only [Act.put, List.getElem_toArray, List.getElem_cons_succ, List.getElem_cons_zero, List.setIfInBounds_toArray, List.set_cons_zero, List.set_cons_succ]
  refine wpAnyH_take (i := 9) (v := .int .i64 qh) rfl (by kernel_rfl) (by kernel_rfl) (by kernel_rfl) (fun _ _ _ h => h) (Or.inl ⟨by rfl, ?_⟩) (by first | assumption | exact trivial) ?_
  · intro W hSW; obtain ⟨y0, y1, y2, y3, y4, y5, y6⟩ := HR.out W hSW; go_simp; try (with_reducible rfl)
  simp only [Act.put, List.getElem_toArray, List.getElem_cons_succ, List.getElem_cons_zero, List.setIfInBounds_toArray, List.set_cons_zero, List.set_cons_succ]
  by_cases h1 : qh ≤ (ln : Int)
  · have hz := HZ.out
    rw [if_neg (by simp), if_neg (by simp), if_pos (.inl h1)] at hz
    subst hz
    clear HZ
    refine wpAnyH_take (i := 10) (v := .bool true) rfl (by kernel_rfl) (by kernel_rfl) (by kernel_rfl) (fun _ _ _ h => h) (Or.inl ⟨by rfl, ?_⟩) (by first | assumption | exact trivial) ?_
    · intro W hSW; go_simp; try (with_reducible rfl)
    simp only [Act.put, List.getElem_toArray, List.getElem_cons_succ, List.getElem_cons_zero, List.setIfInBounds_toArray, List.set_cons_zero, List.set_cons_succ]
    refine wpAnyH_take (i := 11) (v := .bool true) rfl (by kernel_rfl) (by kernel_rfl) (by kernel_rfl) (fun _ _ _ h => h) (Or.inl ⟨by rfl, ?_⟩) (by first | assumption | exact trivial) ?_
    · intro W hSW; go_simp; try (with_reducible rfl)
    simp only [Act.put, List.getElem_toArray, List.getElem_cons_succ, List.getElem_cons_zero, List.setIfInBounds_toArray, List.set_cons_zero, List.set_cons_succ]
    refine wpAnyH_take (i := 12) (v := undef) rfl (by kernel_rfl) (by kernel_rfl) (by kernel_rfl) (fun _ _ _ h => h) (Or.inr ⟨by rfl, rfl⟩) (by first | assumption | exact trivial) ?restz1
    simp only [Act.put, List.getElem_toArray, List.getElem_cons_succ, List.getElem_cons_zero, List.setIfInBounds_toArray, List.set_cons_zero, List.set_cons_succ]
    refine wpAnyH_take (i := 13) (v := undef) rfl (by kernel_rfl) (by kernel_rfl) (by kernel_rfl) (fun _ _ _ h => h) (Or.inr ⟨by rfl, rfl⟩) (by first | assumption | exact trivial) ?restz2
    simp only [Act.put, List.getElem_toArray, List.getElem_cons_succ, List.getElem_cons_zero, List.setIfInBounds_toArray, List.set_cons_zero, List.set_cons_succ]
    refine wpAnyH_take (i := 14) (v := undef) rfl (by kernel_rfl) (by kernel_rfl) (by kernel_rfl) (fun _ _ _ h => h) (Or.inr ⟨by rfl, rfl⟩) (by first | assumption | exact trivial) ?restz3
    simp only [Act.put, List.getElem_toArray, List.getElem_cons_succ, List.getElem_cons_zero, List.setIfInBounds_toArray, List.set_cons_zero, List.set_cons_succ]
    refine wpAnyH_take (i := 15) (v := undef) rfl (by kernel_rfl) (by kernel_rfl) (by kernel_rfl) (fun _ _ _ h => h) (Or.inr ⟨by rfl, rfl⟩) (by first | assumption | exact trivial) ?restz4
    simp only [Act.put, List.getElem_toArray, List.getElem_cons_succ, List.getElem_cons_zero, List.setIfInBounds_toArray, List.set_cons_zero, List.set_cons_succ]
    refine wpAnyH_take (i := 16) (v := undef) rfl (by kernel_rfl) (by kernel_rfl) (by kernel_rfl) (fun _ _ _ h => h) (Or.inr ⟨by rfl, rfl⟩) (by first | assumption | exact trivial) ?restz5
    simp only [Act.put, List.getElem_toArray, List.getElem_cons_succ, List.getElem_cons_zero, List.setIfInBounds_toArray, List.set_cons_zero, List.set_cons_succ]
    refine wpAnyH_take (i := 17) (v := undef) rfl (by kernel_rfl) (by kernel_rfl) (by kernel_rfl) (fun _ _ _ h => h) (Or.inr ⟨by rfl, rfl⟩) (by first | assumption | exact trivial) ?restz6
    simp only [Act.put, List.getElem_toArray, List.getElem_cons_succ, List.getElem_cons_zero, List.setIfInBounds_toArray, List.set_cons_zero, List.set_cons_succ]
    refine wpAnyH_take (i := 18) (v := undef) rfl (by kernel_rfl) (by kernel_rfl) (by kernel_rfl) (fun _ _ _ h => h) (Or.inr ⟨by rfl, rfl⟩) (by first | assumption | exact trivial) ?restz7
    simp only [Act.put, List.getElem_toArray, List.getElem_cons_succ, List.getElem_cons_zero, List.setIfInBounds_toArray, List.set_cons_zero, List.set_cons_succ]
    refine wpAnyH_take (i := 19) (v := undef) rfl (by kernel_rfl) (by kernel_rfl) (by kernel_rfl) (fun _ _ _ h => h) (Or.inr ⟨by rfl, rfl⟩) (by first | assumption | exact trivial) ?restz8
    simp only [Act.put, List.getElem_toArray, List.getElem_cons_succ, List.getElem_cons_zero, List.setIfInBounds_toArray, List.set_cons_zero, List.set_cons_succ]
    refine wpAnyH_take (i := 20) (v := undef) rfl (by kernel_rfl) (by kernel_rfl) (by kernel_rfl) (fun _ _ _ h => h) (Or.inr ⟨by rfl, rfl⟩) (by first | assumption | exact trivial) ?restz9
    simp only [Act.put, List.getElem_toArray, List.getElem_cons_succ, List.getElem_cons_zero, List.setIfInBounds_toArray, List.set_cons_zero, List.set_cons_succ]
    refine wpAnyH_take (i := 21) (v := undef) rfl (by kernel_rfl) (by kernel_rfl) (by kernel_rfl) (fun _ _ _ h => h) (Or.inr ⟨by rfl, rfl⟩) (by first | assumption | exact trivial) ?restz10
    simp only [Act.put, List.getElem_toArray, List.getElem_cons_succ, List.getElem_cons_zero, List.setIfInBounds_toArray, List.set_cons_zero, List.set_cons_succ]
    refine wpAnyH_take (i := 22) (v := undef) rfl (by kernel_rfl) (by kernel_rfl) (by kernel_rfl) (fun _ _ _ h => h) (Or.inr ⟨by rfl, rfl⟩) (by first | assumption | exact trivial) ?restz11
    simp only [Act.put, List.getElem_toArray, List.getElem_cons_succ, List.getElem_cons_zero, List.setIfInBounds_toArray, List.set_cons_zero, List.set_cons_succ]
    refine wpAnyH_take (i := 23) (v := undef) rfl (by kernel_rfl) (by kernel_rfl) (by kernel_rfl) (fun _ _ _ h => h) (Or.inr ⟨by rfl, rfl⟩) (by first | assumption | exact trivial) ?restz12
    simp only [Act.put, List.getElem_toArray, List.getElem_cons_succ, List.getElem_cons_zero, List.setIfInBounds_toArray, List.set_cons_zero, List.set_cons_succ]
    refine wpAnyH_take (i := 24) (v := undef) rfl (by kernel_rfl) (by kernel_rfl) (by kernel_rfl) (fun _ _ _ h => h) (Or.inr ⟨by rfl, rfl⟩) (by first | assumption | exact trivial) ?restz13
    simp only [Act.put, List.getElem_toArray, List.getElem_cons_succ, List.getElem_cons_zero, List.setIfInBounds_toArray, List.set_cons_zero, List.set_cons_succ]
    refine wpAnyH_take (i := 25) (v := undef) rfl (by kernel_rfl) (by kernel_rfl) (by kernel_rfl) (fun _ _ _ h => h) (Or.inr ⟨by rfl, rfl⟩) (by first | assumption | exact trivial) ?restz14
    simp only [Act.put, List.getElem_toArray, List.getElem_cons_succ, List.getElem_cons_zero, List.setIfInBounds_toArray, List.set_cons_zero, List.set_cons_succ]
    refine wpAnyH_take (i := 26) (v := .bool true) rfl (by kernel_rfl) (by kernel_rfl) (by kernel_rfl) (fun _ _ _ h => h) (Or.inl ⟨by rfl, ?_⟩) (by first | assumption | exact trivial) ?_
    · intro W hSW; go_simp; try (with_reducible rfl)
    simp only [Act.put, List.getElem_toArray, List.getElem_cons_succ, List.getElem_cons_zero, List.setIfInBounds_toArray, List.set_cons_zero, List.set_cons_succ]
    refine wpAnyH_take (i := 27) (v := .bool true) rfl (by kernel_rfl) (by kernel_rfl) (by kernel_rfl) (fun _ _ _ h => h) (Or.inl ⟨by rfl, ?_⟩) (by first | assumption | exact trivial) ?_
    · intro W hSW; go_simp; try (with_reducible rfl)
    simp only [Act.put, List.getElem_toArray, List.getElem_cons_succ, List.getElem_cons_zero, List.setIfInBounds_toArray, List.set_cons_zero, List.set_cons_succ]
    refine wpAnyH_done (by kernel_rfl) ?_ _
    go_wp2
    go_ret
    exact ⟨rfl, Hfin.out _ S4⟩
  · have g1 := Lib.hid h1
    refine wpAnyH_take (i := 10) (v := .bool false) rfl (by kernel_rfl) (by kernel_rfl) (by kernel_rfl) (fun _ _ _ h => h) (Or.inl ⟨by rfl, ?_⟩) (by first | assumption | exact trivial) ?_
    · intro W hSW; go_simp; try (with_reducible rfl)
    simp only [Act.put, List.getElem_toArray, List.getElem_cons_succ, List.getElem_cons_zero, List.setIfInBounds_toArray, List.set_cons_zero, List.set_cons_succ]
    refine wpAnyH_take (i := 11) (v := .bool false) rfl (by kernel_rfl) (by kernel_rfl) (by kernel_rfl) (fun _ _ _ h => h) (Or.inl ⟨by rfl, ?_⟩) (by first | assumption | exact trivial) ?_
    · intro W hSW; go_simp; try (with_reducible rfl)
    simp only [Act.put, List.getElem_toArray, List.getElem_cons_succ, List.getElem_cons_zero, List.setIfInBounds_toArray, List.set_cons_zero, List.set_cons_succ]
    refine wpAnyH_take (i := 12) (v := .pointer (some ⟨D, 0, none⟩)) rfl (by kernel_rfl) (by kernel_rfl) (by kernel_rfl) (fun _ _ _ h => h) (Or.inl ⟨by rfl, ?_⟩) (by first | assumption | exact trivial) ?_
    · intro W hSW; go_simp; try (with_reducible rfl)
    simp only [Act.put, List.getElem_toArray, List.getElem_cons_succ, List.getElem_cons_zero, List.setIfInBounds_toArray, List.set_cons_zero, List.set_cons_succ]
    refine wpAnyH_take (i := 13) (v := .pointer (some ⟨D, 0, none⟩)) rfl (by kernel_rfl) (by kernel_rfl) (by kernel_rfl) (fun _ _ _ h => h) (Or.inl ⟨by rfl, ?_⟩) (by first | assumption | exact trivial) ?_
    · intro W hSW; go_simp; try (with_reducible rfl)
    simp only [Act.put, List.getElem_toArray, List.getElem_cons_succ, List.getElem_cons_zero, List.setIfInBounds_toArray, List.set_cons_zero, List.set_cons_succ]
    refine wpAnyH_take (i := 14) (v := .pointer (some ⟨D, 71, none⟩)) rfl (by kernel_rfl) (by kernel_rfl) (by kernel_rfl) (fun _ _ _ h => h) (Or.inl ⟨by rfl, ?_⟩) (by first | assumption | exact trivial) ?_
    · intro W hSW; go_simp; try (with_reducible rfl)
    simp only [Act.put, List.getElem_toArray, List.getElem_cons_succ, List.getElem_cons_zero, List.setIfInBounds_toArray, List.set_cons_zero, List.set_cons_succ]
    refine wpAnyH_take (i := 15) (v := .int .i64 by0) rfl (by kernel_rfl) (by kernel_rfl) (by kernel_rfl) (fun _ _ _ h => h) (Or.inl ⟨by rfl, ?_⟩) (by first | assumption | exact trivial) ?_
    · intro W hSW; obtain ⟨y0, y1, y2, y3, y4, y5, y6⟩ := HR.out W hSW; go_simp; try (with_reducible rfl)
    simp only [Act.put, List.getElem_toArray, List.getElem_cons_succ, List.getElem_cons_zero, List.setIfInBounds_toArray, List.set_cons_zero, List.set_cons_succ]
    refine wpAnyH_take (i := 16) (v := .pointer (some ⟨w.heap.size, 4, none⟩)) rfl (by kernel_rfl) (by kernel_rfl) (by kernel_rfl) (fun _ _ _ h => h) (Or.inl ⟨by rfl, ?_⟩) (by first | assumption | exact trivial) ?_
    · intro W hSW; go_simp; try (with_reducible rfl)
    simp only [Act.put, List.getElem_toArray, List.getElem_cons_succ, List.getElem_cons_zero, List.setIfInBounds_toArray, List.set_cons_zero, List.set_cons_succ]
    refine wpAnyH_take (i := 17) (v := .slice A n c) rfl (by kernel_rfl) (by kernel_rfl) (by kernel_rfl) (fun _ _ _ h => h) (Or.inl ⟨by rfl, ?_⟩) (by first | assumption | exact trivial) ?_
    · intro W hSW; obtain ⟨z0, z1, z2, z3, z4⟩ := msg_cells (HM.out W hSW); go_simp; try (with_reducible rfl)
    simp only [Act.put, List.getElem_toArray, List.getElem_cons_succ, List.getElem_cons_zero, List.setIfInBounds_toArray, List.set_cons_zero, List.set_cons_succ]
    refine wpAnyH_take (i := 18) (v := .int .i64 (n : Int)) rfl (by kernel_rfl) (by kernel_rfl) (by kernel_rfl) (fun _ _ _ h => h) (Or.inl ⟨by rfl, ?_⟩) (by first | assumption | exact trivial) ?_
    · intro W hSW; go_simp; try (with_reducible rfl)
    simp only [Act.put, List.getElem_toArray, List.getElem_cons_succ, List.getElem_cons_zero, List.setIfInBounds_toArray, List.set_cons_zero, List.set_cons_succ]
    refine wpAnyH_take (i := 19) (v := .int .i64 (by0 + (n : Int))) rfl (by kernel_rfl) (by kernel_rfl) (by kernel_rfl) (fun _ _ _ h => h) (Or.inl ⟨by rfl, ?_⟩) (by first | assumption | exact trivial) ?_
    · intro W hSW; have q := HWr.out; go_simp; try (with_reducible rfl)
    simp only [Act.put, List.getElem_toArray, List.getElem_cons_succ, List.getElem_cons_zero, List.setIfInBounds_toArray, List.set_cons_zero, List.set_cons_succ]
    refine wpAnyH_take (i := 20) (v := .pointer (some ⟨D, 0, none⟩)) rfl (by kernel_rfl) (by kernel_rfl) (by kernel_rfl) (fun _ _ _ h => h) (Or.inl ⟨by rfl, ?_⟩) (by first | assumption | exact trivial) ?_
    · intro W hSW; go_simp; try (with_reducible rfl)
    simp only [Act.put, List.getElem_toArray, List.getElem_cons_succ, List.getElem_cons_zero, List.setIfInBounds_toArray, List.set_cons_zero, List.set_cons_succ]
    refine wpAnyH_take (i := 21) (v := .pointer (some ⟨D, 0, none⟩)) rfl (by kernel_rfl) (by kernel_rfl) (by kernel_rfl) (fun _ _ _ h => h) (Or.inl ⟨by rfl, ?_⟩) (by first | assumption | exact trivial) ?_
    · intro W hSW; go_simp; try (with_reducible rfl)
    simp only [Act.put, List.getElem_toArray, List.getElem_cons_succ, List.getElem_cons_zero, List.setIfInBounds_toArray, List.set_cons_zero, List.set_cons_succ]
    refine wpAnyH_take (i := 22) (v := .pointer (some ⟨D, 1, none⟩)) rfl (by kernel_rfl) (by kernel_rfl) (by kernel_rfl) (fun _ _ _ h => h) (Or.inl ⟨by rfl, ?_⟩) (by first | assumption | exact trivial) ?_
    · intro W hSW; go_simp; try (with_reducible rfl)
    simp only [Act.put, List.getElem_toArray, List.getElem_cons_succ, List.getElem_cons_zero, List.setIfInBounds_toArray, List.set_cons_zero, List.set_cons_succ]
    refine wpAnyH_take (i := 23) (v := .pointer (some ⟨D, 2, none⟩)) rfl (by kernel_rfl) (by kernel_rfl) (by kernel_rfl) (fun _ _ _ h => h) (Or.inl ⟨by rfl, ?_⟩) (by first | assumption | exact trivial) ?_
    · intro W hSW; go_simp; try (with_reducible rfl)
    simp only [Act.put, List.getElem_toArray, List.getElem_cons_succ, List.getElem_cons_zero, List.setIfInBounds_toArray, List.set_cons_zero, List.set_cons_succ]
    refine wpAnyH_take (i := 24) (v := .int .i64 qb) rfl (by kernel_rfl) (by kernel_rfl) (by kernel_rfl) (fun _ _ _ h => h) (Or.inl ⟨by rfl, ?_⟩) (by first | assumption | exact trivial) ?_
    · intro W hSW; obtain ⟨y0, y1, y2, y3, y4, y5, y6⟩ := HR.out W hSW; go_simp; try (with_reducible rfl)
    simp only [Act.put, List.getElem_toArray, List.getElem_cons_succ, List.getElem_cons_zero, List.setIfInBounds_toArray, List.set_cons_zero, List.set_cons_succ]
    by_cases h2 : qb < by0 + (n : Int)
    · have hz := HZ.out
      rw [if_neg (by simp), if_neg (by simp), if_pos (.inr h2)] at hz
      subst hz
      clear HZ
      refine wpAnyH_take (i := 25) (v := .bool true) rfl (by kernel_rfl) (by kernel_rfl) (by kernel_rfl) (fun _ _ _ h => h) (Or.inl ⟨by rfl, ?_⟩) (by first | assumption | exact trivial) ?_
      · intro W hSW; go_simp; try (with_reducible rfl)
      simp only [Act.put, List.getElem_toArray, List.getElem_cons_succ, List.getElem_cons_zero, List.setIfInBounds_toArray, List.set_cons_zero, List.set_cons_succ]
      refine wpAnyH_take (i := 26) (v := .bool true) rfl (by kernel_rfl) (by kernel_rfl) (by kernel_rfl) (fun _ _ _ h => h) (Or.inl ⟨by rfl, ?_⟩) (by first | assumption | exact trivial) ?_
      · intro W hSW; go_simp; try (with_reducible rfl)
      simp only [Act.put, List.getElem_toArray, List.getElem_cons_succ, List.getElem_cons_zero, List.setIfInBounds_toArray, List.set_cons_zero, List.set_cons_succ]
      refine wpAnyH_take (i := 27) (v := .bool true) rfl (by kernel_rfl) (by kernel_rfl) (by kernel_rfl) (fun _ _ _ h => h) (Or.inl ⟨by rfl, ?_⟩) (by first | assumption | exact trivial) ?_
      · intro W hSW; go_simp; try (with_reducible rfl)
      simp only [Act.put, List.getElem_toArray, List.getElem_cons_succ, List.getElem_cons_zero, List.setIfInBounds_toArray, List.set_cons_zero, List.set_cons_succ]
      refine wpAnyH_done (by kernel_rfl) ?_ _
      go_wp2
      go_ret
      exact ⟨rfl, Hfin.out _ S4⟩
    · have hz := HZ.out
      rw [if_neg (by simp), if_neg (by simp), if_neg (fun h => h.elim h1 h2)] at hz
      subst hz
      clear HZ
      refine wpAnyH_take (i := 25) (v := .bool false) rfl (by kernel_rfl) (by kernel_rfl) (by kernel_rfl) (fun _ _ _ h => h) (Or.inl ⟨by rfl, ?_⟩) (by first | assumption | exact trivial) ?_
      · intro W hSW; go_simp; try (with_reducible rfl)
      simp only [Act.put, List.getElem_toArray, List.getElem_cons_succ, List.getElem_cons_zero, List.setIfInBounds_toArray, List.set_cons_zero, List.set_cons_succ]
      refine wpAnyH_take (i := 26) (v := .bool false) rfl (by kernel_rfl) (by kernel_rfl) (by kernel_rfl) (fun _ _ _ h => h) (Or.inl ⟨by rfl, ?_⟩) (by first | assumption | exact trivial) ?_
      · intro W hSW; go_simp; try (with_reducible rfl)
      simp only [Act.put, List.getElem_toArray, List.getElem_cons_succ, List.getElem_cons_zero, List.setIfInBounds_toArray, List.set_cons_zero, List.set_cons_succ]
      refine wpAnyH_take (i := 27) (v := .bool false) rfl (by kernel_rfl) (by kernel_rfl) (by kernel_rfl) (fun _ _ _ h => h) (Or.inl ⟨by rfl, ?_⟩) (by first | assumption | exact trivial) ?_
      · intro W hSW; go_simp; try (with_reducible rfl)
      simp only [Act.put, List.getElem_toArray, List.getElem_cons_succ, List.getElem_cons_zero, List.setIfInBounds_toArray, List.set_cons_zero, List.set_cons_succ]
      refine wpAnyH_done (by kernel_rfl) ?_ _
      go_wp2
      go_ret
      exact ⟨rfl, Hfin.out _ S4⟩
end
end Go.Proofs.YtfnlhfelpdkieaaGreat.So
/- What an event would be told: May. -/
namespace Go.Proofs.YtfnlhfelpdkieaaGreat.So
open Go.RowKit
open Go.Proofs.YtfnlhfelpdkieaaGreat.Me Go.Proofs.YtfnlhfelpdkieaaGreat.Sb
set_option linter.unusedVariables false
set_option linter.unusedSimpArgs false

set_option maxHeartbeats 4000000 in
theorem May_nil (k : Int) (i : Mg.Id4) (A : Option Addr) (n c : Nat) (w : World) : Calls Tryz.prog 18 #[.pointer none, .agg (evC k i A n c)] w fun e w' => e = .returned (.int .i64 7) ∧ Hid (Below w.heap.size w w') := by
  have HB : Hid (Below w.heap.size w (w.alloc (.cells (evC k i A n c) 48))) := Me.below_alloc (Below.refl _ _)
  obtain ⟨o, d, ee, cc⟩ := i
  simp only [evC] at HB ⊢
  go_enter Tryz.func18, Tryz.ntmps18
  go_wp2
  go_ret
  exact ⟨rfl, HB.out⟩
set_option maxHeartbeats 4000000 in
theorem Apply_nil (k : Int) (i : Mg.Id4) (A : Option Addr) (n c : Nat) (w : World) : Calls Tryz.prog 13 #[.pointer none, .agg (evC k i A n c)] w fun e w' => e = .returned (.int .i64 7) ∧ Hid (Below w.heap.size w w') := by
  have HM := Lib.hid (fun W => May_nil k i A n c W)
  have HB : Hid (Below w.heap.size w (w.alloc (.cells (evC k i A n c) 48))) := Me.below_alloc (Below.refl _ _)
  obtain ⟨o, d, ee, cc⟩ := i
  simp only [evC] at HB HM ⊢
  go_enter Tryz.func13, Tryz.ntmps13
  go_wp2_with (go_at_call 18; refine (HM.out _).mono ?_; rintro e w2 ⟨rfl, b2⟩)
  go_ret
  exact ⟨rfl, go_on HB.out b2.out⟩
theorem fit_ev {k : Int} {i : Mg.Id4} {n : Nat} (h : chkE k i n = 0) : k = 1 ∨ (k = 2 ∧ Mg.Right i ∧ n ≤ 48) ∨ (k = 3 ∧ Mg.Right i) ∨ (k = 4 ∧ Mg.Right i) := by
  unfold chkE at h
  split at h
  · exact .inl (by assumption)
  split at h
  · rename_i h2
    obtain ⟨a, _, b⟩ := msgN_zero h
    exact .inr (.inl ⟨h2, a, b⟩)
  split at h
  · rename_i h3
    split at h
    · rename_i h4; exact absurd h h4
    · rename_i h4
      have := Mg.right_iff.1 (Decidable.not_not.1 h4)
      rcases h3 with h3 | h3
      · exact .inr (.inr (.inl ⟨h3, this⟩))
      · exact .inr (.inr (.inr ⟨h3, this⟩))
  · cases h
section
variable (E : Nat → Prop) (D hb sd sb m : Nat) (v : Value) (s : Sto) (w : World)
set_option maxRecDepth 100000 in
set_option maxHeartbeats 8000000 in
theorem May_any (k : Int) (i : Mg.Id4) (A : Option Addr) (n c : Nat) (hS : Hid (Sq E w D hb sd sb m v s)) : Calls Tryz.prog 18 #[.pointer (some ⟨D, 0, none⟩), .agg (evC k i A n c)] w fun e w' => e = .returned (.int .i64 (mayE s k i n : Int)) ∧ Hid (Below w.heap.size w w') := by
  have HK := Lib.hid (fun W => check_any k i A n c W)
  obtain ⟨V, hV⟩ : ∃ V, w.alloc (.cells (evC k i A n c) 48) = V := ⟨_, rfl⟩
  have hB : Below w.heap.size w V := by rw [← hV]; exact Me.below_alloc (Below.refl _ _)
  have hR : V.heap[w.heap.size]? = some (.cells (evC k i A n c) 48 (0, 0)) := by rw [← hV]; exact heap_alloc_new w _
  have HC : Hid (∀ W, Below V.heap.size V W → Sq E W D hb sd sb m v s ∧ W.heap[w.heap.size]? = some (.cells (evC k i A n c) 48 (0, 0)) ∧ Below w.heap.size w W) := fun W hW => by
    have h := hB.trans (hW.mono hB.size)
    exact ⟨hS.out.below h, (hW.block _ (Array.getElem?_eq_some_iff.1 hR).1).trans hR, h⟩
  have HV := Lib.hid hV
  have HB := Lib.hid hB
  have HFin : Hid (∀ W, Below V.heap.size V W → Below w.heap.size w W) := fun W hW => (HC.out W hW).2.2
  by_cases h0 : chkE k i n = 0
  · have hM : mayE s k i n = if k = 1 then mayB s else if k = 2 then mayH s i n else if k = 3 then mayR s i else mayD s i := by unfold mayE; rw [if_neg (by simp [h0])]
    rw [hM]
    rw [h0] at HK
    rcases fit_ev h0 with rfl | ⟨rfl, hr, hn⟩ | ⟨rfl, hr⟩ | ⟨rfl, hr⟩
    · rw [if_pos rfl]
      have HQ : Hid (∀ W, Below V.heap.size V W → Calls Tryz.prog 47 #[.pointer (some ⟨D, 0, none⟩)] W fun e w' => e = .returned (.int .i64 (mayB s : Int)) ∧ W = w') := fun W hW => mayBoot_any E D hb sd sb m v s W (HC.out W hW).1
      have HE : Hid (∀ W, Below V.heap.size V W → W.heap[w.heap.size]? = some (.cells (evC 1 i A n c) 48 (0, 0))) := fun W hW => (HC.out W hW).2.1
      obtain ⟨z, hz⟩ : ∃ z, mayB s = z := ⟨_, rfl⟩
      rw [hz] at HQ ⊢
      obtain ⟨o, d, ee, cc⟩ := i
      simp only [evC, show ((0 : Nat) : Int) = 0 from rfl] at HK HV HE ⊢
      clear hV hB hR HC h0 hM hz hS
      go_enter Tryz.func18, Tryz.ntmps18
      go_wp2_with (first
        | (go_at_call 46; rw [HV.out]; refine (HK.out _).mono ?_; rintro e w2 ⟨rfl, b2⟩; obtain ⟨x0, x1, x2, x3, x4, x5⟩ := ev_cells (HE.out w2 b2.out))
        | (go_at_call 47; refine (HQ.out _ b2.out).mono ?_; rintro e w3 ⟨rfl, rfl⟩))
      go_ret
      exact ⟨rfl, HFin.out _ b2.out⟩
    · rw [if_neg (by decide), if_pos rfl]
      have HQ : Hid (∀ W, Below V.heap.size V W → Calls Tryz.prog 48 #[.pointer (some ⟨D, 0, none⟩), .agg (Mg.msgC i A n c)] W fun e w' => e = .returned (.int .i64 (mayH s i n : Int)) ∧ Hid (Below W.heap.size W w')) := fun W hW => mayHold_any E D hb sd sb m v s W i A n c (fit_right hr) (by omega) (HC.out W hW).1
      have HE : Hid (∀ W, Below V.heap.size V W → W.heap[w.heap.size]? = some (.cells (evC 2 i A n c) 48 (0, 0))) := fun W hW => (HC.out W hW).2.1
      obtain ⟨z, hz⟩ : ∃ z, mayH s i n = z := ⟨_, rfl⟩
      rw [hz] at HQ ⊢
      obtain ⟨o, d, ee, cc⟩ := i
      simp only [evC, Mg.msgC, show ((0 : Nat) : Int) = 0 from rfl] at HK HV HE HQ ⊢
      clear hV hB hR HC h0 hM hz hS hr hn
      go_enter Tryz.func18, Tryz.ntmps18
      go_wp2_with (first
        | (go_at_call 46; rw [HV.out]; refine (HK.out _).mono ?_; rintro e w2 ⟨rfl, b2⟩; obtain ⟨x0, x1, x2, x3, x4, x5⟩ := ev_cells (HE.out w2 b2.out))
        | (go_at_call 48; refine (HQ.out _ b2.out).mono ?_; rintro e w3 ⟨rfl, b3⟩))
      go_ret
      exact ⟨rfl, HFin.out _ (b2.out.trans (b3.out.mono b2.out.size))⟩
    · rw [if_neg (by decide), if_neg (by decide), if_pos rfl]
      have HQ : Hid (∀ W, Below V.heap.size V W → Calls Tryz.prog 49 #[.pointer (some ⟨D, 0, none⟩), .agg (Mg.idC i)] W fun e w' => e = .returned (.int .i64 (mayR s i : Int)) ∧ Hid (Below W.heap.size W w')) := fun W hW => mayRelease_any E D hb sd sb m v s W i (fit_right hr) (HC.out W hW).1
      have HE : Hid (∀ W, Below V.heap.size V W → W.heap[w.heap.size]? = some (.cells (evC 3 i A n c) 48 (0, 0))) := fun W hW => (HC.out W hW).2.1
      obtain ⟨z, hz⟩ : ∃ z, mayR s i = z := ⟨_, rfl⟩
      rw [hz] at HQ ⊢
      obtain ⟨o, d, ee, cc⟩ := i
      simp only [evC, Mg.idC, show ((0 : Nat) : Int) = 0 from rfl] at HK HV HE HQ ⊢
      clear hV hB hR HC h0 hM hz hS hr
      go_enter Tryz.func18, Tryz.ntmps18
      go_wp2_with (first
        | (go_at_call 46; rw [HV.out]; refine (HK.out _).mono ?_; rintro e w2 ⟨rfl, b2⟩; obtain ⟨x0, x1, x2, x3, x4, x5⟩ := ev_cells (HE.out w2 b2.out))
        | (go_at_call 49; refine (HQ.out _ b2.out).mono ?_; rintro e w3 ⟨rfl, b3⟩))
      go_ret
      exact ⟨rfl, HFin.out _ (b2.out.trans (b3.out.mono b2.out.size))⟩
    · rw [if_neg (by decide), if_neg (by decide), if_neg (by decide)]
      have HQ : Hid (∀ W, Below V.heap.size V W → Calls Tryz.prog 50 #[.pointer (some ⟨D, 0, none⟩), .agg (Mg.idC i)] W fun e w' => e = .returned (.int .i64 (mayD s i : Int)) ∧ Hid (Below W.heap.size W w')) := fun W hW => mayDeliver_any E D hb sd sb m v s W i (HC.out W hW).1
      have HE : Hid (∀ W, Below V.heap.size V W → W.heap[w.heap.size]? = some (.cells (evC 4 i A n c) 48 (0, 0))) := fun W hW => (HC.out W hW).2.1
      obtain ⟨z, hz⟩ : ∃ z, mayD s i = z := ⟨_, rfl⟩
      rw [hz] at HQ ⊢
      obtain ⟨o, d, ee, cc⟩ := i
      simp only [evC, Mg.idC, show ((0 : Nat) : Int) = 0 from rfl] at HK HV HE HQ ⊢
      clear hV hB hR HC h0 hM hz hS hr
      go_enter Tryz.func18, Tryz.ntmps18
      go_wp2_with (first
        | (go_at_call 46; rw [HV.out]; refine (HK.out _).mono ?_; rintro e w2 ⟨rfl, b2⟩; obtain ⟨x0, x1, x2, x3, x4, x5⟩ := ev_cells (HE.out w2 b2.out))
        | (go_at_call 50; refine (HQ.out _ b2.out).mono ?_; rintro e w3 ⟨rfl, b3⟩))
      go_ret
      exact ⟨rfl, HFin.out _ (b2.out.trans (b3.out.mono b2.out.size))⟩
  · have hM : mayE s k i n = chkE k i n := by unfold mayE; rw [if_pos h0]
    rw [hM]
    have hne := Mg.nz h0
    obtain ⟨z, hz⟩ : ∃ z, chkE k i n = z := ⟨_, rfl⟩
    rw [hz] at HK hne ⊢
    obtain ⟨o, d, ee, cc⟩ := i
    simp only [evC] at HK HV ⊢
    clear hV hB hR HC h0 hM hz hS
    go_enter Tryz.func18, Tryz.ntmps18
    go_wp2_with (go_at_call 46; rw [HV.out]; refine (HK.out _).mono ?_; rintro e w2 ⟨rfl, b2⟩)
    go_ret
    exact ⟨rfl, HFin.out _ b2.out⟩
end
end Go.Proofs.YtfnlhfelpdkieaaGreat.So
