/- The contracts of the reference's changed, Ready, There, file. -/
import Derived.Test.YtdjgkoklkoahbaaDkRWith
import Derived.Handy
import Derived.Deep.RegionHeld
namespace Go.Proofs.Ytdjgkoklkoahbaa.Dk
open Go.RowKit
open Go.Proofs.Ytdjgkoklkoahbaa.Me Go.Proofs.Ytdjgkoklkoahbaa.Hd
set_option linter.unusedVariables false
set_option linter.unusedSimpArgs false

/-- The box of a disk that was handed in, and all that has grown since. -/
structure RX (w : World) (s : St) (v : Value) (W : World) : Prop where
  x : W.heap[w.heap.size]? = some (.cells (rcs s v) 29 (0, 0))
  b : Below w.heap.size w W
  n : w.heap.size < W.heap.size
theorem RX.new (w : World) (s : St) (v : Value) : RX w s v (w.alloc (.cells (rcs s v) 29)) := ⟨heap_alloc_new w _, Me.below_alloc (Below.refl _ _), by simp⟩
theorem RX.grow {w W W' : World} {s : St} {v : Value} (h : RX w s v W) (hb : Below W.heap.size W W') : RX w s v W' := ⟨(hb.block _ h.n).trans h.x, h.b.trans (hb.mono h.b.size), Nat.lt_of_lt_of_le h.n hb.size⟩
theorem RX.alloc {w W : World} {s : St} {v : Value} (h : RX w s v W) (o : Obj) : RX w s v (W.alloc o) := h.grow (Me.below_alloc (Below.refl _ _))
theorem RX.setRow {w W : World} {s : St} {v : Value} (h : RX w s v W) {g : Nat} (hg : w.heap.size < g) (cs : Array Value) : RX w s v (W.setRow g cs) :=
  ⟨(setRow_other _ _ _ _ (by omega)).trans h.x, h.b.trans ⟨rfl, rfl, rfl, by simp [World.setRow], fun k hk => setRow_other _ _ k _ (by omega)⟩, by simp [World.setRow]; exact h.n⟩
theorem RX.cells {w W : World} {s : St} {v : Value} (h : RX w s v W) : W.cell? ⟨w.heap.size, 0, none⟩ = some (.int .i64 (s.limit : Int)) ∧ W.cell? ⟨w.heap.size, 1, none⟩ = some v ∧ W.cell? ⟨w.heap.size, 2, none⟩ = some (.int .i64 (leftI s)) ∧ W.cell? ⟨w.heap.size, 3, none⟩ = some (.bool s.down) := row_cells4 h.x
theorem load_rcs {W : World} {g : Nat} {s : St} {v : Value} (h : W.heap[g]? = some (.cells (rcs s v) 29 (0, 0))) : (loadVar 29 ⟨g, 0, none⟩).run Try.prog W = .ok (.agg (rcs s v)) W :=
  run_loadVar_row W g 29 29 (rcs s v) (0, 0) _ h Try.underlying29 rfl (by kernel_rfl)
theorem RX.load {w W : World} {s : St} {v : Value} (h : RX w s v W) : (loadVar 29 ⟨w.heap.size, 0, none⟩).run Try.prog W = .ok (.agg (rcs s v)) W := load_rcs h.x
set_option maxRecDepth 100000 in
set_option maxHeartbeats 1000000 in
theorem rchanged_any (w : World) (s : St) (v : Value) (A2 : Option Addr) (n2 c2 : Nat) (hd : s.down = false) (hl : s.left ≤ 9223372036854775807) (L : Fs) :
    Calls Try.prog 56 #[.agg (rcs s v), (.slice A2 n2 c2)] w fun e w' => e = .returned (.agg (rcs (chg s L) (.slice A2 n2 c2))) ∧ Hid (Below w.heap.size w w') := by
  obtain ⟨e1, e2⟩ := leftI_chg hd L
  obtain ⟨l1, l2⟩ := leftI_lim hl
  obtain ⟨l, hl'⟩ : ∃ l, leftI s = l := ⟨_, rfl⟩
  rw [hl'] at e1 e2 l1 l2
  have HV : Hid (rcs (chg s L) (.slice A2 n2 c2) = #[.int .i64 (s.limit : Int), (.slice A2 n2 c2), .int .i64 (if 0 < l then l - 1 else l), .bool (l == 1)]) := by
    show rcs _ _ = _
    unfold rcs
    rw [e1, e2]
    have : (l == 1) = decide (l = 1) := Bool.eq_iff_iff.2 (by rw [beq_iff_eq, decide_eq_true_iff])
    rw [this]
    rfl
  show Calls Try.prog 56 #[.agg #[.int .i64 (s.limit : Int), v, .int .i64 (leftI s), .bool s.down], (.slice A2 n2 c2)] w _
  rw [hl']
  clear e1 e2 hl' hd hl
  obtain ⟨b, hb⟩ : ∃ b, (l == 1) = b := ⟨_, rfl⟩
  rw [hb] at HV
  by_cases h : 0 < l
  · rw [if_pos h] at HV
    have hw : wrap64 (l - 1) = l - 1 := Mi.fits (Mi.small (by omega) (by omega))
    clear l1 l2
    go_enter Try.func56, Try.ntmps56
    go_wp2
    go_returns
    exact ⟨by rw [HV.out], Me.below_alloc (Me.below_alloc (Below.refl _ _))⟩
  · rw [if_neg h] at HV
    clear l1 l2
    go_enter Try.func56, Try.ntmps56
    go_wp2
    go_returns
    exact ⟨by rw [HV.out], Me.below_alloc (Me.below_alloc (Below.refl _ _))⟩
theorem rmayE_one (s : St) (n : Nm) : mayE s [n] = if s.down then 9 else if nameOk n then 0 else 2 := by
  unfold mayE; simp
set_option maxRecDepth 100000 in
set_option maxHeartbeats 1000000 in
theorem Ready_any (w : World) (s : St) (v : Value) (n : Nm) : Calls Try.prog 53 #[.agg (rcs s v), nmV n] w fun e w' => e = .returned (.int .i64 (mayE s [n] : Int)) ∧ Hid (Below w.heap.size w w') := by
  have HM := Lib.hid (rmayE_one s n)
  have NM := Lib.hid (fun W => RName_any n W)
  have HB : Hid (Below w.heap.size w (w.alloc (.cells (rcs s v) 29))) := Me.below_alloc (Below.refl _ _)
  show Calls Try.prog 53 #[.agg #[.int .i64 (s.limit : Int), v, .int .i64 (leftI s), .bool s.down], nmV n] w _
  unfold rcs at HB
  obtain ⟨d, hd⟩ : ∃ d, s.down = d := ⟨_, rfl⟩
  rw [hd] at HM HB ⊢
  obtain ⟨b, hb⟩ : ∃ b, nameOk n = b := ⟨_, rfl⟩
  rw [hb] at HM NM
  clear hd hb
  cases d with
  | true =>
    go_enter Try.func53, Try.ntmps53
    go_wp2
    go_ret
    exact ⟨by rw [HM.out]; rfl, HB⟩
  | false =>
    cases b with
    | true =>
      go_enter Try.func53, Try.ntmps53
      go_wp2_with (go_at_call 67; refine (NM.out _).mono ?_; rintro e w1 ⟨rfl, hb1⟩)
      go_ret
      exact ⟨by rw [HM.out]; rfl, HB.out.trans (hb1.out.mono HB.out.size)⟩
    | false =>
      go_enter Try.func53, Try.ntmps53
      go_wp2_with (go_at_call 67; refine (NM.out _).mono ?_; rintro e w1 ⟨rfl, hb1⟩)
      go_ret
      exact ⟨by rw [HM.out]; rfl, HB.out.trans (hb1.out.mono HB.out.size)⟩
theorem findE_may (s : St) (n : Nm) : findE s n = if mayE s [n] = 0 then (if (look s.files n).isNone then 4 else 0) else mayE s [n] := by
  rw [rmayE_one]
  unfold findE
  cases s.down <;> cases nameOk n <;> cases look s.files n <;> simp
theorem mayE_vals (s : St) (n : Nm) : mayE s [n] = 0 ∨ mayE s [n] = 9 ∨ mayE s [n] = 2 := by
  rw [rmayE_one]
  cases s.down <;> cases nameOk n <;> simp
section
variable {Q : Nat → Prop} (w : World) (s : St) (v : Value) (hv : Hid (Fv Q w v s.files))
include hv
set_option maxRecDepth 100000 in
set_option maxHeartbeats 2000000 in
theorem There_any (hs : Srt s.files) (n : Nm) : Calls Try.prog 58 #[.agg (rcs s v), nmV n] w fun e w' => e = .returned (.int .i64 (findE s n : Int)) ∧ Hid (Below w.heap.size w w') := by
  have HF := Lib.hid (findE_may s n)
  have RD := Lib.hid (fun W => Ready_any W s v n)
  have PL := Lib.hid (fun (W : World) (hW : RX w s v W) => Place_any W s v (hv.out.below hW.b) hs n)
  obtain ⟨W0, hW0⟩ : ∃ W0, w.alloc (.cells (rcs s v) 29) = W0 := ⟨_, rfl⟩
  have HWE := Lib.hid hW0
  have HX0 : Hid (RX w s v W0) := by show RX _ _ _ _; rw [← hW0]; exact RX.new w s v
  have hl0 := HX0.out.load
  rw [← hW0] at hl0
  show Calls Try.prog 58 #[.agg #[.int .i64 (s.limit : Int), v, .int .i64 (leftI s), .bool s.down], nmV n] w _
  unfold rcs at HWE hl0
  obtain ⟨c, hc⟩ : ∃ c, mayE s [n] = c := ⟨_, rfl⟩
  have hcv := mayE_vals s n
  rw [hc] at RD HF hcv
  clear hW0 hc hs
  by_cases h0 : c = 0
  · subst h0
    obtain ⟨b, hb⟩ : ∃ b, (look s.files n).isNone = b := ⟨_, rfl⟩
    have HF2 : Hid (findE s n = if b then 4 else 0) := by show _ = _; rw [HF.out, if_pos rfl, hb]
    have HNG : Hid (∀ z, Pl s.files n z → decide (z < 0) = b) := fun z hz => by rw [hz.neg, hb]
    clear hcv HF hb
    cases b with
    | true =>
      go_enter Try.func58, Try.ntmps58
      go_wp2_with (first
        | (go_at_call 53; rw [HWE.out]; refine (RD.out _).mono ?_; rintro e w1 ⟨rfl, hb1⟩; have HX1 := Lib.hid (HX0.out.grow hb1.out); obtain ⟨y0, y1, y2, y3⟩ := HX1.out.cells)
        | (go_at_call 54; refine (PL.out w1 HX1.out).mono ?_; rintro e w2 ⟨z, rfl, hz, hb2⟩; have hneg := HNG.out z hz.out; have HX2 := Lib.hid (HX1.out.grow hb2.out)))
      go_ret
      exact ⟨by rw [HF2.out]; rfl, HX2.out.b⟩
    | false =>
      go_enter Try.func58, Try.ntmps58
      go_wp2_with (first
        | (go_at_call 53; rw [HWE.out]; refine (RD.out _).mono ?_; rintro e w1 ⟨rfl, hb1⟩; have HX1 := Lib.hid (HX0.out.grow hb1.out); obtain ⟨y0, y1, y2, y3⟩ := HX1.out.cells)
        | (go_at_call 54; refine (PL.out w1 HX1.out).mono ?_; rintro e w2 ⟨z, rfl, hz, hb2⟩; have hneg := HNG.out z hz.out; have HX2 := Lib.hid (HX1.out.grow hb2.out)))
      go_ret
      exact ⟨by rw [HF2.out]; rfl, HX2.out.b⟩
  · have HF2 : Hid (findE s n = c) := by show _ = _; rw [HF.out, if_neg h0]
    have hne : ((c : Int) == 0) = false := beq_eq_false_iff_ne.mpr (by omega)
    have hne2 : ((c : Int) != 0) = true := by rw [bne, hne]; rfl
    clear hcv HF h0
    go_enter Try.func58, Try.ntmps58
    go_wp2_with (first
      | (go_at_call 53; rw [HWE.out]; refine (RD.out W0).mono ?_; rintro e w1 ⟨rfl, hb1⟩; have HX1 := Lib.hid (HX0.out.grow hb1.out); obtain ⟨y0, y1, y2, y3⟩ := HX1.out.cells)
      | (go_at_call 53; refine (RD.out w1).mono ?_; rintro e w2 ⟨rfl, hb2⟩; have HX2 := Lib.hid (HX1.out.grow hb2.out)))
    go_ret
    exact ⟨by rw [HF2.out]; rfl, HX2.out.b⟩
end
/-- The file of a name as the reference has it. -/
def fV (n : Nm) (f : Fl) : Array Value := #[nmV n, .string (Me.strOf (f.bytes.take f.safe)), .string (Me.strOf (f.bytes.drop f.safe))]
theorem fV_eq (n : Nm) (f : Fl) : (flV (n, f)).toArray = fV n f := rfl
theorem fV_one (n : Nm) (f : Fl) : (fV n f).all (·.oneCell') = true := by simp [fV, Value.oneCell']
theorem run_cells (ty : TypeId) (d : TypeDesc) (cs : List Value) (hu : Try.prog.underlying ty = some d) (hd : (match d with | .struct _ | .array _ _ => true | _ => false) = true) (hi : (Try.prog.info? ty).map (·.size) = some cs.length)
    (W : World) (g o : Nat) (h : ∀ j v, cs[j]? = some v → W.cell? ⟨g, o + j, none⟩ = some v) : (loadVar ty ⟨g, o, none⟩).run Try.prog W = .ok (.agg cs.toArray) W := by
  have hl : (loadCells ⟨g, o, none⟩ cs.length).run Try.prog W = .ok cs.toArray W := run_loadCells_list (P := Try.prog) W ⟨g, o, none⟩ cs (fun j v hv => by rw [add_mk]; exact h j v hv)
  cases hq : Try.prog.info? ty with
  | none => simp [hq] at hi
  | some i =>
    have hs : i.size = cs.length := by simpa [hq] using hi
    have hagg : (isAgg ty).run Try.prog W = .ok true W := by
      unfold isAgg
      rw [Sem.run_bind, run_underlying hu W]
      cases d <;> simp_all
    simp [loadVar, Sem.run_bind, hagg, sizeOf, typeInfo, hq, hs, hl]
section
variable {Q : Nat → Prop} (w : World) (s : St) (v : Value) (hv : Hid (Fv Q w v s.files))
include hv
set_option maxRecDepth 100000 in
set_option maxHeartbeats 2000000 in
theorem file_any (hs : Srt s.files) (n : Nm) : Calls Try.prog 55 #[.agg (rcs s v), nmV n] w fun e w' => e = .returned (.agg (fV n (fileOf s n))) ∧ Hid (Below w.heap.size w w') := by
  obtain ⟨A, c, rfl, h1, h2⟩ := hv.out.form
  have PL := Lib.hid (fun (W : World) (hW : RX w s (.slice A s.files.length c) W) => Place_any W s (.slice A s.files.length c) (hv.out.below hW.b) hs n)
  have HVV : Hid (∀ W, RX w s (.slice A s.files.length c) W → Fv Q W (.slice A s.files.length c) s.files) := fun W hW => hv.out.below hW.b
  obtain ⟨F, hF⟩ : ∃ F, s.files.length = F := ⟨_, rfl⟩
  have HF := Lib.hid hF
  rw [hF] at h1 PL HVV ⊢
  obtain ⟨W0, hW0⟩ : ∃ W0, (w.alloc (.cells (rcs s (.slice A F c)) 29)).alloc (.cells #[.string ⟨#[]⟩, .string ⟨#[]⟩, .string ⟨#[]⟩] 82) = W0 := ⟨_, rfl⟩
  have HWE := Lib.hid hW0
  have HX0 : Hid (RX w s (.slice A F c) W0) := by show RX _ _ _ _; rw [← hW0]; exact (RX.new w s (.slice A F c)).alloc _
  have HZ0 : Hid (W0.heap[w.heap.size + 1]? = some (.cells #[.string ⟨#[]⟩, .string ⟨#[]⟩, .string ⟨#[]⟩] 82 (0, 0))) := by
    show _ = _
    rw [← hW0]
    have := heap_alloc_new (w.alloc (.cells (rcs s (.slice A F c)) 29)) (.cells #[.string ⟨#[]⟩, .string ⟨#[]⟩, .string ⟨#[]⟩] 82)
    rw [World.size_alloc] at this
    exact this
  have HN0 : Hid (w.heap.size + 1 < W0.heap.size) := by show _ < _; rw [← hW0]; simp
  obtain ⟨y0, y1, y2, y3⟩ := HX0.out.cells
  rw [← hW0] at y0 y1 y2 y3
  show Calls Try.prog 55 #[.agg #[.int .i64 (s.limit : Int), .slice A F c, .int .i64 (leftI s), .bool s.down], nmV n] w _
  unfold rcs at HWE y0 y1 y2 y3
  clear hW0 hF
  cases hlk : look s.files n with
  | none =>
    have HNG : Hid (∀ z, Pl s.files n z → decide (z < 0) = true) := fun z hz => by rw [hz.neg, hlk]; rfl
    have HE : Hid (fV n (fileOf s n) = #[nmV n, .string ⟨#[]⟩, .string ⟨#[]⟩]) := by show _ = _; unfold fV fileOf; rw [hlk]; rfl
    clear hlk
    go_enter Try.func55, Try.ntmps55
    go_wp2_with (first
      | (go_at_call 54; rw [HWE.out]; refine (PL.out W0 HX0.out).mono ?_; rintro e w1 ⟨z, rfl, hz, hb1⟩; have hneg := HNG.out z hz.out; have HX1 := Lib.hid (HX0.out.grow hb1.out); have HZ1 := Lib.hid ((hb1.out.block _ HN0.out).trans HZ0.out))
      | (refine wpList_store_row rfl 82 (.tmp 4) (.tmp 10) rfl (w.heap.size + 1) #[nmV n, .string ⟨#[]⟩, .string ⟨#[]⟩] rfl rfl 82 _ HZ1.out (by kernel_rfl) rfl (by simp [Value.oneCell']) ?_))
    refine bodyPost_ret (v := .agg #[nmV n, .string ⟨#[]⟩, .string ⟨#[]⟩]) (results_cell_row rfl _ _ (w.heap.size + 1) 82 _ (0, 0) _ rfl (setRow_heap _ _ _ _ _ _ HZ1.out) Try.underlying82 rfl (by kernel_rfl)) rfl ⟨by rw [HE.out], (HX1.out.setRow (by omega) _).b⟩
  | some f =>
    have HPZ : Hid (∀ z, Pl s.files n z → ∃ i : Nat, z = (i : Int) ∧ i < F ∧ flAt s.files i = (n, f)) := fun z hz => by
      rcases hz with ⟨h, _⟩ | ⟨i, e, hi, hf, _⟩
      · rw [hlk] at h; cases h
      · rw [hlk] at hf; exact ⟨i, e, by rw [← HF.out]; exact hi, hf⟩
    have HE : Hid (fV n (fileOf s n) = fV n f) := by show _ = _; unfold fileOf; rw [hlk]; rfl
    have hpos : 0 < s.files.length := by
      have := look_mem hlk
      exact List.length_pos_of_mem this
    obtain ⟨g, rfl, _⟩ := (HVV.out W0 HX0.out).at_ (j := 0) hpos
    have HLF : Hid (∀ (W : World) (i : Nat), RX w s (.slice (some ⟨g, 0, none⟩) F c) W → i < F → flAt s.files i = (n, f) → W.cell? ⟨g, i * 3, none⟩ = some (nmV n) ∧ W.cell? ⟨g, i * 3 + 1, none⟩ = some (.string (Me.strOf (f.bytes.take f.safe))) ∧ W.cell? ⟨g, i * 3 + 2, none⟩ = some (.string (Me.strOf (f.bytes.drop f.safe)))) := fun W i hW hi hf => by
      obtain ⟨g', e, _, hc⟩ := (HVV.out W hW).at_ (j := i) (by rw [HF.out]; exact hi)
      cases e
      have := hc W (Below.refl _ _)
      rw [hf] at this
      exact this
    clear hlk hpos
    go_enter Try.func55, Try.ntmps55
    go_wp2_with (go_at_call 54; rw [HWE.out]; refine (PL.out W0 HX0.out).mono ?_; rintro e w1 ⟨z, rfl, hz, hb1⟩; obtain ⟨i, rfl, _, _⟩ := HPZ.out z hz.out; have hneg : ¬ (i : Int) < 0 := (by omega); have HX1 := Lib.hid (HX0.out.grow hb1.out); have HZ1 := Lib.hid ((hb1.out.block _ HN0.out).trans HZ0.out))
    clear y0 y1 y2 y3
    refine wp_region_held_drew (S := RX w s (.slice (some ⟨g, 0, none⟩) F c)) (by kernel_rfl) (HX1.out.grow ((Below.refl _ w1).drew)) (fun hHeld => ?_)
    have PL2 := Lib.hid (PL.out w1.drew (HX1.out.grow ((Below.refl _ w1).drew)))
    refine wpAnyH_take (i := 0) (v := ?vz1) rfl (by kernel_rfl) (by kernel_rfl) (by kernel_rfl) (fun _ _ _ h => h) (Or.inl ⟨by rfl, ?hyz1⟩) (by first | assumption | exact trivial) ?restz1
    case hyz1 => intro W hSW; go_simp; try (with_reducible rfl)
    simp only [Act.put, List.getElem_toArray, List.getElem_cons_succ, List.getElem_cons_zero, List.setIfInBounds_toArray, List.set_cons_zero, List.set_cons_succ]
    refine wpAnyH_take (i := 1) (v := ?vz2) rfl (by kernel_rfl) (by kernel_rfl) (by kernel_rfl) (fun _ _ _ h => h) (Or.inl ⟨by rfl, ?hyz2⟩) (by first | assumption | exact trivial) ?restz2
    case hyz2 => intro W hSW; have q1 := hSW.cells.2.1; go_simp; try (with_reducible rfl)
    simp only [Act.put, List.getElem_toArray, List.getElem_cons_succ, List.getElem_cons_zero, List.setIfInBounds_toArray, List.set_cons_zero, List.set_cons_succ]
    refine wpAnyH_take (i := 2) (v := ?vz3) rfl (by kernel_rfl) (by kernel_rfl) (by kernel_rfl) (fun _ _ _ h => h) (Or.inl ⟨by rfl, ?hyz3⟩) (by first | assumption | exact trivial) ?restz3
    case hyz3 => intro W hSW; obtain ⟨r0, r1, r2, r3⟩ := hSW.cells; go_simp; try (with_reducible rfl)
    simp only [Act.put, List.getElem_toArray, List.getElem_cons_succ, List.getElem_cons_zero, List.setIfInBounds_toArray, List.set_cons_zero, List.set_cons_succ]
    refine wpAnyH_take (i := 3) (v := ?vz4) rfl (by kernel_rfl) (by kernel_rfl) (by kernel_rfl) (fun _ _ _ h => h) (Or.inl ⟨by rfl, ?hyz4⟩) (by first | assumption | exact trivial) ?restz4
    case hyz4 => intro W hSW; go_simp; try (with_reducible rfl)
    simp only [Act.put, List.getElem_toArray, List.getElem_cons_succ, List.getElem_cons_zero, List.setIfInBounds_toArray, List.set_cons_zero, List.set_cons_succ]
    refine wpAnyH_ready (rs := [4]) (by kernel_rfl) (by simp) ?_
    refine AllReadyH.cons rfl (fun K hK => ?_) AllReadyH.nil
    go_simp
    go_wp2_with (go_at_call 54; refine PL2.out.mono ?_; rintro e w2 ⟨z, rfl, hz2, hb2⟩; obtain ⟨j, rfl, hj, hfj⟩ := HPZ.out z hz2.out; have HX2 := Lib.hid ((HX1.out.grow ((Below.refl _ w1).drew)).grow hb2.out); have HZ2 := Lib.hid ((hb2.out.block _ (show w.heap.size + 1 < w1.heap.size by have := HN0.out; have := hb1.out.size; omega)).trans HZ1.out))
    refine hK.out _ _ (HX2.out) (fun hHeld => ?_)
    clear hK K
    have t1 : (j : Int) < (F : Int) := by omega
    have t0 : (0 : Int) ≤ (j : Int) := by omega
    have HJ := Lib.hid hj
    have HFJ := Lib.hid hfj
    clear hj hfj
    refine wpAnyH_take (i := 5) (v := ?vz5) rfl (by kernel_rfl) (by kernel_rfl) (by kernel_rfl) (fun _ _ _ h => h) (Or.inl ⟨by rfl, ?hyz5⟩) (by first | assumption | exact trivial) ?restz5
    case hyz5 => intro W hSW; go_simp; try (with_reducible rfl)
    simp only [Act.put, List.getElem_toArray, List.getElem_cons_succ, List.getElem_cons_zero, List.setIfInBounds_toArray, List.set_cons_zero, List.set_cons_succ]
    refine wpAnyH_take (i := 6) (v := ?vz6) rfl (by kernel_rfl) (by kernel_rfl) (by kernel_rfl) (fun _ _ _ h => h) (Or.inl ⟨by rfl, ?hyz6⟩) (by first | assumption | exact trivial) ?restz6
    case hyz6 => intro W hSW; obtain ⟨q6, q7, q8⟩ := HLF.out W j hSW HJ.out HFJ.out; go_simp; try (with_reducible rfl)
    simp only [Act.put, List.getElem_toArray, List.getElem_cons_succ, List.getElem_cons_zero, List.setIfInBounds_toArray, List.set_cons_zero, List.set_cons_succ]
    refine wpAnyH_ready (rs := [7]) (by kernel_rfl) (by simp) ?_
    refine AllReadyH.cons rfl (fun K hK => ?_) AllReadyH.nil
    rw [if_pos (by kernel_rfl)]
    refine wp_store_row 82 (.tmp 4) (.tmp 17) rfl (w.heap.size + 1) (fV n f) rfl (by rfl) 82 _ HZ2.out (by kernel_rfl) rfl (fV_one _ _) ?_
    simp only [Act.put, List.getElem_toArray, List.getElem_cons_succ, List.getElem_cons_zero, List.setIfInBounds_toArray, List.set_cons_zero, List.set_cons_succ]
    have HX3 := Lib.hid (HX2.out.setRow (g := w.heap.size + 1) (by omega) (fV n f))
    refine hK.out _ _ (HX3.out) (fun hHeld => ?_)
    clear hK K
    refine wpAnyH_done (by kernel_rfl) ?_ _
    go_wp2
    refine bodyPost_ret (v := .agg (fV n f)) (results_cell_row rfl _ _ (w.heap.size + 1) 82 _ (0, 0) _ rfl (setRow_heap _ _ _ _ _ _ HZ2.out) Try.underlying82 rfl (by kernel_rfl)) rfl ⟨by rw [HE.out], HX3.out.b⟩
end
end Go.Proofs.Ytdjgkoklkoahbaa.Dk
