/- The contracts of the reference's Sync, Cut. -/
import Derived.Test.YtdjgkoklkoahbaaDkROps
namespace Go.Proofs.Ytdjgkoklkoahbaa.Dk
open Go.RowKit
open Go.Proofs.Ytdjgkoklkoahbaa.Me Go.Proofs.Ytdjgkoklkoahbaa.Hd
set_option linter.unusedVariables false
set_option linter.unusedSimpArgs false

theorem str_take (l : List Nat) (k : Nat) : (Me.strOf l).extract 0 k = Me.strOf (l.take k) := by
  unfold Me.strOf
  apply ByteArray.ext
  simp [ByteArray.data_extract, List.map_take]
/-- The box of a file, beside that of the disk. -/
structure KF (w : World) (s : St) (v : Value) (g : Nat) (n : Nm) (f : Fl) (W : World) : Prop where
  x : RX w s v W
  f : W.heap[g]? = some (.cells (fV n f) 82 (0, 0))
theorem KF.grow {w W W' : World} {s : St} {v : Value} {g : Nat} {n : Nm} {f : Fl} (h : KF w s v g n f W) (hb : Below W.heap.size W W') : KF w s v g n f W' := ⟨h.x.grow hb, (hb.block _ (Array.getElem?_eq_some_iff.1 h.f).1).trans h.f⟩
theorem KF.drew {w W : World} {s : St} {v : Value} {g : Nat} {n : Nm} {f : Fl} (h : KF w s v g n f W) : KF w s v g n f W.drew := h.grow ((Below.refl _ W).drew)
theorem KF.store {w W : World} {s : St} {v : Value} {g : Nat} {n : Nm} {f : Fl} (h : KF w s v g n f W) (hg : w.heap.size + 1 < g) (cs : Array Value) : KF w s v g n f (W.setRow (w.heap.size + 1) cs) := ⟨h.x.setRow (by omega) cs, (setRow_other _ _ _ _ (by omega)).trans h.f⟩
theorem KF.cells {w W : World} {s : St} {v : Value} {g : Nat} {n : Nm} {f : Fl} (h : KF w s v g n f W) : W.cell? ⟨g, 0, none⟩ = some (nmV n) ∧ W.cell? ⟨g, 1, none⟩ = some (.string (Me.strOf (f.bytes.take f.safe))) ∧ W.cell? ⟨g, 2, none⟩ = some (.string (Me.strOf (f.bytes.drop f.safe))) :=
  ⟨cell_of_row W g 0 _ _ (0, 0) h.f, cell_of_row W g 1 _ _ (0, 0) h.f, cell_of_row W g 2 _ _ (0, 0) h.f⟩
def zF : Array Value := #[.string ⟨#[]⟩, .string ⟨#[]⟩, .string ⟨#[]⟩]
theorem file_box {w W : World} {s : St} {v : Value} {z : Array Value} (h : RY w s v z W) (n : Nm) (f : Fl) : RY w s v z ((W.alloc (.cells zF 82)).setRow W.heap.size (fV n f)) ∧ KF w s v W.heap.size n f ((W.alloc (.cells zF 82)).setRow W.heap.size (fV n f)) :=
  ⟨(h.alloc _).other h.lt _, ⟨(h.x.alloc _).setRow (by have := h.lt; omega) _, setRow_heap _ _ _ _ _ _ (heap_alloc_new W _)⟩⟩
/-- The two strings of a file. -/
theorem two_strs {s : St} (ok : s.Ok) (n : Nm) : Me.strOf ((fileOf s n).bytes.take (fileOf s n).safe) ++ Me.strOf ((fileOf s n).bytes.drop (fileOf s n).safe) = Me.strOf (fileOf s n).bytes ∧ ¬ 9223372036854775807 < (Me.strOf ((fileOf s n).bytes.take (fileOf s n).safe)).size + (Me.strOf ((fileOf s n).bytes.drop (fileOf s n).safe)).size := by
  refine ⟨by rw [str_app, List.take_append_drop], ?_⟩
  have h1 := (ok.fileOf n).2.1
  have h2 := ok.use
  rw [str_size, str_size, List.length_take, List.length_drop]
  omega
section
variable {Q : Nat → Prop} (w : World) (s : St) (v : Value) (hv : Hid (Fv Q w v s.files))
include hv
set_option maxRecDepth 100000 in
set_option maxHeartbeats 4000000 in
theorem RSync_any (ok : s.Ok) (n : Nm) : Calls Try.prog 38 #[.agg (rcs s v), nmV n] w (ROp Q w (syncS s n) (findE s n)) := by
  obtain ⟨A, c, rfl, h1, h2⟩ := hv.out.form
  have HOK := Lib.hid ok
  have HVO := Lib.hid (fun (W : World) (hW : RX w s (.slice A s.files.length c) W) => fv_old hv.out hW.b)
  have TH := Lib.hid (fun (W : World) (hW : RX w s (.slice A s.files.length c) W) => There_any W s (.slice A s.files.length c) (hv.out.below hW.b) ok.srt n)
  have FI := Lib.hid (fun (W : World) (hW : RX w s (.slice A s.files.length c) W) => file_any W s (.slice A s.files.length c) (hv.out.below hW.b) ok.srt n)
  have WI := Lib.hid (fun (W : World) (hW : RX w s (.slice A s.files.length c) W) (p : Nm × Fl) => with_any W (.slice A s.files.length c) s.files (hv.out.below hW.b) (by have := ok.cnt; omega) p)
  obtain ⟨F, hF⟩ : ∃ F, s.files.length = F := ⟨_, rfl⟩
  have HFF := Lib.hid hF
  rw [hF] at h1 TH FI WI HVO ⊢
  obtain ⟨W0, hW0⟩ : ∃ W0, (w.alloc (.cells (rcs s (.slice A F c)) 29)).alloc (.cells zD 29) = W0 := ⟨_, rfl⟩
  have HWE := Lib.hid hW0
  have HY0 : Hid (RY w s (.slice A F c) zD W0) := by show RY _ _ _ _ _; rw [← hW0]; exact RY.new w s (.slice A F c)
  obtain ⟨y0, y1, y2, y3⟩ := HY0.out.x.cells
  rw [← hW0] at y0 y1 y2 y3
  show Calls Try.prog 38 #[.agg #[.int .i64 (s.limit : Int), .slice A F c, .int .i64 (leftI s), .bool s.down], nmV n] w _
  unfold rcs zD at HWE y0 y1 y2 y3
  clear hW0 hF ok
  by_cases he : findE s n = 0
  · have hd := (findE_ok he).1
    have CH := Lib.hid (fun (W : World) (A2 : Option Addr) (n2 c2 : Nat) => rchanged_any W s (.slice A F c) A2 n2 c2 hd HOK.out.left ((put s.files n ⟨(fileOf s n).bytes, (fileOf s n).bytes.length⟩)))
    have HE : Hid (syncS s n = chg s ((put s.files n ⟨(fileOf s n).bytes, (fileOf s n).bytes.length⟩))) := by show _ = _; unfold syncS; rw [if_pos he]
    rw [he] at TH ⊢
    clear he hd
    obtain ⟨e12, hsz⟩ := two_strs HOK.out n
    obtain ⟨S1, hS1⟩ : ∃ S, Me.strOf ((fileOf s n).bytes.take (fileOf s n).safe) = S := ⟨_, rfl⟩
    obtain ⟨S2, hS2⟩ : ∃ S, Me.strOf ((fileOf s n).bytes.drop (fileOf s n).safe) = S := ⟨_, rfl⟩
    have HS1 := Lib.hid hS1
    have HS2 := Lib.hid hS2
    rw [hS1, hS2] at e12 hsz
    obtain ⟨SA, hSA⟩ : ∃ S, Me.strOf (fileOf s n).bytes = S := ⟨_, rfl⟩
    have HSA := Lib.hid hSA
    rw [hSA] at e12
    clear hS1 hS2 hSA
    have WI2 : Hid (∀ (W : World), RX w s (.slice A F c) W → Calls Try.prog 57 #[.slice A F c, .agg #[nmV n, .string SA, .string ⟨#[]⟩]] W (NewF W ((put s.files n ⟨(fileOf s n).bytes, (fileOf s n).bytes.length⟩)))) := fun W hW => by
      have h := WI.out W hW (n, ⟨(fileOf s n).bytes, (fileOf s n).bytes.length⟩)
      rw [fV_eq] at h
      unfold fV at h
      simp only [fl_whole, HSA.out] at h
      exact h
    clear WI
    go_enter Try.func38, Try.ntmps38
    go_wp2_with (first
      | (go_at_call 58; rw [HWE.out]; refine (TH.out W0 HY0.out.x).mono ?_; rintro e w1 ⟨rfl, hb1⟩; have HY1 := Lib.hid (HY0.out.grow hb1.out); clear y0 y1 y2 y3; obtain ⟨y0, y1, y2, y3⟩ := HY1.out.x.cells)
      | (go_at_call 55; refine (FI.out w1 HY1.out.x).mono ?_; rintro e w2 ⟨rfl, hb2⟩; have HY2 := Lib.hid (HY1.out.grow hb2.out); clear y0 y1 y2 y3)
      | (refine wpList_store_row rfl 82 (.tmp 6) (.tmp 17) rfl w2.heap.size (fV n (fileOf s n)) rfl rfl 82 _ (heap_alloc_new w2 _) (by kernel_rfl) rfl (fV_one _ _) ?_))
    obtain ⟨g, hg⟩ : ∃ g, w2.heap.size = g := ⟨_, rfl⟩
    have HGL : Hid (w.heap.size + 1 < g) := by have := HY2.out.lt; rw [hg] at this; exact this
    have hbx := file_box HY2.out n (fileOf s n)
    obtain ⟨W3, hW3⟩ : ∃ W3, (w2.alloc (.cells zF 82)).setRow w2.heap.size (fV n (fileOf s n)) = W3 := ⟨_, rfl⟩
    rw [hW3, hg] at hbx
    have HY3 := Lib.hid hbx.1
    have HK3 := Lib.hid hbx.2
    show Code.wp _ _ _ _ ((w2.alloc (.cells zF 82)).setRow w2.heap.size (fV n (fileOf s n)))
    rw [hW3]
    simp only [hg]
    clear hW3 hbx hg
    have HFC : Hid (∀ W, KF w s (.slice A F c) g n (fileOf s n) W → W.cell? ⟨g, 0, none⟩ = some (nmV n) ∧ W.cell? ⟨g, 1, none⟩ = some (.string S1) ∧ W.cell? ⟨g, 2, none⟩ = some (.string S2)) := fun W hW => by
      have h := hW.cells
      rw [HS1.out, HS2.out] at h
      exact h
    refine wp_region_held_drew (S := KF w s (.slice A F c) g n (fileOf s n)) (by kernel_rfl) HK3.out.drew (fun hHeld => ?_)
    refine wpAnyH_take (i := 0) (v := ?vz1) rfl (by kernel_rfl) (by kernel_rfl) (by kernel_rfl) (fun _ _ _ h => h) (Or.inl ⟨by rfl, ?hyz1⟩) (by first | assumption | exact trivial) ?restz1
    case hyz1 => intro W hSW; obtain ⟨r0, r1, r2, r3⟩ := hSW.x.cells; go_simp; try (with_reducible rfl)
    simp only [Act.put, List.getElem_toArray, List.getElem_cons_succ, List.getElem_cons_zero, List.setIfInBounds_toArray, List.set_cons_zero, List.set_cons_succ]
    refine wpAnyH_take (i := 1) (v := ?vz2) rfl (by kernel_rfl) (by kernel_rfl) (by kernel_rfl) (fun _ _ _ h => h) (Or.inl ⟨by rfl, ?hyz2⟩) (by first | assumption | exact trivial) ?restz2
    case hyz2 => intro W hSW; go_simp; try (with_reducible rfl)
    simp only [Act.put, List.getElem_toArray, List.getElem_cons_succ, List.getElem_cons_zero, List.setIfInBounds_toArray, List.set_cons_zero, List.set_cons_succ]
    refine wpAnyH_take (i := 2) (v := ?vz3) rfl (by kernel_rfl) (by kernel_rfl) (by kernel_rfl) (fun _ _ _ h => h) (Or.inl ⟨by rfl, ?hyz3⟩) (by first | assumption | exact trivial) ?restz3
    case hyz3 => intro W hSW; obtain ⟨r0, r1, r2, r3⟩ := hSW.x.cells; go_simp; try (with_reducible rfl)
    simp only [Act.put, List.getElem_toArray, List.getElem_cons_succ, List.getElem_cons_zero, List.setIfInBounds_toArray, List.set_cons_zero, List.set_cons_succ]
    refine wpAnyH_take (i := 3) (v := ?vz4) rfl (by kernel_rfl) (by kernel_rfl) (by kernel_rfl) (fun _ _ _ h => h) (Or.inl ⟨by rfl, ?hyz4⟩) (by first | assumption | exact trivial) ?restz4
    case hyz4 => intro W hSW; go_simp; try (with_reducible rfl)
    simp only [Act.put, List.getElem_toArray, List.getElem_cons_succ, List.getElem_cons_zero, List.setIfInBounds_toArray, List.set_cons_zero, List.set_cons_succ]
    refine wpAnyH_take (i := 4) (v := ?vz5) rfl (by kernel_rfl) (by kernel_rfl) (by kernel_rfl) (fun _ _ _ h => h) (Or.inl ⟨by rfl, ?hyz5⟩) (by first | assumption | exact trivial) ?restz5
    case hyz5 => intro W hSW; go_simp; try (with_reducible rfl)
    simp only [Act.put, List.getElem_toArray, List.getElem_cons_succ, List.getElem_cons_zero, List.setIfInBounds_toArray, List.set_cons_zero, List.set_cons_succ]
    refine wpAnyH_take (i := 5) (v := ?vz6) rfl (by kernel_rfl) (by kernel_rfl) (by kernel_rfl) (fun _ _ _ h => h) (Or.inl ⟨by rfl, ?hyz6⟩) (by first | assumption | exact trivial) ?restz6
    case hyz6 => intro W hSW; obtain ⟨_, f1, f2⟩ := HFC.out W hSW; go_simp; try (with_reducible rfl)
    simp only [Act.put, List.getElem_toArray, List.getElem_cons_succ, List.getElem_cons_zero, List.setIfInBounds_toArray, List.set_cons_zero, List.set_cons_succ]
    refine wpAnyH_take (i := 6) (v := ?vz7) rfl (by kernel_rfl) (by kernel_rfl) (by kernel_rfl) (fun _ _ _ h => h) (Or.inl ⟨by rfl, ?hyz7⟩) (by first | assumption | exact trivial) ?restz7
    case hyz7 => intro W hSW; go_simp; try (with_reducible rfl)
    simp only [Act.put, List.getElem_toArray, List.getElem_cons_succ, List.getElem_cons_zero, List.setIfInBounds_toArray, List.set_cons_zero, List.set_cons_succ]
    refine wpAnyH_take (i := 7) (v := ?vz8) rfl (by kernel_rfl) (by kernel_rfl) (by kernel_rfl) (fun _ _ _ h => h) (Or.inl ⟨by rfl, ?hyz8⟩) (by first | assumption | exact trivial) ?restz8
    case hyz8 => intro W hSW; obtain ⟨_, f1, f2⟩ := HFC.out W hSW; go_simp; try (with_reducible rfl)
    simp only [Act.put, List.getElem_toArray, List.getElem_cons_succ, List.getElem_cons_zero, List.setIfInBounds_toArray, List.set_cons_zero, List.set_cons_succ]
    refine wpAnyH_take (i := 8) (v := ?vz9) rfl (by kernel_rfl) (by kernel_rfl) (by kernel_rfl) (fun _ _ _ h => h) (Or.inl ⟨by rfl, ?hyz9⟩) (by first | assumption | exact trivial) ?restz9
    case hyz9 => intro W hSW; go_simp; try (with_reducible rfl)
    simp only [Act.put, List.getElem_toArray, List.getElem_cons_succ, List.getElem_cons_zero, List.setIfInBounds_toArray, List.set_cons_zero, List.set_cons_succ]
    refine wpAnyH_take (i := 9) (v := ?vz10) rfl (by kernel_rfl) (by kernel_rfl) (by kernel_rfl) (fun _ _ _ h => h) (Or.inl ⟨by rfl, ?hyz10⟩) (by first | assumption | exact trivial) ?restz10
    case hyz10 => intro W hSW; go_simp; try (with_reducible rfl)
    simp only [Act.put, List.getElem_toArray, List.getElem_cons_succ, List.getElem_cons_zero, List.setIfInBounds_toArray, List.set_cons_zero, List.set_cons_succ]
    refine wpAnyH_ready (rs := [10]) (by kernel_rfl) (by simp) ?_
    refine AllReadyH.cons rfl (fun K hK => ?_) AllReadyH.nil
    go_simp
    go_wp2_with (go_at_call 57; refine (WI2.out W3.drew HY3.out.drew.x).mono ?_; rintro e w4 ⟨v4, rfl, hv4, hb4⟩; obtain ⟨A2, c2, rfl, _, _⟩ := hv4.out.form)
    have HY4 := Lib.hid (HY3.out.drew.grow hb4.out)
    have HK4 := Lib.hid (HK3.out.drew.grow hb4.out)
    refine hK.out _ _ (HK4.out) (fun hHeld => ?_)
    clear hK K
    refine wpAnyH_ready (rs := [11]) (by kernel_rfl) (by simp) ?_
    refine AllReadyH.cons rfl (fun K hK => ?_) AllReadyH.nil
    go_simp
    go_wp2_with (go_at_call 56; refine (CH.out w4 _ _ _).mono ?_; rintro e w5 ⟨rfl, hb5⟩)
    have HY5 := Lib.hid (HY4.out.grow hb5.out)
    have HK5 := Lib.hid (HK4.out.grow hb5.out)
    refine hK.out _ _ (HK5.out) (fun hHeld => ?_)
    clear hK K
    refine wpAnyH_ready (rs := [12]) (by kernel_rfl) (by simp) ?_
    refine AllReadyH.cons rfl (fun K hK => ?_) AllReadyH.nil
    rw [if_pos (by kernel_rfl)]
    refine wp_store_row 29 (.tmp 4) (.tmp 29) rfl (w.heap.size + 1) (rcs (chg s (put s.files n ⟨(fileOf s n).bytes, (fileOf s n).bytes.length⟩)) (.slice A2 ((put s.files n ⟨(fileOf s n).bytes, (fileOf s n).bytes.length⟩)).length c2)) rfl (by rfl) 29 _ HY5.out.z (by kernel_rfl) rfl (rcs_one _ _ _ _) ?_
    simp only [Act.put, List.getElem_toArray, List.getElem_cons_succ, List.getElem_cons_zero, List.setIfInBounds_toArray, List.set_cons_zero, List.set_cons_succ]
    have HY6 := Lib.hid (HY5.out.store (rcs (chg s (put s.files n ⟨(fileOf s n).bytes, (fileOf s n).bytes.length⟩)) (.slice A2 ((put s.files n ⟨(fileOf s n).bytes, (fileOf s n).bytes.length⟩)).length c2)))
    have HK6 := Lib.hid (HK5.out.store HGL.out (rcs (chg s (put s.files n ⟨(fileOf s n).bytes, (fileOf s n).bytes.length⟩)) (.slice A2 ((put s.files n ⟨(fileOf s n).bytes, (fileOf s n).bytes.length⟩)).length c2)))
    refine hK.out _ _ (HK6.out) (fun hHeld => ?_)
    clear hK K
    refine wpAnyH_take (i := 13) (v := ?vz11) rfl (by kernel_rfl) (by kernel_rfl) (by kernel_rfl) (fun _ _ _ h => h) (Or.inl ⟨by rfl, ?hyz11⟩) (by first | assumption | exact trivial) ?restz11
    case hyz11 => intro W hSW; go_simp; try (with_reducible rfl)
    simp only [Act.put, List.getElem_toArray, List.getElem_cons_succ, List.getElem_cons_zero, List.setIfInBounds_toArray, List.set_cons_zero, List.set_cons_succ]
    refine wpAnyH_done (by kernel_rfl) ?_ _
    go_wp2
    refine ret_cell rfl rfl HY6.out.z rfl Try.underlying29 (by kernel_rfl) rfl ?_
    have hz3 := HY3.out.lt
    refine ⟨A2, _, c2, by rw [HE.out]; rfl, ?_, HY6.out.x.b⟩
    rw [HE.out]
    have q1 : Fv (fun b => W3.drew.heap.size ≤ b) w5 (.slice A2 ((put s.files n ⟨(fileOf s n).bytes, (fileOf s n).bytes.length⟩)).length c2) ((put s.files n ⟨(fileOf s n).bytes, (fileOf s n).bytes.length⟩)) := hv4.out.below hb5.out
    exact fv_new (fv_keep q1 (by show ¬ W3.heap.size ≤ _; omega) _) (by show w.heap.size ≤ W3.heap.size; omega)
  · have HE : Hid (syncS s n = s) := by show _ = _; unfold syncS; rw [if_neg he]
    obtain ⟨q, hq⟩ : ∃ q, findE s n = q := ⟨_, rfl⟩
    rw [hq] at he TH
    have HQ := Lib.hid hq
    have hne : ((q : Int) == 0) = false := beq_eq_false_iff_ne.mpr (by omega)
    have hne2 : ((q : Int) != 0) = true := by rw [bne, hne]; rfl
    clear he hq FI WI
    go_enter Try.func38, Try.ntmps38
    go_wp2_with (go_at_call 58; rw [HWE.out]; refine (TH.out W0 HY0.out.x).mono ?_; rintro e w1 ⟨rfl, hb1⟩; have HY1 := Lib.hid (HY0.out.grow hb1.out))
    clear y0 y1 y2 y3
    refine wp_region_held_drew (S := RX w s (.slice A F c)) (by kernel_rfl) HY1.out.drew.x (fun hHeld => ?_)
    refine wpAnyH_take (i := 0) (v := ?vz12) rfl (by kernel_rfl) (by kernel_rfl) (by kernel_rfl) (fun _ _ _ h => h) (Or.inl ⟨by rfl, ?hyz12⟩) (by first | assumption | exact trivial) ?restz12
    case hyz12 => intro W hSW; obtain ⟨r0, r1, r2, r3⟩ := hSW.cells; go_simp; try (with_reducible rfl)
    simp only [Act.put, List.getElem_toArray, List.getElem_cons_succ, List.getElem_cons_zero, List.setIfInBounds_toArray, List.set_cons_zero, List.set_cons_succ]
    refine wpAnyH_take (i := 1) (v := ?vz13) rfl (by kernel_rfl) (by kernel_rfl) (by kernel_rfl) (fun _ _ _ h => h) (Or.inl ⟨by rfl, ?hyz13⟩) (by first | assumption | exact trivial) ?restz13
    case hyz13 => intro W hSW; obtain ⟨r0, r1, r2, r3⟩ := hSW.cells; go_simp; try (with_reducible rfl)
    simp only [Act.put, List.getElem_toArray, List.getElem_cons_succ, List.getElem_cons_zero, List.setIfInBounds_toArray, List.set_cons_zero, List.set_cons_succ]
    refine wpAnyH_take (i := 2) (v := ?vz14) rfl (by kernel_rfl) (by kernel_rfl) (by kernel_rfl) (fun _ _ _ h => h) (Or.inl ⟨by rfl, ?hyz14⟩) (by first | assumption | exact trivial) ?restz14
    case hyz14 => intro W hSW; go_simp; try (with_reducible rfl)
    simp only [Act.put, List.getElem_toArray, List.getElem_cons_succ, List.getElem_cons_zero, List.setIfInBounds_toArray, List.set_cons_zero, List.set_cons_succ]
    refine wpAnyH_ready (rs := [3]) (by kernel_rfl) (by simp) ?_
    refine AllReadyH.cons rfl (fun K hK => ?_) AllReadyH.nil
    go_simp
    go_wp2_with (go_at_call 58; refine (TH.out w1.drew HY1.out.drew.x).mono ?_; rintro e wE ⟨rfl, hbE⟩)
    have HYE := Lib.hid (HY1.out.drew.grow hbE.out)
    refine hK.out _ _ (HYE.out.x) (fun hHeld => ?_)
    clear hK K
    refine wpAnyH_ready (rs := [4]) (by kernel_rfl) (by simp) ?_
    refine AllReadyH.cons rfl (fun K hK => ?_) AllReadyH.nil
    rw [if_pos (by kernel_rfl)]
    refine wp_store_row 29 (.tmp 4) (.tmp 11) rfl (w.heap.size + 1) (rcs s (.slice A F c)) rfl (by rfl) 29 _ HYE.out.z (by kernel_rfl) rfl (rcs_one _ _ _ _) ?_
    simp only [Act.put, List.getElem_toArray, List.getElem_cons_succ, List.getElem_cons_zero, List.setIfInBounds_toArray, List.set_cons_zero, List.set_cons_succ]
    have HYF := Lib.hid (HYE.out.store (rcs s (.slice A F c)))
    refine hK.out _ _ (HYF.out.x) (fun hHeld => ?_)
    clear hK K
    refine wpAnyH_take (i := 5) (v := ?vz15) rfl (by kernel_rfl) (by kernel_rfl) (by kernel_rfl) (fun _ _ _ h => h) (Or.inl ⟨by rfl, ?hyz15⟩) (by first | assumption | exact trivial) ?restz15
    case hyz15 => intro W hSW; go_simp; try (with_reducible rfl)
    simp only [Act.put, List.getElem_toArray, List.getElem_cons_succ, List.getElem_cons_zero, List.setIfInBounds_toArray, List.set_cons_zero, List.set_cons_succ]
    refine wpAnyH_done (by kernel_rfl) ?_ _
    go_wp2
    refine ret_cell rfl rfl HYF.out.z rfl Try.underlying29 (by kernel_rfl) rfl ?_
    exact ⟨A, F, c, by rw [HE.out, HQ.out]; rfl, by rw [HE.out]; exact HVO.out _ HYF.out.x, HYF.out.x.b⟩
set_option maxRecDepth 100000 in
set_option maxHeartbeats 8000000 in
theorem RCut_any (ok : s.Ok) (n : Nm) (k : Int) : Calls Try.prog 39 #[.agg (rcs s v), nmV n, .int .i64 k] w (ROp Q w (cutS s n k) (cutE s n k)) := by
  obtain ⟨A, c, rfl, h1, h2⟩ := hv.out.form
  have HOK := Lib.hid ok
  have HVO := Lib.hid (fun (W : World) (hW : RX w s (.slice A s.files.length c) W) => fv_old hv.out hW.b)
  have TH := Lib.hid (fun (W : World) (hW : RX w s (.slice A s.files.length c) W) => There_any W s (.slice A s.files.length c) (hv.out.below hW.b) ok.srt n)
  have FI := Lib.hid (fun (W : World) (hW : RX w s (.slice A s.files.length c) W) => file_any W s (.slice A s.files.length c) (hv.out.below hW.b) ok.srt n)
  have WI := Lib.hid (fun (W : World) (hW : RX w s (.slice A s.files.length c) W) (p : Nm × Fl) => with_any W (.slice A s.files.length c) s.files (hv.out.below hW.b) (by have := ok.cnt; omega) p)
  obtain ⟨F, hF⟩ : ∃ F, s.files.length = F := ⟨_, rfl⟩
  have HFF := Lib.hid hF
  rw [hF] at h1 TH FI WI HVO ⊢
  obtain ⟨W0, hW0⟩ : ∃ W0, (w.alloc (.cells (rcs s (.slice A F c)) 29)).alloc (.cells zD 29) = W0 := ⟨_, rfl⟩
  have HWE := Lib.hid hW0
  have HY0 : Hid (RY w s (.slice A F c) zD W0) := by show RY _ _ _ _ _; rw [← hW0]; exact RY.new w s (.slice A F c)
  obtain ⟨y0, y1, y2, y3⟩ := HY0.out.x.cells
  rw [← hW0] at y0 y1 y2 y3
  show Calls Try.prog 39 #[.agg #[.int .i64 (s.limit : Int), .slice A F c, .int .i64 (leftI s), .bool s.down], nmV n, .int .i64 k] w _
  unfold rcs zD at HWE y0 y1 y2 y3
  clear hW0 hF ok
  by_cases he : findE s n = 0
  · have hd := (findE_ok he).1
    have HFE := Lib.hid he
    rw [he] at TH
    obtain ⟨e12, hsz⟩ := two_strs HOK.out n
    obtain ⟨S1, hS1⟩ : ∃ S, Me.strOf ((fileOf s n).bytes.take (fileOf s n).safe) = S := ⟨_, rfl⟩
    obtain ⟨S2, hS2⟩ : ∃ S, Me.strOf ((fileOf s n).bytes.drop (fileOf s n).safe) = S := ⟨_, rfl⟩
    have HS1 := Lib.hid hS1
    have HS2 := Lib.hid hS2
    rw [hS1, hS2] at e12 hsz
    obtain ⟨SA, hSA⟩ : ∃ S, Me.strOf (fileOf s n).bytes = S := ⟨_, rfl⟩
    have HSA := Lib.hid hSA
    rw [hSA] at e12
    clear hS1 hS2 hSA
    have zA : SA.size = (fileOf s n).bytes.length := by rw [← HSA.out, str_size]
    by_cases hk : k < 0 ∨ (fileOf s n).bytes.length < k
    · have HC : Hid (cutE s n k = 1) := by show _ = _; unfold cutE; rw [if_neg (by rw [he]; simp), if_pos hk]
      have HE : Hid (cutS s n k = s) := by show _ = _; unfold cutS; rw [if_neg (by rw [HC.out]; simp)]
      obtain ⟨m, hm⟩ : ∃ m, (fileOf s n).bytes.length = m := ⟨_, rfl⟩
      rw [hm] at hk zA
      clear he hd hm WI
      by_cases hk0 : k < 0
      · clear hk
        go_enter Try.func39, Try.ntmps39
        go_wp2_with (first
          | (go_at_call 58; rw [HWE.out]; refine (TH.out W0 HY0.out.x).mono ?_; rintro e w1 ⟨rfl, hb1⟩; have HY1 := Lib.hid (HY0.out.grow hb1.out); clear y0 y1 y2 y3; obtain ⟨y0, y1, y2, y3⟩ := HY1.out.x.cells)
          | (go_at_call 55; refine (FI.out w1 HY1.out.x).mono ?_; rintro e w2 ⟨rfl, hb2⟩; have HY2 := Lib.hid (HY1.out.grow hb2.out); clear y0 y1 y2 y3)
          | (refine wpList_store_row rfl 82 (.tmp 8) (.tmp 20) rfl w2.heap.size (fV n (fileOf s n)) rfl rfl 82 _ (heap_alloc_new w2 _) (by kernel_rfl) rfl (fV_one _ _) ?_; have hbx := file_box HY2.out n (fileOf s n); unfold zF at hbx; obtain ⟨W3, hW3⟩ : ∃ W3, (w2.alloc (.cells #[.string ⟨#[]⟩, .string ⟨#[]⟩, .string ⟨#[]⟩] 82)).setRow w2.heap.size (fV n (fileOf s n)) = W3 := ⟨_, rfl⟩; rw [hW3] at hbx ⊢; have hgl := HY2.out.lt; obtain ⟨g, hg⟩ : ∃ g, w2.heap.size = g := ⟨_, rfl⟩; simp only [hg] at hbx hgl ⊢; have HGL := Lib.hid hgl; have HY3 := Lib.hid hbx.1; have HK3 := Lib.hid hbx.2; clear hW3 hbx hg hgl; have HFC : Hid (∀ W, KF w s (.slice A F c) g n (fileOf s n) W → W.cell? ⟨g, 0, none⟩ = some (nmV n) ∧ W.cell? ⟨g, 1, none⟩ = some (.string S1) ∧ W.cell? ⟨g, 2, none⟩ = some (.string S2)) := (fun W hW => by have h := hW.cells; rw [HS1.out, HS2.out] at h; exact h); obtain ⟨_, f1, f2⟩ := HFC.out W3 HK3.out; obtain ⟨y0, y1, y2, y3⟩ := HY3.out.x.cells)
          | (refine wpList_store_row rfl 29 (.tmp 6) (.tmp 34) rfl (w.heap.size + 1) (rcs s (.slice A F c)) rfl rfl 29 _ HY3.out.z (by kernel_rfl) rfl (rcs_one _ _ _ _) ?_; have HYF := Lib.hid (HY3.out.store (rcs s (.slice A F c)))))
        refine ret_cell rfl rfl HYF.out.z rfl Try.underlying29 (by kernel_rfl) rfl ?_
        exact ⟨A, F, c, by rw [HE.out, HC.out]; rfl, by rw [HE.out]; exact HVO.out _ HYF.out.x, HYF.out.x.b⟩
      · have hk1 : (m : Int) < k := by omega
        clear hk
        go_enter Try.func39, Try.ntmps39
        go_wp2_with (first
          | (go_at_call 58; rw [HWE.out]; refine (TH.out W0 HY0.out.x).mono ?_; rintro e w1 ⟨rfl, hb1⟩; have HY1 := Lib.hid (HY0.out.grow hb1.out); clear y0 y1 y2 y3; obtain ⟨y0, y1, y2, y3⟩ := HY1.out.x.cells)
          | (go_at_call 55; refine (FI.out w1 HY1.out.x).mono ?_; rintro e w2 ⟨rfl, hb2⟩; have HY2 := Lib.hid (HY1.out.grow hb2.out); clear y0 y1 y2 y3)
          | (refine wpList_store_row rfl 82 (.tmp 8) (.tmp 20) rfl w2.heap.size (fV n (fileOf s n)) rfl rfl 82 _ (heap_alloc_new w2 _) (by kernel_rfl) rfl (fV_one _ _) ?_; have hbx := file_box HY2.out n (fileOf s n); unfold zF at hbx; obtain ⟨W3, hW3⟩ : ∃ W3, (w2.alloc (.cells #[.string ⟨#[]⟩, .string ⟨#[]⟩, .string ⟨#[]⟩] 82)).setRow w2.heap.size (fV n (fileOf s n)) = W3 := ⟨_, rfl⟩; rw [hW3] at hbx ⊢; have hgl := HY2.out.lt; obtain ⟨g, hg⟩ : ∃ g, w2.heap.size = g := ⟨_, rfl⟩; simp only [hg] at hbx hgl ⊢; have HGL := Lib.hid hgl; have HY3 := Lib.hid hbx.1; have HK3 := Lib.hid hbx.2; clear hW3 hbx hg hgl; have HFC : Hid (∀ W, KF w s (.slice A F c) g n (fileOf s n) W → W.cell? ⟨g, 0, none⟩ = some (nmV n) ∧ W.cell? ⟨g, 1, none⟩ = some (.string S1) ∧ W.cell? ⟨g, 2, none⟩ = some (.string S2)) := (fun W hW => by have h := hW.cells; rw [HS1.out, HS2.out] at h; exact h); obtain ⟨_, f1, f2⟩ := HFC.out W3 HK3.out; obtain ⟨y0, y1, y2, y3⟩ := HY3.out.x.cells)
          | (refine wpList_store_row rfl 29 (.tmp 6) (.tmp 34) rfl (w.heap.size + 1) (rcs s (.slice A F c)) rfl rfl 29 _ HY3.out.z (by kernel_rfl) rfl (rcs_one _ _ _ _) ?_; have HYF := Lib.hid (HY3.out.store (rcs s (.slice A F c)))))
        refine ret_cell rfl rfl HYF.out.z rfl Try.underlying29 (by kernel_rfl) rfl ?_
        exact ⟨A, F, c, by rw [HE.out, HC.out]; rfl, by rw [HE.out]; exact HVO.out _ HYF.out.x, HYF.out.x.b⟩
    · have HC : Hid (cutE s n k = 0) := by show _ = _; unfold cutE; rw [if_neg (by rw [he]; simp), if_neg hk]
      have CH := Lib.hid (fun (W : World) (A2 : Option Addr) (n2 c2 : Nat) => rchanged_any W s (.slice A F c) A2 n2 c2 hd HOK.out.left (put s.files n ⟨(fileOf s n).bytes.take k.toNat, k.toNat⟩))
      have HE : Hid (cutS s n k = chg s (put s.files n ⟨(fileOf s n).bytes.take k.toNat, k.toNat⟩)) := by show _ = _; unfold cutS; rw [if_pos HC.out]
      have hcut := fl_cut (fileOf s n).bytes (k := k.toNat) (by omega)
      obtain ⟨SB, hSB⟩ : ∃ S, Me.strOf ((fileOf s n).bytes.take k.toNat) = S := ⟨_, rfl⟩
      have hex : SA.extract 0 k.toNat = SB := by rw [← HSA.out, str_take, hSB]
      have WI2 : Hid (∀ (W : World), RX w s (.slice A F c) W → Calls Try.prog 57 #[.slice A F c, .agg #[nmV n, .string SB, .string ⟨#[]⟩]] W (NewF W (put s.files n ⟨(fileOf s n).bytes.take k.toNat, k.toNat⟩))) := fun W hW => by
        have h := WI.out W hW (n, ⟨(fileOf s n).bytes.take k.toNat, k.toNat⟩)
        rw [fV_eq] at h
        unfold fV at h
        simp only [hcut.1, hcut.2, hSB] at h
        exact h
      obtain ⟨m, hm⟩ : ∃ m, (fileOf s n).bytes.length = m := ⟨_, rfl⟩
      rw [hm] at hk zA
      have hk0 : ¬ k < 0 := by omega
      have hk1 : ¬ (m : Int) < k := by omega
      have hk2 : 0 ≤ k := by omega
      have hk3 : k ≤ (m : Int) := by omega
      clear he hd hm WI hSB hcut hk
      go_enter Try.func39, Try.ntmps39
      go_wp2_with (first
        | (go_at_call 58; rw [HWE.out]; refine (TH.out W0 HY0.out.x).mono ?_; rintro e w1 ⟨rfl, hb1⟩; have HY1 := Lib.hid (HY0.out.grow hb1.out); clear y0 y1 y2 y3; obtain ⟨y0, y1, y2, y3⟩ := HY1.out.x.cells)
        | (go_at_call 55; refine (FI.out w1 HY1.out.x).mono ?_; rintro e w2 ⟨rfl, hb2⟩; have HY2 := Lib.hid (HY1.out.grow hb2.out); clear y0 y1 y2 y3)
        | (refine wpList_store_row rfl 82 (.tmp 8) (.tmp 20) rfl w2.heap.size (fV n (fileOf s n)) rfl rfl 82 _ (heap_alloc_new w2 _) (by kernel_rfl) rfl (fV_one _ _) ?_; have hbx := file_box HY2.out n (fileOf s n); unfold zF at hbx; obtain ⟨W3, hW3⟩ : ∃ W3, (w2.alloc (.cells #[.string ⟨#[]⟩, .string ⟨#[]⟩, .string ⟨#[]⟩] 82)).setRow w2.heap.size (fV n (fileOf s n)) = W3 := ⟨_, rfl⟩; rw [hW3] at hbx ⊢; have hgl := HY2.out.lt; obtain ⟨g, hg⟩ : ∃ g, w2.heap.size = g := ⟨_, rfl⟩; simp only [hg] at hbx hgl ⊢; have HGL := Lib.hid hgl; have HY3 := Lib.hid hbx.1; have HK3 := Lib.hid hbx.2; clear hW3 hbx hg hgl; have HFC : Hid (∀ W, KF w s (.slice A F c) g n (fileOf s n) W → W.cell? ⟨g, 0, none⟩ = some (nmV n) ∧ W.cell? ⟨g, 1, none⟩ = some (.string S1) ∧ W.cell? ⟨g, 2, none⟩ = some (.string S2)) := (fun W hW => by have h := hW.cells; rw [HS1.out, HS2.out] at h; exact h); obtain ⟨_, f1, f2⟩ := HFC.out W3 HK3.out; obtain ⟨y0, y1, y2, y3⟩ := HY3.out.x.cells))
      clear y0 y1 y2 y3 f1 f2
      refine wp_region_held_drew (S := KF w s (.slice A F c) g n (fileOf s n)) (by kernel_rfl) HK3.out.drew (fun hHeld => ?_)
      refine wpAnyH_take (i := 0) (v := ?vz16) rfl (by kernel_rfl) (by kernel_rfl) (by kernel_rfl) (fun _ _ _ h => h) (Or.inl ⟨by rfl, ?hyz16⟩) (by first | assumption | exact trivial) ?restz16
      case hyz16 => intro W hSW; obtain ⟨r0, r1, r2, r3⟩ := hSW.x.cells; go_simp; try (with_reducible rfl)
      simp only [Act.put, List.getElem_toArray, List.getElem_cons_succ, List.getElem_cons_zero, List.setIfInBounds_toArray, List.set_cons_zero, List.set_cons_succ]
      refine wpAnyH_take (i := 1) (v := ?vz17) rfl (by kernel_rfl) (by kernel_rfl) (by kernel_rfl) (fun _ _ _ h => h) (Or.inl ⟨by rfl, ?hyz17⟩) (by first | assumption | exact trivial) ?restz17
      case hyz17 => intro W hSW; go_simp; try (with_reducible rfl)
      simp only [Act.put, List.getElem_toArray, List.getElem_cons_succ, List.getElem_cons_zero, List.setIfInBounds_toArray, List.set_cons_zero, List.set_cons_succ]
      refine wpAnyH_take (i := 2) (v := ?vz18) rfl (by kernel_rfl) (by kernel_rfl) (by kernel_rfl) (fun _ _ _ h => h) (Or.inl ⟨by rfl, ?hyz18⟩) (by first | assumption | exact trivial) ?restz18
      case hyz18 => intro W hSW; obtain ⟨r0, r1, r2, r3⟩ := hSW.x.cells; go_simp; try (with_reducible rfl)
      simp only [Act.put, List.getElem_toArray, List.getElem_cons_succ, List.getElem_cons_zero, List.setIfInBounds_toArray, List.set_cons_zero, List.set_cons_succ]
      refine wpAnyH_take (i := 3) (v := ?vz19) rfl (by kernel_rfl) (by kernel_rfl) (by kernel_rfl) (fun _ _ _ h => h) (Or.inl ⟨by rfl, ?hyz19⟩) (by first | assumption | exact trivial) ?restz19
      case hyz19 => intro W hSW; go_simp; try (with_reducible rfl)
      simp only [Act.put, List.getElem_toArray, List.getElem_cons_succ, List.getElem_cons_zero, List.setIfInBounds_toArray, List.set_cons_zero, List.set_cons_succ]
      refine wpAnyH_take (i := 4) (v := ?vz20) rfl (by kernel_rfl) (by kernel_rfl) (by kernel_rfl) (fun _ _ _ h => h) (Or.inl ⟨by rfl, ?hyz20⟩) (by first | assumption | exact trivial) ?restz20
      case hyz20 => intro W hSW; go_simp; try (with_reducible rfl)
      simp only [Act.put, List.getElem_toArray, List.getElem_cons_succ, List.getElem_cons_zero, List.setIfInBounds_toArray, List.set_cons_zero, List.set_cons_succ]
      refine wpAnyH_take (i := 5) (v := ?vz21) rfl (by kernel_rfl) (by kernel_rfl) (by kernel_rfl) (fun _ _ _ h => h) (Or.inl ⟨by rfl, ?hyz21⟩) (by first | assumption | exact trivial) ?restz21
      case hyz21 => intro W hSW; go_simp; try (with_reducible rfl)
      simp only [Act.put, List.getElem_toArray, List.getElem_cons_succ, List.getElem_cons_zero, List.setIfInBounds_toArray, List.set_cons_zero, List.set_cons_succ]
      refine wpAnyH_take (i := 6) (v := ?vz22) rfl (by kernel_rfl) (by kernel_rfl) (by kernel_rfl) (fun _ _ _ h => h) (Or.inl ⟨by rfl, ?hyz22⟩) (by first | assumption | exact trivial) ?restz22
      case hyz22 => intro W hSW; go_simp; try (with_reducible rfl)
      simp only [Act.put, List.getElem_toArray, List.getElem_cons_succ, List.getElem_cons_zero, List.setIfInBounds_toArray, List.set_cons_zero, List.set_cons_succ]
      refine wpAnyH_take (i := 7) (v := ?vz23) rfl (by kernel_rfl) (by kernel_rfl) (by kernel_rfl) (fun _ _ _ h => h) (Or.inl ⟨by rfl, ?hyz23⟩) (by first | assumption | exact trivial) ?restz23
      case hyz23 => intro W hSW; go_simp; try (with_reducible rfl)
      simp only [Act.put, List.getElem_toArray, List.getElem_cons_succ, List.getElem_cons_zero, List.setIfInBounds_toArray, List.set_cons_zero, List.set_cons_succ]
      refine wpAnyH_ready (rs := [8]) (by kernel_rfl) (by simp) ?_
      refine AllReadyH.cons rfl (fun K hK => ?_) AllReadyH.nil
      go_simp
      go_wp2_with (go_at_call 57; refine (WI2.out W3.drew HY3.out.drew.x).mono ?_; rintro e w4 ⟨v4, rfl, hv4, hb4⟩; obtain ⟨A2, c2, rfl, _, _⟩ := hv4.out.form)
      have HY4 := Lib.hid (HY3.out.drew.grow hb4.out)
      have HK4 := Lib.hid (HK3.out.drew.grow hb4.out)
      refine hK.out _ _ (HK4.out) (fun hHeld => ?_)
      clear hK K
      refine wpAnyH_ready (rs := [9]) (by kernel_rfl) (by simp) ?_
      refine AllReadyH.cons rfl (fun K hK => ?_) AllReadyH.nil
      go_simp
      go_wp2_with (go_at_call 56; refine (CH.out w4 _ _ _).mono ?_; rintro e w5 ⟨rfl, hb5⟩)
      have HY5 := Lib.hid (HY4.out.grow hb5.out)
      have HK5 := Lib.hid (HK4.out.grow hb5.out)
      refine hK.out _ _ (HK5.out) (fun hHeld => ?_)
      clear hK K
      refine wpAnyH_ready (rs := [10]) (by kernel_rfl) (by simp) ?_
      refine AllReadyH.cons rfl (fun K hK => ?_) AllReadyH.nil
      rw [if_pos (by kernel_rfl)]
      refine wp_store_row 29 (.tmp 6) (.tmp 44) rfl (w.heap.size + 1) (rcs (chg s (put s.files n ⟨(fileOf s n).bytes.take k.toNat, k.toNat⟩)) (.slice A2 ((put s.files n ⟨(fileOf s n).bytes.take k.toNat, k.toNat⟩)).length c2)) rfl (by rfl) 29 _ HY5.out.z (by kernel_rfl) rfl (rcs_one _ _ _ _) ?_
      simp only [Act.put, List.getElem_toArray, List.getElem_cons_succ, List.getElem_cons_zero, List.setIfInBounds_toArray, List.set_cons_zero, List.set_cons_succ]
      have HY6 := Lib.hid (HY5.out.store (rcs (chg s (put s.files n ⟨(fileOf s n).bytes.take k.toNat, k.toNat⟩)) (.slice A2 ((put s.files n ⟨(fileOf s n).bytes.take k.toNat, k.toNat⟩)).length c2)))
      have HK6 := Lib.hid (HK5.out.store HGL.out (rcs (chg s (put s.files n ⟨(fileOf s n).bytes.take k.toNat, k.toNat⟩)) (.slice A2 ((put s.files n ⟨(fileOf s n).bytes.take k.toNat, k.toNat⟩)).length c2)))
      refine hK.out _ _ (HK6.out) (fun hHeld => ?_)
      clear hK K
      refine wpAnyH_take (i := 11) (v := ?vz24) rfl (by kernel_rfl) (by kernel_rfl) (by kernel_rfl) (fun _ _ _ h => h) (Or.inl ⟨by rfl, ?hyz24⟩) (by first | assumption | exact trivial) ?restz24
      case hyz24 => intro W hSW; go_simp; try (with_reducible rfl)
      simp only [Act.put, List.getElem_toArray, List.getElem_cons_succ, List.getElem_cons_zero, List.setIfInBounds_toArray, List.set_cons_zero, List.set_cons_succ]
      refine wpAnyH_done (by kernel_rfl) ?_ _
      go_wp2
      refine ret_cell rfl rfl HY6.out.z rfl Try.underlying29 (by kernel_rfl) rfl ?_
      have hz3 := HY3.out.lt
      refine ⟨A2, _, c2, by rw [HE.out, HC.out]; rfl, ?_, HY6.out.x.b⟩
      rw [HE.out]
      have q1 : Fv (fun b => W3.drew.heap.size ≤ b) w5 (.slice A2 ((put s.files n ⟨(fileOf s n).bytes.take k.toNat, k.toNat⟩)).length c2) ((put s.files n ⟨(fileOf s n).bytes.take k.toNat, k.toNat⟩)) := hv4.out.below hb5.out
      exact fv_new (fv_keep q1 (by show ¬ W3.heap.size ≤ _; omega) _) (by show w.heap.size ≤ W3.heap.size; omega)
  · have HC : Hid (cutE s n k = findE s n) := by show _ = _; unfold cutE; rw [if_pos he]
    have HE : Hid (cutS s n k = s) := by show _ = _; unfold cutS; rw [if_neg (by rw [HC.out]; exact he)]
    obtain ⟨q, hq⟩ : ∃ q, findE s n = q := ⟨_, rfl⟩
    rw [hq] at he TH
    have HQ := Lib.hid hq
    have hne : ((q : Int) == 0) = false := beq_eq_false_iff_ne.mpr (by omega)
    have hne2 : ((q : Int) != 0) = true := by rw [bne, hne]; rfl
    clear he hq FI WI
    go_enter Try.func39, Try.ntmps39
    go_wp2_with (go_at_call 58; rw [HWE.out]; refine (TH.out W0 HY0.out.x).mono ?_; rintro e w1 ⟨rfl, hb1⟩; have HY1 := Lib.hid (HY0.out.grow hb1.out))
    clear y0 y1 y2 y3
    refine wp_region_held_drew (S := RX w s (.slice A F c)) (by kernel_rfl) HY1.out.drew.x (fun hHeld => ?_)
    refine wpAnyH_take (i := 0) (v := ?vz25) rfl (by kernel_rfl) (by kernel_rfl) (by kernel_rfl) (fun _ _ _ h => h) (Or.inl ⟨by rfl, ?hyz25⟩) (by first | assumption | exact trivial) ?restz25
    case hyz25 => intro W hSW; obtain ⟨r0, r1, r2, r3⟩ := hSW.cells; go_simp; try (with_reducible rfl)
    simp only [Act.put, List.getElem_toArray, List.getElem_cons_succ, List.getElem_cons_zero, List.setIfInBounds_toArray, List.set_cons_zero, List.set_cons_succ]
    refine wpAnyH_take (i := 1) (v := ?vz26) rfl (by kernel_rfl) (by kernel_rfl) (by kernel_rfl) (fun _ _ _ h => h) (Or.inl ⟨by rfl, ?hyz26⟩) (by first | assumption | exact trivial) ?restz26
    case hyz26 => intro W hSW; obtain ⟨r0, r1, r2, r3⟩ := hSW.cells; go_simp; try (with_reducible rfl)
    simp only [Act.put, List.getElem_toArray, List.getElem_cons_succ, List.getElem_cons_zero, List.setIfInBounds_toArray, List.set_cons_zero, List.set_cons_succ]
    refine wpAnyH_take (i := 2) (v := ?vz27) rfl (by kernel_rfl) (by kernel_rfl) (by kernel_rfl) (fun _ _ _ h => h) (Or.inl ⟨by rfl, ?hyz27⟩) (by first | assumption | exact trivial) ?restz27
    case hyz27 => intro W hSW; go_simp; try (with_reducible rfl)
    simp only [Act.put, List.getElem_toArray, List.getElem_cons_succ, List.getElem_cons_zero, List.setIfInBounds_toArray, List.set_cons_zero, List.set_cons_succ]
    refine wpAnyH_ready (rs := [3]) (by kernel_rfl) (by simp) ?_
    refine AllReadyH.cons rfl (fun K hK => ?_) AllReadyH.nil
    go_simp
    go_wp2_with (go_at_call 58; refine (TH.out w1.drew HY1.out.drew.x).mono ?_; rintro e wE ⟨rfl, hbE⟩)
    have HYE := Lib.hid (HY1.out.drew.grow hbE.out)
    refine hK.out _ _ (HYE.out.x) (fun hHeld => ?_)
    clear hK K
    refine wpAnyH_ready (rs := [4]) (by kernel_rfl) (by simp) ?_
    refine AllReadyH.cons rfl (fun K hK => ?_) AllReadyH.nil
    rw [if_pos (by kernel_rfl)]
    refine wp_store_row 29 (.tmp 6) (.tmp 14) rfl (w.heap.size + 1) (rcs s (.slice A F c)) rfl (by rfl) 29 _ HYE.out.z (by kernel_rfl) rfl (rcs_one _ _ _ _) ?_
    simp only [Act.put, List.getElem_toArray, List.getElem_cons_succ, List.getElem_cons_zero, List.setIfInBounds_toArray, List.set_cons_zero, List.set_cons_succ]
    have HYF := Lib.hid (HYE.out.store (rcs s (.slice A F c)))
    refine hK.out _ _ (HYF.out.x) (fun hHeld => ?_)
    clear hK K
    refine wpAnyH_take (i := 5) (v := ?vz28) rfl (by kernel_rfl) (by kernel_rfl) (by kernel_rfl) (fun _ _ _ h => h) (Or.inl ⟨by rfl, ?hyz28⟩) (by first | assumption | exact trivial) ?restz28
    case hyz28 => intro W hSW; go_simp; try (with_reducible rfl)
    simp only [Act.put, List.getElem_toArray, List.getElem_cons_succ, List.getElem_cons_zero, List.setIfInBounds_toArray, List.set_cons_zero, List.set_cons_succ]
    refine wpAnyH_done (by kernel_rfl) ?_ _
    go_wp2
    refine ret_cell rfl rfl HYF.out.z rfl Try.underlying29 (by kernel_rfl) rfl ?_
    exact ⟨A, F, c, by rw [HE.out, HC.out, HQ.out]; rfl, by rw [HE.out]; exact HVO.out _ HYF.out.x, HYF.out.x.b⟩
end
end Go.Proofs.Ytdjgkoklkoahbaa.Dk
