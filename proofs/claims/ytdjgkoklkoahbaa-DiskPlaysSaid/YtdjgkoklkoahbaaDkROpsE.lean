/- The contracts of the reference's Read, Limit, Arm. -/
import Derived.Test.YtdjgkoklkoahbaaDkROpsB
namespace Go.Proofs.Ytdjgkoklkoahbaa.Dk
open Go.RowKit
open Go.Proofs.Ytdjgkoklkoahbaa.Me Go.Proofs.Ytdjgkoklkoahbaa.Hd
set_option linter.unusedVariables false
set_option linter.unusedSimpArgs false

theorem file_boxX {w W : World} {s : St} {v : Value} (h : RX w s v W) (n : Nm) (f : Fl) : KF w s v W.heap.size n f ((W.alloc (.cells zF 82)).setRow W.heap.size (fV n f)) :=
  ⟨(h.alloc _).setRow h.n _, setRow_heap _ _ _ _ _ _ (heap_alloc_new W _)⟩
section
variable {Q : Nat → Prop} (w : World) (s : St) (v : Value) (hv : Hid (Fv Q w v s.files))
include hv
set_option maxRecDepth 100000 in
set_option maxHeartbeats 4000000 in
theorem RRead_any (ok : s.Ok) (n : Nm) : Calls Try.prog 42 #[.agg (rcs s v), nmV n] w fun e w' => e = .returned (.tuple #[.string (Me.strOf (readP s n)), .int .i64 (findE s n : Int)]) ∧ Hid (Below w.heap.size w w') := by
  obtain ⟨A, c, rfl, h1, h2⟩ := hv.out.form
  have TH := Lib.hid (fun (W : World) (hW : RX w s (.slice A s.files.length c) W) => There_any W s (.slice A s.files.length c) (hv.out.below hW.b) ok.srt n)
  have FI := Lib.hid (fun (W : World) (hW : RX w s (.slice A s.files.length c) W) => file_any W s (.slice A s.files.length c) (hv.out.below hW.b) ok.srt n)
  have HOK := Lib.hid ok
  obtain ⟨F, hF⟩ : ∃ F, s.files.length = F := ⟨_, rfl⟩
  rw [hF] at h1 TH FI ⊢
  obtain ⟨W0, hW0⟩ : ∃ W0, w.alloc (.cells (rcs s (.slice A F c)) 29) = W0 := ⟨_, rfl⟩
  have HWE := Lib.hid hW0
  have HX0 : Hid (RX w s (.slice A F c) W0) := by show RX _ _ _ _; rw [← hW0]; exact RX.new w s (.slice A F c)
  obtain ⟨y0, y1, y2, y3⟩ := HX0.out.cells
  rw [← hW0] at y0 y1 y2 y3
  show Calls Try.prog 42 #[.agg #[.int .i64 (s.limit : Int), .slice A F c, .int .i64 (leftI s), .bool s.down], nmV n] w _
  unfold rcs at HWE y0 y1 y2 y3
  clear hW0 hF ok
  by_cases he : findE s n = 0
  · have HR : Hid (readP s n = (fileOf s n).bytes) := by show _ = _; unfold readP; rw [if_pos he]
    rw [he] at TH ⊢
    obtain ⟨e12, hsz⟩ := two_strs HOK.out n
    obtain ⟨S1, hS1⟩ : ∃ S, Me.strOf ((fileOf s n).bytes.take (fileOf s n).safe) = S := ⟨_, rfl⟩
    obtain ⟨S2, hS2⟩ : ∃ S, Me.strOf ((fileOf s n).bytes.drop (fileOf s n).safe) = S := ⟨_, rfl⟩
    have HS1 := Lib.hid hS1
    have HS2 := Lib.hid hS2
    rw [hS1, hS2] at e12 hsz
    obtain ⟨SA, hSA⟩ : ∃ S, Me.strOf (fileOf s n).bytes = S := ⟨_, rfl⟩
    have HSA := Lib.hid hSA
    rw [hSA] at e12
    clear hS1 hS2 hSA
    clear he
    go_enter Try.func42, Try.ntmps42
    go_wp2_with (first
      | (go_at_call 58; rw [HWE.out]; refine (TH.out W0 HX0.out).mono ?_; rintro e w1 ⟨rfl, hb1⟩; have HX1 := Lib.hid (HX0.out.grow hb1.out); clear y0 y1 y2 y3; obtain ⟨y0, y1, y2, y3⟩ := HX1.out.cells)
      | (go_at_call 55; refine (FI.out w1 HX1.out).mono ?_; rintro e w2 ⟨rfl, hb2⟩; have HX2 := Lib.hid (HX1.out.grow hb2.out); clear y0 y1 y2 y3)
      | (refine wpList_store_row rfl 82 (.tmp 6) (.tmp 16) rfl w2.heap.size (fV n (fileOf s n)) rfl rfl 82 _ (heap_alloc_new w2 _) (by kernel_rfl) rfl (fV_one _ _) ?_; have hbx := file_boxX HX2.out n (fileOf s n); unfold zF at hbx; obtain ⟨W3, hW3⟩ : ∃ W3, (w2.alloc (.cells #[.string ⟨#[]⟩, .string ⟨#[]⟩, .string ⟨#[]⟩] 82)).setRow w2.heap.size (fV n (fileOf s n)) = W3 := ⟨_, rfl⟩; rw [hW3] at hbx ⊢; obtain ⟨g, hg⟩ : ∃ g, w2.heap.size = g := ⟨_, rfl⟩; simp only [hg] at hbx ⊢; have HK3 := Lib.hid hbx; clear hW3 hbx hg; obtain ⟨_, f1, f2⟩ := HK3.out.cells; rw [HS1.out] at f1; rw [HS2.out] at f2))
    go_returns
    exact ⟨by rw [HR.out, HSA.out]; rfl, HK3.out.x.b⟩
  · have HR : Hid (readP s n = []) := by show _ = _; unfold readP; rw [if_neg he]
    obtain ⟨q, hq⟩ : ∃ q, findE s n = q := ⟨_, rfl⟩
    rw [hq] at he TH ⊢
    have hne : ((q : Int) == 0) = false := beq_eq_false_iff_ne.mpr (by omega)
    have hne2 : ((q : Int) != 0) = true := by rw [bne, hne]; rfl
    clear he hq FI
    go_enter Try.func42, Try.ntmps42
    go_wp2_with (first
      | (go_at_call 58; rw [HWE.out]; refine (TH.out W0 HX0.out).mono ?_; rintro e w1 ⟨rfl, hb1⟩; have HX1 := Lib.hid (HX0.out.grow hb1.out); clear y0 y1 y2 y3; obtain ⟨y0, y1, y2, y3⟩ := HX1.out.cells)
      | (go_at_call 58; refine (TH.out w1 HX1.out).mono ?_; rintro e w2 ⟨rfl, hb2⟩; have HX2 := Lib.hid (HX1.out.grow hb2.out)))
    go_returns
    exact ⟨by rw [HR.out]; rfl, HX2.out.b⟩
set_option maxRecDepth 100000 in
set_option maxHeartbeats 4000000 in
theorem RLimit_any (k : Int) : Calls Try.prog 43 #[.agg (rcs s v), .int .i64 k] w (ROp Q w (limS s k) (limE k)) := by
  obtain ⟨A, c, rfl, h1, h2⟩ := hv.out.form
  have HVO := Lib.hid (fun (W : World) (hW : RX w s (.slice A s.files.length c) W) => fv_old hv.out hW.b)
  obtain ⟨F, hF⟩ : ∃ F, s.files.length = F := ⟨_, rfl⟩
  rw [hF] at HVO ⊢
  obtain ⟨W0, hW0⟩ : ∃ W0, (w.alloc (.cells (rcs s (.slice A F c)) 29)).alloc (.cells zD 29) = W0 := ⟨_, rfl⟩
  have HWE := Lib.hid hW0
  have HY0 : Hid (RY w s (.slice A F c) zD W0) := by show RY _ _ _ _ _; rw [← hW0]; exact RY.new w s (.slice A F c)
  obtain ⟨y0, y1, y2, y3⟩ := HY0.out.x.cells
  rw [← hW0] at y0 y1 y2 y3
  have hz := HY0.out.z
  rw [← hW0] at hz
  show Calls Try.prog 43 #[.agg #[.int .i64 (s.limit : Int), .slice A F c, .int .i64 (leftI s), .bool s.down], .int .i64 k] w _
  unfold rcs zD at HWE y0 y1 y2 y3 hz
  have HZ := Lib.hid hz
  clear hW0 hF hz
  by_cases hbad : k < 0 ∨ 1048576 < k
  · have HC : Hid (limE k = 1) := by show _ = _; unfold limE; rw [if_pos hbad]
    have HE : Hid (limS s k = s) := by show _ = _; unfold limS; rw [if_neg (by rw [HC.out]; simp)]
    by_cases hk0 : k < 0
    · clear hbad
      go_enter Try.func43, Try.ntmps43
      go_wp2_with (refine wpList_store_row rfl 29 (.tmp 4) (.tmp 12) rfl (w.heap.size + 1) (rcs s (.slice A F c)) rfl rfl 29 _ HZ.out (by kernel_rfl) rfl (rcs_one _ _ _ _) ?_; rw [HWE.out]; have HYF := Lib.hid (HY0.out.store (rcs s (.slice A F c))))
      refine ret_cell rfl rfl HYF.out.z rfl Try.underlying29 (by kernel_rfl) rfl ?_
      exact ⟨A, F, c, by rw [HC.out, HE.out]; rfl, by rw [HE.out]; exact HVO.out _ HYF.out.x, HYF.out.x.b⟩
    · have hk1 : 1048576 < k := by omega
      clear hbad
      go_enter Try.func43, Try.ntmps43
      go_wp2_with (refine wpList_store_row rfl 29 (.tmp 4) (.tmp 12) rfl (w.heap.size + 1) (rcs s (.slice A F c)) rfl rfl 29 _ HZ.out (by kernel_rfl) rfl (rcs_one _ _ _ _) ?_; rw [HWE.out]; have HYF := Lib.hid (HY0.out.store (rcs s (.slice A F c))))
      refine ret_cell rfl rfl HYF.out.z rfl Try.underlying29 (by kernel_rfl) rfl ?_
      exact ⟨A, F, c, by rw [HC.out, HE.out]; rfl, by rw [HE.out]; exact HVO.out _ HYF.out.x, HYF.out.x.b⟩
  · have HC : Hid (limE k = 0) := by show _ = _; unfold limE; rw [if_neg hbad]
    have HE : Hid (rcs (limS s k) (.slice A F c) = #[.int .i64 k, .slice A F c, .int .i64 (leftI s), .bool s.down]) := by
      show _ = _
      unfold limS
      rw [if_pos HC.out]
      show #[Value.int .i64 ((k.toNat : Nat) : Int), _, _, _] = _
      rw [Int.toNat_of_nonneg (by omega)]
      rfl
    have HEF : Hid ((limS s k).files = s.files) := by show _ = _; unfold limS; rw [if_pos HC.out]
    have hk0 : ¬ k < 0 := by omega
    have hk1 : ¬ 1048576 < k := by omega
    clear hbad
    go_enter Try.func43, Try.ntmps43
    go_wp2_with (refine wpList_store_row rfl 29 (.tmp 4) (.tmp 20) rfl (w.heap.size + 1) (rcs (limS s k) (.slice A F c)) rfl (by rw [HE.out]; rfl) 29 _ HZ.out (by kernel_rfl) rfl (rcs_one _ _ _ _) ?_; rw [HWE.out]; have HYF := Lib.hid (HY0.out.store (rcs (limS s k) (.slice A F c))))
    refine ret_cell rfl rfl HYF.out.z rfl Try.underlying29 (by kernel_rfl) rfl ?_
    exact ⟨A, F, c, by rw [HC.out]; rfl, by rw [HEF.out]; exact HVO.out _ HYF.out.x, HYF.out.x.b⟩
set_option maxRecDepth 100000 in
set_option maxHeartbeats 4000000 in
theorem RArm_any (k : Int) : Calls Try.prog 44 #[.agg (rcs s v), .int .i64 k] w (ROp Q w (armS s k) (armE s)) := by
  obtain ⟨A, c, rfl, h1, h2⟩ := hv.out.form
  have HVO := Lib.hid (fun (W : World) (hW : RX w s (.slice A s.files.length c) W) => fv_old hv.out hW.b)
  obtain ⟨F, hF⟩ : ∃ F, s.files.length = F := ⟨_, rfl⟩
  rw [hF] at HVO ⊢
  obtain ⟨W0, hW0⟩ : ∃ W0, (w.alloc (.cells (rcs s (.slice A F c)) 29)).alloc (.cells zD 29) = W0 := ⟨_, rfl⟩
  have HWE := Lib.hid hW0
  have HY0 : Hid (RY w s (.slice A F c) zD W0) := by show RY _ _ _ _ _; rw [← hW0]; exact RY.new w s (.slice A F c)
  obtain ⟨y0, y1, y2, y3⟩ := HY0.out.x.cells
  rw [← hW0] at y0 y1 y2 y3
  have hz := HY0.out.z
  rw [← hW0] at hz
  show Calls Try.prog 44 #[.agg #[.int .i64 (s.limit : Int), .slice A F c, .int .i64 (leftI s), .bool s.down], .int .i64 k] w _
  unfold rcs zD at HWE y0 y1 y2 y3 hz
  have HZ := Lib.hid hz
  clear hW0 hF hz
  have HLR := Lib.hid (fun hd => leftI_arm (s := s) hd k)
  obtain ⟨d, hd⟩ : ∃ d, s.down = d := ⟨_, rfl⟩
  have HD := Lib.hid hd
  cases d with
  | true =>
    have HC : Hid (armE s = 9) := by show _ = _; unfold armE; rw [hd]; rfl
    have HE : Hid (armS s k = s) := by show _ = _; unfold armS; rw [hd]; rfl
    rw [hd] at y0 y1 y2 y3 HWE HZ ⊢
    have HRC : Hid (rcs s (.slice A F c) = #[.int .i64 (s.limit : Int), .slice A F c, .int .i64 (leftI s), .bool true]) := by show _ = _; unfold rcs; rw [hd]
    clear hd HLR
    go_enter Try.func44, Try.ntmps44
    go_wp2_with (refine wpList_store_row rfl 29 (.tmp 4) (.tmp 8) rfl (w.heap.size + 1) (rcs s (.slice A F c)) rfl (by rw [HRC.out]; rfl) 29 _ HZ.out (by kernel_rfl) rfl (rcs_one _ _ _ _) ?_; rw [HWE.out]; have HYF := Lib.hid (HY0.out.store (rcs s (.slice A F c))))
    refine ret_cell rfl rfl HYF.out.z rfl Try.underlying29 (by kernel_rfl) rfl ?_
    exact ⟨A, F, c, by rw [HC.out, HE.out]; rfl, by rw [HE.out]; exact HVO.out _ HYF.out.x, HYF.out.x.b⟩
  | false =>
    have HC : Hid (armE s = 0) := by show _ = _; unfold armE; rw [hd]; rfl
    have HEF : Hid ((armS s k).files = s.files) := by show _ = _; unfold armS; rw [hd]; rfl
    have HEL : Hid ((armS s k).limit = s.limit) := by show _ = _; unfold armS; rw [hd]; rfl
    obtain ⟨e1, e2⟩ := HLR.out hd
    rw [hd] at y0 y1 y2 y3 HWE HZ ⊢
    by_cases hk0 : k < 0
    · rw [if_pos hk0] at e1
      rw [show decide (k = 0) = false by simp; omega] at e2
      have HRC : Hid (rcs (armS s k) (.slice A F c) = #[.int .i64 (s.limit : Int), .slice A F c, .int .i64 (-1), .bool false]) := by show _ = _; unfold rcs; rw [e1, e2, HEL.out]
      clear hd HLR e1 e2
      go_enter Try.func44, Try.ntmps44
      go_wp2_with (refine wpList_store_row rfl 29 (.tmp 4) (.tmp 18) rfl (w.heap.size + 1) (rcs (armS s k) (.slice A F c)) rfl (by rw [HRC.out]; rfl) 29 _ HZ.out (by kernel_rfl) rfl (rcs_one _ _ _ _) ?_; rw [HWE.out]; have HYF := Lib.hid (HY0.out.store (rcs (armS s k) (.slice A F c))))
      refine ret_cell rfl rfl HYF.out.z rfl Try.underlying29 (by kernel_rfl) rfl ?_
      exact ⟨A, F, c, by rw [HC.out]; rfl, by rw [HEF.out]; exact HVO.out _ HYF.out.x, HYF.out.x.b⟩
    · rw [if_neg hk0] at e1
      by_cases hz0 : k = 0
      · subst hz0
        rw [show decide ((0 : Int) = 0) = true from rfl] at e2
        have HRC : Hid (rcs (armS s 0) (.slice A F c) = #[.int .i64 (s.limit : Int), .slice A F c, .int .i64 0, .bool true]) := by show _ = _; unfold rcs; rw [e1, e2, HEL.out]
        clear hd HLR e1 e2
        go_enter Try.func44, Try.ntmps44
        go_wp2_with (refine wpList_store_row rfl 29 (.tmp 4) (.tmp 18) rfl (w.heap.size + 1) (rcs (armS s 0) (.slice A F c)) rfl (by rw [HRC.out]; rfl) 29 _ HZ.out (by kernel_rfl) rfl (rcs_one _ _ _ _) ?_; rw [HWE.out]; have HYF := Lib.hid (HY0.out.store (rcs (armS s 0) (.slice A F c))))
        refine ret_cell rfl rfl HYF.out.z rfl Try.underlying29 (by kernel_rfl) rfl ?_
        exact ⟨A, F, c, by rw [HC.out]; rfl, by rw [HEF.out]; exact HVO.out _ HYF.out.x, HYF.out.x.b⟩
      · rw [show decide (k = 0) = false by simp; exact hz0] at e2
        have HRC : Hid (rcs (armS s k) (.slice A F c) = #[.int .i64 (s.limit : Int), .slice A F c, .int .i64 k, .bool false]) := by show _ = _; unfold rcs; rw [e1, e2, HEL.out]
        have hz1 : (k == 0) = false := beq_eq_false_iff_ne.mpr hz0
        clear hd HLR e1 e2 hz0
        go_enter Try.func44, Try.ntmps44
        go_wp2_with (refine wpList_store_row rfl 29 (.tmp 4) (.tmp 18) rfl (w.heap.size + 1) (rcs (armS s k) (.slice A F c)) rfl (by rw [HRC.out]; rfl) 29 _ HZ.out (by kernel_rfl) rfl (rcs_one _ _ _ _) ?_; rw [HWE.out]; have HYF := Lib.hid (HY0.out.store (rcs (armS s k) (.slice A F c))))
        refine ret_cell rfl rfl HYF.out.z rfl Try.underlying29 (by kernel_rfl) rfl ?_
        exact ⟨A, F, c, by rw [HC.out]; rfl, by rw [HEF.out]; exact HVO.out _ HYF.out.x, HYF.out.x.b⟩
end
end Go.Proofs.Ytdjgkoklkoahbaa.Dk
