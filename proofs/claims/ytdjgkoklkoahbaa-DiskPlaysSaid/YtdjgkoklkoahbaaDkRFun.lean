/- The contracts of the reference's Name, Place, Used, without, with. -/
import Derived.Test.YtdjgkoklkoahbaaDkRDef
namespace Go.Proofs.Ytdjgkoklkoahbaa.Dk
open Go.RowKit
open Go.Proofs.Ytdjgkoklkoahbaa.Me Go.Proofs.Ytdjgkoklkoahbaa.Hd
set_option linter.unusedVariables false
set_option linter.unusedSimpArgs false

/-! ### Name -/
theorem index_nm (n : Nm) {k : Nat} (h : k < n.length) (W : World) : (Instr.index 9 (.string ⟨n.toArray⟩) (.int .i64 (k : Int))).run Try.prog W = .ok (.int .u8 ((n[k].toNat : Nat) : Int)) W := by
  rw [run_index_string W 9 _ .i64 _ Try.underlying9]
  have h1 : (0 : Int) ≤ (k : Int) ∧ (k : Int) < (((⟨n.toArray⟩ : ByteArray).size : Nat) : Int) := ⟨by omega, by show (k : Int) < ((n.toArray.size : Nat) : Int); simp; exact h⟩
  rw [dif_pos h1]
  rfl
theorem ok_take {n : Nm} {k : Nat} (h : k < n.length) : (n.take (k + 1)).all chOk = ((n.take k).all chOk && chOk n[k]) := by
  have e : n.take (k + 1) = n.take k ++ [n[k]] := by rw [List.take_add_one]; simp [h]
  rw [e, List.all_append]
  simp only [List.all_cons, List.all_nil, Bool.and_true]
theorem bad_at {n : Nm} {k : Nat} (h : k < n.length) (hb : chOk n[k] = false) : nameOk n = false := by
  unfold nameOk
  have : n.all chOk = false := by
    rw [List.all_eq_false]
    exact ⟨n[k], List.getElem_mem h, by rw [hb]; simp⟩
  rw [this, Bool.and_false]
set_option maxRecDepth 100000 in
set_option maxHeartbeats 4000000 in
theorem RName_any (n : Nm) (w : World) : Calls Try.prog 67 #[nmV n] w fun e w' => e = .returned (.bool (nameOk n)) ∧ Hid (Below w.heap.size w w') := by
  obtain ⟨ns, hns⟩ : ∃ ns, (⟨n.toArray⟩ : ByteArray) = ns := ⟨_, rfl⟩
  have HNS := Lib.hid hns
  have hsz : ns.size = n.length := by rw [← hns]; show n.toArray.size = _; simp
  obtain ⟨L, hL⟩ : ∃ L, n.length = L := ⟨_, rfl⟩
  have HL := Lib.hid hL
  rw [hL] at hsz
  show Calls Try.prog 67 #[.string ⟨n.toArray⟩] w _
  rw [hns]
  clear hns hL
  by_cases h1 : L < 1
  · have HE : Hid (nameOk n = false) := by show _ = _; unfold nameOk; rw [HL.out]; simp; omega
    have g1 : (L : Int) < 1 := by omega
    clear h1
    go_enter Try.func67, Try.ntmps67
    go_wp2
    go_ret
    exact ⟨by rw [HE.out]; rfl, Below.refl _ _⟩
  · by_cases h2 : 12 < L
    · have HE : Hid (nameOk n = false) := by show _ = _; unfold nameOk; rw [HL.out]; simp; omega
      have g1 : ¬ (L : Int) < 1 := by omega
      have g2 : (12 : Int) < (L : Int) := by omega
      clear h1 h2
      go_enter Try.func67, Try.ntmps67
      go_wp2
      go_ret
      exact ⟨by rw [HE.out]; rfl, Below.refl _ _⟩
    · have g1 : ¬ (L : Int) < 1 := by omega
      have g2 : ¬ (12 : Int) < (L : Int) := by omega
      have HLO : Hid (1 ≤ L ∧ L ≤ 12) := by show _ ∧ _; omega
      clear h1 h2
      go_enter Try.func67, Try.ntmps67
      go_wp2
      go_loopw [3, 4, 5] (fun u _ _ wr => ∃ k : Nat, k ≤ L ∧ u = .int .i64 k ∧ Hid ((n.take k).all chOk = true) ∧ Hid (Below w.heap.size w wr)) (fun u _ _ _ => L - (intOf u).toNat)
      case atStart => exact ⟨0, Nat.zero_le _, rfl, rfl, Below.refl _ _⟩
      case round =>
        obtain ⟨k, hk, rfl, hall, hb⟩ := hrel
        by_cases hlt : k < L
        · have hkn : k < n.length := by rw [HL.out]; exact hlt
          have hix := index_nm n hkn
          rw [HNS.out] at hix
          have HT := Lib.hid (ok_take hkn)
          have HBAD := Lib.hid (bad_at hkn)
          obtain ⟨x, hx⟩ : ∃ x, n[k] = x := ⟨_, rfl⟩
          rw [hx] at hix HT HBAD
          have HCH : Hid (chOk x = ((decide (97 ≤ x.toNat) && decide (x.toNat ≤ 122)) || (decide (48 ≤ x.toNat) && decide (x.toNat ≤ 57)) || decide (x.toNat = 46))) := rfl
          obtain ⟨b, hbb⟩ : ∃ b, x.toNat = b := ⟨_, rfl⟩
          rw [hbb] at hix HCH
          have q1 : (k : Int) < (L : Int) := by omega
          clear hx hbb hkn
          have HGOOD : Hid (chOk x = true → (n.take (k + 1)).all chOk = true) := fun h => by rw [HT.out, hall.out, h]; rfl
          by_cases c1 : 97 ≤ b
          · have d1 : (97 : Int) ≤ (b : Int) := by omega
            have d2 : (48 : Int) ≤ (b : Int) := by omega
            by_cases c2 : b ≤ 122
            · have d3 : (b : Int) ≤ 122 := by omega
              have HX : Hid (chOk x = true) := by show _ = _; rw [HCH.out]; simp [c1, c2]
              by_cases c5 : (b : Int) ≤ 57
              · exact absurd c5 (by omega)
              · clear c1 c2
                go_wp2
                go_roundw
                case rel => exact ⟨k + 1, by omega, by go_num, HGOOD.out HX.out, hb⟩
                case measure => simp [intOf]; omega
            · have d3 : ¬ (b : Int) ≤ 122 := by omega
              have d4 : ¬ (b : Int) ≤ 57 := by omega
              have d5 : ((b : Int) == 46) = false := beq_eq_false_iff_ne.mpr (by omega)
              have HX : Hid (chOk x = false) := by show _ = _; rw [HCH.out]; simp; omega
              clear c1 c2
              go_wp2
              go_ret
              exact ⟨by rw [HBAD.out HX.out]; rfl, hb⟩
          · have d1 : ¬ (97 : Int) ≤ (b : Int) := by omega
            by_cases c3 : 48 ≤ b
            · have d2 : (48 : Int) ≤ (b : Int) := by omega
              by_cases c4 : b ≤ 57
              · have d3 : (b : Int) ≤ 57 := by omega
                have HX : Hid (chOk x = true) := by show _ = _; rw [HCH.out]; simp [c3, c4]
                clear c1 c3 c4
                go_wp2
                go_roundw
                case rel => exact ⟨k + 1, by omega, by go_num, HGOOD.out HX.out, hb⟩
                case measure => simp [intOf]; omega
              · have d3 : ¬ (b : Int) ≤ 57 := by omega
                have d5 : ((b : Int) == 46) = false := beq_eq_false_iff_ne.mpr (by omega)
                have HX : Hid (chOk x = false) := by show _ = _; rw [HCH.out]; simp; omega
                clear c1 c3 c4
                go_wp2
                go_ret
                exact ⟨by rw [HBAD.out HX.out]; rfl, hb⟩
            · have d2 : ¬ (48 : Int) ≤ (b : Int) := by omega
              by_cases c5 : b = 46
              · have HX : Hid (chOk x = true) := by show _ = _; rw [HCH.out]; simp [c5]
                subst c5
                clear c1 c3 d1 d2
                go_wp2
                go_roundw
                case rel => exact ⟨k + 1, by omega, by go_num, HGOOD.out HX.out, hb⟩
                case measure => simp [intOf]; omega
              · have d5 : ((b : Int) == 46) = false := beq_eq_false_iff_ne.mpr (by omega)
                have HX : Hid (chOk x = false) := by show _ = _; rw [HCH.out]; simp; omega
                clear c1 c3 c5
                go_wp2
                go_ret
                exact ⟨by rw [HBAD.out HX.out]; rfl, hb⟩
        · obtain rfl : k = L := by omega
          have q1 : ¬ (k : Int) < (k : Int) := by omega
          have HE : Hid (nameOk n = true) := by
            show _ = _
            have h := hall.out
            rw [List.take_of_length_le (by rw [HL.out]; exact Nat.le_refl _)] at h
            have := HLO.out
            unfold nameOk
            rw [h, HL.out]; simp; omega
          clear hk hlt
          go_wp2
          go_ret
          exact ⟨by rw [HE.out]; rfl, hb⟩
/-! ### Place, Used -/
theorem box_cells (w : World) (s : St) (v : Value) (W : World) (h : Below (w.heap.size + 1) (w.alloc (.cells (rcs s v) 29)) W) : W.heap[w.heap.size]? = some (.cells (rcs s v) 29 (0, 0)) :=
  (h.block _ (Nat.lt_succ_self _)).trans (heap_alloc_new w _)
theorem row_cells4 {W : World} {g : Nat} {s : St} {v : Value} (h : W.heap[g]? = some (.cells (rcs s v) 29 (0, 0))) :
    W.cell? ⟨g, 0, none⟩ = some (.int .i64 (s.limit : Int)) ∧ W.cell? ⟨g, 1, none⟩ = some v ∧ W.cell? ⟨g, 2, none⟩ = some (.int .i64 (leftI s)) ∧ W.cell? ⟨g, 3, none⟩ = some (.bool s.down) :=
  ⟨cell_of_row W g 0 _ _ (0, 0) h, cell_of_row W g 1 _ _ (0, 0) h, cell_of_row W g 2 _ _ (0, 0) h, cell_of_row W g 3 _ _ (0, 0) h⟩
section
variable {Q : Nat → Prop} (w : World) (s : St) (v : Value) (hv : Hid (Fv Q w v s.files))
include hv
set_option maxRecDepth 100000 in
set_option maxHeartbeats 2000000 in
theorem Place_any (hs : Srt s.files) (n : Nm) :
    Calls Try.prog 54 #[.agg (rcs s v), nmV n] w fun e w' => ∃ z, e = .returned (.int .i64 z) ∧ Hid (Pl s.files n z) ∧ Hid (Below w.heap.size w w') := by
  obtain ⟨A, c, rfl, h1, h2⟩ := hv.out.form
  have HW0 : Hid (Below w.heap.size w (w.alloc (.cells (rcs s (.slice A s.files.length c)) 29))) := Me.below_alloc (Below.refl _ _)
  have HB := Lib.hid (fun W h => (row_cells4 (box_cells w s (.slice A s.files.length c) W h)).2.1)
  have HSR := Lib.hid hs
  obtain ⟨F, hF⟩ : ∃ F, s.files.length = F := ⟨_, rfl⟩
  have HF := Lib.hid hF
  rw [hF] at HB HW0 h1 ⊢
  obtain ⟨ns, hns⟩ : ∃ ns, (⟨n.toArray⟩ : ByteArray) = ns := ⟨_, rfl⟩
  have HNS := Lib.hid hns
  show Calls Try.prog 54 #[.agg #[.int .i64 (s.limit : Int), .slice A F c, .int .i64 (leftI s), .bool s.down], .string ⟨n.toArray⟩] w _
  rw [hns]
  unfold rcs at HB HW0
  obtain ⟨W0, hW0⟩ : ∃ W0, w.alloc (.cells #[.int .i64 (s.limit : Int), .slice A F c, .int .i64 (leftI s), .bool s.down] 29) = W0 := ⟨_, rfl⟩
  have HWE := Lib.hid hW0
  rw [hW0] at HB HW0
  have HSZ : Hid (W0.heap.size = w.heap.size + 1) := by show _ = _; rw [← hW0]; simp
  rw [← HSZ.out] at HB
  clear hF hns hs hW0
  go_enter Try.func54, Try.ntmps54
  go_wp2
  rw [HWE.out]
  go_loopw [5] (fun u wr => ∃ k : Nat, k ≤ F ∧ u = .int .i64 k ∧ Hid (∀ j, j < k → (flAt s.files j).1 ≠ n) ∧ Hid (Below W0.heap.size W0 wr)) (fun u _ => F - (intOf u).toNat)
  case atStart => exact ⟨0, Nat.zero_le _, rfl, fun j hj => absurd hj (by omega), Below.refl _ _⟩
  case round =>
    obtain ⟨k, hk, rfl, hall, hb⟩ := hrel
    have y1 := HB.out wr hb.out
    have BW : Hid (Below w.heap.size w wr) := HW0.out.trans (hb.out.mono (by have := HSZ.out; omega))
    by_cases hlt : k < F
    · obtain ⟨g, rfl, hg, hc⟩ := hv.out.at_ (j := k) (by rw [HF.out]; exact hlt)
      have x1 := (hc wr BW.out).1
      obtain ⟨m, hm⟩ : ∃ m, (flAt s.files k).1 = m := ⟨_, rfl⟩
      have HM := Lib.hid hm
      have hbeq := nm_beq m n
      rw [HNS.out] at hbeq
      rw [hm] at x1
      simp only [nmV] at x1
      obtain ⟨ms, hms⟩ : ∃ ms, (⟨m.toArray⟩ : ByteArray) = ms := ⟨_, rfl⟩
      rw [hms] at x1 hbeq
      have q1 : (k : Int) < (F : Int) := by omega
      have q0 : (0 : Int) ≤ (k : Int) := by omega
      clear hm hms hc
      by_cases he : m = n
      · have HP : Hid (Pl s.files n (k : Int)) := Pl.some_of HSR.out (by rw [HF.out]; exact hlt) (HM.out.trans he)
        rw [decide_eq_true he] at hbeq
        clear he
        go_wp2
        go_ret
        exact ⟨(k : Int), rfl, HP, BW⟩
      · have HALL : Hid (∀ j, j < k + 1 → (flAt s.files j).1 ≠ n) := fun j hj => by
          by_cases e : j = k
          · subst e; rw [HM.out]; exact he
          · exact hall.out j (by omega)
        rw [decide_eq_false he] at hbeq
        clear he
        go_wp2
        go_roundw
        case rel => exact ⟨k + 1, by omega, by go_num, HALL, hb⟩
        case measure => simp [intOf]; omega
    · obtain rfl : k = F := by omega
      have q1 : ¬ (k : Int) < (k : Int) := by omega
      have HP : Hid (Pl s.files n (-1)) := Pl.none_of fun j hj => hall.out j (by rw [← HF.out]; exact hj)
      clear hk hlt
      go_wp2
      go_ret
      exact ⟨-1, rfl, HP, BW⟩
end
theorem used_app (A B : Fs) : used (A ++ B) = used A + used B := by simp [used]
theorem used_take {L : Fs} {k : Nat} (h : k < L.length) : used (L.take (k + 1)) = used (L.take k) + (flAt L k).2.bytes.length := by
  rw [take_succ h, used_app]; simp [used]
theorem used_take_le (L : Fs) (k : Nat) : used (L.take k) ≤ used L := by
  have e := used_app (L.take k) (L.drop k)
  rw [List.take_append_drop] at e
  omega
section
variable {Q : Nat → Prop} (w : World) (s : St) (v : Value) (hv : Hid (Fv Q w v s.files))
include hv
set_option maxRecDepth 100000 in
set_option maxHeartbeats 2000000 in
theorem RUsed_any (ok : s.Ok) : Calls Try.prog 46 #[.agg (rcs s v)] w fun e w' => e = .returned (.int .i64 (used s.files : Int)) ∧ Hid (Below w.heap.size w w') := by
  obtain ⟨A, c, rfl, h1, h2⟩ := hv.out.form
  have HW0 : Hid (Below w.heap.size w (w.alloc (.cells (rcs s (.slice A s.files.length c)) 29))) := Me.below_alloc (Below.refl _ _)
  have HB := Lib.hid (fun W h => (row_cells4 (box_cells w s (.slice A s.files.length c) W h)).2.1)
  have HOK := Lib.hid ok
  obtain ⟨F, hF⟩ : ∃ F, s.files.length = F := ⟨_, rfl⟩
  have HF := Lib.hid hF
  rw [hF] at HB HW0 h1 ⊢
  show Calls Try.prog 46 #[.agg #[.int .i64 (s.limit : Int), .slice A F c, .int .i64 (leftI s), .bool s.down]] w _
  unfold rcs at HB HW0
  obtain ⟨W0, hW0⟩ : ∃ W0, w.alloc (.cells #[.int .i64 (s.limit : Int), .slice A F c, .int .i64 (leftI s), .bool s.down] 29) = W0 := ⟨_, rfl⟩
  have HWE := Lib.hid hW0
  rw [hW0] at HB HW0
  have HSZ : Hid (W0.heap.size = w.heap.size + 1) := by show _ = _; rw [← hW0]; simp
  rw [← HSZ.out] at HB
  clear hF ok hW0
  go_enter Try.func46, Try.ntmps46
  go_wp2
  rw [HWE.out]
  go_loopw [3, 4] (fun x u wr => ∃ k : Nat, k ≤ F ∧ u = .int .i64 k ∧ x = .int .i64 (used (s.files.take k) : Int) ∧ Hid (Below W0.heap.size W0 wr)) (fun _ u _ => F - (intOf u).toNat)
  case atStart => exact ⟨0, Nat.zero_le _, rfl, rfl, Below.refl _ _⟩
  case round =>
    obtain ⟨k, hk, rfl, rfl, hb⟩ := hrel
    have y1 := HB.out wr hb.out
    have BW : Hid (Below w.heap.size w wr) := HW0.out.trans (hb.out.mono (by have := HSZ.out; omega))
    by_cases hlt : k < F
    · have hkF : k < s.files.length := by rw [HF.out]; exact hlt
      obtain ⟨g, rfl, hg, hc⟩ := hv.out.at_ (j := k) hkF
      obtain ⟨_, x1, x2⟩ := hc wr BW.out
      have hmem : flAt s.files k ∈ s.files := by rw [flAt_get hkF]; exact List.getElem_mem hkF
      have hsl := HOK.out.safe _ hmem
      have hst := used_take hkF
      have hst2 := used_take_le s.files (k + 1)
      have huse := HOK.out.use
      obtain ⟨S1, hS1⟩ : ∃ S, Me.strOf ((flAt s.files k).2.bytes.take (flAt s.files k).2.safe) = S := ⟨_, rfl⟩
      obtain ⟨S2, hS2⟩ : ∃ S, Me.strOf ((flAt s.files k).2.bytes.drop (flAt s.files k).2.safe) = S := ⟨_, rfl⟩
      have z1 : S1.size = (flAt s.files k).2.safe := by rw [← hS1, str_size, List.length_take]; omega
      have z2 : S2.size = (flAt s.files k).2.bytes.length - (flAt s.files k).2.safe := by rw [← hS2, str_size, List.length_drop]
      rw [hS1] at x1
      rw [hS2] at x2
      obtain ⟨a, ha⟩ : ∃ a, (flAt s.files k).2.safe = a := ⟨_, rfl⟩
      obtain ⟨b, hb'⟩ : ∃ b, (flAt s.files k).2.bytes.length - (flAt s.files k).2.safe = b := ⟨_, rfl⟩
      obtain ⟨u, hu⟩ : ∃ u, used (s.files.take k) = u := ⟨_, rfl⟩
      have HE : Hid (((used (s.files.take (k + 1)) : Nat) : Int) = (u : Int) + (a : Int) + (b : Int)) := by show _ = _; omega
      rw [hb'] at z2
      rw [ha] at z1
      rw [hu] at hst
      have u1 : (u : Int) ≤ 1048576 := by omega
      have u2 : (u : Int) + (a : Int) ≤ 1048576 := by omega
      have u3 : (u : Int) + (a : Int) + (b : Int) ≤ 1048576 := by omega
      have u4 : (a : Int) ≤ 1048576 := by omega
      have u5 : (b : Int) ≤ 1048576 := by omega
      have q1 : (k : Int) < (F : Int) := by omega
      have q0 : (0 : Int) ≤ (k : Int) := by omega
      rw [hu]
      clear hS1 hS2 ha hb' hu hst hst2 huse hsl hmem hkF hc
      go_wp2
      go_quiet (fail)
      go_wp2
      go_roundw
      case rel => exact ⟨k + 1, by omega, by go_num, by rw [HE.out], Me.below_drewN hb.out _⟩
      case measure => simp [intOf]; omega
    · obtain rfl : k = F := by omega
      have q1 : ¬ (k : Int) < (k : Int) := by omega
      have HE : Hid (used (s.files.take k) = used s.files) := by show _ = _; rw [List.take_of_length_le (by rw [HF.out]; exact Nat.le_refl _)]
      clear hk hlt
      go_wp2
      go_ret
      exact ⟨by rw [HE.out]; rfl, BW⟩
end
end Go.Proofs.Ytdjgkoklkoahbaa.Dk
