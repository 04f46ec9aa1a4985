/- Have two disks the same files? -/
import Derived.Test.YtdjgkoklkoahbaaDkDone
namespace Go.Proofs.Ytdjgkoklkoahbaa.Dk
open Go.RowKit
open Go.Proofs.Ytdjgkoklkoahbaa.Me Go.Proofs.Ytdjgkoklkoahbaa.Hd
set_option linter.unusedVariables false
set_option linter.unusedSimpArgs false

/-- A file of a disk by its place. -/
theorem at_place {st : St} (ok : st.Ok) (hd : st.down = false) {i : Nat} (hi : i < st.files.length) : findE st st.files[i].1 = 0 ∧ fileOf st st.files[i].1 = st.files[i].2 := by
  have h1 := look_at ok.srt hi
  have h2 := ok.nm _ (List.getElem_mem hi)
  refine ⟨?_, by unfold fileOf; rw [h1]; rfl⟩
  unfold findE
  simp [hd, h1, h2]
/-- What Read answers of the file at a place. -/
theorem read_place {s D mb : Nat} {st : St} (W : World) (h : Hid (Df s W D mb st)) (hd : st.down = false) {i : Nat} (hi : i < st.files.length) :
    Calls Try.prog 20 #[.pointer (some ⟨D, 0, none⟩), nmV st.files[i].1] W fun e w' => ∃ A, e = .returned (.tuple #[.slice A st.files[i].2.bytes.length st.files[i].2.bytes.length, .int .i64 0]) ∧ Hid (Me.Rd w' w'.heap.size A st.files[i].2.bytes) ∧ Hid (A = none → st.files[i].2.bytes.length = 0) ∧ Hid (Below W.heap.size W w') := by
  obtain ⟨h1, h2⟩ := at_place h.out.ok hd hi
  refine (Read_f W D mb st h st.files[i].1).mono ?_
  rintro e w' ⟨A, q1, q2, q3, _, q5⟩
  have e1 : readP st st.files[i].1 = st.files[i].2.bytes := by unfold readP; rw [if_pos h1, h2]
  rw [e1] at q1 q2 q3
  rw [h1] at q1
  exact ⟨A, q1, q2, q3, q5⟩
theorem safe_place {s D mb : Nat} {st : St} (W : World) (h : Hid (Df s W D mb st)) (hd : st.down = false) {i : Nat} (hi : i < st.files.length) :
    Calls Try.prog 21 #[.pointer (some ⟨D, 0, none⟩), nmV st.files[i].1] W fun e w' => e = .returned (.int .i64 (st.files[i].2.safe : Int)) ∧ W = w' := by
  have h2 := nameOk_len (h.out.ok.nm _ (List.getElem_mem hi))
  have h3 := Safe_f W D mb st h st.files[i].1 (by unfold maxLen; omega)
  rw [(at_place h.out.ok hd hi).2] at h3
  exact h3
set_option maxRecDepth 100000 in
set_option maxHeartbeats 8000000 in
/-- Two disks with power, the same files: it is told. -/
theorem same_yes (w : World) (s1 D1 m1 s2 D2 m2 : Nat) (st1 st2 : St) (h1 : Hid (Df s1 w D1 m1 st1)) (h2 : Hid (Df s2 w D2 m2 st2)) (hd1 : st1.down = false) (hd2 : st2.down = false) (hf : st1.files = st2.files) :
    Calls Try.prog 24 #[.pointer (some ⟨D1, 0, none⟩), .pointer (some ⟨D2, 0, none⟩)] w fun e w' => e = .returned (.bool true) ∧ Hid (Below w.heap.size w w') := by
  have N1 := Lib.hid (Names_f w D1 m1 st1 h1)
  have N2 := Lib.hid (fun (W : World) (hW : Below w.heap.size w W) => Names_f W D2 m2 st2 (h2.out.below hW))
  have U1 := Lib.hid (fun (W : World) (hW : Below w.heap.size w W) => Used_f W D1 m1 st1 (h1.out.below hW))
  have U2 := Lib.hid (fun (W : World) (hW : Below w.heap.size w W) => Used_f W D2 m2 st2 (h2.out.below hW))
  have HH1 := h1
  have HH2 := h2
  have HD1 := Lib.hid hd1
  have HD2 := Lib.hid hd2
  obtain ⟨F, hF⟩ : ∃ F, st1.files = F := ⟨_, rfl⟩
  have HF1 := Lib.hid hF
  have HF2 : Hid (st2.files = F) := hf.symm.trans hF
  rw [HF1.out] at N1 U1
  rw [HF2.out] at N2 U2
  obtain ⟨u, hu⟩ : ∃ u, used F = u := ⟨_, rfl⟩
  rw [hu] at U1 U2
  obtain ⟨L, hL⟩ : ∃ L, F.length = L := ⟨_, rfl⟩
  have HL := Lib.hid hL
  have hnl : (namesL F).length = L := by rw [← hL]; exact List.length_map ..
  clear h1 h2 hf hd1 hd2 hF hu hL
  go_enter Try.func24, Try.ntmps24
  go_wp2_with (first
    | (go_at_call 19; (with_reducible refine N1.out.mono ?_); rintro e w1 ⟨v1, rfl, hS1, hb1⟩; obtain ⟨A1, c1, rfl, hl1, hm1, hcells⟩ := hS1.out.form; rw [hnl] at hl1 hcells ⊢; have HC1 := Lib.hid hcells; have B1 := hb1; clear hcells hS1 hb1)
    | (go_at_call 19; (with_reducible refine (N2.out w1 B1.out).mono ?_); rintro e w2 ⟨v2, rfl, hS2, hb2⟩; obtain ⟨A2, c2, rfl, hl2, hm2, hcells⟩ := hS2.out.form; rw [hnl] at hl2 hcells ⊢; have HC2 := Lib.hid hcells; have B2 : Hid (Below w1.heap.size w1 w2) := hb2; have B2' : Hid (Below w.heap.size w w2) := B1.out.trans (hb2.out.mono B1.out.size); clear hcells hS2 hb2)
    | (go_at_call 25; (with_reducible refine (U1.out w2 B2'.out).mono ?_); rintro e w3 ⟨rfl, hb3⟩; have B3 : Hid (Below w2.heap.size w2 w3) := hb3; have B3' : Hid (Below w.heap.size w w3) := B2'.out.trans (hb3.out.mono B2'.out.size); clear hb3)
    | (go_at_call 25; (with_reducible refine (U2.out w3 B3'.out).mono ?_); rintro e w4 ⟨rfl, hb4⟩; have B4 : Hid (Below w2.heap.size w2 w4) := B3.out.trans (hb4.out.mono B3.out.size); have B4' : Hid (Below w.heap.size w w4) := B3'.out.trans (hb4.out.mono B3'.out.size); clear hb4))
  go_loopw [7] (fun v wr => ∃ k : Nat, k ≤ L ∧ v = .int .i64 k ∧ Hid (Below w4.heap.size w4 wr)) (fun v _ => L - (intOf v).toNat)
  case atStart => exact ⟨0, Nat.zero_le _, rfl, Below.refl _ _⟩
  case round =>
    obtain ⟨k, hk, rfl, hb⟩ := hrel
    have BW : Hid (Below w.heap.size w wr) := B4'.out.trans (hb.out.mono B4'.out.size)
    clear N1 N2 U1 U2 B3 B3'
    by_cases hlt : k < L
    · have hkF : k < F.length := by rw [HL.out]; exact hlt
      obtain ⟨g1, e1, g1a, g1b, hc1⟩ := HC1.out (by omega)
      obtain ⟨g2, e2, g2a, g2b, hc2⟩ := HC2.out (by omega)
      subst e1 e2
      obtain ⟨nm, hnm⟩ : ∃ nm, F[k].1 = nm := ⟨_, rfl⟩
      obtain ⟨f, hff⟩ : ∃ f, F[k].2 = f := ⟨_, rfl⟩
      have en : (namesL F).getD k [] = nm := by simp [namesL, hkF, hnm]
      have x1 := hc1 k hlt
      have x2 := hc2 k hlt
      rw [en] at x1 x2
      have hsz1 : w1.heap.size ≤ w2.heap.size := B2.out.size
      have X1 : Hid (∀ W, Below w4.heap.size w4 W → W.cell? ⟨g1, k, none⟩ = some (nmV nm)) := fun W hW => by
        have := B4.out.size
        rw [hW.cell (p := ⟨g1, k, none⟩) (show g1 < _ by omega), B4.out.cell (p := ⟨g1, k, none⟩) (show g1 < _ by omega), B2.out.cell (p := ⟨g1, k, none⟩) (show g1 < _ by omega)]; exact x1
      have X2 : Hid (∀ W, Below w4.heap.size w4 W → W.cell? ⟨g2, k, none⟩ = some (nmV nm)) := fun W hW => by
        have := B4.out.size
        rw [hW.cell (p := ⟨g2, k, none⟩) (show g2 < _ by omega), B4.out.cell (p := ⟨g2, k, none⟩) (show g2 < _ by omega)]; exact x2
      have R1 : Hid (∀ W, Below w.heap.size w W → Calls Try.prog 20 #[.pointer (some ⟨D1, 0, none⟩), nmV nm] W fun e w' => ∃ A, e = .returned (.tuple #[.slice A f.bytes.length f.bytes.length, .int .i64 0]) ∧ Hid (Me.Rd w' w'.heap.size A f.bytes) ∧ Hid (A = none → f.bytes.length = 0) ∧ Hid (Below W.heap.size W w')) := fun W hW => by
        have h := read_place W (HH1.out.below hW) HD1.out (i := k) (by rw [HF1.out]; exact hkF)
        simp only [HF1.out, hnm, hff] at h
        exact h
      have R2 : Hid (∀ W, Below w.heap.size w W → Calls Try.prog 20 #[.pointer (some ⟨D2, 0, none⟩), nmV nm] W fun e w' => ∃ A, e = .returned (.tuple #[.slice A f.bytes.length f.bytes.length, .int .i64 0]) ∧ Hid (Me.Rd w' w'.heap.size A f.bytes) ∧ Hid (A = none → f.bytes.length = 0) ∧ Hid (Below W.heap.size W w')) := fun W hW => by
        have h := read_place W (HH2.out.below hW) HD2.out (i := k) (by rw [HF2.out]; exact hkF)
        simp only [HF2.out, hnm, hff] at h
        exact h
      have S1 : Hid (∀ W, Below w.heap.size w W → Calls Try.prog 21 #[.pointer (some ⟨D1, 0, none⟩), nmV nm] W fun e w' => e = .returned (.int .i64 (f.safe : Int)) ∧ W = w') := fun W hW => by
        have h := safe_place W (HH1.out.below hW) HD1.out (i := k) (by rw [HF1.out]; exact hkF)
        simp only [HF1.out, hnm, hff] at h
        exact h
      have S2 : Hid (∀ W, Below w.heap.size w W → Calls Try.prog 21 #[.pointer (some ⟨D2, 0, none⟩), nmV nm] W fun e w' => e = .returned (.int .i64 (f.safe : Int)) ∧ W = w') := fun W hW => by
        have h := safe_place W (HH2.out.below hW) HD2.out (i := k) (by rw [HF2.out]; exact hkF)
        simp only [HF2.out, hnm, hff] at h
        exact h
      obtain ⟨ns, hns⟩ : ∃ ns, (⟨nm.toArray⟩ : ByteArray) = ns := ⟨_, rfl⟩
      have y1 := X1.out wr hb.out
      simp only [nmV] at X1 X2 R1 R2 S1 S2 y1
      rw [hns] at X1 X2 R1 R2 S1 S2 y1
      have q1 : (k : Int) < (L : Int) := by omega
      have q0 : (0 : Int) ≤ (k : Int) := by omega
      clear hns en x1 x2 hnm hff hc1 hc2 HC1 HC2 hsz1 hkF hnl
      obtain ⟨l, hl⟩ : ∃ l, f.bytes = l := ⟨_, rfl⟩
      rw [hl] at R1 R2
      obtain ⟨n, hn⟩ : ∃ n, l.length = n := ⟨_, rfl⟩
      have HN := Lib.hid hn
      rw [hn] at R1 R2
      obtain ⟨sf, hsf⟩ : ∃ sf, f.safe = sf := ⟨_, rfl⟩
      rw [hsf] at S1 S2
      clear hl hn hsf
      go_wp2_with (first
        | (go_at_call 20; (with_reducible refine (R1.out wr BW.out).mono ?_); rintro e w5 ⟨A5, rfl, r5, n5, hb5⟩; have B5 : Hid (Below w4.heap.size w4 w5) := hb.out.trans (hb5.out.mono hb.out.size); have BW5 : Hid (Below w.heap.size w w5) := BW.out.trans (hb5.out.mono BW.out.size); have y2 := X2.out w5 B5.out; clear hb5)
        | (go_at_call 20; (with_reducible refine (R2.out w5 BW5.out).mono ?_); rintro e w6 ⟨A6, rfl, r6, n6, hb6⟩; have B6 : Hid (Below w4.heap.size w4 w6) := B5.out.trans (hb6.out.mono B5.out.size); have BW6 : Hid (Below w.heap.size w w6) := BW5.out.trans (hb6.out.mono BW5.out.size); have y3 := X1.out w6 B6.out; have y4 := X2.out w6 B6.out; have r5' := Lib.hid ((r5.out.below hb6.out).more hb6.out.size); clear hb6))
      have hv1 : ∀ x, (convert 33 9 (.slice A5 n n)).run Try.prog (w6.drewN x) = .ok (.string (Me.strOf l)) (w6.drewN x) := fun x => by
        have := conv_rd (w6.drewN x) _ A5 l n (r5'.out.below (Me.below_drewN (Below.refl _ w6) x)) (fun e => by have := n5.out e; rw [HN.out]; omega)
        rwa [HN.out] at this
      have hv2 : ∀ x, (convert 33 9 (.slice A6 n n)).run Try.prog (w6.drewN x) = .ok (.string (Me.strOf l)) (w6.drewN x) := fun x => by
        have := conv_rd (w6.drewN x) _ A6 l n (r6.out.below (Me.below_drewN (Below.refl _ w6) x)) (fun e => by have := n6.out e; rw [HN.out]; omega)
        rwa [HN.out] at this
      have T1 := Lib.hid (fun x => S1.out (w6.drewN x) (Me.below_drewN BW6.out x))
      have T2 := Lib.hid (fun x => S2.out (w6.drewN x) (Me.below_drewN BW6.out x))
      go_quiet (first
        | (go_at_call 21; (with_reducible exact (T1.out _).mono fun _ _ h => ⟨h.1, _, h.2.symm⟩))
        | (go_at_call 21; (with_reducible exact (T2.out _).mono fun _ _ h => ⟨h.1, _, h.2.symm⟩)))
      go_wp2
      go_roundw
      case rel => exact ⟨k + 1, by omega, by go_num, Me.below_drewN B6.out _⟩
      case measure => simp [intOf]; omega
    · have q1 : ¬ (k : Int) < (L : Int) := by omega
      go_wp2
      go_ret
      exact ⟨rfl, BW⟩
end Go.Proofs.Ytdjgkoklkoahbaa.Dk
