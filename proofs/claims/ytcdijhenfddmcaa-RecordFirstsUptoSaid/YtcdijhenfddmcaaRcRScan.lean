/- Contracts of the reference of record: Scan. -/
import Derived.Test.YtcdijhenfddmcaaRcRef
import Derived.Test.YtcdijhenfddmcaaRcScan
namespace Go.Proofs.Ytcdijhenfddmcaa.Rc
open Go.RowKit
open Go.Proofs.Ytcdijhenfddmcaa.Me Go.Proofs.Ytcdijhenfddmcaa.Ma Go.Proofs.Ytcdijhenfddmcaa.Hd
set_option linter.unusedVariables false
set_option linter.unusedSimpArgs false

theorem first_at {zs : List Nat} {k : Nat} {w : World} (hk : k < (recs zs).length) : ∀ e w', FirstQ (zs.drop (offs (recs zs) k)) w e w' → ∃ A3 k3, e = .returned (.tuple #[.slice A3 (lsAt (recs zs) k).length k3, .int .i64 (8 + ((lsAt (recs zs) k).length : Int))]) ∧ Hid (Me.Own w' w.heap.size (.slice A3 (lsAt (recs zs) k).length k3) (lsAt (recs zs) k)) ∧ Hid (Below w.heap.size w w') := by
  intro e w' h
  obtain ⟨p1, p2⟩ := pay_at hk
  unfold FirstQ at h
  rw [if_pos (ok_of_pay p2), p1] at h
  exact h
theorem first_end {zs : List Nat} {w : World} : ∀ e w', FirstQ (zs.drop (offs (recs zs) (recs zs).length)) w e w' → ∃ A3 k3, e = .returned (.tuple #[.slice A3 0 k3, .int .i64 0]) ∧ Hid (Below w.heap.size w w') := by
  intro e w' h
  have hno : ¬ payOk (zs.drop (offs (recs zs) (recs zs).length)) := fun h => pay_ne h (pay_end zs)
  unfold FirstQ at h
  rw [if_neg hno, pay_end] at h
  obtain ⟨A, k, he, _, hb⟩ := h
  exact ⟨A, k, he, hb⟩
theorem scan_all {zs : List Nat} (k : Nat) (h : ¬ offs (recs zs) k < zs.length) (hk : k ≤ (recs zs).length) : k = (recs zs).length := by
  apply Classical.byContradiction
  intro hn
  have := piece_at (row := zs) (k := k) (by omega)
  omega
set_option maxHeartbeats 2000000 in
theorem RScan_any (A : Option Addr) (c : Nat) (zs : List Nat) (w : World) (hr : Hid (Rd w w.heap.size A zs)) (hlc : zs.length ≤ c) (hc : c ≤ 9223372036854775807) (hb : zs.length ≤ 16777216) :
    Calls Try.prog 15 #[.slice A zs.length c] w (ScanQ zs w) := by
  have HZB := Lib.hid hr.out.1
  have HMANY := Lib.hid (recs_many zs)
  have HE : Hid (offs (recs zs) (recs zs).length = siz (recs zs)) := offs_end _
  have HSA := Lib.hid (scan_all (zs := zs))
  go_enter Try.func15, Try.ntmps15
  go_wp2
  have hrow0 : Hid (Rws (fun j => w.heap.size ≤ j) (w.alloc (.cells #[] 22)) (.slice (some ⟨w.heap.size, 0, none⟩) 0 0) []) := Rws.lit _ w (Nat.le_refl _)
  have hbel0 : Hid (Below w.heap.size w (w.alloc (.cells #[] 22))) := below_alloc (Below.refl _ _)
  go_loopw [4, 5] (fun v i wr => ∃ k : Nat, k ≤ (recs zs).length ∧ i = .int .i64 (offs (recs zs) k : Int) ∧ Rws (fun j => w.heap.size ≤ j) wr v ((recs zs).take k) ∧ Below w.heap.size w wr) (fun _ i _ => zs.length - (intOf i).toNat)
  case atStart => exact ⟨0, Nat.zero_le _, by rw [offs_zero]; rfl, hrow0.out, hbel0.out⟩
  case round =>
    obtain ⟨k, hk, rfl, hrw, hbel⟩ := hrel
    have HRW := Lib.hid hrw
    have HBE := Lib.hid hbel
    clear hrw hbel
    by_cases hat : offs (recs zs) k < zs.length
    · obtain ⟨A2, hA2, hr2, hA2f⟩ := front_rd (hr.out.below HBE.out) (Nat.le_of_lt hat) hlc
      have hdl : (zs.drop (offs (recs zs) k)).length = zs.length - offs (recs zs) k := by simp
      have C := RFirst_any A2 (c - offs (recs zs) k) (zs.drop (offs (recs zs) k)) wr (hr2.more HBE.out.size) (by rw [hdl]; omega) (by omega)
      rw [hdl] at C
      have hA2g : Option.map (fun x => x.add (offs (recs zs) k)) A = A2 := (hA2f hat).symm
      by_cases hlt : k < (recs zs).length
      · have C2 := C.mono (first_at hlt)
        have hp := piece_at hlt
        have HOS := Lib.hid (offs_step hlt)
        have HLK := Lib.hid (take_snoc hlt)
        have hkl : ((recs zs).take k).length = k := by simp; omega
        have h24 : (((recs zs).take k).length + 1) * 24 ≤ 140737488355328 := by rw [hkl]; have := HMANY.out; omega
        have hm1 := hp.2.2.2
        have hm2 := hp.1
        have hbs : ∀ r ∈ (recs zs).take k, ∀ z ∈ r, z < 256 := fun r hr => recs_bytes HZB.out r (List.mem_of_mem_take hr)
        obtain ⟨f, hf⟩ : ∃ f, offs (recs zs) k = f := ⟨_, rfl⟩
        obtain ⟨r, hrd⟩ : ∃ r, lsAt (recs zs) k = r := ⟨_, rfl⟩
        obtain ⟨ps, hps⟩ : ∃ ps, (recs zs).take k = ps := ⟨_, rfl⟩
        rw [hf] at C2 hA2g HOS hm2 hat ⊢
        rw [hrd] at C2 HOS HLK hm1 hm2
        rw [hps] at HRW HLK h24 hbs
        obtain ⟨Aa, ca, rfl, _, _, _, _, _⟩ := HRW.out.lst hbs
        have HC := Lib.hid C2
        clear C C2 hA2 hA2f hr2 hdl hp hf hrd hps hkl hbs
        have hwr : IntKind.i64.wrap ((f : Int) + (8 + (r.length : Int))) = (f : Int) + (8 + (r.length : Int)) := IntWalk.i64_in _ (by omega)
        have hz : ((8 + (r.length : Int)) == 0) = false := by rw [beq_eq_false_iff_ne]; omega
        go_wp2_with (first
          | (go_at_call 13; ((with_reducible refine HC.out.mono ?_); rintro e w1 ⟨A3, k3, rfl, HO1, HB1⟩))
          | (at_builtin; refine appQ rfl (.tmp 24) (.tmp 26) rfl (fun j => w.heap.size ≤ j) _ ps r A3 r.length k3 rfl rfl w1 rfl (HRW.out.below HB1.out) (own_base HO1.out fun _ _ => Nat.zero_le _) (fun a ha => Nat.le_trans HBE.out.size (HO1.out.lt a.block (by rw [ha]; rfl)).1) (fun j hj => Nat.le_trans (Nat.le_trans HBE.out.size HB1.out.size) hj) _ rfl rfl h24 ?_; intro v' w2 q1 q2 q3; rw [← HLK.out] at q1; have Q1 := Lib.hid q1; have Q2 := Lib.hid q2; clear q1 q2 q3))
        go_roundw
        case rel =>
          refine ⟨k + 1, by omega, by rw [HOS.out]; go_num, Q1.out, ?_⟩
          have b1 : Below w.heap.size w (w1.alloc (.cells #[.slice A3 r.length k3] 22)) := below_alloc (HBE.out.trans (HB1.out.mono HBE.out.size))
          exact b1.grown Q2.out b1.size fun j e => by
            obtain ⟨vs, _, q, _⟩ := HRW.out
            exact q j e
        case measure => simp [intOf]; omega
      · obtain rfl : k = (recs zs).length := by omega
        have C2 := C.mono first_end
        rw [HE.out] at C2 hA2g hat ⊢
        have HC := Lib.hid C2
        obtain ⟨f, hf⟩ : ∃ f, siz (recs zs) = f := ⟨_, rfl⟩
        have HF := Lib.hid hf
        rw [hf] at HC hA2g hat ⊢
        rw [List.take_length] at HRW
        clear C C2 hA2 hA2f hr2 hdl hf
        go_wp2_with (go_at_call 13; ((with_reducible refine HC.out.mono ?_); rintro e w1 ⟨A3, k3, rfl, HB1⟩))
        go_ret2
        unfold ScanQ
        rw [HF.out]
        exact ⟨_, rfl, HRW.out.below HB1.out, HBE.out.trans (HB1.out.mono HBE.out.size)⟩
    · obtain rfl := HSA.out k hat hk
      rw [HE.out] at hat ⊢
      obtain ⟨f, hf⟩ : ∃ f, siz (recs zs) = f := ⟨_, rfl⟩
      have HF := Lib.hid hf
      rw [hf] at hat ⊢
      rw [List.take_length] at HRW
      clear hf
      go_wp2
      go_ret2
      unfold ScanQ
      rw [HF.out]
      exact ⟨_, rfl, HRW.out, HBE.out⟩
end Go.Proofs.Ytcdijhenfddmcaa.Rc
