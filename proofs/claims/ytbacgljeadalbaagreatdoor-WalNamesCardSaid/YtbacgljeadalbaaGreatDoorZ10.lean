/- The disk's Append. -/
import Derived.Test.YtbacgljeadalbaaGreatDoorZ9
namespace Go.Proofs.YtbacgljeadalbaaGreatDoor.Dk
open Go.RowKit
open Go.Proofs.YtbacgljeadalbaaGreatDoor.Me Go.Proofs.YtbacgljeadalbaaGreatDoor.Hd
set_option linter.unusedVariables false
set_option linter.unusedSimpArgs false

section
variable {G : Nat → Prop} (w : World) (D mb : Nat) (s : St)
/-- A name that is none, or no power. -/
theorem App_may (h : Hid (Dq G w D mb s)) (n : Nm) (Ap : Option Addr) (len cp : Nat) (hm : mayE s [n] ≠ 0) : Calls Tryz.prog 19 #[.pointer (some ⟨D, 0, none⟩), nmV n, .slice Ap len cp] w fun e w' => e = .returned (.int .i64 (mayE s [n] : Int)) ∧ Below w.heap.size w w' := by
  show Calls Tryz.prog 19 #[.pointer (some ⟨D, 0, none⟩), .string ⟨n.toArray⟩, .slice Ap len cp] w _
  have HM := Lib.hid (may_one w D mb s h n)
  obtain ⟨q, hq⟩ : ∃ q, mayE s [n] = q := ⟨_, rfl⟩
  rw [hq] at HM hm ⊢
  have hz := nz hm
  clear hq hm
  obtain ⟨ns, hns⟩ : ∃ ns, (⟨n.toArray⟩ : ByteArray) = ns := ⟨_, rfl⟩
  simp only [nmV] at HM
  rw [hns] at HM ⊢
  clear hns
  go_enter Tryz.func19, Tryz.ntmps19
  go_wp2_with (go_at_call 44; refine HM.out.mono ?_; rintro e w1 ⟨rfl, hb1⟩; have HB1 := Lib.hid hb1; clear hb1)
  go_ret
  exact ⟨rfl, HB1.out⟩
theorem may_ok {s : St} {n : Nm} (h : mayE s [n] = 0) : s.down = false ∧ nameOk n = true := by
  rw [mayE_one] at h
  split at h
  · cases h
  · rename_i hd
    split at h
    · rename_i hk; exact ⟨by simpa using hd, hk⟩
    · cases h
set_option maxRecDepth 100000 in
set_option maxHeartbeats 1000000 in
/-- No room: too many bytes. -/
theorem App_full (h : Hid (Dq G w D mb s)) (ok : Hid s.Ok) (n : Nm) (Ap : Option Addr) (len cp : Nat) (hm : mayE s [n] = 0) (hl63 : len ≤ 140737488351232) (hfull : s.limit < used s.files + len) : Calls Tryz.prog 19 #[.pointer (some ⟨D, 0, none⟩), nmV n, .slice Ap len cp] w fun e w' => e = .returned (.int .i64 6) ∧ Below w.heap.size w w' := by
  show Calls Tryz.prog 19 #[.pointer (some ⟨D, 0, none⟩), .string ⟨n.toArray⟩, .slice Ap len cp] w _
  have HM := Lib.hid (may_one w D mb s h n)
  rw [hm] at HM
  have hmax : n.length ≤ maxLen := by have := nameOk_len (may_ok hm).2; unfold maxLen; omega
  obtain ⟨pv, hpv⟩ : ∃ pv, ∀ W : World, W.heap[mb]? = w.heap[mb]? → (Instr.lookup 64 (.map (some mb)) (nmV n) false).run Tryz.prog W = .ok (.pointer pv) W := by
    cases hl : look s.files n with
    | none => exact ⟨none, fun W hW => h.out.mf.no hmax hl W hW⟩
    | some f =>
      obtain ⟨p, v, _, _, _, _, _, hL, _⟩ := h.out.yes ok.out.srt hmax hl
      exact ⟨some ⟨p, 0, none⟩, hL⟩
  have HLK := Lib.hid hpv
  have c0 := Lib.hid h.out.c0
  have c1 := Lib.hid h.out.c1
  have HD := Lib.hid h.out.lt
  have Hmb := Lib.hid h.out.ltm
  have HU := Lib.hid (fun (W : World) (hb : Below w.heap.size w W) => Used_any W D mb s (h.out.below hb) ok)
  have hu := ok.out.use
  have hlm := ok.out.lim
  obtain ⟨us, hus⟩ : ∃ us, used s.files = us := ⟨_, rfl⟩
  obtain ⟨lim, hlim⟩ : ∃ lim, s.limit = lim := ⟨_, rfl⟩
  rw [hus] at HU hu hfull
  rw [hlim] at c1 hlm hfull
  obtain ⟨d, hd⟩ : ∃ d : Int, (lim : Int) - (us : Int) = d := ⟨_, rfl⟩
  have hw : IntKind.i64.wrap ((lim : Int) - (us : Int)) = d := by rw [← hd]; simp [IntKind.wrap, IntKind.bits, IntKind.signed]; omega
  have hgt : d < (len : Int) := by omega
  clear hpv hmax hm hus hlim hd hfull
  obtain ⟨ns, hns⟩ : ∃ ns, (⟨n.toArray⟩ : ByteArray) = ns := ⟨_, rfl⟩
  simp only [nmV] at HM HLK
  rw [hns] at HM HLK ⊢
  clear hns
  go_enter Tryz.func19, Tryz.ntmps19
  go_wp2_with (go_at_call 44; refine HM.out.mono ?_; rintro e w1 ⟨rfl, hb1⟩; have HB1 := Lib.hid hb1; have k0 := (hb1.cell (p := ⟨D, 0, none⟩) HD.out).trans c0.out; have hl1 := HLK.out w1 (hb1.block mb Hmb.out); clear hb1)
  have HD1 : Hid (D < w1.heap.size) := Nat.lt_of_lt_of_le HD.out HB1.out.size
  have k1 := (HB1.out.cell (p := ⟨D, 1, none⟩) HD.out).trans c1.out
  have K1 := Lib.hid k1
  clear k1
  have HU1 := Lib.hid (HU.out w1.drew HB1.out.drew)
  refine wp_region_held_drew (S := fun W => Below w1.heap.size w1 W) (by kernel_rfl) ((Below.refl _ w1).drew) (fun hHeld => ?_)
  refine wpAnyH_take (i := 0) (v := ?vz1) rfl (by kernel_rfl) (by kernel_rfl) (by kernel_rfl) (fun _ _ _ h => h) (Or.inl ⟨by rfl, ?hyz1⟩) (by first | assumption | exact trivial) ?restz1
  case hyz1 => intro W hSW; go_simp; try (with_reducible rfl)
  simp only [Act.put, List.getElem_toArray, List.getElem_cons_succ, List.getElem_cons_zero, List.setIfInBounds_toArray, List.set_cons_zero, List.set_cons_succ]
  refine wpAnyH_take (i := 1) (v := ?vz2) rfl (by kernel_rfl) (by kernel_rfl) (by kernel_rfl) (fun _ _ _ h => h) (Or.inl ⟨by rfl, ?hyz2⟩) (by first | assumption | exact trivial) ?restz2
  case hyz2 => intro W hSW; go_simp; try (with_reducible rfl)
  simp only [Act.put, List.getElem_toArray, List.getElem_cons_succ, List.getElem_cons_zero, List.setIfInBounds_toArray, List.set_cons_zero, List.set_cons_succ]
  refine wpAnyH_take (i := 2) (v := ?vz3) rfl (by kernel_rfl) (by kernel_rfl) (by kernel_rfl) (fun _ _ _ h => h) (Or.inl ⟨by rfl, ?hyz3⟩) (by first | assumption | exact trivial) ?restz3
  case hyz3 => intro W hSW; go_simp; try (with_reducible rfl)
  simp only [Act.put, List.getElem_toArray, List.getElem_cons_succ, List.getElem_cons_zero, List.setIfInBounds_toArray, List.set_cons_zero, List.set_cons_succ]
  refine wpAnyH_take (i := 3) (v := ?vz4) rfl (by kernel_rfl) (by kernel_rfl) (by kernel_rfl) (fun _ _ _ h => h) (Or.inl ⟨by rfl, ?hyz4⟩) (by first | assumption | exact trivial) ?restz4
  case hyz4 => intro W hSW; go_simp; try (with_reducible rfl)
  simp only [Act.put, List.getElem_toArray, List.getElem_cons_succ, List.getElem_cons_zero, List.setIfInBounds_toArray, List.set_cons_zero, List.set_cons_succ]
  refine wpAnyH_take (i := 4) (v := ?vz5) rfl (by kernel_rfl) (by kernel_rfl) (by kernel_rfl) (fun _ _ _ h => h) (Or.inl ⟨by rfl, ?hyz5⟩) (by first | assumption | exact trivial) ?restz5
  case hyz5 => intro W hSW; go_simp; try (with_reducible rfl)
  simp only [Act.put, List.getElem_toArray, List.getElem_cons_succ, List.getElem_cons_zero, List.setIfInBounds_toArray, List.set_cons_zero, List.set_cons_succ]
  refine wpAnyH_take (i := 5) (v := ?vz6) rfl (by kernel_rfl) (by kernel_rfl) (by kernel_rfl) (fun _ _ _ h => h) (Or.inl ⟨by rfl, ?hyz6⟩) (by first | assumption | exact trivial) ?restz6
  case hyz6 => intro W hSW; have q5 := (hSW.cell (p := ⟨D, 1, none⟩) HD1.out).trans K1.out; go_simp; try (with_reducible rfl)
  simp only [Act.put, List.getElem_toArray, List.getElem_cons_succ, List.getElem_cons_zero, List.setIfInBounds_toArray, List.set_cons_zero, List.set_cons_succ]
  refine wpAnyH_take (i := 6) (v := ?vz7) rfl (by kernel_rfl) (by kernel_rfl) (by kernel_rfl) (fun _ _ _ h => h) (Or.inl ⟨by rfl, ?hyz7⟩) (by first | assumption | exact trivial) ?restz7
  case hyz7 => intro W hSW; go_simp; try (with_reducible rfl)
  simp only [Act.put, List.getElem_toArray, List.getElem_cons_succ, List.getElem_cons_zero, List.setIfInBounds_toArray, List.set_cons_zero, List.set_cons_succ]
  refine wpAnyH_ready (rs := [7]) (by kernel_rfl) (by simp) ?_
  refine AllReadyH.cons rfl (fun K hK => ?_) AllReadyH.nil
  go_simp
  go_wp2_with (go_at_call 45; refine HU1.out.mono ?_; rintro e w2 ⟨rfl, hb2⟩)
  have S2 : Below w1.heap.size w1 w2 := ((Below.refl _ w1).drew).trans hb2.out
  refine hK.out _ _ (S2) (fun hHeld => ?_)
  clear hK K
  refine wpAnyH_take (i := 8) (v := .int .i64 d) rfl (by kernel_rfl) (by kernel_rfl) (by kernel_rfl) (fun _ _ _ h => h) (Or.inl ⟨by rfl, ?_⟩) (by first | assumption | exact trivial) ?_
  · intro W hSW; have q8 := hw; go_simp; try (with_reducible rfl)
  simp only [Act.put, List.getElem_toArray, List.getElem_cons_succ, List.getElem_cons_zero, List.setIfInBounds_toArray, List.set_cons_zero, List.set_cons_succ]
  refine wpAnyH_take (i := 9) (v := .bool true) rfl (by kernel_rfl) (by kernel_rfl) (by kernel_rfl) (fun _ _ _ h => h) (Or.inl ⟨by rfl, ?_⟩) (by first | assumption | exact trivial) ?_
  · intro W hSW; have q9 := hgt; go_simp; try (with_reducible rfl)
  simp only [Act.put, List.getElem_toArray, List.getElem_cons_succ, List.getElem_cons_zero, List.setIfInBounds_toArray, List.set_cons_zero, List.set_cons_succ]
  refine wpAnyH_take (i := 10) (v := ?vz8) rfl (by kernel_rfl) (by kernel_rfl) (by kernel_rfl) (fun _ _ _ h => h) (Or.inl ⟨by rfl, ?hyz8⟩) (by first | assumption | exact trivial) ?restz8
  case hyz8 => intro W hSW; go_simp; try (with_reducible rfl)
  simp only [Act.put, List.getElem_toArray, List.getElem_cons_succ, List.getElem_cons_zero, List.setIfInBounds_toArray, List.set_cons_zero, List.set_cons_succ]
  refine wpAnyH_take (i := 11) (v := undef) rfl (by kernel_rfl) (by kernel_rfl) (by kernel_rfl) (fun _ _ _ h => h) (Or.inr ⟨by rfl, rfl⟩) (by first | assumption | exact trivial) ?restz9
  simp only [Act.put, List.getElem_toArray, List.getElem_cons_succ, List.getElem_cons_zero, List.setIfInBounds_toArray, List.set_cons_zero, List.set_cons_succ]
  refine wpAnyH_take (i := 12) (v := undef) rfl (by kernel_rfl) (by kernel_rfl) (by kernel_rfl) (fun _ _ _ h => h) (Or.inr ⟨by rfl, rfl⟩) (by first | assumption | exact trivial) ?restz10
  simp only [Act.put, List.getElem_toArray, List.getElem_cons_succ, List.getElem_cons_zero, List.setIfInBounds_toArray, List.set_cons_zero, List.set_cons_succ]
  refine wpAnyH_take (i := 13) (v := undef) rfl (by kernel_rfl) (by kernel_rfl) (by kernel_rfl) (fun _ _ _ h => h) (Or.inr ⟨by rfl, rfl⟩) (by first | assumption | exact trivial) ?restz11
  simp only [Act.put, List.getElem_toArray, List.getElem_cons_succ, List.getElem_cons_zero, List.setIfInBounds_toArray, List.set_cons_zero, List.set_cons_succ]
  refine wpAnyH_take (i := 14) (v := undef) rfl (by kernel_rfl) (by kernel_rfl) (by kernel_rfl) (fun _ _ _ h => h) (Or.inr ⟨by rfl, rfl⟩) (by first | assumption | exact trivial) ?restz12
  simp only [Act.put, List.getElem_toArray, List.getElem_cons_succ, List.getElem_cons_zero, List.setIfInBounds_toArray, List.set_cons_zero, List.set_cons_succ]
  refine wpAnyH_take (i := 15) (v := undef) rfl (by kernel_rfl) (by kernel_rfl) (by kernel_rfl) (fun _ _ _ h => h) (Or.inr ⟨by rfl, rfl⟩) (by first | assumption | exact trivial) ?restz13
  simp only [Act.put, List.getElem_toArray, List.getElem_cons_succ, List.getElem_cons_zero, List.setIfInBounds_toArray, List.set_cons_zero, List.set_cons_succ]
  refine wpAnyH_take (i := 16) (v := undef) rfl (by kernel_rfl) (by kernel_rfl) (by kernel_rfl) (fun _ _ _ h => h) (Or.inr ⟨by rfl, rfl⟩) (by first | assumption | exact trivial) ?restz14
  simp only [Act.put, List.getElem_toArray, List.getElem_cons_succ, List.getElem_cons_zero, List.setIfInBounds_toArray, List.set_cons_zero, List.set_cons_succ]
  refine wpAnyH_take (i := 17) (v := undef) rfl (by kernel_rfl) (by kernel_rfl) (by kernel_rfl) (fun _ _ _ h => h) (Or.inr ⟨by rfl, rfl⟩) (by first | assumption | exact trivial) ?restz15
  simp only [Act.put, List.getElem_toArray, List.getElem_cons_succ, List.getElem_cons_zero, List.setIfInBounds_toArray, List.set_cons_zero, List.set_cons_succ]
  refine wpAnyH_take (i := 18) (v := undef) rfl (by kernel_rfl) (by kernel_rfl) (by kernel_rfl) (fun _ _ _ h => h) (Or.inr ⟨by rfl, rfl⟩) (by first | assumption | exact trivial) ?restz16
  simp only [Act.put, List.getElem_toArray, List.getElem_cons_succ, List.getElem_cons_zero, List.setIfInBounds_toArray, List.set_cons_zero, List.set_cons_succ]
  refine wpAnyH_take (i := 19) (v := undef) rfl (by kernel_rfl) (by kernel_rfl) (by kernel_rfl) (fun _ _ _ h => h) (Or.inr ⟨by rfl, rfl⟩) (by first | assumption | exact trivial) ?restz17
  simp only [Act.put, List.getElem_toArray, List.getElem_cons_succ, List.getElem_cons_zero, List.setIfInBounds_toArray, List.set_cons_zero, List.set_cons_succ]
  refine wpAnyH_take (i := 20) (v := undef) rfl (by kernel_rfl) (by kernel_rfl) (by kernel_rfl) (fun _ _ _ h => h) (Or.inr ⟨by rfl, rfl⟩) (by first | assumption | exact trivial) ?restz18
  simp only [Act.put, List.getElem_toArray, List.getElem_cons_succ, List.getElem_cons_zero, List.setIfInBounds_toArray, List.set_cons_zero, List.set_cons_succ]
  refine wpAnyH_take (i := 21) (v := ?vz19) rfl (by kernel_rfl) (by kernel_rfl) (by kernel_rfl) (fun _ _ _ h => h) (Or.inl ⟨by rfl, ?hyz19⟩) (by first | assumption | exact trivial) ?restz19
  case hyz19 => intro W hSW; go_simp; try (with_reducible rfl)
  simp only [Act.put, List.getElem_toArray, List.getElem_cons_succ, List.getElem_cons_zero, List.setIfInBounds_toArray, List.set_cons_zero, List.set_cons_succ]
  refine wpAnyH_done (by kernel_rfl) ?_ _
  go_wp2
  go_ret
  exact ⟨rfl, HB1.out.trans (S2.mono HB1.out.size)⟩
set_option maxRecDepth 100000 in
set_option maxHeartbeats 1000000 in
/-- No room: too many files. -/
theorem App_many (h : Hid (Dq G w D mb s)) (ok : Hid s.Ok) (n : Nm) (Ap : Option Addr) (len cp : Nat) (hm : mayE s [n] = 0) (hl63 : len ≤ 140737488351232) (hroom : ¬ s.limit < used s.files + len) (hl : look s.files n = none) (hc : s.files.length = 64) : Calls Tryz.prog 19 #[.pointer (some ⟨D, 0, none⟩), nmV n, .slice Ap len cp] w fun e w' => e = .returned (.int .i64 6) ∧ Below w.heap.size w w' := by
  show Calls Tryz.prog 19 #[.pointer (some ⟨D, 0, none⟩), .string ⟨n.toArray⟩, .slice Ap len cp] w _
  have HM := Lib.hid (may_one w D mb s h n)
  rw [hm] at HM
  have hok := may_ok hm
  have hlen12 := nameOk_len hok.2
  have hmax : n.length ≤ maxLen := by unfold maxLen; omega
  have c0 := Lib.hid h.out.c0
  have c1 := Lib.hid h.out.c1
  have HD := Lib.hid h.out.lt
  have Hmb := Lib.hid h.out.ltm
  have HU := Lib.hid (fun (W : World) (hb : Below w.heap.size w W) => Used_any W D mb s (h.out.below hb) ok)
  have hu := ok.out.use
  have hlm := ok.out.lim
  have HLK := Lib.hid (fun W hW => h.out.mf.no hmax hl W hW)
  have HLEN := Lib.hid (fun W hW => h.out.mf.len W hW)
  rw [hc] at HLEN
  have hN : (((64 : Nat) : Int) == 64) = true := rfl
  obtain ⟨us, hus⟩ : ∃ us, used s.files = us := ⟨_, rfl⟩
  obtain ⟨lim, hlim⟩ : ∃ lim, s.limit = lim := ⟨_, rfl⟩
  rw [hus] at HU hu hroom
  rw [hlim] at c1 hlm hroom
  obtain ⟨d, hd⟩ : ∃ d : Int, (lim : Int) - (us : Int) = d := ⟨_, rfl⟩
  have hw : IntKind.i64.wrap ((lim : Int) - (us : Int)) = d := by rw [← hd]; simp [IntKind.wrap, IntKind.bits, IntKind.signed]; omega
  have hgt : ¬ d < (len : Int) := by omega
  clear hok hlen12 hmax hm hus hlim hd hroom hl hc
  obtain ⟨ns, hns⟩ : ∃ ns, (⟨n.toArray⟩ : ByteArray) = ns := ⟨_, rfl⟩
  have HNS : Hid (nmV n = .string ns) := by show _ = _; rw [← hns]
  rw [HNS.out] at HM HLK
  rw [hns]
  clear hns
  go_enter Tryz.func19, Tryz.ntmps19
  go_wp2_with (go_at_call 44; refine HM.out.mono ?_; rintro e w1 ⟨rfl, hb1⟩; have HB1 := Lib.hid hb1; have k0 := (hb1.cell (p := ⟨D, 0, none⟩) HD.out).trans c0.out; have hl1 := HLK.out w1 (hb1.block mb Hmb.out); clear hb1)
  have HD1 : Hid (D < w1.heap.size) := Nat.lt_of_lt_of_le HD.out HB1.out.size
  have Hmb1 : Hid (mb < w1.heap.size) := Nat.lt_of_lt_of_le Hmb.out HB1.out.size
  have k1 := (HB1.out.cell (p := ⟨D, 1, none⟩) HD.out).trans c1.out
  have K1 := Lib.hid k1
  have K0 := Lib.hid k0
  clear k1 k0 hl1
  have HU1 := Lib.hid (HU.out w1.drew HB1.out.drew)
  refine wp_region_held_drew (S := fun W => Below w1.heap.size w1 W) (by kernel_rfl) ((Below.refl _ w1).drew) (fun hHeld => ?_)
  refine wpAnyH_take (i := 0) (v := ?vz20) rfl (by kernel_rfl) (by kernel_rfl) (by kernel_rfl) (fun _ _ _ h => h) (Or.inl ⟨by rfl, ?hyz20⟩) (by first | assumption | exact trivial) ?restz20
  case hyz20 => intro W hSW; go_simp; try (with_reducible rfl)
  simp only [Act.put, List.getElem_toArray, List.getElem_cons_succ, List.getElem_cons_zero, List.setIfInBounds_toArray, List.set_cons_zero, List.set_cons_succ]
  refine wpAnyH_take (i := 1) (v := ?vz21) rfl (by kernel_rfl) (by kernel_rfl) (by kernel_rfl) (fun _ _ _ h => h) (Or.inl ⟨by rfl, ?hyz21⟩) (by first | assumption | exact trivial) ?restz21
  case hyz21 => intro W hSW; go_simp; try (with_reducible rfl)
  simp only [Act.put, List.getElem_toArray, List.getElem_cons_succ, List.getElem_cons_zero, List.setIfInBounds_toArray, List.set_cons_zero, List.set_cons_succ]
  refine wpAnyH_take (i := 2) (v := ?vz22) rfl (by kernel_rfl) (by kernel_rfl) (by kernel_rfl) (fun _ _ _ h => h) (Or.inl ⟨by rfl, ?hyz22⟩) (by first | assumption | exact trivial) ?restz22
  case hyz22 => intro W hSW; go_simp; try (with_reducible rfl)
  simp only [Act.put, List.getElem_toArray, List.getElem_cons_succ, List.getElem_cons_zero, List.setIfInBounds_toArray, List.set_cons_zero, List.set_cons_succ]
  refine wpAnyH_take (i := 3) (v := ?vz23) rfl (by kernel_rfl) (by kernel_rfl) (by kernel_rfl) (fun _ _ _ h => h) (Or.inl ⟨by rfl, ?hyz23⟩) (by first | assumption | exact trivial) ?restz23
  case hyz23 => intro W hSW; go_simp; try (with_reducible rfl)
  simp only [Act.put, List.getElem_toArray, List.getElem_cons_succ, List.getElem_cons_zero, List.setIfInBounds_toArray, List.set_cons_zero, List.set_cons_succ]
  refine wpAnyH_take (i := 4) (v := ?vz24) rfl (by kernel_rfl) (by kernel_rfl) (by kernel_rfl) (fun _ _ _ h => h) (Or.inl ⟨by rfl, ?hyz24⟩) (by first | assumption | exact trivial) ?restz24
  case hyz24 => intro W hSW; go_simp; try (with_reducible rfl)
  simp only [Act.put, List.getElem_toArray, List.getElem_cons_succ, List.getElem_cons_zero, List.setIfInBounds_toArray, List.set_cons_zero, List.set_cons_succ]
  refine wpAnyH_take (i := 5) (v := ?vz25) rfl (by kernel_rfl) (by kernel_rfl) (by kernel_rfl) (fun _ _ _ h => h) (Or.inl ⟨by rfl, ?hyz25⟩) (by first | assumption | exact trivial) ?restz25
  case hyz25 => intro W hSW; have q5 := (hSW.cell (p := ⟨D, 1, none⟩) HD1.out).trans K1.out; go_simp; try (with_reducible rfl)
  simp only [Act.put, List.getElem_toArray, List.getElem_cons_succ, List.getElem_cons_zero, List.setIfInBounds_toArray, List.set_cons_zero, List.set_cons_succ]
  refine wpAnyH_take (i := 6) (v := ?vz26) rfl (by kernel_rfl) (by kernel_rfl) (by kernel_rfl) (fun _ _ _ h => h) (Or.inl ⟨by rfl, ?hyz26⟩) (by first | assumption | exact trivial) ?restz26
  case hyz26 => intro W hSW; go_simp; try (with_reducible rfl)
  simp only [Act.put, List.getElem_toArray, List.getElem_cons_succ, List.getElem_cons_zero, List.setIfInBounds_toArray, List.set_cons_zero, List.set_cons_succ]
  refine wpAnyH_ready (rs := [7]) (by kernel_rfl) (by simp) ?_
  refine AllReadyH.cons rfl (fun K hK => ?_) AllReadyH.nil
  go_simp
  go_wp2_with (go_at_call 45; refine HU1.out.mono ?_; rintro e w2 ⟨rfl, hb2⟩)
  have S2 : Below w1.heap.size w1 w2 := ((Below.refl _ w1).drew).trans hb2.out
  refine hK.out _ _ (S2) (fun hHeld => ?_)
  clear hK K
  refine wpAnyH_take (i := 8) (v := .int .i64 d) rfl (by kernel_rfl) (by kernel_rfl) (by kernel_rfl) (fun _ _ _ h => h) (Or.inl ⟨by rfl, ?_⟩) (by first | assumption | exact trivial) ?_
  · intro W hSW; have q8 := hw; go_simp; try (with_reducible rfl)
  simp only [Act.put, List.getElem_toArray, List.getElem_cons_succ, List.getElem_cons_zero, List.setIfInBounds_toArray, List.set_cons_zero, List.set_cons_succ]
  refine wpAnyH_take (i := 9) (v := .bool false) rfl (by kernel_rfl) (by kernel_rfl) (by kernel_rfl) (fun _ _ _ h => h) (Or.inl ⟨by rfl, ?_⟩) (by first | assumption | exact trivial) ?_
  · intro W hSW; have q9 := hgt; go_simp; try (with_reducible rfl)
  simp only [Act.put, List.getElem_toArray, List.getElem_cons_succ, List.getElem_cons_zero, List.setIfInBounds_toArray, List.set_cons_zero, List.set_cons_succ]
  refine wpAnyH_take (i := 10) (v := ?vz27) rfl (by kernel_rfl) (by kernel_rfl) (by kernel_rfl) (fun _ _ _ h => h) (Or.inl ⟨by rfl, ?hyz27⟩) (by first | assumption | exact trivial) ?restz27
  case hyz27 => intro W hSW; go_simp; try (with_reducible rfl)
  simp only [Act.put, List.getElem_toArray, List.getElem_cons_succ, List.getElem_cons_zero, List.setIfInBounds_toArray, List.set_cons_zero, List.set_cons_succ]
  refine wpAnyH_take (i := 11) (v := ?vz28) rfl (by kernel_rfl) (by kernel_rfl) (by kernel_rfl) (fun _ _ _ h => h) (Or.inl ⟨by rfl, ?hyz28⟩) (by first | assumption | exact trivial) ?restz28
  case hyz28 => intro W hSW; go_simp; try (with_reducible rfl)
  simp only [Act.put, List.getElem_toArray, List.getElem_cons_succ, List.getElem_cons_zero, List.setIfInBounds_toArray, List.set_cons_zero, List.set_cons_succ]
  refine wpAnyH_take (i := 12) (v := ?vz29) rfl (by kernel_rfl) (by kernel_rfl) (by kernel_rfl) (fun _ _ _ h => h) (Or.inl ⟨by rfl, ?hyz29⟩) (by first | assumption | exact trivial) ?restz29
  case hyz29 => intro W hSW; go_simp; try (with_reducible rfl)
  simp only [Act.put, List.getElem_toArray, List.getElem_cons_succ, List.getElem_cons_zero, List.setIfInBounds_toArray, List.set_cons_zero, List.set_cons_succ]
  refine wpAnyH_take (i := 13) (v := ?vz30) rfl (by kernel_rfl) (by kernel_rfl) (by kernel_rfl) (fun _ _ _ h => h) (Or.inl ⟨by rfl, ?hyz30⟩) (by first | assumption | exact trivial) ?restz30
  case hyz30 => intro W hSW; go_simp; try (with_reducible rfl)
  simp only [Act.put, List.getElem_toArray, List.getElem_cons_succ, List.getElem_cons_zero, List.setIfInBounds_toArray, List.set_cons_zero, List.set_cons_succ]
  refine wpAnyH_take (i := 14) (v := ?vz31) rfl (by kernel_rfl) (by kernel_rfl) (by kernel_rfl) (fun _ _ _ h => h) (Or.inl ⟨by rfl, ?hyz31⟩) (by first | assumption | exact trivial) ?restz31
  case hyz31 => intro W hSW; go_simp; try (with_reducible rfl)
  simp only [Act.put, List.getElem_toArray, List.getElem_cons_succ, List.getElem_cons_zero, List.setIfInBounds_toArray, List.set_cons_zero, List.set_cons_succ]
  refine wpAnyH_take (i := 15) (v := ?vz32) rfl (by kernel_rfl) (by kernel_rfl) (by kernel_rfl) (fun _ _ _ h => h) (Or.inl ⟨by rfl, ?hyz32⟩) (by first | assumption | exact trivial) ?restz32
  case hyz32 => intro W hSW; go_simp; try (with_reducible rfl)
  simp only [Act.put, List.getElem_toArray, List.getElem_cons_succ, List.getElem_cons_zero, List.setIfInBounds_toArray, List.set_cons_zero, List.set_cons_succ]
  refine wpAnyH_take (i := 16) (v := ?vz33) rfl (by kernel_rfl) (by kernel_rfl) (by kernel_rfl) (fun _ _ _ h => h) (Or.inl ⟨by rfl, ?hyz33⟩) (by first | assumption | exact trivial) ?restz33
  case hyz33 => intro W hSW; go_simp; try (with_reducible rfl)
  simp only [Act.put, List.getElem_toArray, List.getElem_cons_succ, List.getElem_cons_zero, List.setIfInBounds_toArray, List.set_cons_zero, List.set_cons_succ]
  refine wpAnyH_take (i := 17) (v := ?vz34) rfl (by kernel_rfl) (by kernel_rfl) (by kernel_rfl) (fun _ _ _ h => h) (Or.inl ⟨by rfl, ?hyz34⟩) (by first | assumption | exact trivial) ?restz34
  case hyz34 => intro W hSW; have q17 := (hSW.cell (p := ⟨D, 0, none⟩) HD1.out).trans K0.out; go_simp; try (with_reducible rfl)
  simp only [Act.put, List.getElem_toArray, List.getElem_cons_succ, List.getElem_cons_zero, List.setIfInBounds_toArray, List.set_cons_zero, List.set_cons_succ]
  refine wpAnyH_take (i := 18) (v := ?vz35) rfl (by kernel_rfl) (by kernel_rfl) (by kernel_rfl) (fun _ _ _ h => h) (Or.inl ⟨by rfl, ?hyz35⟩) (by first | assumption | exact trivial) ?restz35
  case hyz35 => intro W hSW; have q18 := HLEN.out W (hSW.block mb Hmb1.out |>.trans (HB1.out.block mb Hmb.out)); go_simp; try (with_reducible rfl)
  simp only [Act.put, List.getElem_toArray, List.getElem_cons_succ, List.getElem_cons_zero, List.setIfInBounds_toArray, List.set_cons_zero, List.set_cons_succ]
  refine wpAnyH_take (i := 19) (v := .bool true) rfl (by kernel_rfl) (by kernel_rfl) (by kernel_rfl) (fun _ _ _ h => h) (Or.inl ⟨by rfl, ?_⟩) (by first | assumption | exact trivial) ?_
  · intro W hSW; have q19 := hN; go_simp; try (with_reducible rfl)
  simp only [Act.put, List.getElem_toArray, List.getElem_cons_succ, List.getElem_cons_zero, List.setIfInBounds_toArray, List.set_cons_zero, List.set_cons_succ]
  refine wpAnyH_take (i := 20) (v := ?vz36) rfl (by kernel_rfl) (by kernel_rfl) (by kernel_rfl) (fun _ _ _ h => h) (Or.inl ⟨by rfl, ?hyz36⟩) (by first | assumption | exact trivial) ?restz36
  case hyz36 => intro W hSW; go_simp; try (with_reducible rfl)
  simp only [Act.put, List.getElem_toArray, List.getElem_cons_succ, List.getElem_cons_zero, List.setIfInBounds_toArray, List.set_cons_zero, List.set_cons_succ]
  refine wpAnyH_take (i := 21) (v := ?vz37) rfl (by kernel_rfl) (by kernel_rfl) (by kernel_rfl) (fun _ _ _ h => h) (Or.inl ⟨by rfl, ?hyz37⟩) (by first | assumption | exact trivial) ?restz37
  case hyz37 => intro W hSW; go_simp; try (with_reducible rfl)
  simp only [Act.put, List.getElem_toArray, List.getElem_cons_succ, List.getElem_cons_zero, List.setIfInBounds_toArray, List.set_cons_zero, List.set_cons_succ]
  refine wpAnyH_done (by kernel_rfl) ?_ _
  go_wp2
  go_ret
  exact ⟨rfl, HB1.out.trans (S2.mono HB1.out.size)⟩
set_option maxRecDepth 100000 in
set_option maxHeartbeats 2000000 in
/-- Behind the bytes of a file. -/
theorem App_some (h : Hid (Dq G w D mb s)) (ok : Hid s.Ok) (n : Nm) (Ap : Option Addr) (cp : Nat) (l : List Nat) (hr : Hid (Me.Rd w w.heap.size Ap l)) (hA : Hid (Ap = none → l.length = 0 ∧ cp = 0)) (hm : mayE s [n] = 0) (hroom : ¬ s.limit < used s.files + l.length) (f : Fl) (hl : look s.files n = some f) :
    Calls Tryz.prog 19 #[.pointer (some ⟨D, 0, none⟩), nmV n, .slice Ap l.length cp] w (OpP G w D mb (chg s (put s.files n ⟨f.bytes ++ l, f.safe⟩)) 0) := by
  show Calls Tryz.prog 19 #[.pointer (some ⟨D, 0, none⟩), .string ⟨n.toArray⟩, .slice Ap l.length cp] w _
  have HM := Lib.hid (may_one w D mb s h n)
  rw [hm] at HM
  have hok := may_ok hm
  have hlen12 := nameOk_len hok.2
  have hmax : n.length ≤ maxLen := by unfold maxLen; omega
  have c0 := Lib.hid h.out.c0
  have c1 := Lib.hid h.out.c1
  have HD := Lib.hid h.out.lt
  have Hmb := Lib.hid h.out.ltm
  have HU := Lib.hid (fun (W : World) (hb : Below w.heap.size w W) => Used_any W D mb s (h.out.below hb) ok)
  have hu := ok.out.use
  have hlm := ok.out.lim
  obtain ⟨p, v, hF, hp, hpD, hpm, hv, hL, hcl⟩ := h.out.yes ok.out.srt hmax hl
  have hfile := ok.out.file hl
  have HLK := Lib.hid hL
  unfold Lk at HLK
  have HF := Lib.hid hF
  have HC := Lib.hid hcl
  have HA : Hid (f.bytes.length + l.length ≤ 140737488355328) := by show _ ≤ _; omega
  have HCH := Lib.hid (fun (w2 : World) (h2 : Hid (Dq (Gn G w.heap.size) w2 D mb ⟨s.limit, put s.files n ⟨f.bytes ++ l, f.safe⟩, s.left, s.down⟩)) => changed_any w2 D mb ⟨s.limit, put s.files n ⟨f.bytes ++ l, f.safe⟩, s.left, s.down⟩ h2 hok.1 ok.out.left)
  have HBY : Hid (∀ z ∈ f.bytes ++ l, z < 256) := fun z hz => by
    rcases List.mem_append.1 hz with hz | hz
    · exact hfile.2.2.1 z hz
    · exact hr.out.1 z hz
  obtain ⟨us, hus⟩ : ∃ us, used s.files = us := ⟨_, rfl⟩
  obtain ⟨lim, hlim⟩ : ∃ lim, s.limit = lim := ⟨_, rfl⟩
  rw [hus] at HU hu hroom
  rw [hlim] at c1 hlm hroom
  obtain ⟨d, hd⟩ : ∃ d : Int, (lim : Int) - (us : Int) = d := ⟨_, rfl⟩
  have hw : IntKind.i64.wrap ((lim : Int) - (us : Int)) = d := by rw [← hd]; simp [IntKind.wrap, IntKind.bits, IntKind.signed]; omega
  have hgt : ¬ d < (l.length : Int) := by omega
  obtain ⟨len, hll⟩ : ∃ len, l.length = len := ⟨_, rfl⟩
  have HLL : Hid (l.length = len) := hll
  have hl63 : len ≤ 1048576 := by omega
  rw [hll] at hgt ⊢
  clear hok hlen12 hmax hm hus hlim hd hroom hl hF hp hpD hpm hv hL hcl hfile hll
  obtain ⟨ns, hns⟩ : ∃ ns, (⟨n.toArray⟩ : ByteArray) = ns := ⟨_, rfl⟩
  have HNS : Hid (nmV n = .string ns) := by show _ = _; rw [← hns]
  rw [HNS.out] at HM HLK
  rw [hns]
  clear hns
  go_enter Tryz.func19, Tryz.ntmps19
  go_wp2_with (go_at_call 44; refine HM.out.mono ?_; rintro e w1 ⟨rfl, hb1⟩; have HB1 := Lib.hid hb1; have k0 := (hb1.cell (p := ⟨D, 0, none⟩) HD.out).trans c0.out; have hl1 := HLK.out w1 (hb1.block mb Hmb.out); clear hb1)
  have HD1 : Hid (D < w1.heap.size) := Nat.lt_of_lt_of_le HD.out HB1.out.size
  have Hmb1 : Hid (mb < w1.heap.size) := Nat.lt_of_lt_of_le Hmb.out HB1.out.size
  have k1 := (HB1.out.cell (p := ⟨D, 1, none⟩) HD.out).trans c1.out
  have K1 := Lib.hid k1
  have K0 := Lib.hid k0
  clear k1 k0 hl1
  have HU1 := Lib.hid (HU.out w1.drew HB1.out.drew)
  refine wp_region_held_drew (S := fun W => Below w1.heap.size w1 W) (by kernel_rfl) ((Below.refl _ w1).drew) (fun hHeld => ?_)
  refine wpAnyH_take (i := 0) (v := ?vz38) rfl (by kernel_rfl) (by kernel_rfl) (by kernel_rfl) (fun _ _ _ h => h) (Or.inl ⟨by rfl, ?hyz38⟩) (by first | assumption | exact trivial) ?restz38
  case hyz38 => intro W hSW; go_simp; try (with_reducible rfl)
  simp only [Act.put, List.getElem_toArray, List.getElem_cons_succ, List.getElem_cons_zero, List.setIfInBounds_toArray, List.set_cons_zero, List.set_cons_succ]
  refine wpAnyH_take (i := 1) (v := ?vz39) rfl (by kernel_rfl) (by kernel_rfl) (by kernel_rfl) (fun _ _ _ h => h) (Or.inl ⟨by rfl, ?hyz39⟩) (by first | assumption | exact trivial) ?restz39
  case hyz39 => intro W hSW; go_simp; try (with_reducible rfl)
  simp only [Act.put, List.getElem_toArray, List.getElem_cons_succ, List.getElem_cons_zero, List.setIfInBounds_toArray, List.set_cons_zero, List.set_cons_succ]
  refine wpAnyH_take (i := 2) (v := ?vz40) rfl (by kernel_rfl) (by kernel_rfl) (by kernel_rfl) (fun _ _ _ h => h) (Or.inl ⟨by rfl, ?hyz40⟩) (by first | assumption | exact trivial) ?restz40
  case hyz40 => intro W hSW; go_simp; try (with_reducible rfl)
  simp only [Act.put, List.getElem_toArray, List.getElem_cons_succ, List.getElem_cons_zero, List.setIfInBounds_toArray, List.set_cons_zero, List.set_cons_succ]
  refine wpAnyH_take (i := 3) (v := ?vz41) rfl (by kernel_rfl) (by kernel_rfl) (by kernel_rfl) (fun _ _ _ h => h) (Or.inl ⟨by rfl, ?hyz41⟩) (by first | assumption | exact trivial) ?restz41
  case hyz41 => intro W hSW; go_simp; try (with_reducible rfl)
  simp only [Act.put, List.getElem_toArray, List.getElem_cons_succ, List.getElem_cons_zero, List.setIfInBounds_toArray, List.set_cons_zero, List.set_cons_succ]
  refine wpAnyH_take (i := 4) (v := ?vz42) rfl (by kernel_rfl) (by kernel_rfl) (by kernel_rfl) (fun _ _ _ h => h) (Or.inl ⟨by rfl, ?hyz42⟩) (by first | assumption | exact trivial) ?restz42
  case hyz42 => intro W hSW; go_simp; try (with_reducible rfl)
  simp only [Act.put, List.getElem_toArray, List.getElem_cons_succ, List.getElem_cons_zero, List.setIfInBounds_toArray, List.set_cons_zero, List.set_cons_succ]
  refine wpAnyH_take (i := 5) (v := ?vz43) rfl (by kernel_rfl) (by kernel_rfl) (by kernel_rfl) (fun _ _ _ h => h) (Or.inl ⟨by rfl, ?hyz43⟩) (by first | assumption | exact trivial) ?restz43
  case hyz43 => intro W hSW; have q5 := (hSW.cell (p := ⟨D, 1, none⟩) HD1.out).trans K1.out; go_simp; try (with_reducible rfl)
  simp only [Act.put, List.getElem_toArray, List.getElem_cons_succ, List.getElem_cons_zero, List.setIfInBounds_toArray, List.set_cons_zero, List.set_cons_succ]
  refine wpAnyH_take (i := 6) (v := ?vz44) rfl (by kernel_rfl) (by kernel_rfl) (by kernel_rfl) (fun _ _ _ h => h) (Or.inl ⟨by rfl, ?hyz44⟩) (by first | assumption | exact trivial) ?restz44
  case hyz44 => intro W hSW; go_simp; try (with_reducible rfl)
  simp only [Act.put, List.getElem_toArray, List.getElem_cons_succ, List.getElem_cons_zero, List.setIfInBounds_toArray, List.set_cons_zero, List.set_cons_succ]
  refine wpAnyH_ready (rs := [7]) (by kernel_rfl) (by simp) ?_
  refine AllReadyH.cons rfl (fun K hK => ?_) AllReadyH.nil
  go_simp
  go_wp2_with (go_at_call 45; refine HU1.out.mono ?_; rintro e w2 ⟨rfl, hb2⟩)
  have S2 : Below w1.heap.size w1 w2 := ((Below.refl _ w1).drew).trans hb2.out
  refine hK.out _ _ (S2) (fun hHeld => ?_)
  clear hK K
  refine wpAnyH_take (i := 8) (v := .int .i64 d) rfl (by kernel_rfl) (by kernel_rfl) (by kernel_rfl) (fun _ _ _ h => h) (Or.inl ⟨by rfl, ?_⟩) (by first | assumption | exact trivial) ?_
  · intro W hSW; have q8 := hw; go_simp; try (with_reducible rfl)
  simp only [Act.put, List.getElem_toArray, List.getElem_cons_succ, List.getElem_cons_zero, List.setIfInBounds_toArray, List.set_cons_zero, List.set_cons_succ]
  refine wpAnyH_take (i := 9) (v := .bool false) rfl (by kernel_rfl) (by kernel_rfl) (by kernel_rfl) (fun _ _ _ h => h) (Or.inl ⟨by rfl, ?_⟩) (by first | assumption | exact trivial) ?_
  · intro W hSW; have q9 := hgt; go_simp; try (with_reducible rfl)
  simp only [Act.put, List.getElem_toArray, List.getElem_cons_succ, List.getElem_cons_zero, List.setIfInBounds_toArray, List.set_cons_zero, List.set_cons_succ]
  refine wpAnyH_take (i := 10) (v := ?vz45) rfl (by kernel_rfl) (by kernel_rfl) (by kernel_rfl) (fun _ _ _ h => h) (Or.inl ⟨by rfl, ?hyz45⟩) (by first | assumption | exact trivial) ?restz45
  case hyz45 => intro W hSW; go_simp; try (with_reducible rfl)
  simp only [Act.put, List.getElem_toArray, List.getElem_cons_succ, List.getElem_cons_zero, List.setIfInBounds_toArray, List.set_cons_zero, List.set_cons_succ]
  refine wpAnyH_take (i := 11) (v := ?vz46) rfl (by kernel_rfl) (by kernel_rfl) (by kernel_rfl) (fun _ _ _ h => h) (Or.inl ⟨by rfl, ?hyz46⟩) (by first | assumption | exact trivial) ?restz46
  case hyz46 => intro W hSW; go_simp; try (with_reducible rfl)
  simp only [Act.put, List.getElem_toArray, List.getElem_cons_succ, List.getElem_cons_zero, List.setIfInBounds_toArray, List.set_cons_zero, List.set_cons_succ]
  refine wpAnyH_take (i := 12) (v := ?vz47) rfl (by kernel_rfl) (by kernel_rfl) (by kernel_rfl) (fun _ _ _ h => h) (Or.inl ⟨by rfl, ?hyz47⟩) (by first | assumption | exact trivial) ?restz47
  case hyz47 => intro W hSW; go_simp; try (with_reducible rfl)
  simp only [Act.put, List.getElem_toArray, List.getElem_cons_succ, List.getElem_cons_zero, List.setIfInBounds_toArray, List.set_cons_zero, List.set_cons_succ]
  refine wpAnyH_take (i := 13) (v := ?vz48) rfl (by kernel_rfl) (by kernel_rfl) (by kernel_rfl) (fun _ _ _ h => h) (Or.inl ⟨by rfl, ?hyz48⟩) (by first | assumption | exact trivial) ?restz48
  case hyz48 => intro W hSW; go_simp; try (with_reducible rfl)
  simp only [Act.put, List.getElem_toArray, List.getElem_cons_succ, List.getElem_cons_zero, List.setIfInBounds_toArray, List.set_cons_zero, List.set_cons_succ]
  refine wpAnyH_take (i := 14) (v := undef) rfl (by kernel_rfl) (by kernel_rfl) (by kernel_rfl) (fun _ _ _ h => h) (Or.inr ⟨by rfl, rfl⟩) (by first | assumption | exact trivial) ?restz49
  simp only [Act.put, List.getElem_toArray, List.getElem_cons_succ, List.getElem_cons_zero, List.setIfInBounds_toArray, List.set_cons_zero, List.set_cons_succ]
  refine wpAnyH_take (i := 15) (v := undef) rfl (by kernel_rfl) (by kernel_rfl) (by kernel_rfl) (fun _ _ _ h => h) (Or.inr ⟨by rfl, rfl⟩) (by first | assumption | exact trivial) ?restz50
  simp only [Act.put, List.getElem_toArray, List.getElem_cons_succ, List.getElem_cons_zero, List.setIfInBounds_toArray, List.set_cons_zero, List.set_cons_succ]
  refine wpAnyH_take (i := 16) (v := undef) rfl (by kernel_rfl) (by kernel_rfl) (by kernel_rfl) (fun _ _ _ h => h) (Or.inr ⟨by rfl, rfl⟩) (by first | assumption | exact trivial) ?restz51
  simp only [Act.put, List.getElem_toArray, List.getElem_cons_succ, List.getElem_cons_zero, List.setIfInBounds_toArray, List.set_cons_zero, List.set_cons_succ]
  refine wpAnyH_take (i := 17) (v := undef) rfl (by kernel_rfl) (by kernel_rfl) (by kernel_rfl) (fun _ _ _ h => h) (Or.inr ⟨by rfl, rfl⟩) (by first | assumption | exact trivial) ?restz52
  simp only [Act.put, List.getElem_toArray, List.getElem_cons_succ, List.getElem_cons_zero, List.setIfInBounds_toArray, List.set_cons_zero, List.set_cons_succ]
  refine wpAnyH_take (i := 18) (v := undef) rfl (by kernel_rfl) (by kernel_rfl) (by kernel_rfl) (fun _ _ _ h => h) (Or.inr ⟨by rfl, rfl⟩) (by first | assumption | exact trivial) ?restz53
  simp only [Act.put, List.getElem_toArray, List.getElem_cons_succ, List.getElem_cons_zero, List.setIfInBounds_toArray, List.set_cons_zero, List.set_cons_succ]
  refine wpAnyH_take (i := 19) (v := undef) rfl (by kernel_rfl) (by kernel_rfl) (by kernel_rfl) (fun _ _ _ h => h) (Or.inr ⟨by rfl, rfl⟩) (by first | assumption | exact trivial) ?restz54
  simp only [Act.put, List.getElem_toArray, List.getElem_cons_succ, List.getElem_cons_zero, List.setIfInBounds_toArray, List.set_cons_zero, List.set_cons_succ]
  refine wpAnyH_take (i := 20) (v := ?vz55) rfl (by kernel_rfl) (by kernel_rfl) (by kernel_rfl) (fun _ _ _ h => h) (Or.inl ⟨by rfl, ?hyz55⟩) (by first | assumption | exact trivial) ?restz55
  case hyz55 => intro W hSW; go_simp; try (with_reducible rfl)
  simp only [Act.put, List.getElem_toArray, List.getElem_cons_succ, List.getElem_cons_zero, List.setIfInBounds_toArray, List.set_cons_zero, List.set_cons_succ]
  refine wpAnyH_take (i := 21) (v := ?vz56) rfl (by kernel_rfl) (by kernel_rfl) (by kernel_rfl) (fun _ _ _ h => h) (Or.inl ⟨by rfl, ?hyz56⟩) (by first | assumption | exact trivial) ?restz56
  case hyz56 => intro W hSW; go_simp; try (with_reducible rfl)
  simp only [Act.put, List.getElem_toArray, List.getElem_cons_succ, List.getElem_cons_zero, List.setIfInBounds_toArray, List.set_cons_zero, List.set_cons_succ]
  refine wpAnyH_done (by kernel_rfl) ?_ _
  have HB2 : Hid (Below w.heap.size w w2) := HB1.out.trans (S2.mono HB1.out.size)
  have HF2 : Hid (FileIn w2 p v f) := HF.out.keep (HB2.out.block p HF.out.lt) fun k e => HB2.out.block k (HF.out.ltv k e)
  have HR2 : Hid (Me.Rd w2 w.heap.size Ap l) := hr.out.below HB2.out
  have r0 : w2.cell? ⟨p, 0, none⟩ = some v := cell_of_row w2 p 0 _ _ (0, 0) HF2.out.blk
  clear S2 hb2
  go_wp2_with (first
    | (refine app8q rfl (.tmp 56) (.tmp 57) rfl w.heap.size v f.bytes l rfl HF2.out.own Ap cp (by rw [HLL.out]; rfl) HR2.out hA.out HA.out ?_; intro v4 w4 ho4 hg4 hf4; have HX := Lib.hid (app_file HF2.out ho4 hg4 hf4); obtain ⟨A4, c4, e4, _⟩ := ho4.held HBY.out; clear ho4; generalize (f.bytes ++ l).length = m4 at e4; subst e4; have r4 : w4.cell? ⟨p, 0, none⟩ = some v := ((World.cell?_of_block (w := w2) (a := ⟨p, 0, none⟩) (hg4.block p HF2.out.lt fun e => HF2.out.ne e.symm))).trans r0; have z4 : w4.frozen? ⟨p, 0, none⟩ = false := frozen_of_row w4 p 0 _ _ ((hg4.block p HF2.out.lt fun e => HF2.out.ne e.symm).trans HF2.out.blk); have HY := Lib.hid (HC.out _ _ _ ((But.of_below HB2.out).trans HX.out.2 fun _ _ e => e) HX.out.1 fun k e => (hf4 k e).imp id fun h => Nat.le_trans HB2.out.size h); have HDY := Lib.hid HY.out.1; clear hg4 hf4)
    | (go_at_call 47; refine (HCH.out _ HDY).mono ?_; rintro e w5 ⟨⟨u, rfl⟩, hd5, hb5⟩))
  go_ret
  exact ⟨rfl, hd5, But.loosen HY.out.2 hb5.out rfl⟩
end
end Go.Proofs.YtbacgljeadalbaaGreatDoor.Dk
/- The disk's Append to a file that there is not; Append, whatever comes of it. -/
namespace Go.Proofs.YtbacgljeadalbaaGreatDoor.Dk
open Go.RowKit
open Go.Proofs.YtbacgljeadalbaaGreatDoor.Me Go.Proofs.YtbacgljeadalbaaGreatDoor.Hd
set_option linter.unusedVariables false
set_option linter.unusedSimpArgs false

theorem put_put {L : Fs} (hs : Srt L) (n : Nm) (f g : Fl) : put (put L n f) n g = put L n g := by
  refine fs_ext ((hs.put n f).put n g) (hs.put n g) fun m => ?_
  rw [look_put, look_put, look_put]
  split
  · rfl
  · rfl
/-- Bytes lie on where a map alone turns. -/
theorem rd_map {w X : World} {mb : Nat} {A : Option Addr} {l : List Nat} (hr : Me.Rd w w.heap.size A l) (hm : ∃ es c, w.heap[mb]? = some (.map es c)) (hb : But (fun k => k = mb) w X) : Me.Rd X X.heap.size A l := by
  refine ⟨hr.1, fun hl => ?_⟩
  obtain ⟨b, off, e, h1, hc⟩ := hr.2 hl
  refine ⟨b, off, e, Nat.lt_of_lt_of_le h1 hb.size, fun i hi => ?_⟩
  refine (World.cell?_of_block (w := w) (a := ⟨b, off + i, none⟩) (hb.same b h1 fun e2 => ?_)).trans (hc i hi)
  obtain ⟨es, c, hm⟩ := hm
  have := hc 0 hl
  subst e2
  simp [World.cell?, hm] at this
/-- The new file behind lay. -/
theorem new_file {w w2 w4 : World} {mb : Nat} (hb : Below w.heap.size w w2) (hm : mb < w.heap.size) (h4 : But (fun k => k = mb) (w2.alloc (.cells #[.slice none 0 0, .int .i64 0] 70)) w4) : FileIn w4 w2.heap.size (.slice none 0 0) ⟨[], 0⟩ :=
  ⟨(h4.same w2.heap.size (by simp) fun e => by have := hb.size; omega).trans (heap_alloc_new w2 _), Me.Own.nil _ _⟩
theorem map_at {w X : World} {mb : Nat} (h : ∃ es c, w.heap[mb]? = some (.map es c)) (hb : Below w.heap.size w X) : ∃ es c, X.heap[mb]? = some (.map es c) := by
  obtain ⟨es, c, h⟩ := h
  exact ⟨es, c, (hb.block mb (Array.getElem?_eq_some_iff.1 h).1).trans h⟩
/-- The disk behind a new file's bytes. -/
theorem new_end {G : Nat → Prop} {w w2 w4 w6 : World} {D mb : Nat} {lim left : Nat} {down : Bool} {L0 L : Fs} {v : Value} (hb : Below w.heap.size w w2) (h4 : But (fun k => k = mb) (w2.alloc (.cells #[.slice none 0 0, .int .i64 0] 70)) w4)
    (h : Dq (Gn (fun k => (G k ∧ k < w.heap.size) ∨ k = w2.heap.size ∨ v.ownBlock = some k) w4.heap.size) w6 D mb ⟨lim, L0, left, down⟩ ∧ But (fun k => (G k ∧ k < w.heap.size) ∨ k = w2.heap.size ∨ v.ownBlock = some k) w4 w6) (hL : L0 = L) (hm : G mb) (hv : v.ownBlock = none := by rfl) :
    Dq (Gn G w.heap.size) w6 D mb ⟨lim, L, left, down⟩ ∧ But G w w6 := by
  subst hL
  have hs2 := hb.size
  have hs4 := h4.size
  simp only [World.size_alloc] at hs4
  have b4 : But G w w4 := (But.of_below (hb.alloc hb.size _)).trans h4 fun k _ e => e ▸ hm
  refine ⟨h.1.mono fun k _ hk => ?_, b4.trans h.2 fun k hk e => ?_⟩
  · rcases hk with (hk | hk | hk) | hk
    · exact .inl hk.1
    · exact .inr (by omega)
    · rw [hv] at hk; cases hk
    · exact .inr (by omega)
  · rcases e with e | e | e
    · exact e.1
    · omega
    · rw [hv] at e; cases e
section
variable {G : Nat → Prop} (w : World) (D mb : Nat) (s : St)
set_option maxRecDepth 100000 in
set_option maxHeartbeats 2000000 in
/-- A new file. -/
theorem App_none (h : Hid (Dq G w D mb s)) (ok : Hid s.Ok) (n : Nm) (Ap : Option Addr) (cp : Nat) (l : List Nat) (hr : Hid (Me.Rd w w.heap.size Ap l)) (hA : Hid (Ap = none → l.length = 0 ∧ cp = 0)) (hm : mayE s [n] = 0) (hroom : ¬ s.limit < used s.files + l.length) (hl : look s.files n = none) (hc : s.files.length ≠ 64) :
    Calls Tryz.prog 19 #[.pointer (some ⟨D, 0, none⟩), nmV n, .slice Ap l.length cp] w (OpP G w D mb (chg s (put s.files n ⟨l, 0⟩)) 0) := by
  show Calls Tryz.prog 19 #[.pointer (some ⟨D, 0, none⟩), .string ⟨n.toArray⟩, .slice Ap l.length cp] w _
  have HM := Lib.hid (may_one w D mb s h n)
  rw [hm] at HM
  have hok := may_ok hm
  have hlen12 := nameOk_len hok.2
  have hmax : n.length ≤ maxLen := by unfold maxLen; omega
  have c0 := Lib.hid h.out.c0
  have c1 := Lib.hid h.out.c1
  have HD := Lib.hid h.out.lt
  have Hmb := Lib.hid h.out.ltm
  have HU := Lib.hid (fun (W : World) (hb : Below w.heap.size w W) => Used_any W D mb s (h.out.below hb) ok)
  have hu := ok.out.use
  have hlm := ok.out.lim
  have hcnt := ok.out.cnt
  have HLK := Lib.hid (fun W hW => h.out.mf.no hmax hl W hW)
  have HLEN := Lib.hid (fun W hW => h.out.mf.len W hW)
  have hN : ((s.files.length : Int) == 64) = false := by
    have : ¬ (s.files.length : Int) = 64 := by omega
    simpa using this
  obtain ⟨N, hNN⟩ : ∃ N, s.files.length = N := ⟨_, rfl⟩
  rw [hNN] at HLEN hN
  have HISM := Lib.hid h.out.mf.isMap
  have HLY := Lib.hid (fun (W : World) (hb : Below w.heap.size w W) => lay_any (G := fun k => G k ∧ k < w.heap.size) (W.alloc (.cells #[.slice none 0 0, .int .i64 0] 70)) D mb s
    ((h.out.mono (G' := fun k => G k ∧ k < w.heap.size) fun k hk g => ⟨g, hk⟩).below (hb.alloc hb.size _)) ok.out.srt hcnt n hlen12 W.heap.size (.slice none 0 0) ⟨[], 0⟩ ⟨heap_alloc_new W _, Me.Own.nil _ _⟩ (fun e => by have := hb.size; omega) fun k e => by cases e)
  have HPP := Lib.hid (put_put ok.out.srt n ⟨[], 0⟩ ⟨l, 0⟩)
  have HSR := Lib.hid (ok.out.srt.put n ⟨[], 0⟩)
  have HMX := Lib.hid hmax
  have HCH := Lib.hid (fun (w2 : World) (h2 : Hid (Dq (Gn G w.heap.size) w2 D mb ⟨s.limit, put s.files n ⟨l, 0⟩, s.left, s.down⟩)) => changed_any w2 D mb ⟨s.limit, put s.files n ⟨l, 0⟩, s.left, s.down⟩ h2 hok.1 ok.out.left)
  have HGM := Lib.hid h.out.gm
  obtain ⟨us, hus⟩ : ∃ us, used s.files = us := ⟨_, rfl⟩
  obtain ⟨lim, hlim⟩ : ∃ lim, s.limit = lim := ⟨_, rfl⟩
  rw [hus] at HU hu hroom
  rw [hlim] at c1 hlm hroom
  obtain ⟨d, hd⟩ : ∃ d : Int, (lim : Int) - (us : Int) = d := ⟨_, rfl⟩
  have hw : IntKind.i64.wrap ((lim : Int) - (us : Int)) = d := by rw [← hd]; simp [IntKind.wrap, IntKind.bits, IntKind.signed]; omega
  have hgt : ¬ d < (l.length : Int) := by omega
  obtain ⟨len, hll⟩ : ∃ len, l.length = len := ⟨_, rfl⟩
  have HLL : Hid (l.length = len) := hll
  have HA : Hid (([] : List Nat).length + l.length ≤ 140737488355328) := by show 0 + _ ≤ _; omega
  have hl63 : len ≤ 1048576 := by omega
  rw [hll] at hgt ⊢
  clear hok hlen12 hmax hm hus hlim hd hroom hl hc hcnt hNN hll
  obtain ⟨ns, hns⟩ : ∃ ns, (⟨n.toArray⟩ : ByteArray) = ns := ⟨_, rfl⟩
  have HNS : Hid (nmV n = .string ns) := by show _ = _; rw [← hns]
  rw [HNS.out] at HM HLK HLY
  rw [hns]
  clear hns
  go_enter Tryz.func19, Tryz.ntmps19
  go_wp2_with (go_at_call 44; refine HM.out.mono ?_; rintro e w1 ⟨rfl, hb1⟩; have HB1 := Lib.hid hb1; have k0 := (hb1.cell (p := ⟨D, 0, none⟩) HD.out).trans c0.out; have hl1 := HLK.out w1 (hb1.block mb Hmb.out); clear hb1)
  have HD1 : Hid (D < w1.heap.size) := Nat.lt_of_lt_of_le HD.out HB1.out.size
  have Hmb1 : Hid (mb < w1.heap.size) := Nat.lt_of_lt_of_le Hmb.out HB1.out.size
  have k1 := (HB1.out.cell (p := ⟨D, 1, none⟩) HD.out).trans c1.out
  have K1 := Lib.hid k1
  have K0 := Lib.hid k0
  clear k1 k0 hl1
  have HU1 := Lib.hid (HU.out w1.drew HB1.out.drew)
  refine wp_region_held_drew (S := fun W => Below w1.heap.size w1 W) (by kernel_rfl) ((Below.refl _ w1).drew) (fun hHeld => ?_)
  refine wpAnyH_take (i := 0) (v := ?vz1) rfl (by kernel_rfl) (by kernel_rfl) (by kernel_rfl) (fun _ _ _ h => h) (Or.inl ⟨by rfl, ?hyz1⟩) (by first | assumption | exact trivial) ?restz1
  case hyz1 => intro W hSW; go_simp; try (with_reducible rfl)
  simp only [Act.put, List.getElem_toArray, List.getElem_cons_succ, List.getElem_cons_zero, List.setIfInBounds_toArray, List.set_cons_zero, List.set_cons_succ]
  refine wpAnyH_take (i := 1) (v := ?vz2) rfl (by kernel_rfl) (by kernel_rfl) (by kernel_rfl) (fun _ _ _ h => h) (Or.inl ⟨by rfl, ?hyz2⟩) (by first | assumption | exact trivial) ?restz2
  case hyz2 => intro W hSW; go_simp; try (with_reducible rfl)
  simp only [Act.put, List.getElem_toArray, List.getElem_cons_succ, List.getElem_cons_zero, List.setIfInBounds_toArray, List.set_cons_zero, List.set_cons_succ]
  refine wpAnyH_take (i := 2) (v := ?vz3) rfl (by kernel_rfl) (by kernel_rfl) (by kernel_rfl) (fun _ _ _ h => h) (Or.inl ⟨by rfl, ?hyz3⟩) (by first | assumption | exact trivial) ?restz3
  case hyz3 => intro W hSW; go_simp; try (with_reducible rfl)
  simp only [Act.put, List.getElem_toArray, List.getElem_cons_succ, List.getElem_cons_zero, List.setIfInBounds_toArray, List.set_cons_zero, List.set_cons_succ]
  refine wpAnyH_take (i := 3) (v := ?vz4) rfl (by kernel_rfl) (by kernel_rfl) (by kernel_rfl) (fun _ _ _ h => h) (Or.inl ⟨by rfl, ?hyz4⟩) (by first | assumption | exact trivial) ?restz4
  case hyz4 => intro W hSW; go_simp; try (with_reducible rfl)
  simp only [Act.put, List.getElem_toArray, List.getElem_cons_succ, List.getElem_cons_zero, List.setIfInBounds_toArray, List.set_cons_zero, List.set_cons_succ]
  refine wpAnyH_take (i := 4) (v := ?vz5) rfl (by kernel_rfl) (by kernel_rfl) (by kernel_rfl) (fun _ _ _ h => h) (Or.inl ⟨by rfl, ?hyz5⟩) (by first | assumption | exact trivial) ?restz5
  case hyz5 => intro W hSW; go_simp; try (with_reducible rfl)
  simp only [Act.put, List.getElem_toArray, List.getElem_cons_succ, List.getElem_cons_zero, List.setIfInBounds_toArray, List.set_cons_zero, List.set_cons_succ]
  refine wpAnyH_take (i := 5) (v := ?vz6) rfl (by kernel_rfl) (by kernel_rfl) (by kernel_rfl) (fun _ _ _ h => h) (Or.inl ⟨by rfl, ?hyz6⟩) (by first | assumption | exact trivial) ?restz6
  case hyz6 => intro W hSW; have q5 := (hSW.cell (p := ⟨D, 1, none⟩) HD1.out).trans K1.out; go_simp; try (with_reducible rfl)
  simp only [Act.put, List.getElem_toArray, List.getElem_cons_succ, List.getElem_cons_zero, List.setIfInBounds_toArray, List.set_cons_zero, List.set_cons_succ]
  refine wpAnyH_take (i := 6) (v := ?vz7) rfl (by kernel_rfl) (by kernel_rfl) (by kernel_rfl) (fun _ _ _ h => h) (Or.inl ⟨by rfl, ?hyz7⟩) (by first | assumption | exact trivial) ?restz7
  case hyz7 => intro W hSW; go_simp; try (with_reducible rfl)
  simp only [Act.put, List.getElem_toArray, List.getElem_cons_succ, List.getElem_cons_zero, List.setIfInBounds_toArray, List.set_cons_zero, List.set_cons_succ]
  refine wpAnyH_ready (rs := [7]) (by kernel_rfl) (by simp) ?_
  refine AllReadyH.cons rfl (fun K hK => ?_) AllReadyH.nil
  go_simp
  go_wp2_with (go_at_call 45; refine HU1.out.mono ?_; rintro e w2 ⟨rfl, hb2⟩)
  have S2 : Below w1.heap.size w1 w2 := ((Below.refl _ w1).drew).trans hb2.out
  refine hK.out _ _ (S2) (fun hHeld => ?_)
  clear hK K
  refine wpAnyH_take (i := 8) (v := .int .i64 d) rfl (by kernel_rfl) (by kernel_rfl) (by kernel_rfl) (fun _ _ _ h => h) (Or.inl ⟨by rfl, ?_⟩) (by first | assumption | exact trivial) ?_
  · intro W hSW; have q8 := hw; go_simp; try (with_reducible rfl)
  simp only [Act.put, List.getElem_toArray, List.getElem_cons_succ, List.getElem_cons_zero, List.setIfInBounds_toArray, List.set_cons_zero, List.set_cons_succ]
  refine wpAnyH_take (i := 9) (v := .bool false) rfl (by kernel_rfl) (by kernel_rfl) (by kernel_rfl) (fun _ _ _ h => h) (Or.inl ⟨by rfl, ?_⟩) (by first | assumption | exact trivial) ?_
  · intro W hSW; have q9 := hgt; go_simp; try (with_reducible rfl)
  simp only [Act.put, List.getElem_toArray, List.getElem_cons_succ, List.getElem_cons_zero, List.setIfInBounds_toArray, List.set_cons_zero, List.set_cons_succ]
  refine wpAnyH_take (i := 10) (v := ?vz8) rfl (by kernel_rfl) (by kernel_rfl) (by kernel_rfl) (fun _ _ _ h => h) (Or.inl ⟨by rfl, ?hyz8⟩) (by first | assumption | exact trivial) ?restz8
  case hyz8 => intro W hSW; go_simp; try (with_reducible rfl)
  simp only [Act.put, List.getElem_toArray, List.getElem_cons_succ, List.getElem_cons_zero, List.setIfInBounds_toArray, List.set_cons_zero, List.set_cons_succ]
  refine wpAnyH_take (i := 11) (v := ?vz9) rfl (by kernel_rfl) (by kernel_rfl) (by kernel_rfl) (fun _ _ _ h => h) (Or.inl ⟨by rfl, ?hyz9⟩) (by first | assumption | exact trivial) ?restz9
  case hyz9 => intro W hSW; go_simp; try (with_reducible rfl)
  simp only [Act.put, List.getElem_toArray, List.getElem_cons_succ, List.getElem_cons_zero, List.setIfInBounds_toArray, List.set_cons_zero, List.set_cons_succ]
  refine wpAnyH_take (i := 12) (v := ?vz10) rfl (by kernel_rfl) (by kernel_rfl) (by kernel_rfl) (fun _ _ _ h => h) (Or.inl ⟨by rfl, ?hyz10⟩) (by first | assumption | exact trivial) ?restz10
  case hyz10 => intro W hSW; go_simp; try (with_reducible rfl)
  simp only [Act.put, List.getElem_toArray, List.getElem_cons_succ, List.getElem_cons_zero, List.setIfInBounds_toArray, List.set_cons_zero, List.set_cons_succ]
  refine wpAnyH_take (i := 13) (v := ?vz11) rfl (by kernel_rfl) (by kernel_rfl) (by kernel_rfl) (fun _ _ _ h => h) (Or.inl ⟨by rfl, ?hyz11⟩) (by first | assumption | exact trivial) ?restz11
  case hyz11 => intro W hSW; go_simp; try (with_reducible rfl)
  simp only [Act.put, List.getElem_toArray, List.getElem_cons_succ, List.getElem_cons_zero, List.setIfInBounds_toArray, List.set_cons_zero, List.set_cons_succ]
  refine wpAnyH_take (i := 14) (v := ?vz12) rfl (by kernel_rfl) (by kernel_rfl) (by kernel_rfl) (fun _ _ _ h => h) (Or.inl ⟨by rfl, ?hyz12⟩) (by first | assumption | exact trivial) ?restz12
  case hyz12 => intro W hSW; go_simp; try (with_reducible rfl)
  simp only [Act.put, List.getElem_toArray, List.getElem_cons_succ, List.getElem_cons_zero, List.setIfInBounds_toArray, List.set_cons_zero, List.set_cons_succ]
  refine wpAnyH_take (i := 15) (v := ?vz13) rfl (by kernel_rfl) (by kernel_rfl) (by kernel_rfl) (fun _ _ _ h => h) (Or.inl ⟨by rfl, ?hyz13⟩) (by first | assumption | exact trivial) ?restz13
  case hyz13 => intro W hSW; go_simp; try (with_reducible rfl)
  simp only [Act.put, List.getElem_toArray, List.getElem_cons_succ, List.getElem_cons_zero, List.setIfInBounds_toArray, List.set_cons_zero, List.set_cons_succ]
  refine wpAnyH_take (i := 16) (v := ?vz14) rfl (by kernel_rfl) (by kernel_rfl) (by kernel_rfl) (fun _ _ _ h => h) (Or.inl ⟨by rfl, ?hyz14⟩) (by first | assumption | exact trivial) ?restz14
  case hyz14 => intro W hSW; go_simp; try (with_reducible rfl)
  simp only [Act.put, List.getElem_toArray, List.getElem_cons_succ, List.getElem_cons_zero, List.setIfInBounds_toArray, List.set_cons_zero, List.set_cons_succ]
  refine wpAnyH_take (i := 17) (v := ?vz15) rfl (by kernel_rfl) (by kernel_rfl) (by kernel_rfl) (fun _ _ _ h => h) (Or.inl ⟨by rfl, ?hyz15⟩) (by first | assumption | exact trivial) ?restz15
  case hyz15 => intro W hSW; have q17 := (hSW.cell (p := ⟨D, 0, none⟩) HD1.out).trans K0.out; go_simp; try (with_reducible rfl)
  simp only [Act.put, List.getElem_toArray, List.getElem_cons_succ, List.getElem_cons_zero, List.setIfInBounds_toArray, List.set_cons_zero, List.set_cons_succ]
  refine wpAnyH_take (i := 18) (v := ?vz16) rfl (by kernel_rfl) (by kernel_rfl) (by kernel_rfl) (fun _ _ _ h => h) (Or.inl ⟨by rfl, ?hyz16⟩) (by first | assumption | exact trivial) ?restz16
  case hyz16 => intro W hSW; have q18 := HLEN.out W (hSW.block mb Hmb1.out |>.trans (HB1.out.block mb Hmb.out)); go_simp; try (with_reducible rfl)
  simp only [Act.put, List.getElem_toArray, List.getElem_cons_succ, List.getElem_cons_zero, List.setIfInBounds_toArray, List.set_cons_zero, List.set_cons_succ]
  refine wpAnyH_take (i := 19) (v := .bool false) rfl (by kernel_rfl) (by kernel_rfl) (by kernel_rfl) (fun _ _ _ h => h) (Or.inl ⟨by rfl, ?_⟩) (by first | assumption | exact trivial) ?_
  · intro W hSW; have q19 := hN; go_simp; try (with_reducible rfl)
  simp only [Act.put, List.getElem_toArray, List.getElem_cons_succ, List.getElem_cons_zero, List.setIfInBounds_toArray, List.set_cons_zero, List.set_cons_succ]
  refine wpAnyH_take (i := 20) (v := ?vz17) rfl (by kernel_rfl) (by kernel_rfl) (by kernel_rfl) (fun _ _ _ h => h) (Or.inl ⟨by rfl, ?hyz17⟩) (by first | assumption | exact trivial) ?restz17
  case hyz17 => intro W hSW; go_simp; try (with_reducible rfl)
  simp only [Act.put, List.getElem_toArray, List.getElem_cons_succ, List.getElem_cons_zero, List.setIfInBounds_toArray, List.set_cons_zero, List.set_cons_succ]
  refine wpAnyH_take (i := 21) (v := ?vz18) rfl (by kernel_rfl) (by kernel_rfl) (by kernel_rfl) (fun _ _ _ h => h) (Or.inl ⟨by rfl, ?hyz18⟩) (by first | assumption | exact trivial) ?restz18
  case hyz18 => intro W hSW; go_simp; try (with_reducible rfl)
  simp only [Act.put, List.getElem_toArray, List.getElem_cons_succ, List.getElem_cons_zero, List.setIfInBounds_toArray, List.set_cons_zero, List.set_cons_succ]
  refine wpAnyH_done (by kernel_rfl) ?_ _
  have HB2 : Hid (Below w.heap.size w w2) := HB1.out.trans (S2.mono HB1.out.size)
  have HLY2 := Lib.hid (HLY.out w2 HB2.out)
  clear S2 hb2
  go_wp2_with (first
    | (go_at_call 46; refine HLY2.out.mono ?_; rintro e w4 ⟨⟨u, rfl⟩, h4, b4, l4⟩; have HF4 := Lib.hid (new_file HB2.out Hmb.out b4.out); have HR4 := Lib.hid (rd_map (hr.out.below HB2.out |>.more HB2.out.size |> fun h => (h.below (Me.below_alloc (o := .cells #[.slice none 0 0, .int .i64 0] 70) (Below.refl _ w2))).more (by simp)) (map_at HISM.out (HB2.out.alloc HB2.out.size _)) b4.out); have r0 : w4.cell? ⟨w2.heap.size, 0, none⟩ = some (.slice none 0 0) := cell_of_row w4 w2.heap.size 0 _ _ (0, 0) HF4.out.blk; have HLK4 : Lk w4 mb n w2.heap.size := (by unfold Lk; rw [HNS.out]; exact l4.out); have HDA := Lib.hid (h4.out.at HSR.out HMX.out (by rw [look_put, if_pos rfl]) HLK4 HF4.out).2.2.2.2; clear HLK4; have HB4 := Lib.hid b4.out; have HG4 := Lib.hid h4.out; clear b4 l4 h4)
    | (refine app8q rfl (.tmp 56) (.tmp 57) rfl w4.heap.size (.slice none 0 0) [] l rfl HF4.out.own Ap cp (by rw [HLL.out]; rfl) HR4.out hA.out HA.out ?_; intro v5 w5 ho5 hg5 hf5; have HX := Lib.hid (app_file HF4.out ho5 hg5 hf5); obtain ⟨A5, c5, e5, _⟩ := ho5.held hr.out.1; clear ho5; generalize ([] ++ l).length = m5 at e5; subst e5; have r5 : w5.cell? ⟨w2.heap.size, 0, none⟩ = some (.slice none 0 0) := ((World.cell?_of_block (w := w4) (a := ⟨w2.heap.size, 0, none⟩) (hg5.block _ HF4.out.lt fun e => HF4.out.ne e.symm))).trans r0; have z5 : w5.frozen? ⟨w2.heap.size, 0, none⟩ = false := frozen_of_row w5 _ 0 _ _ ((hg5.block _ HF4.out.lt fun e => HF4.out.ne e.symm).trans HF4.out.blk); have HY := Lib.hid (HDA.out _ _ _ HX.out.2 HX.out.1 hf5); have HZ := Lib.hid (new_end HB2.out HB4.out HY.out HPP.out HGM.out); have HDY := Lib.hid HZ.out.1; clear hg5 hf5)
    | (go_at_call 47; refine (HCH.out _ HDY).mono ?_; rintro e w6 ⟨⟨u, rfl⟩, hd6, hb6⟩))
  go_ret
  exact ⟨rfl, hd6, But.loosen HZ.out.2 hb6.out rfl⟩
/-- Append, whatever comes of it. -/
theorem Append_any (h : Hid (Dq G w D mb s)) (ok : Hid s.Ok) (n : Nm) (Ap : Option Addr) (cp : Nat) (l : List Nat) (hr : Hid (Me.Rd w w.heap.size Ap l)) (hA : Hid (Ap = none → l.length = 0 ∧ cp = 0)) (hl : l.length ≤ 140737488351232) :
    Calls Tryz.prog 19 #[.pointer (some ⟨D, 0, none⟩), nmV n, .slice Ap l.length cp] w (OpP G w D mb (appS s n l) (appE s n l)) := by
  by_cases hm : mayE s [n] = 0
  · by_cases hroom : s.limit < used s.files + l.length
    · have hE : appE s n l = 6 := by unfold appE; rw [if_neg (by simp [hm]), if_pos (.inl hroom)]
      have hS : appS s n l = s := by unfold appS; rw [hE, if_neg (by decide)]
      rw [hE, hS]
      exact (App_full w D mb s h ok n Ap l.length cp hm hl hroom).mono fun e w' ⟨he, hb⟩ => he ▸ OpP.same h.out hb
    · cases hk : look s.files n with
      | some f =>
        have hE : appE s n l = 0 := by
          unfold appE
          rw [if_neg (by simp [hm]), if_neg (by simp [hk]; omega)]
        have hS : appS s n l = chg s (put s.files n ⟨f.bytes ++ l, f.safe⟩) := by unfold appS; rw [hE, if_pos rfl, hk]; rfl
        rw [hE, hS]
        exact App_some w D mb s h ok n Ap cp l hr hA hm hroom f hk
      | none =>
        by_cases hc : s.files.length = 64
        · have hE : appE s n l = 6 := by unfold appE; rw [if_neg (by simp [hm]), if_pos (.inr ⟨by simp [hk], hc⟩)]
          have hS : appS s n l = s := by unfold appS; rw [hE, if_neg (by decide)]
          rw [hE, hS]
          exact (App_many w D mb s h ok n Ap l.length cp hm hl hroom hk hc).mono fun e w' ⟨he, hb⟩ => he ▸ OpP.same h.out hb
        · have hE : appE s n l = 0 := by
            unfold appE
            rw [if_neg (by simp [hm]), if_neg (by
              rintro (h1 | h1)
              · exact hroom h1
              · exact hc h1.2)]
          have hS : appS s n l = chg s (put s.files n ⟨l, 0⟩) := by unfold appS; rw [hE, if_pos rfl, hk]; rfl
          rw [hE, hS]
          exact App_none w D mb s h ok n Ap cp l hr hA hm hroom hk hc
  · have hE : appE s n l = mayE s [n] := by unfold appE; rw [if_pos hm]
    have hS : appS s n l = s := by unfold appS; rw [hE, if_neg hm]
    rw [hE, hS]
    exact (App_may w D mb s h n Ap l.length cp hm).mono fun e w' ⟨he, hb⟩ => he ▸ OpP.same h.out hb
end
end Go.Proofs.YtbacgljeadalbaaGreatDoor.Dk
