/- The contract of a decoder's Clone. -/
import Derived.Test.YtoaffkmjobmhaaaHdSmall
namespace Go.Proofs.Ytoaffkmjobmhaaa.Hd
open Go.RowKit
open Go.Proofs.Ytoaffkmjobmhaaa.Me Go.Proofs.Ytoaffkmjobmhaaa.St
open Go.Proofs.Ytoaffkmjobmhaaa.Cr (addL rightB)
set_option linter.unusedVariables false
set_option linter.unusedSimpArgs false

theorem BClone_any (A : Option Addr) (cap B : Nat) (l : List Nat) (w : World) (hr : Hid (Rd w B A l)) (hA : Hid (A = none → l.length = 0 ∧ cap = 0)) (hB : B ≤ w.heap.size) (hc : l.length ≤ 140737488355328) :
    Calls Try.prog 30 #[.slice A l.length cap] w fun e w' => ∃ v, e = .returned v ∧ Hid (Me.Own w' w.heap.size v l) ∧ Hid (Below w.heap.size w w') := by
  have ke := fun (w : World) (a : Option Addr) (n c : Nat) => Lib.run_eql_slice_nil (P := Try.prog) w 22 5 a n c 0 0 Try.underlying22
  rcases A with _ | ad
  · obtain ⟨h1, rfl⟩ := hA.out rfl
    obtain rfl : l = [] := List.eq_nil_of_length_eq_zero h1
    go_enter Try.func30, Try.ntmps30
    go_wp2
    go_ret
    exact ⟨_, rfl, Me.Own.nil _ _, Below.refl _ _⟩
  · go_enter Try.func30, Try.ntmps30
    go_wp2_with (at_builtin; refine app8 rfl (.tmp 5) (.tmp 6) rfl w.heap.size B _ [] l rfl (Me.Own.lit (Below.refl _ _)) (below_alloc (Below.refl _ _)) (by simp) (some ad) cap rfl (hr.out.below ((Below.refl _ _).alloc hB _)) hA.out (by simp; omega) ?_; intro v2 w2 ho2 hb2 _; have HO2 := Lib.hid ho2; have HB2 := Lib.hid hb2; clear ho2 hb2)
    go_ret
    exact ⟨_, rfl, HO2, HB2⟩
/-- What a region that draws its order holds of a decoder. -/
def KeptD (D : Nat) (d : Dec) (v : Value) (w : World) : Prop :=
  w.cell? ⟨D, 0, none⟩ = some (.bool (!d.hunts)) ∧ w.cell? ⟨D, 1, none⟩ = some v ∧ w.cell? ⟨D, 2, none⟩ = some (.int .i64 (d.met.good : Int)) ∧ w.cell? ⟨D, 3, none⟩ = some (.int .i64 (d.met.bad : Int)) ∧ w.cell? ⟨D, 4, none⟩ = some (.int .i64 (d.met.short : Int)) ∧ w.cell? ⟨D, 5, none⟩ = some (.int .i64 (d.met.long : Int)) ∧ w.cell? ⟨D, 6, none⟩ = some (.int .i64 (d.met.broken : Int))
theorem KeptD.mk {D : Nat} {d : Dec} {v : Value} {w : World} (h : Dblk w D d v) : KeptD D d v w := ⟨h.cell 0, h.cell 1, h.cell 2, h.cell 3, h.cell 4, h.cell 5, h.cell 6⟩
/-- What Clone answers: a decoder at E, its gathered bytes its own. -/
def CloneP (w : World) (d : Dec) (e : Ending) (w' : World) : Prop :=
  ∃ E A c, e = .returned (.pointer (some ⟨E, 0, none⟩)) ∧ w.heap.size ≤ E ∧ Hid (Dblk w' E d (.slice A d.inn.length c)) ∧ Hid (Me.Own w' w.heap.size (.slice A d.inn.length c) d.inn) ∧ Hid (Below w.heap.size w w')
set_option maxRecDepth 100000 in
set_option maxHeartbeats 2000000 in
theorem Clone_any (w : World) (D : Nat) (d : Dec) (A : Option Addr) (c : Nat) (h : Hid (Dblk w D d (.slice A d.inn.length c))) (ho : Hid (Me.Own w 0 (.slice A d.inn.length c) d.inn)) (hb : ∀ z ∈ d.inn, z < 256) (hl : d.inn.length ≤ 260) :
    Calls Try.prog 21 #[.pointer (some ⟨D, 0, none⟩)] w (CloneP w d) := by
  obtain ⟨r1, r2, r3, r4⟩ := own_rd ho.out hb
  have S0 : KeptD D d (.slice A d.inn.length c) w.drew := KeptD.mk (w := w.drew) h.out
  have HD := Lib.hid h.out.lt
  have HB := Lib.hid hb
  have HC := Lib.hid (BClone_any A c w.heap.size d.inn w.drew (Rd.below r1 (Below.refl _ _).drew) r2 (Nat.le_refl _) (by omega))
  clear r1 r2 r3 r4 hb
  go_enter Try.func21, Try.ntmps21
  go_wp2
  refine wp_region_held_drew (S := KeptD D d (.slice A d.inn.length c)) (by kernel_rfl) S0 (fun hHeld => ?_)
  refine wpAnyH_take (i := 0) (v := ?v0) rfl (by kernel_rfl) (by kernel_rfl) (by kernel_rfl) (fun _ _ _ h => h) (Or.inl ⟨by rfl, ?hy0⟩) (by assumption) ?rest0
  case hy0 => intro W hSW; go_simp; try (with_reducible rfl)
  simp only [Act.put, List.getElem_toArray, List.getElem_cons_succ, List.getElem_cons_zero, List.setIfInBounds_toArray, List.set_cons_zero, List.set_cons_succ]
  refine wpAnyH_take (i := 1) (v := ?v1) rfl (by kernel_rfl) (by kernel_rfl) (by kernel_rfl) (fun _ _ _ h => h) (Or.inl ⟨by rfl, ?hy1⟩) (by assumption) ?rest1
  case hy1 => intro W hSW; go_simp; try (with_reducible rfl)
  simp only [Act.put, List.getElem_toArray, List.getElem_cons_succ, List.getElem_cons_zero, List.setIfInBounds_toArray, List.set_cons_zero, List.set_cons_succ]
  refine wpAnyH_take (i := 2) (v := ?v2) rfl (by kernel_rfl) (by kernel_rfl) (by kernel_rfl) (fun _ _ _ h => h) (Or.inl ⟨by rfl, ?hy2⟩) (by assumption) ?rest2
  case hy2 => intro W hSW; go_simp; try (with_reducible rfl)
  simp only [Act.put, List.getElem_toArray, List.getElem_cons_succ, List.getElem_cons_zero, List.setIfInBounds_toArray, List.set_cons_zero, List.set_cons_succ]
  refine wpAnyH_take (i := 3) (v := ?v3) rfl (by kernel_rfl) (by kernel_rfl) (by kernel_rfl) (fun _ _ _ h => h) (Or.inl ⟨by rfl, ?hy3⟩) (by assumption) ?rest3
  case hy3 => intro W hSW; obtain ⟨n0, n1, n2, n3, n4, n5, n6⟩ := hSW; go_simp; try (with_reducible rfl)
  simp only [Act.put, List.getElem_toArray, List.getElem_cons_succ, List.getElem_cons_zero, List.setIfInBounds_toArray, List.set_cons_zero, List.set_cons_succ]
  refine wpAnyH_take (i := 4) (v := ?v4) rfl (by kernel_rfl) (by kernel_rfl) (by kernel_rfl) (fun _ _ _ h => h) (Or.inl ⟨by rfl, ?hy4⟩) (by assumption) ?rest4
  case hy4 => intro W hSW; go_simp; try (with_reducible rfl)
  simp only [Act.put, List.getElem_toArray, List.getElem_cons_succ, List.getElem_cons_zero, List.setIfInBounds_toArray, List.set_cons_zero, List.set_cons_succ]
  refine wpAnyH_take (i := 5) (v := ?v5) rfl (by kernel_rfl) (by kernel_rfl) (by kernel_rfl) (fun _ _ _ h => h) (Or.inl ⟨by rfl, ?hy5⟩) (by assumption) ?rest5
  case hy5 => intro W hSW; go_simp; try (with_reducible rfl)
  simp only [Act.put, List.getElem_toArray, List.getElem_cons_succ, List.getElem_cons_zero, List.setIfInBounds_toArray, List.set_cons_zero, List.set_cons_succ]
  refine wpAnyH_take (i := 6) (v := ?v6) rfl (by kernel_rfl) (by kernel_rfl) (by kernel_rfl) (fun _ _ _ h => h) (Or.inl ⟨by rfl, ?hy6⟩) (by assumption) ?rest6
  case hy6 => intro W hSW; go_simp; try (with_reducible rfl)
  simp only [Act.put, List.getElem_toArray, List.getElem_cons_succ, List.getElem_cons_zero, List.setIfInBounds_toArray, List.set_cons_zero, List.set_cons_succ]
  refine wpAnyH_take (i := 7) (v := ?v7) rfl (by kernel_rfl) (by kernel_rfl) (by kernel_rfl) (fun _ _ _ h => h) (Or.inl ⟨by rfl, ?hy7⟩) (by assumption) ?rest7
  case hy7 => intro W hSW; obtain ⟨n0, n1, n2, n3, n4, n5, n6⟩ := hSW; go_simp; try (with_reducible rfl)
  simp only [Act.put, List.getElem_toArray, List.getElem_cons_succ, List.getElem_cons_zero, List.setIfInBounds_toArray, List.set_cons_zero, List.set_cons_succ]
  refine wpAnyH_take (i := 9) (v := ?v9) rfl (by kernel_rfl) (by kernel_rfl) (by kernel_rfl) (fun _ _ _ h => h) (Or.inl ⟨by rfl, ?hy9⟩) (by assumption) ?rest9
  case hy9 => intro W hSW; go_simp; try (with_reducible rfl)
  simp only [Act.put, List.getElem_toArray, List.getElem_cons_succ, List.getElem_cons_zero, List.setIfInBounds_toArray, List.set_cons_zero, List.set_cons_succ]
  refine wpAnyH_take (i := 10) (v := ?v10) rfl (by kernel_rfl) (by kernel_rfl) (by kernel_rfl) (fun _ _ _ h => h) (Or.inl ⟨by rfl, ?hy10⟩) (by assumption) ?rest10
  case hy10 => intro W hSW; go_simp; try (with_reducible rfl)
  simp only [Act.put, List.getElem_toArray, List.getElem_cons_succ, List.getElem_cons_zero, List.setIfInBounds_toArray, List.set_cons_zero, List.set_cons_succ]
  refine wpAnyH_take (i := 11) (v := ?v11) rfl (by kernel_rfl) (by kernel_rfl) (by kernel_rfl) (fun _ _ _ h => h) (Or.inl ⟨by rfl, ?hy11⟩) (by assumption) ?rest11
  case hy11 => intro W hSW; go_simp; try (with_reducible rfl)
  simp only [Act.put, List.getElem_toArray, List.getElem_cons_succ, List.getElem_cons_zero, List.setIfInBounds_toArray, List.set_cons_zero, List.set_cons_succ]
  refine wpAnyH_take (i := 12) (v := ?v12) rfl (by kernel_rfl) (by kernel_rfl) (by kernel_rfl) (fun _ _ _ h => h) (Or.inl ⟨by rfl, ?hy12⟩) (by assumption) ?rest12
  case hy12 => intro W hSW; obtain ⟨n0, n1, n2, n3, n4, n5, n6⟩ := hSW; go_simp; try (with_reducible rfl)
  simp only [Act.put, List.getElem_toArray, List.getElem_cons_succ, List.getElem_cons_zero, List.setIfInBounds_toArray, List.set_cons_zero, List.set_cons_succ]
  refine wpAnyH_ready (rs := [8]) (by kernel_rfl) (by simp) ?_
  refine AllReadyH.cons rfl (fun K hK => ?_) AllReadyH.nil
  go_simp
  go_wp2_with (go_at_call 30; refine HC.out.mono ?_; rintro e w5 ⟨v, rfl, ho5, hb5⟩; obtain ⟨A5, c5, rfl, _, _, _⟩ := ho5.out.held HB.out)
  have S5 : KeptD D d (.slice A d.inn.length c) w5 := KeptD.mk ((hb5.out.block _ HD.out).trans h.out)
  refine hK.out _ _ S5 (fun hHeld => ?_)
  clear hK K
  refine wpAnyH_take (i := 13) (v := ?v13) rfl (by kernel_rfl) (by kernel_rfl) (by kernel_rfl) (fun _ _ _ h => h) (Or.inl ⟨by rfl, ?hy13⟩) (by assumption) ?rest13
  case hy13 => intro W hSW; go_simp; try (with_reducible rfl)
  simp only [Act.put, List.getElem_toArray, List.getElem_cons_succ, List.getElem_cons_zero, List.setIfInBounds_toArray, List.set_cons_zero, List.set_cons_succ]
  refine wpAnyH_ready (rs := [14]) (by kernel_rfl) (by simp) ?_
  refine AllReadyH.cons rfl (fun K hK => ?_) AllReadyH.nil
  go_simp
  have hlt5 : D < w5.heap.size := Nat.lt_of_lt_of_le HD.out hb5.out.size
  have S6 : KeptD D d (.slice A d.inn.length c) (w5.alloc (.cells #[.bool (!d.hunts), .slice A5 d.inn.length c5, .int .i64 (d.met.good : Int), .int .i64 (d.met.bad : Int), .int .i64 (d.met.short : Int), .int .i64 (d.met.long : Int), .int .i64 (d.met.broken : Int)] 49)) := KeptD.mk ((Below.heap_alloc _ _ _ hlt5).trans ((hb5.out.block _ HD.out).trans h.out))
  refine hK.out _ _ S6 (fun hHeld => ?_)
  clear hK K
  refine wpAnyH_take (i := 15) (v := ?v15) rfl (by kernel_rfl) (by kernel_rfl) (by kernel_rfl) (fun _ _ _ h => h) (Or.inl ⟨by rfl, ?hy15⟩) (by assumption) ?rest15
  case hy15 => intro W hSW; go_simp; try (with_reducible rfl)
  simp only [Act.put, List.getElem_toArray, List.getElem_cons_succ, List.getElem_cons_zero, List.setIfInBounds_toArray, List.set_cons_zero, List.set_cons_succ]
  refine wpAnyH_done (by kernel_rfl) ?_ _
  go_wp2
  go_ret
  have hb6 : Below w.heap.size w w5 := (Below.refl w.heap.size w).drew.trans hb5.out
  refine ⟨w5.heap.size, A5, c5, rfl, hb6.size, heap_alloc_new w5 _, own_same ho5.out fun k _ hk => Below.heap_alloc _ _ _ hk, below_alloc hb6⟩
end Go.Proofs.Ytoaffkmjobmhaaa.Hd
