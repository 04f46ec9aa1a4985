/- The event of bytes: the document's GetEv; events that are the same. -/
import Derived.Test.YtpofdimagfldnaaZ16
import Derived.Test.YtpofdimagfldnaaZ20
namespace Go.Proofs.Ytpofdimagfldnaa.So
open Go.RowKit
open Go.Proofs.Ytpofdimagfldnaa.Me Go.Proofs.Ytpofdimagfldnaa.Sb
open Go.Proofs.Ytpofdimagfldnaa.Mg (by_below own_setRow own_ty msg_one5 OwP conv_own sm eqI eqS eqI_eq two_boxes msgC sm_self)
set_option linter.unusedVariables false
set_option linter.unusedSimpArgs false

set_option maxRecDepth 100000 in
theorem RSame_by (i j : Mg.Id4) (A B : Option Addr) (n m c d : Nat) (l r : List Nat) (w : World) (h1 : Hid (BySlice w A n c l)) (h2 : Hid (BySlice w B m d r)) : Calls Try.prog 14 #[.agg (msgC i A n c), .agg (msgC j B m d)] w fun e w' => e = .returned (.bool (sm i j l r)) ∧ Hid (Below w.heap.size w w') := by
  obtain ⟨b, hb⟩ : ∃ b, sm i j l r = b := ⟨_, rfl⟩
  have HB := Lib.hid hb
  rw [hb]
  clear hb
  by_cases hE : eqI i j = true
  · have hij := eqI_eq hE
    subst hij
    have hb2 : eqS l r = b := by
      have := HB.out
      unfold sm at this
      rw [hE, Bool.true_and] at this
      exact this
    have HT := Lib.hid (two_boxes w)
    have k1 := fun W (hW : Below w.heap.size w W) => conv_rd W _ A l c (by_below h1.out hW).2.2.2.1 (by_below h1.out hW).2.2.2.2
    have k2 := fun W (hW : Below w.heap.size w W) => conv_rd W _ B r d (by_below h2.out hW).2.2.2.1 (by_below h2.out hW).2.2.2.2
    rw [← h1.out.1] at k1
    rw [← h2.out.1] at k2
    unfold eqS at hb2
    obtain ⟨s, hs⟩ : ∃ s, strOf l = s := ⟨_, rfl⟩
    obtain ⟨t, ht⟩ : ∃ t, strOf r = t := ⟨_, rfl⟩
    rw [hs] at k1 hb2
    rw [ht] at k2 hb2
    obtain ⟨o, dd, ee, cc⟩ := i
    simp only [msgC]
    have q1 := k1 _ (HT.out #[.int .i64 o, .int .i64 dd, .int .i64 ee, .int .i64 cc, .slice A n c] #[.int .i64 o, .int .i64 dd, .int .i64 ee, .int .i64 cc, .slice B m d])
    have q2 := k2 _ (HT.out #[.int .i64 o, .int .i64 dd, .int .i64 ee, .int .i64 cc, .slice A n c] #[.int .i64 o, .int .i64 dd, .int .i64 ee, .int .i64 cc, .slice B m d])
    clear HB hE k1 k2 hs ht h1 h2
    go_enter Try.func14, Try.ntmps14
    go_wp2
    go_ret
    exact ⟨by first | rfl | rw [hb2], HT.out _ _⟩
  · have hb2 : b = false := by
      have := HB.out
      unfold sm at this
      rw [Bool.eq_false_iff.2 hE, Bool.false_and] at this
      exact this.symm
    subst hb2
    have HT := Lib.hid (two_boxes w)
    obtain ⟨o, dd, ee, cc⟩ := i
    obtain ⟨p, q, s, t⟩ := j
    have HN : Hid (¬ (o = p ∧ dd = q ∧ ee = s ∧ cc = t)) := fun h => hE (by simp [eqI, h])
    clear hE HB h1 h2
    simp only [msgC]
    go_enter Try.func14, Try.ntmps14
    go_wp2
    all_goals first
      | (exfalso; apply HN.out; refine ⟨?_, ?_, ?_, ?_⟩ <;> assumption)
      | (go_ret
         exact ⟨rfl, HT.out _ _⟩)

/-- The document's GetEv answers the same. -/
theorem RGetEv_any (A : Option Addr) (n cap : Nat) (l : List Nat) (w : World) (hi : Hid (BySlice w A n cap l)) (hlt : ∀ z ∈ l, z < 256) :
    Calls Try.prog 27 #[.slice A n cap] w (GeE l w) := by
  obtain rfl : n = l.length := hi.out.1
  obtain ⟨V, hV⟩ : ∃ V, w.alloc (.cells #[.int .i64 0, .int .i64 0, .int .i64 0, .int .i64 0, .int .i64 0, .slice none 0 0] 60) = V := ⟨_, rfl⟩
  have hX : V.heap[w.heap.size]? = some (.cells #[.int .i64 0, .int .i64 0, .int .i64 0, .int .i64 0, .int .i64 0, .slice none 0 0] 60 (0, 0)) := by rw [← hV]; exact heap_alloc_new w _
  have hB : Below w.heap.size w V := by rw [← hV]; exact Me.below_alloc (Below.refl _ _)
  have HX := Lib.hid hX
  have HB := Lib.hid hB
  have HV := Lib.hid hV
  have HXl : Hid (w.heap.size < V.heap.size) := (Array.getElem?_eq_some_iff.1 hX).1
  clear hV hX hB
  cases l with
  | nil =>
    refine Calls.mono ?_ fun e w' (h : e = .returned (.tuple #[.agg #[.int .i64 0, .int .i64 0, .int .i64 0, .int .i64 0, .int .i64 0, .slice none 0 0], .int .i64 2]) ∧ Below w.heap.size w w') => GeE.no rfl h.1 h.2
    clear hi
    simp only [List.length_nil]
    go_enter Try.func27, Try.ntmps27
    go_wp2_with (rw [HV.out]; refine wpList_store_row rfl 60 (.tmp 2) (.tmp 10) rfl w.heap.size #[.int .i64 0, .int .i64 0, .int .i64 0, .int .i64 0, .int .i64 0, .slice none 0 0] rfl rfl 60 _ HX.out (by kernel_rfl) rfl (by kernel_rfl) ?_)
    exact Sb.ret_box2 (g := w.heap.size) rfl (by rfl) (setRow_heap _ _ _ _ _ _ HX.out) rfl Try.underlying60 (by kernel_rfl) rfl ⟨rfl, Sb.below_setRow _ HB.out (Nat.le_refl _)⟩
  | cons k r =>
    have hk : k < 256 := hlt k (by simp)
    have hr : ∀ z ∈ r, z < 256 := fun z hz => hlt z (by simp [hz])
    obtain ⟨b, off, rfl, hbl, hc⟩ := hi.out.2.2.2.1.2 (by simp)
    have HC0 : Hid (∀ W, Below w.heap.size w W → W.cell? ⟨b, off, none⟩ = some (.int .u8 (k : Int))) := fun W hW => (hW.cell (p := ⟨b, off, none⟩) hbl).trans (by
      have := hc 0 (by simp)
      exact this)
    have hlc := hi.out.2.1
    have hcm := hi.out.2.2.1
    obtain ⟨R, rfl⟩ : ∃ R, cap = 1 + R := ⟨cap - 1, by simp only [List.length_cons] at hlc; omega⟩
    obtain ⟨A', hA'⟩ : ∃ A', (if R = 0 then (some ⟨b, off, none⟩ : Option Addr) else some ⟨b, off + 1, none⟩) = A' := ⟨_, rfl⟩
    have HRB : Hid (∀ W, Below w.heap.size w W → BySlice W A' r.length R r) := fun W hW => by
      have h1 := by_below hi.out hW
      have h2 := h1.2.2.2.1.drop 1
      refine ⟨rfl, by simp only [List.length_cons] at hlc; omega, by omega, ?_, fun e => by rw [← hA'] at e; split at e <;> cases e⟩
      rw [← hA']
      split
      · have hr0 : r = [] := List.eq_nil_of_length_eq_zero (by simp only [List.length_cons] at hlc; omega)
        subst hr0
        exact ⟨by simp, by simp⟩
      · exact h2
    have HG2 := Lib.hid (fun W (hW : Below w.heap.size w W) => Mg.RGet_msg A' r.length R r W (HRB.out W hW))
    have HGi := Lib.hid (fun W (hW : Below w.heap.size w W) => Mg.RGetId_any A' r.length R r W (HRB.out W hW))
    have HA' := Lib.hid hA'
    have HCv : Hid (∀ W, Below w.heap.size w W → (convert 44 9 (.slice (some ⟨b, off, none⟩) (k :: r).length (1 + R))).run Try.prog W = .ok (.string (strOf (k :: r))) W) := fun W hW => conv_rd W _ _ (k :: r) _ (by_below hi.out hW).2.2.2.1 (by_below hi.out hW).2.2.2.2
    obtain ⟨r1, r2⟩ := ref_get hk hr
    have hgz : geZ (k :: r) = if geO (k : Int) r = true then 0 else 2 := rfl
    have hgi : gI (k :: r) = geI k r := rfl
    have hgd : gD (k :: r) = geD k r := rfl
    have hgk : geK (k :: r) = if geO (k : Int) r = true then (k : Int) else 0 := rfl
    obtain ⟨m, hm⟩ : ∃ m, r.length = m := ⟨_, rfl⟩
    have hL : (k :: r).length = 1 + m := by rw [List.length_cons, hm]; omega
    rw [hL] at hlc HCv ⊢
    rw [hm] at HG2 HGi
    have m1 : ((1 + (m : Int)) == 0) = false := by simp; omega
    have m3 : 1 ≤ 1 + R := by omega
    have m4 : 1 ≤ 1 + (R : Int) := by omega
    have m5 : 1 ≤ 1 + m := by omega
    have m7 : 1 ≤ 1 + (m : Int) := by omega
    have m8 : ¬ (1 + (m : Int) ≤ 0) := by omega
    have HWK : Hid (IntKind.i64.wrap (k : Int) = (k : Int)) := Mi.fits' (by unfold Mi.I64; omega)
    have k0 : 0 ≤ (k : Int) := by omega
    have k1 : (k : Int) ≤ 255 := by omega
    have hno : ∀ e w', ¬ geO (k : Int) r = true → e = .returned (.tuple #[.agg #[.int .i64 0, .int .i64 0, .int .i64 0, .int .i64 0, .int .i64 0, .slice none 0 0], .int .i64 2]) → Below w.heap.size w w' → GeE (k :: r) w e w' := fun e w' h he hb => GeE.no (by rw [hgz, if_neg h]) he hb
    by_cases h2 : (k : Int) = 2
    · have hk2 : k = 2 := by omega
      subst hk2
      have rr := r1 rfl
      obtain ⟨⟨o, d, ee, cc⟩, hI⟩ : ∃ i, Mg.mI r = i := ⟨_, rfl⟩
      obtain ⟨D, hD⟩ : ∃ D, Mg.mD r = D := ⟨_, rfl⟩
      obtain ⟨zz, hz⟩ : ∃ z, Mg.mZ r = z := ⟨_, rfl⟩
      have HDl : Hid (∀ z ∈ D, z < 256) := by rw [← hD]; exact mD_lt hr
      unfold Mg.GetM at HG2
      rw [hI, hD, hz] at HG2
      rw [hI, hD] at rr
      obtain ⟨nD, hnD⟩ : ∃ n, D.length = n := ⟨_, rfl⟩
      have HnD := Lib.hid hnD
      rw [hnD] at HG2
      simp only [Mg.msgC] at HG2
      refine rge_two w V b off m R nD zz o d ee cc A' r D HX hbl HB HV HXl HC0 HA' HG2 HDl HnD HCv hlt ?_ (fun e w' => ⟨fun h he hb => hno e w' (fun q => h (rr.2 q)) he hb, fun h A c he ho hb => ?_⟩) m1 m3 m4 m5 m7 m8 HWK (by decide) (by decide)
      · by_cases c1 : chkE 2 ⟨o, d, ee, cc⟩ D.length = 0
        · by_cases c2 : evB 2 ⟨o, d, ee, cc⟩ D = 2 :: r
          · exact .inr (.inr ⟨c1, c2⟩)
          · exact .inr (.inl ⟨c1, c2⟩)
        · exact .inl c1
      · have ho' := rr.1 h
        obtain ⟨g1, g2, _⟩ := geI_two r
        unfold GeE
        rw [hgz, hgi, hgd, hgk, if_pos ho', if_pos ho']
        rw [show ((2 : Nat) : Int) = 2 from rfl, g1, g2, hI, hD, hnD]
        exact ⟨A, c, he, ho, hb⟩
    · have rr := r2 h2
      have hk2 : ((k : Int) == 2) = false := by simpa using h2
      obtain ⟨⟨o, d, ee, cc⟩, hI⟩ : ∃ i, Mg.getI r = i := ⟨_, rfl⟩
      obtain ⟨zz, hz⟩ : ∃ z, Mg.getZ r = z := ⟨_, rfl⟩
      rw [hI, hz] at HGi
      rw [hI] at rr
      simp only [Mg.idC] at HGi
      refine rge_id w V b off m R k zz o d ee cc A' r HX hbl HB HV HXl HC0 HA' HGi hk2 HCv hlt ?_ (fun e w' => ⟨fun h he hb => hno e w' (fun q => h (rr.2 q)) he hb, fun h A c he ho hb => ?_⟩) m1 m3 m4 m5 m7 m8 HWK k0 k1
      · by_cases c1 : chkE k ⟨o, d, ee, cc⟩ ([] : List Nat).length = 0
        · by_cases c2 : evB k ⟨o, d, ee, cc⟩ [] = k :: r
          · exact .inr (.inr ⟨c1, c2⟩)
          · exact .inr (.inl ⟨c1, c2⟩)
        · exact .inl c1
      · have ho' := rr.1 h
        obtain ⟨g1, g2⟩ := geI_ref ho' h2
        unfold GeE
        rw [hgz, hgi, hgd, hgk, if_pos ho', if_pos ho', g1, g2, hI]
        exact ⟨A, c, he, ho, hb⟩
theorem two_evs (w : World) (x y : Array Value) : Below w.heap.size w ((w.alloc (.cells x 60)).alloc (.cells y 60)) := Me.below_alloc (Me.below_alloc (Below.refl _ _))
set_option maxRecDepth 100000 in
set_option maxHeartbeats 8000000 in
theorem SameEv_eq (k : Int) (i : Mg.Id4) (A B : Option Addr) (n c d : Nat) (D : List Nat) (w : World) (h1 : Hid (BySlice w A n c D)) (h2 : Hid (BySlice w B n d D)) : Calls Try.prog 28 #[.agg (evC k i A n c), .agg (evC k i B n d)] w fun e w' => e = .returned (.bool true) ∧ Hid (Below w.heap.size w w') := by
  have HS := Lib.hid (fun W (hW : Below w.heap.size w W) => RSame_by i i A B n n c d D D W (by_below h1.out hW) (by_below h2.out hW))
  rw [sm_self] at HS
  have HT := Lib.hid (two_evs w (evC k i A n c) (evC k i B n d))
  obtain ⟨_, y, x⟩ := two_new w (evC k i A n c) (evC k i B n d) 60 60
  obtain ⟨o, dd, ee, cc⟩ := i
  simp only [evC, msgC] at HS HT x y ⊢
  obtain ⟨x0, x1, x2, x3, x4, x5⟩ := ev_cells x
  obtain ⟨y0, y1, y2, y3, y4, y5⟩ := ev_cells y
  clear x y h1 h2
  go_enter Try.func28, Try.ntmps28
  go_wp2_with (go_at_call 14; refine (HS.out _ HT.out).mono ?_; rintro e w2 ⟨rfl, b2⟩)
  go_ret
  exact ⟨rfl, go_on HT.out b2.out⟩
end Go.Proofs.Ytpofdimagfldnaa.So
