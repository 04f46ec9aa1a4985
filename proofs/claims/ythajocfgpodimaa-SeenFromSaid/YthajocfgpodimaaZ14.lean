/- Clone of a set. -/
import Derived.Test.YthajocfgpodimaaZ10
import Derived.Test.YthajocfgpodimaaZ3
import Derived.Test.YthajocfgpodimaaZ11
import Derived.Test.YthajocfgpodimaaZ13
import Derived.Maps.RangeWalk
namespace Go.Proofs.Ythajocfgpodimaa.Se
open Go.RowKit Go.Maps
open Go.Proofs.Ythajocfgpodimaa.Me Go.Proofs.Ythajocfgpodimaa.Sb
set_option linter.unusedVariables false
set_option linter.unusedSimpArgs false

/-- What was handed out of a map. -/
def keptL (kept : Int → Int → Option Mk) (L : List (Int × Int)) : Int → Int → Option Mk := fun o e => if (o, e) ∈ L then kept o e else none
theorem keptL_nil (kept : Int → Int → Option Mk) : keptL kept [] = fun _ _ => none := by funext o e; unfold keptL; simp
theorem keptL_snoc (kept : Int → Int → Option Mk) (L : List (Int × Int)) (o e : Int) (m : Mk) (h : kept o e = some m) : keptL kept (L ++ [(o, e)]) = setM (keptL kept L) o e m := by
  funext a b
  unfold keptL setM
  by_cases he : a = o ∧ b = e
  · obtain ⟨rfl, rfl⟩ := he
    simp [h]
  · have : ¬ ((a, b) = (o, e)) := fun hh => he (by cases hh; exact ⟨rfl, rfl⟩)
    rw [if_neg he]
    simp [this]
theorem Own_sl {w : World} {B : Nat} {v : Value} {l : List Int} (h : Mi.Own w B v l) : ∃ A c, v = .slice A l.length c ∧ Sl w A c l := by
  obtain ⟨A, c, e, h1, h2, h3, h4, _⟩ := h.form
  refine ⟨A, c, e, h1, h2, ?_, fun a ha => ?_⟩
  · intro hA
    have := h4 hA
    exact ⟨List.eq_nil_of_length_eq_zero this.1, this.2⟩
  · subst ha
    rcases h.2 with ⟨h5, _⟩ | ⟨g, cap, cur, h5, _, h6, _⟩
    · rw [e] at h5; cases h5
    · rw [e] at h5
      cases h5
      refine ⟨g, 0, rfl, ⟨cur, h6⟩, fun i hi => ?_⟩
      obtain ⟨b, off, e1, _, e3⟩ := h3 (by omega)
      cases e1
      exact e3 i hi
theorem Clone_nil2 (w : World) : Calls Try.prog 13 #[.pointer none] w fun e w' => e = .returned (.pointer none) ∧ w' = w := by
  go_enter Try.func13, Try.ntmps13
  go_wp2
  go_ret
  exact ⟨rfl, rfl⟩
set_option maxRecDepth 100000 in
set_option maxHeartbeats 8000000 in
theorem Clone_any (t : Bool) (D b n : Nat) (s : St) (w : World) (hS : Hid (Set w t D b n s)) (hn : n ≤ 1000) : Calls Try.prog 13 #[.pointer (some ⟨D, 0, none⟩)] w fun e w' => ∃ D' b' n', e = .returned (.pointer (some ⟨D', 0, none⟩)) ∧ n' ≤ n ∧ Hid (Set w' false D' b' n' s) ∧ w.heap.size ≤ D' ∧ w.heap.size ≤ b' ∧ Hid (Below w.heap.size w w') := by
  obtain ⟨y0, y1, y2⟩ := set_cells hS.out.box
  have hlt := hS.out.lt
  obtain ⟨D0, how, hv⟩ := hS.out.map
  have HV := Lib.hid hv
  have HSZ := Lib.hid how.size_le
  obtain ⟨X, hX⟩ : ∃ X, (w.alloc (.cells #[.int .i64 s.room, .int .i64 s.gaps, .map (some (w.heap.size + 1))] 61)).alloc (.map #[] 0) = X := ⟨_, rfl⟩
  obtain ⟨m0, hn0⟩ : ∃ m0, w.heap.size = m0 := ⟨_, rfl⟩
  have hbX : Below w.heap.size w X := by rw [← hX]; exact Me.below_alloc (Me.below_alloc (Below.refl _ _))
  have hsX : X.heap.size = m0 + 2 := by rw [← hX, ← hn0]; simp
  have hXD : X.heap[m0]? = some (.cells #[.int .i64 s.room, .int .i64 s.gaps, .map (some (m0 + 1))] 61 (0, 0)) := by
    rw [← hX, ← hn0]
    exact (Below.heap_alloc _ _ _ (by simp)).trans (heap_alloc_new w _)
  have hXM : Mp X false (m0 + 1) 0 (keptL s.kept []) := by
    rw [keptL_nil, ← hX, ← hn0]
    have := Mp.made (w.alloc (.cells #[.int .i64 s.room, .int .i64 s.gaps, .map (some (w.heap.size + 1))] 61)) false
    rwa [World.size_alloc] at this
  have HOX : Hid (X.ownsMap Try.prog 63 RV b n D0) := by
    obtain ⟨es, clock, hb, r⟩ := how
    exact ⟨es, clock, (hbX.block b hlt.2).trans hb, r⟩
  rw [hn0] at hX
  have HX := Lib.hid hX
  have HBX : Hid (Below m0 w X) := by rw [hn0] at hbX; exact hbX
  have HSX := Lib.hid hsX
  have HXD := Lib.hid hXD
  have HXM := Lib.hid hXM
  have HN0 := Lib.hid hn0
  have hbm : b < m0 := by omega
  have hDm : D < m0 := by omega
  clear hX hbX hsX hXD hXM how hv hlt
  have hmk : ∀ W : World, (Instr.makeMap 59 none).run Try.prog W = .ok (.map (some W.heap.size)) (W.alloc (.map #[] 0)) := fun W => by kernel_rfl
  go_enter Try.func13, Try.ntmps13
  go_wp2_with (first
    | (at_range; rw [HX.out]; refine wpList_range_own _ rfl _ 59 rfl 63 65 keyed Try.underlying59 RV b n D0 rfl HOX.out ?_; intro w0 hrg0 hg0 hs0; rw [HSX.out] at hrg0 ⊢)
    | go_in)
  have HB0 : Hid (Below m0 w w0) := by
    show Below m0 w w0
    exact HBX.out.grown hg0 (by have := HSX.out; omega) (fun j hj => by cases hj)
  have HS0 : Hid (w0.heap.size = m0 + 3) := by show _ = _; rw [hs0, HSX.out]
  have HB0X : Hid (Below (m0 + 2) X w0) := by
    show Below (m0 + 2) X w0
    exact (Below.refl _ X).grown hg0 (by have := HSX.out; omega) (fun j hj => by cases hj)
  clear hs0 hg0
  go_frame
  go_loopw [] (fun wr => ∃ (left : Lit → Bool) (cnt : Nat) (L : List (Int × Int)), Hid (wr.ranges Try.prog 63 RV b (m0 + 2) n D0 left cnt) ∧ Hid (Lft s.kept L left) ∧ Hid (L.length + cnt ≤ n) ∧ Hid (Mp wr false (m0 + 1) L.length (keptL s.kept L)) ∧ Hid (wr.heap[m0]? = some (.cells #[.int .i64 s.room, .int .i64 s.gaps, .map (some (m0 + 1))] 61 (0, 0))) ∧ Hid (Below m0 w wr) ∧ Hid (m0 + 3 ≤ wr.heap.size))
    (fun wr => wr.rangeLeft b (m0 + 2))
  case atStart =>
    have hsz0 := HS0.out
    refine ⟨_, _, [], hrg0, Lft.start HV.out, (by have := HSZ.out; show 0 + _ ≤ _; omega), HXM.out.keep (HB0X.out.block _ (by omega)) (Ints.below (by have := HSX.out; rw [this]; exact HB0X.out)), (HB0X.out.block m0 (by omega)).trans HXD.out, HB0, by show _ ≤ _; omega⟩
  case round =>
    obtain ⟨left, cnt, L, hrg, hC, hle, hM, hB, hbr, hsz⟩ := hrel
    clear y0 y1 y2 HXM HXD HB0X HS0 HB0 hrg0 HOX HX
    go_wp2_with (first
      | (at_next; refine wpList_next_ranges _ rfl _ rfl 63 keyed RV (fun x : Value => x) (fun v : Value => v) (fun key kl hk => ⟨key, rfl⟩) (fun v y _ => ⟨v, rfl⟩) b (m0 + 2) _ _ _ _ rfl hrg.out ?_ ?_)
      | go_in)
    · intro hc0 hl0
      have hall : keptL s.kept L = s.kept := by
        funext o e
        unfold keptL
        split
        · rfl
        · rename_i hm
          cases hk : s.kept o e with
          | none => rfl
          | some m =>
            have hp := (hS.out.ok.mkOk o e m hk).1
            have h1 := (hC.out (o, e) hp).2 ⟨by simp [hk], hm⟩
            rw [hl0] at h1
            cases h1
      rw [hall] at hM
      have HFin : Hid (Set wr false m0 (m0 + 1) L.length s) := ⟨hB.out, hM.out, hS.out.ok⟩
      go_wp2
      go_ret
      rw [HN0.out]
      exact ⟨m0, m0 + 1, L.length, rfl, by have := hle.out; omega, HFin, Nat.le_refl _, by omega, hbr⟩
    · intro x c kl' yd yp w2 cnt' hkey hlk hyv hyp hat hrg2 hlt hg2 hs2 hen
      obtain ⟨o, e, ekl, hp, hne⟩ := HV.out.keys _ (has_true_of_atKey hat)
      subst ekl
      obtain rfl := keyOf_place hp hkey
      have hl := (hC.out (o, e) hp).1 hlk
      obtain ⟨m, hm⟩ := Option.ne_none_iff_exists'.1 hne
      obtain ⟨_, v, hv1, hv2⟩ := HV.out.yes o e m hp hm
      have hcv : c = v := by
        have h1 := hat (.held c)
        rw [hv1, ← hyv] at h1
        injection h1 with h1
        exact h1.symm
      subst hcv
      have hL2 := hC.out.next (p := (o, e)) hp
      have hK2 := keptL_snoc s.kept L o e m hm
      have hok := (hS.out.ok.mkOk o e m hm).2
      have hml := hS.out.ok.more_le o e
      have hg1 := hS.out.ok.g1
      have hr1 := hS.out.ok.r1
      have hgm : getM s.kept o e = m := by unfold getM; rw [hm]; rfl
      rw [hgm] at hml
      have hm0 := HN0.out
      have b2 : Below m0 w w2 := hbr.out.grown hg2 (by have := hbr.out.size; omega) (fun j hj => by cases hj; omega)
      have he2 := hv2.keep (w' := w2) (Ints.below (by rw [hm0]; exact b2))
      obtain ⟨Am, cm, rfl, _, hsl⟩ := he2
      have hM2 : Mp w2 false (m0 + 1) L.length (keptL s.kept L) := hM.out.keep (hg2.block _ hM.out.lt (fun e => by simp only [Option.some.injEq] at e; omega)) fun k cs hk => hg2.block k (Array.getElem?_eq_some_iff.1 hk).1 (fun e => by
        simp only [Option.some.injEq] at e
        subst e
        obtain ⟨es, clock, since, seen, c0, q1, F, q2, q3, q4, rest⟩ := hrg.out
        rw [q4] at hk
        cases hk)
      have hD2 : w2.heap[m0]? = some (.cells #[.int .i64 s.room, .int .i64 s.gaps, .map (some (m0 + 1))] 61 (0, 0)) := (hg2.block m0 (by have := hsz.out; omega) fun e => by simp only [Option.some.injEq] at e; omega).trans hB.out
      have hsz2 : m0 + 3 ≤ w2.heap.size := by have := hsz.out; omega
      obtain ⟨u, hu⟩ : ∃ u, m.up = u := ⟨_, rfl⟩
      obtain ⟨ml, hme⟩ : ∃ ml, m.more = ml := ⟨_, rfl⟩
      rw [hu, hme] at hen
      rw [hme] at hsl hml
      have HMe : Hid (m.up = u ∧ m.more = ml) := ⟨hu, hme⟩
      obtain ⟨M, hMl⟩ : ∃ M, ml.length = M := ⟨_, rfl⟩
      have HCl : Hid (∀ W, Below w2.heap.size w2 W → Calls Try.prog 29 #[.slice Am ml.length cm] W fun e' w' => ∃ v, e' = .returned v ∧ Hid (Mi.Own w' W.heap.size v ml) ∧ Hid (Below W.heap.size W w')) := fun W hW => IClone_any Am cm w2.heap.size _ W (hsl.rd.below hW) (fun h => ⟨by rw [(hsl.2.2.1 h).1]; rfl, (hsl.2.2.1 h).2⟩) hW.size (by omega)
      rw [hMl] at hen HCl
      have HMl := Lib.hid hMl
      obtain ⟨V8, hV8⟩ : ∃ V8, (w2.alloc (.cells #[.int .i64 o, .int .i64 e] 63)).alloc (.cells #[.int .i64 u, .slice Am M cm] 65) = V8 := ⟨_, rfl⟩
      have hb8 : Below w2.heap.size w2 V8 := by rw [← hV8]; exact Me.below_alloc (Me.below_alloc (Below.refl _ _))
      have hx8 : V8.heap[w2.heap.size]? = some (.cells #[.int .i64 o, .int .i64 e] 63 (0, 0)) := by
        rw [← hV8]
        exact (Below.heap_alloc _ _ _ (by simp)).trans (heap_alloc_new w2 _)
      have hX8 : V8.heap[w2.heap.size + 1]? = some (.cells #[.int .i64 u, .slice Am M cm] 65 (0, 0)) := by
        rw [← hV8]
        have := heap_alloc_new (w2.alloc (.cells #[.int .i64 o, .int .i64 e] 63)) (.cells #[.int .i64 u, .slice Am M cm] 65)
        rw [World.size_alloc] at this
        exact this
      have hl8 : w2.heap.size + 1 < V8.heap.size := (Array.getElem?_eq_some_iff.1 hX8).1
      have HV8 := Lib.hid hV8
      have HB8 := Lib.hid hb8
      have Hx8 := Lib.hid hx8
      have HX8 := Lib.hid hX8
      have HM8 : Hid (Mp V8 false (m0 + 1) L.length (keptL s.kept L)) := hM2.keep (hb8.block _ hM2.lt) (Ints.below hb8)
      have HD8 : Hid (V8.heap[m0]? = some (.cells #[.int .i64 s.room, .int .i64 s.gaps, .map (some (m0 + 1))] 61 (0, 0))) := (hb8.block _ (by omega)).trans hD2
      have HBw : Hid (Below m0 w V8) := b2.trans (hb8.mono (by omega))
      have HRG8 : Hid (V8.ranges Try.prog 63 RV b (m0 + 2) n D0 (fun z => left z && !z.sameKey (kl o e)) cnt') := ranges_same hrg2 (hb8.block b (by omega)) (hb8.block _ (by omega))
      have HL2 := Lib.hid hL2
      have HK2 := Lib.hid hK2
      have HLT := Lib.hid hlt
      have HLE : Hid ((L ++ [(o, e)]).length + cnt' ≤ n) := by show _ ≤ _; have := hle.out; rw [List.length_append]; simp; omega
      have HLn : Hid (L.length ≤ 1000000000) := by show _ ≤ _; have := hle.out; omega
      have Hp := Lib.hid hp
      have HS8 : Hid (m0 + 3 ≤ w2.heap.size ∧ w2.heap.size + 1 < V8.heap.size) := ⟨hsz2, hl8⟩
      obtain ⟨X, hXX⟩ : ∃ X, w2.heap.size = X := ⟨_, rfl⟩
      rw [hXX] at Hx8 HX8 HS8
      have HXe := Lib.hid hXX
      have HRL := Lib.hid hrg.out.left_eq
      clear hV8 hb8 hx8 hX8 hl8 hM2 hD2 hsz2 hu hme hMl hsl hml hg1 hr1 hgm hok hm hv1 hv2 hL2 hK2 hlt hrg2 hg2 hs2 hl hlk hat hyv hkey hne hp b2 hm0 hXX
      unfold plV at hen
      go_wp2
      rw [HV8.out, HXe.out]
      have S0 : But (fun k => k = m0 + 1) V8 V8.drew := But.of_below (Below.refl _ _).drew
      refine wp_region_held_drew (S := fun W => But (fun k => k = m0 + 1) V8 W) (by kernel_rfl) S0 (fun hHeld => ?_)
      refine wpAnyH_take (i := 0) (v := .pointer (some ⟨m0, 2, none⟩)) rfl (by kernel_rfl) (by kernel_rfl) (by kernel_rfl) (fun _ _ _ h => h) (Or.inl ⟨by rfl, ?_⟩) (by first | assumption | exact trivial) ?_
      · intro W hSW; go_simp; try (with_reducible rfl)
      simp only [Act.put, List.getElem_toArray, List.getElem_cons_succ, List.getElem_cons_zero, List.setIfInBounds_toArray, List.set_cons_zero, List.set_cons_succ]
      refine wpAnyH_take (i := 1) (v := .map (some (m0 + 1))) rfl (by kernel_rfl) (by kernel_rfl) (by kernel_rfl) (fun _ _ _ h => h) (Or.inl ⟨by rfl, ?_⟩) (by first | assumption | exact trivial) ?_
      · intro W hSW; have x0 := (set_cells (hSW.at_ HD8.out (by omega))).2.2; go_simp; try (with_reducible rfl)
      simp only [Act.put, List.getElem_toArray, List.getElem_cons_succ, List.getElem_cons_zero, List.setIfInBounds_toArray, List.set_cons_zero, List.set_cons_succ]
      refine wpAnyH_take (i := 2) (v := .agg #[.int .i64 o, .int .i64 e]) rfl (by kernel_rfl) (by kernel_rfl) (by kernel_rfl) (fun _ _ _ h => h) (Or.inl ⟨by rfl, ?_⟩) (by first | assumption | exact trivial) ?_
      · intro W hSW; have x1 := hSW.at_ Hx8.out (by have := HS8.out; omega); have x2 := cell_of_row W X 0 _ _ (0, 0) x1; have x3 := cell_of_row W X 1 _ _ (0, 0) x1; go_simp; try (with_reducible rfl)
      simp only [Act.put, List.getElem_toArray, List.getElem_cons_succ, List.getElem_cons_zero, List.setIfInBounds_toArray, List.set_cons_zero, List.set_cons_succ]
      refine wpAnyH_take (i := 3) (v := .pointer (some ⟨X + 1, 0, none⟩)) rfl (by kernel_rfl) (by kernel_rfl) (by kernel_rfl) (fun _ _ _ h => h) (Or.inl ⟨by rfl, ?_⟩) (by first | assumption | exact trivial) ?_
      · intro W hSW; go_simp; try (with_reducible rfl)
      simp only [Act.put, List.getElem_toArray, List.getElem_cons_succ, List.getElem_cons_zero, List.setIfInBounds_toArray, List.set_cons_zero, List.set_cons_succ]
      refine wpAnyH_take (i := 4) (v := .int .i64 u) rfl (by kernel_rfl) (by kernel_rfl) (by kernel_rfl) (fun _ _ _ h => h) (Or.inl ⟨by rfl, ?_⟩) (by first | assumption | exact trivial) ?_
      · intro W hSW; have x1 := (mark_cells (hSW.at_ HX8.out (by have := HS8.out; omega))).1; go_simp; try (with_reducible rfl)
      simp only [Act.put, List.getElem_toArray, List.getElem_cons_succ, List.getElem_cons_zero, List.setIfInBounds_toArray, List.set_cons_zero, List.set_cons_succ]
      refine wpAnyH_take (i := 5) (v := .pointer (some ⟨X + 1, 1, none⟩)) rfl (by kernel_rfl) (by kernel_rfl) (by kernel_rfl) (fun _ _ _ h => h) (Or.inl ⟨by rfl, ?_⟩) (by first | assumption | exact trivial) ?_
      · intro W hSW; go_simp; try (with_reducible rfl)
      simp only [Act.put, List.getElem_toArray, List.getElem_cons_succ, List.getElem_cons_zero, List.setIfInBounds_toArray, List.set_cons_zero, List.set_cons_succ]
      refine wpAnyH_take (i := 6) (v := .slice Am M cm) rfl (by kernel_rfl) (by kernel_rfl) (by kernel_rfl) (fun _ _ _ h => h) (Or.inl ⟨by rfl, ?_⟩) (by first | assumption | exact trivial) ?_
      · intro W hSW; have x1 := (mark_cells (hSW.at_ HX8.out (by have := HS8.out; omega))).2; go_simp; try (with_reducible rfl)
      simp only [Act.put, List.getElem_toArray, List.getElem_cons_succ, List.getElem_cons_zero, List.setIfInBounds_toArray, List.set_cons_zero, List.set_cons_succ]
      refine wpAnyH_ready (rs := [7]) (by kernel_rfl) (by simp) ?_
      refine AllReadyH.cons rfl (fun K hK => ?_) AllReadyH.nil
      go_simp
      go_wp2_with (go_at_call 29; refine (HCl.out _ HB8.out.drew).mono ?_; rintro e' w3 ⟨vc, rfl, ho3, hb3⟩)
      obtain ⟨Ac, cc, rfl, hsl3⟩ := Own_sl ho3.out
      rw [HMl.out]
      have hb83 : Below V8.heap.size V8 w3 := (Below.refl _ _).drew.trans hb3.out
      have S3 : But (fun k => k = m0 + 1) V8 w3 := But.of_below hb83
      refine hK.out _ _ (S3) (fun hHeld => ?_)
      clear hK K
      refine wpAnyH_take (i := 8) (v := .agg #[.int .i64 u, .slice Ac M cc]) rfl (by kernel_rfl) (by kernel_rfl) (by kernel_rfl) (fun _ _ _ h => h) (Or.inl ⟨by rfl, ?_⟩) (by first | assumption | exact trivial) ?_
      · intro W hSW; go_simp; try (with_reducible rfl)
      simp only [Act.put, List.getElem_toArray, List.getElem_cons_succ, List.getElem_cons_zero, List.setIfInBounds_toArray, List.set_cons_zero, List.set_cons_succ]
      refine wpAnyH_ready (rs := [9]) (by kernel_rfl) (by simp) ?_
      refine AllReadyH.cons rfl (fun K hK => ?_) AllReadyH.nil
      rw [if_pos (by kernel_rfl)]
      have hM3 := HM8.out.keep (hb83.block _ HM8.out.lt) (Ints.below hb83)
      refine putW (.tmp 24) (.tmp 25) (.tmp 31) rfl false (m0 + 1) L.length (keptL s.kept L) o e m (.agg #[.int .i64 u, .slice Ac M cc]) rfl rfl rfl hM3 HLn.out Hp.out ⟨Ac, cc, by rw [HMe.out.1, HMe.out.2, HMl.out], fun h => (by cases h), by rw [HMe.out.2]; exact hsl3⟩ ?_
      intro w4 hM4 hB4 hz4
      simp only [Act.put, List.getElem_toArray, List.getElem_cons_succ, List.getElem_cons_zero, List.setIfInBounds_toArray, List.set_cons_zero, List.set_cons_succ]
      have S4 : But (fun k => k = m0 + 1) V8 w4 := S3.trans hB4 (fun _ _ h => h)
      refine hK.out _ _ (S4) (fun hHeld => ?_)
      clear hK K
      refine wpAnyH_done (by kernel_rfl) ?_ _
      have HM4 : Hid (Mp w4 false (m0 + 1) (L ++ [(o, e)]).length (keptL s.kept (L ++ [(o, e)]))) := by
        show Mp _ _ _ _ _
        rw [HK2.out, List.length_append]
        exact hM4
      have HD4 := Lib.hid (S4.at_ HD8.out (show m0 ≠ m0 + 1 by omega))
      have HB4 : Hid (Below m0 w w4) := HBw.out.trans (S4.below (show m0 ≤ V8.heap.size by have := HS8.out; omega) fun k hk => by omega)
      have HZ4 : Hid (m0 + 3 ≤ w4.heap.size) := by have := HS8.out; have := S4.size; show _ ≤ _; omega
      have HR4 : Hid (w4.ranges Try.prog 63 RV b (m0 + 2) n D0 (fun z => left z && !z.sameKey (kl o e)) cnt') := ranges_same HRG8.out (S4.same b (by have := HS8.out; omega) (by omega)) (S4.same _ (by have := HS8.out; omega) (by omega))
      clear hHeld S0 S3 S4 hM3 hM4 hB4 hz4 hb83 ho3 hb3 hsl3 hen
      go_roundw
      case rel => exact ⟨_, _, _, _, _, _, _, _, _, _, _, _, _, _, _, _, ⟨_, cnt', L ++ [(o, e)], HR4, HL2, HLE, HM4, HD4, HB4, HZ4⟩, rfl⟩
      case measure => rw [HR4.out.left_eq, HRL.out]; exact HLT.out
end Go.Proofs.Ythajocfgpodimaa.Se
/- The program's From: the set of marks. -/
namespace Go.Proofs.Ythajocfgpodimaa.Se
open Go.RowKit
open Go.Proofs.Ythajocfgpodimaa.Me Go.Proofs.Ythajocfgpodimaa.Sb
set_option linter.unusedVariables false
set_option linter.unusedSimpArgs false

/-- Mark j where it lies. -/
def RowsM (w : World) (A : Option Addr) (N : Nat) (ms : List Mr) : Prop := ∀ j, j < N → ∃ g' off pA pc, A = some ⟨g', off, none⟩ ∧ g' < w.heap.size ∧ (w.cell? ⟨g', off + j * 4, none⟩ = some (.int .i64 (mrAt ms j).o) ∧ w.cell? ⟨g', off + j * 4 + 1, none⟩ = some (.int .i64 (mrAt ms j).e) ∧ w.cell? ⟨g', off + j * 4 + 2, none⟩ = some (.int .i64 (mrAt ms j).up) ∧ w.cell? ⟨g', off + j * 4 + 3, none⟩ = some (.slice pA (mrAt ms j).more.length pc)) ∧ Mi.Rd w w.heap.size pA (mrAt ms j).more ∧ (pA = none → (mrAt ms j).more.length = 0 ∧ pc = 0)
theorem rowsM {A : Option Addr} {n c : Nat} {P : List Pm} {ms : List Mr} {w : World} (hv : Mv w (.slice A n c) P) (hz : Msn P) (hms : P.map Pm.m = ms) : n = P.length ∧ ms.length = P.length ∧ RowsM w A P.length ms := by
  obtain ⟨A0, c0, e0, hc1, hc2, hrows⟩ := hv
  injection e0 with e1 e2 e3
  subst e1 e2 e3
  refine ⟨rfl, by rw [← hms]; simp, fun j hj => ?_⟩
  obtain ⟨p, hp⟩ : ∃ p, P[j]? = some p := ⟨_, List.getElem?_eq_getElem hj⟩
  have e : mrAt ms j = p.m := by
    unfold mrAt
    rw [List.getD_eq_getElem?_getD, ← hms, List.getElem?_map, hp]; rfl
  obtain ⟨g', off, e1, e2, x, y1, y2, y3⟩ := hrows j p hp
  rw [e]
  exact ⟨g', off, p.A, p.c, e1, e2, x, y3, hz.each p (List.mem_of_getElem? hp)⟩
theorem Mw.msn {w : World} {B : Nat} {v : Value} {P : List Pm} (h : Mw w B v P) (hl : P.length ≤ 3000000000000) : Msn P := ⟨hl, fun p hp hA => by
  obtain ⟨A', c', e5, h3, h4, h5, h6, _⟩ := (h.each p hp).form
  unfold Pm.v at e5
  simp only [Value.slice.injEq] at e5
  rw [← e5.1, ← e5.2.2] at h6
  exact h6 hA⟩
set_option maxRecDepth 100000 in
set_option maxHeartbeats 8000000 in
/-- No room that can be, or marks that are not right: there is no set. -/
theorem From_bad (g : Int) (A : Option Addr) (n c : Nat) (P : List Pm) (ms : List Mr) (w : World) (hv : Hid (Mv w (.slice A n c) P)) (hz : Hid (Msn P)) (hms : Hid (P.map Pm.m = ms)) (hbad : (g < 0 ∨ 256 < g) ∨ ¬ okMs ms ms.length) :
    Calls Try.prog 26 #[.int .i64 g, .slice A n c] w fun e w' => e = .returned (.tuple #[.pointer none, .int .i64 (ckE g ms : Int)]) ∧ Hid (Below w.heap.size w w') := by
  obtain ⟨hn, hml, hR⟩ := rowsM hv.out hz.out hms.out
  have hcap := hz.out.len
  have hnc : P.length ≤ c := by
    obtain ⟨A0, c0, e0, hc1, _⟩ := hv.out
    injection e0 with e1 e2 e3
    omega
  by_cases hg : g < 0 ∨ 256 < g
  · have hk : ckE g ms = 1 := by unfold ckE; rw [if_pos hg]
    rw [hk]
    have HN := Lib.hid (fun W => New_no g hg W)
    clear hg hR hk hn hml hcap hnc hbad
    go_enter Try.func26, Try.ntmps26
    go_wp2_with (go_at_call 9; refine (HN.out _).mono ?_; rintro e w1 ⟨rfl, rfl⟩)
    go_ret2
    exact ⟨rfl, Below.refl _ _⟩
  · have HN := Lib.hid (fun W => New_ok g (by omega) (by omega) W)
    have HO : Hid (∀ W, Below w.heap.size w W → Calls Try.prog 40 #[.slice A n c] W fun e w' => ∃ B : Bool, e = .returned (.bool B) ∧ Hid (B = true ↔ okMs ms ms.length) ∧ Hid (Below W.heap.size W w')) := fun W hW => inOrder_any A n c P ms W (hv.out.below hW) hms (by omega)
    have hok : ¬ okMs ms ms.length := by
      rcases hbad with h | h
      · exact absurd h hg
      · exact h
    have hk : ckE g ms = 2 := by unfold ckE; rw [if_neg hg, if_pos hok]
    rw [hk]
    have HNo := Lib.hid hok
    clear hg hR hk hok hn hml hcap hnc hbad
    go_enter Try.func26, Try.ntmps26
    go_wp2_with (first
      | (go_at_call 9; refine (HN.out _).mono ?_; rintro e w1 ⟨D, b, rfl, hS, hD, hb, hb1⟩)
      | (go_at_call 40; refine (HO.out w1 hb1.out).mono ?_; rintro e w2 ⟨B, rfl, hB, hb2⟩; obtain rfl : B = false := (by cases B; rfl; exact absurd (hB.out.1 rfl) HNo.out)))
    go_ret2
    exact ⟨rfl, go_on hb1.out hb2.out⟩
end Go.Proofs.Ythajocfgpodimaa.Se
