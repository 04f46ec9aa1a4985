/- The walk of the law DiskArms. -/
import Derived.Test.YtdjgkoklkoahbaaDkDone
namespace Go.Proofs.Ytdjgkoklkoahbaa.Dk
open Go.RowKit
open Go.Proofs.Ytdjgkoklkoahbaa.Me Go.Proofs.Ytdjgkoklkoahbaa.Hd
set_option linter.unusedVariables false
set_option linter.unusedSimpArgs false

/-- What a call answers and leaves, as far as the power goes. -/
structure OpA (st : St) (c : Nat) (st' : St) : Prop where
  down : st.down = true → c = 9
  same : c ≠ 0 → st' = st
  chg : c = 0 → ∃ L, st' = Dk.chg st L
theorem OpA.app (st : St) (n : Nm) (p : List Nat) : OpA st (appE st n p) (appS st n p) := by
  refine ⟨fun h => ?_, fun h => ?_, fun h => ?_⟩
  · unfold appE mayE
    simp [h]
  · simp [appS, h]
  · exact ⟨_, by unfold appS; rw [if_pos h]⟩
theorem findE_down {st : St} (h : st.down = true) (n : Nm) : findE st n = 9 := by simp [findE, h]
theorem OpA.sync (st : St) (n : Nm) : OpA st (findE st n) (syncS st n) :=
  ⟨fun h => findE_down h n, fun h => by simp [syncS, h], fun h => ⟨_, by unfold syncS; rw [if_pos h]⟩⟩
theorem OpA.cut (st : St) (n : Nm) (k : Int) : OpA st (cutE st n k) (cutS st n k) :=
  ⟨fun h => by simp [cutE, findE_down h n], fun h => by simp [cutS, h], fun h => ⟨_, by unfold cutS; rw [if_pos h]⟩⟩
theorem OpA.ren (st : St) (a b : Nm) : OpA st (renE st a b) (renS st a b) :=
  ⟨fun h => by simp [renE, mayE, h], fun h => by simp [renS, h], fun h => ⟨_, by unfold renS; rw [if_pos h]⟩⟩
theorem OpA.rem (st : St) (n : Nm) : OpA st (findE st n) (remS st n) :=
  ⟨fun h => findE_down h n, fun h => by simp [remS, h], fun h => ⟨_, by unfold remS; rw [if_pos h]⟩⟩
/-- Armed for m changes, of which ch were done. -/
structure Am (m ch : Nat) (st : St) : Prop where
  le : ch ≤ m
  left : st.left = m - ch
  down : st.down = decide (ch = m)
theorem Am.new (n m : Nat) : Am m 0 (armS (newS n) (m : Int)) := by
  refine ⟨Nat.zero_le _, by simp [armS, newS], ?_⟩
  simp only [armS, newS, Bool.false_eq_true, if_false]
  by_cases h : m = 0
  · subst h; rfl
  · have h1 : ¬ (m : Int) = 0 := by omega
    have h2 : ¬ 0 = m := by omega
    simp [h, h1, h2]
theorem ne_b {a b : Nat} (h : a < b) : ((a : Int) == (b : Int)) = false := by
  have : ¬ (a : Int) = (b : Int) := by omega
  simpa using this
theorem Am.cases {m ch c : Nat} {st st' : St} (h : Am m ch st) (o : OpA st c st') : (ch = m ∧ c = 9 ∧ st' = st) ∨ (ch < m ∧ c = 0 ∧ Am m (ch + 1) st') ∨ (ch < m ∧ c ≠ 0 ∧ st' = st) := by
  by_cases h1 : ch = m
  · have h2 := o.down (by rw [h.down]; simpa using h1)
    exact .inl ⟨h1, h2, o.same (by omega)⟩
  · have h2 := h.le
    by_cases h3 : c = 0
    · obtain ⟨L, hL⟩ := o.chg h3
      refine .inr (.inl ⟨by omega, h3, by omega, ?_, ?_⟩)
      · rw [hL]
        show st.left - 1 = _
        rw [h.left]; omega
      · rw [hL]
        show decide (st.left = 1) = _
        rw [h.left]
        exact decide_eq_decide.2 (by omega)
    · exact .inr (.inr ⟨by omega, h3, o.same h3⟩)
theorem rem40 (N : Int) : ∃ t : Nat, IntKind.i64.wrap ((IntKind.u64.wrap N).tmod 40) = (t : Int) ∧ t < 40 := by
  obtain ⟨a, ha⟩ : ∃ a : Nat, IntKind.u64.wrap N = (a : Int) := by
    refine ⟨(IntKind.u64.wrap N).toNat, ?_⟩
    simp [IntKind.wrap, IntKind.bits, IntKind.signed]
    omega
  refine ⟨a % 40, ?_, Nat.mod_lt _ (by decide)⟩
  have h2 := Nat.mod_lt a (show 0 < 40 by decide)
  rw [ha, show (40 : Int) = ((40 : Nat) : Int) from rfl, ← Int.ofNat_tmod]
  exact Mi.fits' (Mi.small (by omega) (by omega))
/-- A room that is none. -/
theorem arms_bad (n : Int) (h : n < 1 ∨ 1048576 < n) (v : Value) (z : Int) (w : World) : Calls Try.prog 7 #[.int .i64 n, v, .int .i64 z] w fun e w' => e = .returned (.bool true) ∧ Below w.heap.size w w' := by
  have N := Lib.hid (New_bad n h w)
  have M := Lib.hid (may_no n h w)
  have W := Lib.hid (awake_any w)
  clear h
  go_enter Try.func7, Try.ntmps7
  go_wp2_with (first
    | (go_at_call 9; refine N.out.mono ?_; rintro e w' ⟨rfl, rfl⟩)
    | (go_at_call 18; refine M.out.mono ?_; rintro e w' ⟨rfl, rfl⟩)
    | (go_at_call 11; refine W.out.mono ?_; rintro e w' ⟨rfl, hb⟩))
  go_ret
  exact ⟨rfl, hb.out⟩
set_option maxRecDepth 100000 in
set_option maxHeartbeats 8000000 in
theorem arms_ok (n : Nat) (h1 : 1 ≤ n) (h2 : n ≤ 1048576) (A : Option Addr) (cap : Nat) (ls : List DAc) (z : Int) (w : World) (hlc : ls.length ≤ cap) (hm : cap ≤ 9223372036854775807) (hacts : Hid (Acts w A ls)) :
    Calls Try.prog 7 #[.int .i64 n, .slice A ls.length cap, .int .i64 z] w fun e w' => e = .returned (.bool true) ∧ Below w.heap.size w w' := by
  have N := Lib.hid (New_f n h1 h2 w)
  have HA := hacts
  obtain ⟨m, hw, hm40⟩ := rem40 z
  have HAM := Lib.hid (Am.new n m)
  have HW := Lib.hid awake_any
  have HAR := Lib.hid (fun (W : World) (D mb s : Nat) (hd : Hid (Df s W D mb (newS n))) => (show Calls Try.prog _ _ W (fun e w' => e = .returned (.int .i64 0) ∧ Hid (Df s w' D mb (armS (newS n) (m : Int))) ∧ Hid (Below s W w')) from Arm_f W D mb (newS n) hd (m : Int) (by omega)))
  obtain ⟨L, hL⟩ : ∃ L, ls.length = L := ⟨_, rfl⟩
  have HL := Lib.hid hL
  rw [hL] at hlc ⊢
  obtain ⟨s, hs⟩ : ∃ s, w.heap.size = s := ⟨_, rfl⟩
  have HS := Lib.hid hs
  rw [hs] at N ⊢
  clear hL hs h1 h2 hacts
  go_enter Try.func7, Try.ntmps7
  go_wp2_with (first
    | (go_at_call 9; refine N.out.mono ?_; rintro e w1 ⟨rfl, H1, B1⟩)
    | (go_at_call 29; refine (HAR.out w1 (s + 1) s s H1).mono ?_; rintro e w2 ⟨rfl, H2, B2⟩))
  have B2' : Hid (Below s w w2) := B1.out.trans B2.out
  obtain ⟨sa, hsa⟩ : ∃ sa, armS (newS n) (m : Int) = sa := ⟨_, rfl⟩
  rw [hsa] at H2 HAM
  clear hsa B2 B1 H1 HAR N
  go_loopw [9, 10] (fun u v wr => ∃ (ch k : Nat) (st : St), k ≤ L ∧ u = .int .i64 ch ∧ v = .int .i64 k ∧ Hid (Am m ch st) ∧ Hid (ch ≤ k) ∧ Hid (Df s wr (s + 1) s st) ∧ Hid (Below s w wr)) (fun _ v _ => L - (intOf v).toNat)
  case atStart => exact ⟨0, 0, sa, Nat.zero_le _, rfl, rfl, HAM, Nat.zero_le _, H2, B2'⟩
  case round =>
    obtain ⟨ch, k, st, hk, rfl, rfl, ham, hck, hd, hb⟩ := hrel
    clear H2 B2' HAM hw
    have hchm := ham.out.le
    by_cases hlt : k < L
    · by_cases h100 : (k : Int) < 100
      · obtain ⟨b, off, r, sl, rfl, hbb, hi, hcells⟩ := HA.out.at' (j := k) (by rw [HL.out]; exact hlt)
        rw [HS.out] at hcells hbb
        obtain ⟨⟨kd, nm, to, p, an, kp⟩, hac⟩ : ∃ a, acAt ls k = a := ⟨_, rfl⟩
        obtain ⟨R, cr⟩ := r
        rw [hac] at hcells hi
        simp only [nmV] at hcells
        obtain ⟨ns, hns⟩ : ∃ ns, (⟨nm.toArray⟩ : ByteArray) = ns := ⟨_, rfl⟩
        obtain ⟨ts, hts⟩ : ∃ ts, (⟨to.toArray⟩ : ByteArray) = ts := ⟨_, rfl⟩
        have HNS : Hid (nmV nm = .string ns) := by show _ = _; rw [← hns]
        have HTS : Hid (nmV to = .string ts) := by show _ = _; rw [← hts]
        rw [hns, hts] at hcells
        have HC := Lib.hid hcells
        have c0 := (hcells wr hb.out).1
        have c1 := (hcells wr hb.out).2.1
        have g1 : (k : Int) < (L : Int) := by omega
        have g0 : (0 : Int) ≤ (k : Int) := by omega
        have HPR := Lib.hid hi.pr
        rw [HS.out] at HPR
        have HPN := Lib.hid hi.pn
        have HPL : Hid (p.length ≤ 140737488351232) := by have q1 : p.length ≤ cr := hi.pl; have q2 : cr ≤ 140737488351232 := hi.pc; show p.length ≤ 140737488351232; omega
        have HAP : Hid (∀ W : World, Below s w W → Df s W (s + 1) s st → Calls Try.prog 14 #[.pointer (some ⟨s + 1, 0, none⟩), .string ns, .slice R p.length cr] W (OpF s W (s + 1) s (appS st nm p) (appE st nm p))) := fun W hW hD => by
          rw [← HNS.out]
          exact Append_f W (s + 1) s st hD nm R cr p ((HPR.out.below hW).more hD.lt) HPN HPL.out
        have HSY : Hid (∀ W : World, Df s W (s + 1) s st → Calls Try.prog 23 #[.pointer (some ⟨s + 1, 0, none⟩), .string ns] W (OpF s W (s + 1) s (syncS st nm) (findE st nm))) := fun W hD => by
          rw [← HNS.out]; exact Sync_f W (s + 1) s st hD nm
        have HCU : Hid (∀ W : World, Df s W (s + 1) s st → Calls Try.prog 26 #[.pointer (some ⟨s + 1, 0, none⟩), .string ns, .int .i64 an] W (OpF s W (s + 1) s (cutS st nm an) (cutE st nm an))) := fun W hD => by
          rw [← HNS.out]; exact Cut_f W (s + 1) s st hD nm an
        have HRN : Hid (∀ W : World, Df s W (s + 1) s st → Calls Try.prog 27 #[.pointer (some ⟨s + 1, 0, none⟩), .string ns, .string ts] W (OpF s W (s + 1) s (renS st nm to) (renE st nm to))) := fun W hD => by
          rw [← HNS.out, ← HTS.out]; exact Rename_f W (s + 1) s st hD nm to
        have HRM : Hid (∀ W : World, Df s W (s + 1) s st → Calls Try.prog 28 #[.pointer (some ⟨s + 1, 0, none⟩), .string ns] W (OpF s W (s + 1) s (remS st nm) (findE st nm))) := fun W hD => by
          rw [← HNS.out]; exact Remove_f W (s + 1) s st hD nm
        obtain ⟨pl, hpl⟩ : ∃ pl, p.length = pl := ⟨_, rfl⟩
        rw [hpl] at hcells HC HAP
        clear hac hns hts hcells hi hpl HPR HPN HPL
        by_cases h0 : kd = 0
        · subst h0
          obtain ⟨c, hc⟩ : ∃ c, appE st nm p = c := ⟨_, rfl⟩
          obtain ⟨st2, hst⟩ : ∃ st2, appS st nm p = st2 := ⟨_, rfl⟩
          have hop : OpA st c st2 := by rw [← hc, ← hst]; exact OpA.app st nm p
          rw [hc, hst] at HAP
          clear hc hst
          have hcs := ham.out.cases hop
          clear hop HSY HCU HRN HRM
          rcases hcs with ⟨a1, rfl, rfl⟩ | ⟨a1, rfl, har⟩ | ⟨a1, a2, rfl⟩
          · subst a1
            have x1 : st2.down = true := by rw [ham.out.down]; simp
            have HDN := Lib.hid (fun (W : World) (hD : Hid (Df s W (s + 1) s st2)) => Down_f W (s + 1) s st2 hD)
            rw [x1] at HDN
            clear x1
            go_wp2
            refine wp_region_held_drew (S := fun W => Below s w W) (by kernel_rfl) hb.out.drew (fun hHeld => ?_)
            refine wpAnyH_take (i := 0) (v := ?vz1) rfl (by kernel_rfl) (by kernel_rfl) (by kernel_rfl) (fun _ _ _ h => h) (Or.inl ⟨by rfl, ?hyz1⟩) (by first | assumption | exact trivial) ?restz1
            case hyz1 => intro W hSW; go_simp; try (with_reducible rfl)
            simp only [Act.put, List.getElem_toArray, List.getElem_cons_succ, List.getElem_cons_zero, List.setIfInBounds_toArray, List.set_cons_zero, List.set_cons_succ]
            refine wpAnyH_take (i := 1) (v := ?vz2) rfl (by kernel_rfl) (by kernel_rfl) (by kernel_rfl) (fun _ _ _ h => h) (Or.inl ⟨by rfl, ?hyz2⟩) (by first | assumption | exact trivial) ?restz2
            case hyz2 => intro W hSW; go_simp; try (with_reducible rfl)
            simp only [Act.put, List.getElem_toArray, List.getElem_cons_succ, List.getElem_cons_zero, List.setIfInBounds_toArray, List.set_cons_zero, List.set_cons_succ]
            refine wpAnyH_take (i := 2) (v := ?vz3) rfl (by kernel_rfl) (by kernel_rfl) (by kernel_rfl) (fun _ _ _ h => h) (Or.inl ⟨by rfl, ?hyz3⟩) (by first | assumption | exact trivial) ?restz3
            case hyz3 => intro W hSW; go_simp; try (with_reducible rfl)
            simp only [Act.put, List.getElem_toArray, List.getElem_cons_succ, List.getElem_cons_zero, List.setIfInBounds_toArray, List.set_cons_zero, List.set_cons_succ]
            refine wpAnyH_take (i := 3) (v := ?vz4) rfl (by kernel_rfl) (by kernel_rfl) (by kernel_rfl) (fun _ _ _ h => h) (Or.inl ⟨by rfl, ?hyz4⟩) (by first | assumption | exact trivial) ?restz4
            case hyz4 => intro W hSW; go_simp; try (with_reducible rfl)
            simp only [Act.put, List.getElem_toArray, List.getElem_cons_succ, List.getElem_cons_zero, List.setIfInBounds_toArray, List.set_cons_zero, List.set_cons_succ]
            refine wpAnyH_take (i := 4) (v := ?vz5) rfl (by kernel_rfl) (by kernel_rfl) (by kernel_rfl) (fun _ _ _ h => h) (Or.inl ⟨by rfl, ?hyz5⟩) (by first | assumption | exact trivial) ?restz5
            case hyz5 => intro W hSW; go_simp; try (with_reducible rfl)
            simp only [Act.put, List.getElem_toArray, List.getElem_cons_succ, List.getElem_cons_zero, List.setIfInBounds_toArray, List.set_cons_zero, List.set_cons_succ]
            refine wpAnyH_take (i := 5) (v := ?vz6) rfl (by kernel_rfl) (by kernel_rfl) (by kernel_rfl) (fun _ _ _ h => h) (Or.inl ⟨by rfl, ?hyz6⟩) (by first | assumption | exact trivial) ?restz6
            case hyz6 => intro W hSW; have q5 := (HC.out W hSW).2.1; go_simp; try (with_reducible rfl)
            simp only [Act.put, List.getElem_toArray, List.getElem_cons_succ, List.getElem_cons_zero, List.setIfInBounds_toArray, List.set_cons_zero, List.set_cons_succ]
            refine wpAnyH_take (i := 6) (v := ?vz7) rfl (by kernel_rfl) (by kernel_rfl) (by kernel_rfl) (fun _ _ _ h => h) (Or.inl ⟨by rfl, ?hyz7⟩) (by first | assumption | exact trivial) ?restz7
            case hyz7 => intro W hSW; go_simp; try (with_reducible rfl)
            simp only [Act.put, List.getElem_toArray, List.getElem_cons_succ, List.getElem_cons_zero, List.setIfInBounds_toArray, List.set_cons_zero, List.set_cons_succ]
            refine wpAnyH_take (i := 7) (v := ?vz8) rfl (by kernel_rfl) (by kernel_rfl) (by kernel_rfl) (fun _ _ _ h => h) (Or.inl ⟨by rfl, ?hyz8⟩) (by first | assumption | exact trivial) ?restz8
            case hyz8 => intro W hSW; go_simp; try (with_reducible rfl)
            simp only [Act.put, List.getElem_toArray, List.getElem_cons_succ, List.getElem_cons_zero, List.setIfInBounds_toArray, List.set_cons_zero, List.set_cons_succ]
            refine wpAnyH_take (i := 8) (v := ?vz9) rfl (by kernel_rfl) (by kernel_rfl) (by kernel_rfl) (fun _ _ _ h => h) (Or.inl ⟨by rfl, ?hyz9⟩) (by first | assumption | exact trivial) ?restz9
            case hyz9 => intro W hSW; go_simp; try (with_reducible rfl)
            simp only [Act.put, List.getElem_toArray, List.getElem_cons_succ, List.getElem_cons_zero, List.setIfInBounds_toArray, List.set_cons_zero, List.set_cons_succ]
            refine wpAnyH_take (i := 9) (v := ?vz10) rfl (by kernel_rfl) (by kernel_rfl) (by kernel_rfl) (fun _ _ _ h => h) (Or.inl ⟨by rfl, ?hyz10⟩) (by first | assumption | exact trivial) ?restz10
            case hyz10 => intro W hSW; go_simp; try (with_reducible rfl)
            simp only [Act.put, List.getElem_toArray, List.getElem_cons_succ, List.getElem_cons_zero, List.setIfInBounds_toArray, List.set_cons_zero, List.set_cons_succ]
            refine wpAnyH_take (i := 10) (v := ?vz11) rfl (by kernel_rfl) (by kernel_rfl) (by kernel_rfl) (fun _ _ _ h => h) (Or.inl ⟨by rfl, ?hyz11⟩) (by first | assumption | exact trivial) ?restz11
            case hyz11 => intro W hSW; have q10 := (HC.out W hSW).2.2.2.1; go_simp; try (with_reducible rfl)
            simp only [Act.put, List.getElem_toArray, List.getElem_cons_succ, List.getElem_cons_zero, List.setIfInBounds_toArray, List.set_cons_zero, List.set_cons_succ]
            refine wpAnyH_ready (rs := [11]) (by kernel_rfl) (by simp) ?_
            refine AllReadyH.cons rfl (fun K hK => ?_) AllReadyH.nil
            go_simp
            go_wp2_with (go_at_call 14; refine (HAP.out wr.drew hb.out.drew (hd.out.below ((Below.refl _ wr).drew))).mono ?_; rintro e w2 ⟨rfl, hd2, hb2⟩)
            have B2 : Below s w w2 := hb.out.drew.trans hb2.out
            refine hK.out _ _ (B2) (fun hHeld => ?_)
            clear hK K
            refine wpAnyH_take (i := 12) (v := ?vz12) rfl (by kernel_rfl) (by kernel_rfl) (by kernel_rfl) (fun _ _ _ h => h) (Or.inl ⟨by rfl, ?hyz12⟩) (by first | assumption | exact trivial) ?restz12
            case hyz12 => intro W hSW; go_simp; try (with_reducible rfl)
            simp only [Act.put, List.getElem_toArray, List.getElem_cons_succ, List.getElem_cons_zero, List.setIfInBounds_toArray, List.set_cons_zero, List.set_cons_succ]
            refine wpAnyH_done (by kernel_rfl) ?_ _
            go_wp2_with (go_at_call 22; refine (HDN.out w2 hd2).mono ?_; rintro e w' ⟨rfl, rfl⟩)
            go_roundw
            case rel => exact ⟨_, k + 1, st2, by omega, rfl, by go_num, ham, by have := hck.out; show _ ≤ _; omega, hd2, B2⟩
            case measure => simp [intOf]; omega
          · have x1 : ((ch : Int) == (m : Int)) = false := ne_b a1
            have x2 : st2.down = (((ch : Int) + 1) == (m : Int)) := by
              rw [har.down]
              by_cases e : ch + 1 = m
              · have : (ch : Int) + 1 = (m : Int) := by omega
                simp [e, this]
              · have : ¬ (ch : Int) + 1 = (m : Int) := by omega
                simp [e, this]
            have HDN := Lib.hid (fun (W : World) (hD : Hid (Df s W (s + 1) s st2)) => Down_f W (s + 1) s st2 hD)
            rw [x2] at HDN
            obtain ⟨bb, hbb2⟩ : ∃ bb, (((ch : Int) + 1) == (m : Int)) = bb := ⟨_, rfl⟩
            rw [hbb2] at HDN
            have HAR2 := Lib.hid har
            clear x2 har
            go_wp2
            refine wp_region_held_drew (S := fun W => Below s w W) (by kernel_rfl) hb.out.drew (fun hHeld => ?_)
            refine wpAnyH_take (i := 0) (v := ?vz13) rfl (by kernel_rfl) (by kernel_rfl) (by kernel_rfl) (fun _ _ _ h => h) (Or.inl ⟨by rfl, ?hyz13⟩) (by first | assumption | exact trivial) ?restz13
            case hyz13 => intro W hSW; go_simp; try (with_reducible rfl)
            simp only [Act.put, List.getElem_toArray, List.getElem_cons_succ, List.getElem_cons_zero, List.setIfInBounds_toArray, List.set_cons_zero, List.set_cons_succ]
            refine wpAnyH_take (i := 1) (v := ?vz14) rfl (by kernel_rfl) (by kernel_rfl) (by kernel_rfl) (fun _ _ _ h => h) (Or.inl ⟨by rfl, ?hyz14⟩) (by first | assumption | exact trivial) ?restz14
            case hyz14 => intro W hSW; go_simp; try (with_reducible rfl)
            simp only [Act.put, List.getElem_toArray, List.getElem_cons_succ, List.getElem_cons_zero, List.setIfInBounds_toArray, List.set_cons_zero, List.set_cons_succ]
            refine wpAnyH_take (i := 2) (v := ?vz15) rfl (by kernel_rfl) (by kernel_rfl) (by kernel_rfl) (fun _ _ _ h => h) (Or.inl ⟨by rfl, ?hyz15⟩) (by first | assumption | exact trivial) ?restz15
            case hyz15 => intro W hSW; go_simp; try (with_reducible rfl)
            simp only [Act.put, List.getElem_toArray, List.getElem_cons_succ, List.getElem_cons_zero, List.setIfInBounds_toArray, List.set_cons_zero, List.set_cons_succ]
            refine wpAnyH_take (i := 3) (v := ?vz16) rfl (by kernel_rfl) (by kernel_rfl) (by kernel_rfl) (fun _ _ _ h => h) (Or.inl ⟨by rfl, ?hyz16⟩) (by first | assumption | exact trivial) ?restz16
            case hyz16 => intro W hSW; go_simp; try (with_reducible rfl)
            simp only [Act.put, List.getElem_toArray, List.getElem_cons_succ, List.getElem_cons_zero, List.setIfInBounds_toArray, List.set_cons_zero, List.set_cons_succ]
            refine wpAnyH_take (i := 4) (v := ?vz17) rfl (by kernel_rfl) (by kernel_rfl) (by kernel_rfl) (fun _ _ _ h => h) (Or.inl ⟨by rfl, ?hyz17⟩) (by first | assumption | exact trivial) ?restz17
            case hyz17 => intro W hSW; go_simp; try (with_reducible rfl)
            simp only [Act.put, List.getElem_toArray, List.getElem_cons_succ, List.getElem_cons_zero, List.setIfInBounds_toArray, List.set_cons_zero, List.set_cons_succ]
            refine wpAnyH_take (i := 5) (v := ?vz18) rfl (by kernel_rfl) (by kernel_rfl) (by kernel_rfl) (fun _ _ _ h => h) (Or.inl ⟨by rfl, ?hyz18⟩) (by first | assumption | exact trivial) ?restz18
            case hyz18 => intro W hSW; have q5 := (HC.out W hSW).2.1; go_simp; try (with_reducible rfl)
            simp only [Act.put, List.getElem_toArray, List.getElem_cons_succ, List.getElem_cons_zero, List.setIfInBounds_toArray, List.set_cons_zero, List.set_cons_succ]
            refine wpAnyH_take (i := 6) (v := ?vz19) rfl (by kernel_rfl) (by kernel_rfl) (by kernel_rfl) (fun _ _ _ h => h) (Or.inl ⟨by rfl, ?hyz19⟩) (by first | assumption | exact trivial) ?restz19
            case hyz19 => intro W hSW; go_simp; try (with_reducible rfl)
            simp only [Act.put, List.getElem_toArray, List.getElem_cons_succ, List.getElem_cons_zero, List.setIfInBounds_toArray, List.set_cons_zero, List.set_cons_succ]
            refine wpAnyH_take (i := 7) (v := ?vz20) rfl (by kernel_rfl) (by kernel_rfl) (by kernel_rfl) (fun _ _ _ h => h) (Or.inl ⟨by rfl, ?hyz20⟩) (by first | assumption | exact trivial) ?restz20
            case hyz20 => intro W hSW; go_simp; try (with_reducible rfl)
            simp only [Act.put, List.getElem_toArray, List.getElem_cons_succ, List.getElem_cons_zero, List.setIfInBounds_toArray, List.set_cons_zero, List.set_cons_succ]
            refine wpAnyH_take (i := 8) (v := ?vz21) rfl (by kernel_rfl) (by kernel_rfl) (by kernel_rfl) (fun _ _ _ h => h) (Or.inl ⟨by rfl, ?hyz21⟩) (by first | assumption | exact trivial) ?restz21
            case hyz21 => intro W hSW; go_simp; try (with_reducible rfl)
            simp only [Act.put, List.getElem_toArray, List.getElem_cons_succ, List.getElem_cons_zero, List.setIfInBounds_toArray, List.set_cons_zero, List.set_cons_succ]
            refine wpAnyH_take (i := 9) (v := ?vz22) rfl (by kernel_rfl) (by kernel_rfl) (by kernel_rfl) (fun _ _ _ h => h) (Or.inl ⟨by rfl, ?hyz22⟩) (by first | assumption | exact trivial) ?restz22
            case hyz22 => intro W hSW; go_simp; try (with_reducible rfl)
            simp only [Act.put, List.getElem_toArray, List.getElem_cons_succ, List.getElem_cons_zero, List.setIfInBounds_toArray, List.set_cons_zero, List.set_cons_succ]
            refine wpAnyH_take (i := 10) (v := ?vz23) rfl (by kernel_rfl) (by kernel_rfl) (by kernel_rfl) (fun _ _ _ h => h) (Or.inl ⟨by rfl, ?hyz23⟩) (by first | assumption | exact trivial) ?restz23
            case hyz23 => intro W hSW; have q10 := (HC.out W hSW).2.2.2.1; go_simp; try (with_reducible rfl)
            simp only [Act.put, List.getElem_toArray, List.getElem_cons_succ, List.getElem_cons_zero, List.setIfInBounds_toArray, List.set_cons_zero, List.set_cons_succ]
            refine wpAnyH_ready (rs := [11]) (by kernel_rfl) (by simp) ?_
            refine AllReadyH.cons rfl (fun K hK => ?_) AllReadyH.nil
            go_simp
            go_wp2_with (go_at_call 14; refine (HAP.out wr.drew hb.out.drew (hd.out.below ((Below.refl _ wr).drew))).mono ?_; rintro e w2 ⟨rfl, hd2, hb2⟩)
            have B2 : Below s w w2 := hb.out.drew.trans hb2.out
            refine hK.out _ _ (B2) (fun hHeld => ?_)
            clear hK K
            refine wpAnyH_take (i := 12) (v := ?vz24) rfl (by kernel_rfl) (by kernel_rfl) (by kernel_rfl) (fun _ _ _ h => h) (Or.inl ⟨by rfl, ?hyz24⟩) (by first | assumption | exact trivial) ?restz24
            case hyz24 => intro W hSW; go_simp; try (with_reducible rfl)
            simp only [Act.put, List.getElem_toArray, List.getElem_cons_succ, List.getElem_cons_zero, List.setIfInBounds_toArray, List.set_cons_zero, List.set_cons_succ]
            refine wpAnyH_done (by kernel_rfl) ?_ _
            go_wp2_with (go_at_call 22; refine (HDN.out w2 hd2).mono ?_; rintro e w' ⟨rfl, rfl⟩)
            go_roundw
            case rel => exact ⟨ch + 1, k + 1, st2, by omega, by go_num, by go_num, HAR2, by have := hck.out; show _ ≤ _; omega, hd2, B2⟩
            case measure => simp [intOf]; omega
          · have x1 : ((ch : Int) == (m : Int)) = false := ne_b a1
            have x2 : st2.down = false := by rw [ham.out.down]; simp; omega
            have HDN := Lib.hid (fun (W : World) (hD : Hid (Df s W (s + 1) s st2)) => Down_f W (s + 1) s st2 hD)
            rw [x2] at HDN
            have a3 : ((c : Int) == 0) = false := nz a2
            clear x2 a2
            go_wp2
            refine wp_region_held_drew (S := fun W => Below s w W) (by kernel_rfl) hb.out.drew (fun hHeld => ?_)
            refine wpAnyH_take (i := 0) (v := ?vz25) rfl (by kernel_rfl) (by kernel_rfl) (by kernel_rfl) (fun _ _ _ h => h) (Or.inl ⟨by rfl, ?hyz25⟩) (by first | assumption | exact trivial) ?restz25
            case hyz25 => intro W hSW; go_simp; try (with_reducible rfl)
            simp only [Act.put, List.getElem_toArray, List.getElem_cons_succ, List.getElem_cons_zero, List.setIfInBounds_toArray, List.set_cons_zero, List.set_cons_succ]
            refine wpAnyH_take (i := 1) (v := ?vz26) rfl (by kernel_rfl) (by kernel_rfl) (by kernel_rfl) (fun _ _ _ h => h) (Or.inl ⟨by rfl, ?hyz26⟩) (by first | assumption | exact trivial) ?restz26
            case hyz26 => intro W hSW; go_simp; try (with_reducible rfl)
            simp only [Act.put, List.getElem_toArray, List.getElem_cons_succ, List.getElem_cons_zero, List.setIfInBounds_toArray, List.set_cons_zero, List.set_cons_succ]
            refine wpAnyH_take (i := 2) (v := ?vz27) rfl (by kernel_rfl) (by kernel_rfl) (by kernel_rfl) (fun _ _ _ h => h) (Or.inl ⟨by rfl, ?hyz27⟩) (by first | assumption | exact trivial) ?restz27
            case hyz27 => intro W hSW; go_simp; try (with_reducible rfl)
            simp only [Act.put, List.getElem_toArray, List.getElem_cons_succ, List.getElem_cons_zero, List.setIfInBounds_toArray, List.set_cons_zero, List.set_cons_succ]
            refine wpAnyH_take (i := 3) (v := ?vz28) rfl (by kernel_rfl) (by kernel_rfl) (by kernel_rfl) (fun _ _ _ h => h) (Or.inl ⟨by rfl, ?hyz28⟩) (by first | assumption | exact trivial) ?restz28
            case hyz28 => intro W hSW; go_simp; try (with_reducible rfl)
            simp only [Act.put, List.getElem_toArray, List.getElem_cons_succ, List.getElem_cons_zero, List.setIfInBounds_toArray, List.set_cons_zero, List.set_cons_succ]
            refine wpAnyH_take (i := 4) (v := ?vz29) rfl (by kernel_rfl) (by kernel_rfl) (by kernel_rfl) (fun _ _ _ h => h) (Or.inl ⟨by rfl, ?hyz29⟩) (by first | assumption | exact trivial) ?restz29
            case hyz29 => intro W hSW; go_simp; try (with_reducible rfl)
            simp only [Act.put, List.getElem_toArray, List.getElem_cons_succ, List.getElem_cons_zero, List.setIfInBounds_toArray, List.set_cons_zero, List.set_cons_succ]
            refine wpAnyH_take (i := 5) (v := ?vz30) rfl (by kernel_rfl) (by kernel_rfl) (by kernel_rfl) (fun _ _ _ h => h) (Or.inl ⟨by rfl, ?hyz30⟩) (by first | assumption | exact trivial) ?restz30
            case hyz30 => intro W hSW; have q5 := (HC.out W hSW).2.1; go_simp; try (with_reducible rfl)
            simp only [Act.put, List.getElem_toArray, List.getElem_cons_succ, List.getElem_cons_zero, List.setIfInBounds_toArray, List.set_cons_zero, List.set_cons_succ]
            refine wpAnyH_take (i := 6) (v := ?vz31) rfl (by kernel_rfl) (by kernel_rfl) (by kernel_rfl) (fun _ _ _ h => h) (Or.inl ⟨by rfl, ?hyz31⟩) (by first | assumption | exact trivial) ?restz31
            case hyz31 => intro W hSW; go_simp; try (with_reducible rfl)
            simp only [Act.put, List.getElem_toArray, List.getElem_cons_succ, List.getElem_cons_zero, List.setIfInBounds_toArray, List.set_cons_zero, List.set_cons_succ]
            refine wpAnyH_take (i := 7) (v := ?vz32) rfl (by kernel_rfl) (by kernel_rfl) (by kernel_rfl) (fun _ _ _ h => h) (Or.inl ⟨by rfl, ?hyz32⟩) (by first | assumption | exact trivial) ?restz32
            case hyz32 => intro W hSW; go_simp; try (with_reducible rfl)
            simp only [Act.put, List.getElem_toArray, List.getElem_cons_succ, List.getElem_cons_zero, List.setIfInBounds_toArray, List.set_cons_zero, List.set_cons_succ]
            refine wpAnyH_take (i := 8) (v := ?vz33) rfl (by kernel_rfl) (by kernel_rfl) (by kernel_rfl) (fun _ _ _ h => h) (Or.inl ⟨by rfl, ?hyz33⟩) (by first | assumption | exact trivial) ?restz33
            case hyz33 => intro W hSW; go_simp; try (with_reducible rfl)
            simp only [Act.put, List.getElem_toArray, List.getElem_cons_succ, List.getElem_cons_zero, List.setIfInBounds_toArray, List.set_cons_zero, List.set_cons_succ]
            refine wpAnyH_take (i := 9) (v := ?vz34) rfl (by kernel_rfl) (by kernel_rfl) (by kernel_rfl) (fun _ _ _ h => h) (Or.inl ⟨by rfl, ?hyz34⟩) (by first | assumption | exact trivial) ?restz34
            case hyz34 => intro W hSW; go_simp; try (with_reducible rfl)
            simp only [Act.put, List.getElem_toArray, List.getElem_cons_succ, List.getElem_cons_zero, List.setIfInBounds_toArray, List.set_cons_zero, List.set_cons_succ]
            refine wpAnyH_take (i := 10) (v := ?vz35) rfl (by kernel_rfl) (by kernel_rfl) (by kernel_rfl) (fun _ _ _ h => h) (Or.inl ⟨by rfl, ?hyz35⟩) (by first | assumption | exact trivial) ?restz35
            case hyz35 => intro W hSW; have q10 := (HC.out W hSW).2.2.2.1; go_simp; try (with_reducible rfl)
            simp only [Act.put, List.getElem_toArray, List.getElem_cons_succ, List.getElem_cons_zero, List.setIfInBounds_toArray, List.set_cons_zero, List.set_cons_succ]
            refine wpAnyH_ready (rs := [11]) (by kernel_rfl) (by simp) ?_
            refine AllReadyH.cons rfl (fun K hK => ?_) AllReadyH.nil
            go_simp
            go_wp2_with (go_at_call 14; refine (HAP.out wr.drew hb.out.drew (hd.out.below ((Below.refl _ wr).drew))).mono ?_; rintro e w2 ⟨rfl, hd2, hb2⟩)
            have B2 : Below s w w2 := hb.out.drew.trans hb2.out
            refine hK.out _ _ (B2) (fun hHeld => ?_)
            clear hK K
            refine wpAnyH_take (i := 12) (v := ?vz36) rfl (by kernel_rfl) (by kernel_rfl) (by kernel_rfl) (fun _ _ _ h => h) (Or.inl ⟨by rfl, ?hyz36⟩) (by first | assumption | exact trivial) ?restz36
            case hyz36 => intro W hSW; go_simp; try (with_reducible rfl)
            simp only [Act.put, List.getElem_toArray, List.getElem_cons_succ, List.getElem_cons_zero, List.setIfInBounds_toArray, List.set_cons_zero, List.set_cons_succ]
            refine wpAnyH_done (by kernel_rfl) ?_ _
            go_wp2_with (go_at_call 22; refine (HDN.out w2 hd2).mono ?_; rintro e w' ⟨rfl, rfl⟩)
            go_roundw
            case rel => exact ⟨_, k + 1, st2, by omega, rfl, by go_num, ham, by have := hck.out; show _ ≤ _; omega, hd2, B2⟩
            case measure => simp [intOf]; omega
        have e0 : (kd == 0) = false := by simpa using h0
        by_cases h1 : kd = 1
        · subst h1
          obtain ⟨c, hc⟩ : ∃ c, findE st nm = c := ⟨_, rfl⟩
          obtain ⟨st2, hst⟩ : ∃ st2, syncS st nm = st2 := ⟨_, rfl⟩
          have hop : OpA st c st2 := by rw [← hc, ← hst]; exact OpA.sync st nm
          rw [hc, hst] at HSY
          clear hc hst
          have hcs := ham.out.cases hop
          clear hop HAP HCU HRN HRM
          rcases hcs with ⟨a1, rfl, rfl⟩ | ⟨a1, rfl, har⟩ | ⟨a1, a2, rfl⟩
          · subst a1
            have x1 : st2.down = true := by rw [ham.out.down]; simp
            have HDN := Lib.hid (fun (W : World) (hD : Hid (Df s W (s + 1) s st2)) => Down_f W (s + 1) s st2 hD)
            rw [x1] at HDN
            clear x1
            go_wp2_with (first
              | (go_at_call 23; refine (HSY.out wr hd.out).mono ?_; rintro e w2 ⟨rfl, hd2, hb2⟩; have B2 : Hid (Below s w w2) := hb.out.trans hb2.out)
              | (go_at_call 22; refine (HDN.out w2 hd2).mono ?_; rintro e w' ⟨rfl, rfl⟩))
            go_roundw
            case rel => exact ⟨_, k + 1, st2, by omega, rfl, by go_num, ham, by have := hck.out; show _ ≤ _; omega, hd2, B2⟩
            case measure => simp [intOf]; omega
          · have x1 : ((ch : Int) == (m : Int)) = false := ne_b a1
            have x2 : st2.down = (((ch : Int) + 1) == (m : Int)) := by
              rw [har.down]
              by_cases e : ch + 1 = m
              · have : (ch : Int) + 1 = (m : Int) := by omega
                simp [e, this]
              · have : ¬ (ch : Int) + 1 = (m : Int) := by omega
                simp [e, this]
            have HDN := Lib.hid (fun (W : World) (hD : Hid (Df s W (s + 1) s st2)) => Down_f W (s + 1) s st2 hD)
            rw [x2] at HDN
            obtain ⟨bb, hbb2⟩ : ∃ bb, (((ch : Int) + 1) == (m : Int)) = bb := ⟨_, rfl⟩
            rw [hbb2] at HDN
            have HAR2 := Lib.hid har
            clear x2 har
            go_wp2_with (first
              | (go_at_call 23; refine (HSY.out wr hd.out).mono ?_; rintro e w2 ⟨rfl, hd2, hb2⟩; have B2 : Hid (Below s w w2) := hb.out.trans hb2.out)
              | (go_at_call 22; refine (HDN.out w2 hd2).mono ?_; rintro e w' ⟨rfl, rfl⟩))
            go_roundw
            case rel => exact ⟨ch + 1, k + 1, st2, by omega, by go_num, by go_num, HAR2, by have := hck.out; show _ ≤ _; omega, hd2, B2⟩
            case measure => simp [intOf]; omega
          · have x1 : ((ch : Int) == (m : Int)) = false := ne_b a1
            have x2 : st2.down = false := by rw [ham.out.down]; simp; omega
            have HDN := Lib.hid (fun (W : World) (hD : Hid (Df s W (s + 1) s st2)) => Down_f W (s + 1) s st2 hD)
            rw [x2] at HDN
            have a3 : ((c : Int) == 0) = false := nz a2
            clear x2 a2
            go_wp2_with (first
              | (go_at_call 23; refine (HSY.out wr hd.out).mono ?_; rintro e w2 ⟨rfl, hd2, hb2⟩; have B2 : Hid (Below s w w2) := hb.out.trans hb2.out)
              | (go_at_call 22; refine (HDN.out w2 hd2).mono ?_; rintro e w' ⟨rfl, rfl⟩))
            go_roundw
            case rel => exact ⟨_, k + 1, st2, by omega, rfl, by go_num, ham, by have := hck.out; show _ ≤ _; omega, hd2, B2⟩
            case measure => simp [intOf]; omega
        have e1 : (kd == 1) = false := by simpa using h1
        by_cases h2 : kd = 2
        · subst h2
          obtain ⟨c, hc⟩ : ∃ c, cutE st nm an = c := ⟨_, rfl⟩
          obtain ⟨st2, hst⟩ : ∃ st2, cutS st nm an = st2 := ⟨_, rfl⟩
          have hop : OpA st c st2 := by rw [← hc, ← hst]; exact OpA.cut st nm an
          rw [hc, hst] at HCU
          clear hc hst
          have hcs := ham.out.cases hop
          clear hop HAP HSY HRN HRM
          rcases hcs with ⟨a1, rfl, rfl⟩ | ⟨a1, rfl, har⟩ | ⟨a1, a2, rfl⟩
          · subst a1
            have x1 : st2.down = true := by rw [ham.out.down]; simp
            have HDN := Lib.hid (fun (W : World) (hD : Hid (Df s W (s + 1) s st2)) => Down_f W (s + 1) s st2 hD)
            rw [x1] at HDN
            clear x1
            go_wp2
            refine wp_region_held_drew (S := fun W => Below s w W) (by kernel_rfl) hb.out.drew (fun hHeld => ?_)
            refine wpAnyH_take (i := 0) (v := ?vz37) rfl (by kernel_rfl) (by kernel_rfl) (by kernel_rfl) (fun _ _ _ h => h) (Or.inl ⟨by rfl, ?hyz37⟩) (by first | assumption | exact trivial) ?restz37
            case hyz37 => intro W hSW; go_simp; try (with_reducible rfl)
            simp only [Act.put, List.getElem_toArray, List.getElem_cons_succ, List.getElem_cons_zero, List.setIfInBounds_toArray, List.set_cons_zero, List.set_cons_succ]
            refine wpAnyH_take (i := 1) (v := ?vz38) rfl (by kernel_rfl) (by kernel_rfl) (by kernel_rfl) (fun _ _ _ h => h) (Or.inl ⟨by rfl, ?hyz38⟩) (by first | assumption | exact trivial) ?restz38
            case hyz38 => intro W hSW; go_simp; try (with_reducible rfl)
            simp only [Act.put, List.getElem_toArray, List.getElem_cons_succ, List.getElem_cons_zero, List.setIfInBounds_toArray, List.set_cons_zero, List.set_cons_succ]
            refine wpAnyH_take (i := 2) (v := ?vz39) rfl (by kernel_rfl) (by kernel_rfl) (by kernel_rfl) (fun _ _ _ h => h) (Or.inl ⟨by rfl, ?hyz39⟩) (by first | assumption | exact trivial) ?restz39
            case hyz39 => intro W hSW; go_simp; try (with_reducible rfl)
            simp only [Act.put, List.getElem_toArray, List.getElem_cons_succ, List.getElem_cons_zero, List.setIfInBounds_toArray, List.set_cons_zero, List.set_cons_succ]
            refine wpAnyH_take (i := 3) (v := ?vz40) rfl (by kernel_rfl) (by kernel_rfl) (by kernel_rfl) (fun _ _ _ h => h) (Or.inl ⟨by rfl, ?hyz40⟩) (by first | assumption | exact trivial) ?restz40
            case hyz40 => intro W hSW; go_simp; try (with_reducible rfl)
            simp only [Act.put, List.getElem_toArray, List.getElem_cons_succ, List.getElem_cons_zero, List.setIfInBounds_toArray, List.set_cons_zero, List.set_cons_succ]
            refine wpAnyH_take (i := 4) (v := ?vz41) rfl (by kernel_rfl) (by kernel_rfl) (by kernel_rfl) (fun _ _ _ h => h) (Or.inl ⟨by rfl, ?hyz41⟩) (by first | assumption | exact trivial) ?restz41
            case hyz41 => intro W hSW; go_simp; try (with_reducible rfl)
            simp only [Act.put, List.getElem_toArray, List.getElem_cons_succ, List.getElem_cons_zero, List.setIfInBounds_toArray, List.set_cons_zero, List.set_cons_succ]
            refine wpAnyH_take (i := 5) (v := ?vz42) rfl (by kernel_rfl) (by kernel_rfl) (by kernel_rfl) (fun _ _ _ h => h) (Or.inl ⟨by rfl, ?hyz42⟩) (by first | assumption | exact trivial) ?restz42
            case hyz42 => intro W hSW; have q5 := (HC.out W hSW).2.1; go_simp; try (with_reducible rfl)
            simp only [Act.put, List.getElem_toArray, List.getElem_cons_succ, List.getElem_cons_zero, List.setIfInBounds_toArray, List.set_cons_zero, List.set_cons_succ]
            refine wpAnyH_take (i := 6) (v := ?vz43) rfl (by kernel_rfl) (by kernel_rfl) (by kernel_rfl) (fun _ _ _ h => h) (Or.inl ⟨by rfl, ?hyz43⟩) (by first | assumption | exact trivial) ?restz43
            case hyz43 => intro W hSW; go_simp; try (with_reducible rfl)
            simp only [Act.put, List.getElem_toArray, List.getElem_cons_succ, List.getElem_cons_zero, List.setIfInBounds_toArray, List.set_cons_zero, List.set_cons_succ]
            refine wpAnyH_take (i := 7) (v := ?vz44) rfl (by kernel_rfl) (by kernel_rfl) (by kernel_rfl) (fun _ _ _ h => h) (Or.inl ⟨by rfl, ?hyz44⟩) (by first | assumption | exact trivial) ?restz44
            case hyz44 => intro W hSW; go_simp; try (with_reducible rfl)
            simp only [Act.put, List.getElem_toArray, List.getElem_cons_succ, List.getElem_cons_zero, List.setIfInBounds_toArray, List.set_cons_zero, List.set_cons_succ]
            refine wpAnyH_take (i := 8) (v := ?vz45) rfl (by kernel_rfl) (by kernel_rfl) (by kernel_rfl) (fun _ _ _ h => h) (Or.inl ⟨by rfl, ?hyz45⟩) (by first | assumption | exact trivial) ?restz45
            case hyz45 => intro W hSW; go_simp; try (with_reducible rfl)
            simp only [Act.put, List.getElem_toArray, List.getElem_cons_succ, List.getElem_cons_zero, List.setIfInBounds_toArray, List.set_cons_zero, List.set_cons_succ]
            refine wpAnyH_take (i := 9) (v := ?vz46) rfl (by kernel_rfl) (by kernel_rfl) (by kernel_rfl) (fun _ _ _ h => h) (Or.inl ⟨by rfl, ?hyz46⟩) (by first | assumption | exact trivial) ?restz46
            case hyz46 => intro W hSW; go_simp; try (with_reducible rfl)
            simp only [Act.put, List.getElem_toArray, List.getElem_cons_succ, List.getElem_cons_zero, List.setIfInBounds_toArray, List.set_cons_zero, List.set_cons_succ]
            refine wpAnyH_take (i := 10) (v := ?vz47) rfl (by kernel_rfl) (by kernel_rfl) (by kernel_rfl) (fun _ _ _ h => h) (Or.inl ⟨by rfl, ?hyz47⟩) (by first | assumption | exact trivial) ?restz47
            case hyz47 => intro W hSW; have q10 := (HC.out W hSW).2.2.2.2.1; go_simp; try (with_reducible rfl)
            simp only [Act.put, List.getElem_toArray, List.getElem_cons_succ, List.getElem_cons_zero, List.setIfInBounds_toArray, List.set_cons_zero, List.set_cons_succ]
            refine wpAnyH_ready (rs := [11]) (by kernel_rfl) (by simp) ?_
            refine AllReadyH.cons rfl (fun K hK => ?_) AllReadyH.nil
            go_simp
            go_wp2_with (go_at_call 26; refine (HCU.out wr.drew (hd.out.below ((Below.refl _ wr).drew))).mono ?_; rintro e w2 ⟨rfl, hd2, hb2⟩)
            have B2 : Below s w w2 := hb.out.drew.trans hb2.out
            refine hK.out _ _ (B2) (fun hHeld => ?_)
            clear hK K
            refine wpAnyH_take (i := 12) (v := ?vz48) rfl (by kernel_rfl) (by kernel_rfl) (by kernel_rfl) (fun _ _ _ h => h) (Or.inl ⟨by rfl, ?hyz48⟩) (by first | assumption | exact trivial) ?restz48
            case hyz48 => intro W hSW; go_simp; try (with_reducible rfl)
            simp only [Act.put, List.getElem_toArray, List.getElem_cons_succ, List.getElem_cons_zero, List.setIfInBounds_toArray, List.set_cons_zero, List.set_cons_succ]
            refine wpAnyH_done (by kernel_rfl) ?_ _
            go_wp2_with (go_at_call 22; refine (HDN.out w2 hd2).mono ?_; rintro e w' ⟨rfl, rfl⟩)
            go_roundw
            case rel => exact ⟨_, k + 1, st2, by omega, rfl, by go_num, ham, by have := hck.out; show _ ≤ _; omega, hd2, B2⟩
            case measure => simp [intOf]; omega
          · have x1 : ((ch : Int) == (m : Int)) = false := ne_b a1
            have x2 : st2.down = (((ch : Int) + 1) == (m : Int)) := by
              rw [har.down]
              by_cases e : ch + 1 = m
              · have : (ch : Int) + 1 = (m : Int) := by omega
                simp [e, this]
              · have : ¬ (ch : Int) + 1 = (m : Int) := by omega
                simp [e, this]
            have HDN := Lib.hid (fun (W : World) (hD : Hid (Df s W (s + 1) s st2)) => Down_f W (s + 1) s st2 hD)
            rw [x2] at HDN
            obtain ⟨bb, hbb2⟩ : ∃ bb, (((ch : Int) + 1) == (m : Int)) = bb := ⟨_, rfl⟩
            rw [hbb2] at HDN
            have HAR2 := Lib.hid har
            clear x2 har
            go_wp2
            refine wp_region_held_drew (S := fun W => Below s w W) (by kernel_rfl) hb.out.drew (fun hHeld => ?_)
            refine wpAnyH_take (i := 0) (v := ?vz49) rfl (by kernel_rfl) (by kernel_rfl) (by kernel_rfl) (fun _ _ _ h => h) (Or.inl ⟨by rfl, ?hyz49⟩) (by first | assumption | exact trivial) ?restz49
            case hyz49 => intro W hSW; go_simp; try (with_reducible rfl)
            simp only [Act.put, List.getElem_toArray, List.getElem_cons_succ, List.getElem_cons_zero, List.setIfInBounds_toArray, List.set_cons_zero, List.set_cons_succ]
            refine wpAnyH_take (i := 1) (v := ?vz50) rfl (by kernel_rfl) (by kernel_rfl) (by kernel_rfl) (fun _ _ _ h => h) (Or.inl ⟨by rfl, ?hyz50⟩) (by first | assumption | exact trivial) ?restz50
            case hyz50 => intro W hSW; go_simp; try (with_reducible rfl)
            simp only [Act.put, List.getElem_toArray, List.getElem_cons_succ, List.getElem_cons_zero, List.setIfInBounds_toArray, List.set_cons_zero, List.set_cons_succ]
            refine wpAnyH_take (i := 2) (v := ?vz51) rfl (by kernel_rfl) (by kernel_rfl) (by kernel_rfl) (fun _ _ _ h => h) (Or.inl ⟨by rfl, ?hyz51⟩) (by first | assumption | exact trivial) ?restz51
            case hyz51 => intro W hSW; go_simp; try (with_reducible rfl)
            simp only [Act.put, List.getElem_toArray, List.getElem_cons_succ, List.getElem_cons_zero, List.setIfInBounds_toArray, List.set_cons_zero, List.set_cons_succ]
            refine wpAnyH_take (i := 3) (v := ?vz52) rfl (by kernel_rfl) (by kernel_rfl) (by kernel_rfl) (fun _ _ _ h => h) (Or.inl ⟨by rfl, ?hyz52⟩) (by first | assumption | exact trivial) ?restz52
            case hyz52 => intro W hSW; go_simp; try (with_reducible rfl)
            simp only [Act.put, List.getElem_toArray, List.getElem_cons_succ, List.getElem_cons_zero, List.setIfInBounds_toArray, List.set_cons_zero, List.set_cons_succ]
            refine wpAnyH_take (i := 4) (v := ?vz53) rfl (by kernel_rfl) (by kernel_rfl) (by kernel_rfl) (fun _ _ _ h => h) (Or.inl ⟨by rfl, ?hyz53⟩) (by first | assumption | exact trivial) ?restz53
            case hyz53 => intro W hSW; go_simp; try (with_reducible rfl)
            simp only [Act.put, List.getElem_toArray, List.getElem_cons_succ, List.getElem_cons_zero, List.setIfInBounds_toArray, List.set_cons_zero, List.set_cons_succ]
            refine wpAnyH_take (i := 5) (v := ?vz54) rfl (by kernel_rfl) (by kernel_rfl) (by kernel_rfl) (fun _ _ _ h => h) (Or.inl ⟨by rfl, ?hyz54⟩) (by first | assumption | exact trivial) ?restz54
            case hyz54 => intro W hSW; have q5 := (HC.out W hSW).2.1; go_simp; try (with_reducible rfl)
            simp only [Act.put, List.getElem_toArray, List.getElem_cons_succ, List.getElem_cons_zero, List.setIfInBounds_toArray, List.set_cons_zero, List.set_cons_succ]
            refine wpAnyH_take (i := 6) (v := ?vz55) rfl (by kernel_rfl) (by kernel_rfl) (by kernel_rfl) (fun _ _ _ h => h) (Or.inl ⟨by rfl, ?hyz55⟩) (by first | assumption | exact trivial) ?restz55
            case hyz55 => intro W hSW; go_simp; try (with_reducible rfl)
            simp only [Act.put, List.getElem_toArray, List.getElem_cons_succ, List.getElem_cons_zero, List.setIfInBounds_toArray, List.set_cons_zero, List.set_cons_succ]
            refine wpAnyH_take (i := 7) (v := ?vz56) rfl (by kernel_rfl) (by kernel_rfl) (by kernel_rfl) (fun _ _ _ h => h) (Or.inl ⟨by rfl, ?hyz56⟩) (by first | assumption | exact trivial) ?restz56
            case hyz56 => intro W hSW; go_simp; try (with_reducible rfl)
            simp only [Act.put, List.getElem_toArray, List.getElem_cons_succ, List.getElem_cons_zero, List.setIfInBounds_toArray, List.set_cons_zero, List.set_cons_succ]
            refine wpAnyH_take (i := 8) (v := ?vz57) rfl (by kernel_rfl) (by kernel_rfl) (by kernel_rfl) (fun _ _ _ h => h) (Or.inl ⟨by rfl, ?hyz57⟩) (by first | assumption | exact trivial) ?restz57
            case hyz57 => intro W hSW; go_simp; try (with_reducible rfl)
            simp only [Act.put, List.getElem_toArray, List.getElem_cons_succ, List.getElem_cons_zero, List.setIfInBounds_toArray, List.set_cons_zero, List.set_cons_succ]
            refine wpAnyH_take (i := 9) (v := ?vz58) rfl (by kernel_rfl) (by kernel_rfl) (by kernel_rfl) (fun _ _ _ h => h) (Or.inl ⟨by rfl, ?hyz58⟩) (by first | assumption | exact trivial) ?restz58
            case hyz58 => intro W hSW; go_simp; try (with_reducible rfl)
            simp only [Act.put, List.getElem_toArray, List.getElem_cons_succ, List.getElem_cons_zero, List.setIfInBounds_toArray, List.set_cons_zero, List.set_cons_succ]
            refine wpAnyH_take (i := 10) (v := ?vz59) rfl (by kernel_rfl) (by kernel_rfl) (by kernel_rfl) (fun _ _ _ h => h) (Or.inl ⟨by rfl, ?hyz59⟩) (by first | assumption | exact trivial) ?restz59
            case hyz59 => intro W hSW; have q10 := (HC.out W hSW).2.2.2.2.1; go_simp; try (with_reducible rfl)
            simp only [Act.put, List.getElem_toArray, List.getElem_cons_succ, List.getElem_cons_zero, List.setIfInBounds_toArray, List.set_cons_zero, List.set_cons_succ]
            refine wpAnyH_ready (rs := [11]) (by kernel_rfl) (by simp) ?_
            refine AllReadyH.cons rfl (fun K hK => ?_) AllReadyH.nil
            go_simp
            go_wp2_with (go_at_call 26; refine (HCU.out wr.drew (hd.out.below ((Below.refl _ wr).drew))).mono ?_; rintro e w2 ⟨rfl, hd2, hb2⟩)
            have B2 : Below s w w2 := hb.out.drew.trans hb2.out
            refine hK.out _ _ (B2) (fun hHeld => ?_)
            clear hK K
            refine wpAnyH_take (i := 12) (v := ?vz60) rfl (by kernel_rfl) (by kernel_rfl) (by kernel_rfl) (fun _ _ _ h => h) (Or.inl ⟨by rfl, ?hyz60⟩) (by first | assumption | exact trivial) ?restz60
            case hyz60 => intro W hSW; go_simp; try (with_reducible rfl)
            simp only [Act.put, List.getElem_toArray, List.getElem_cons_succ, List.getElem_cons_zero, List.setIfInBounds_toArray, List.set_cons_zero, List.set_cons_succ]
            refine wpAnyH_done (by kernel_rfl) ?_ _
            go_wp2_with (go_at_call 22; refine (HDN.out w2 hd2).mono ?_; rintro e w' ⟨rfl, rfl⟩)
            go_roundw
            case rel => exact ⟨ch + 1, k + 1, st2, by omega, by go_num, by go_num, HAR2, by have := hck.out; show _ ≤ _; omega, hd2, B2⟩
            case measure => simp [intOf]; omega
          · have x1 : ((ch : Int) == (m : Int)) = false := ne_b a1
            have x2 : st2.down = false := by rw [ham.out.down]; simp; omega
            have HDN := Lib.hid (fun (W : World) (hD : Hid (Df s W (s + 1) s st2)) => Down_f W (s + 1) s st2 hD)
            rw [x2] at HDN
            have a3 : ((c : Int) == 0) = false := nz a2
            clear x2 a2
            go_wp2
            refine wp_region_held_drew (S := fun W => Below s w W) (by kernel_rfl) hb.out.drew (fun hHeld => ?_)
            refine wpAnyH_take (i := 0) (v := ?vz61) rfl (by kernel_rfl) (by kernel_rfl) (by kernel_rfl) (fun _ _ _ h => h) (Or.inl ⟨by rfl, ?hyz61⟩) (by first | assumption | exact trivial) ?restz61
            case hyz61 => intro W hSW; go_simp; try (with_reducible rfl)
            simp only [Act.put, List.getElem_toArray, List.getElem_cons_succ, List.getElem_cons_zero, List.setIfInBounds_toArray, List.set_cons_zero, List.set_cons_succ]
            refine wpAnyH_take (i := 1) (v := ?vz62) rfl (by kernel_rfl) (by kernel_rfl) (by kernel_rfl) (fun _ _ _ h => h) (Or.inl ⟨by rfl, ?hyz62⟩) (by first | assumption | exact trivial) ?restz62
            case hyz62 => intro W hSW; go_simp; try (with_reducible rfl)
            simp only [Act.put, List.getElem_toArray, List.getElem_cons_succ, List.getElem_cons_zero, List.setIfInBounds_toArray, List.set_cons_zero, List.set_cons_succ]
            refine wpAnyH_take (i := 2) (v := ?vz63) rfl (by kernel_rfl) (by kernel_rfl) (by kernel_rfl) (fun _ _ _ h => h) (Or.inl ⟨by rfl, ?hyz63⟩) (by first | assumption | exact trivial) ?restz63
            case hyz63 => intro W hSW; go_simp; try (with_reducible rfl)
            simp only [Act.put, List.getElem_toArray, List.getElem_cons_succ, List.getElem_cons_zero, List.setIfInBounds_toArray, List.set_cons_zero, List.set_cons_succ]
            refine wpAnyH_take (i := 3) (v := ?vz64) rfl (by kernel_rfl) (by kernel_rfl) (by kernel_rfl) (fun _ _ _ h => h) (Or.inl ⟨by rfl, ?hyz64⟩) (by first | assumption | exact trivial) ?restz64
            case hyz64 => intro W hSW; go_simp; try (with_reducible rfl)
            simp only [Act.put, List.getElem_toArray, List.getElem_cons_succ, List.getElem_cons_zero, List.setIfInBounds_toArray, List.set_cons_zero, List.set_cons_succ]
            refine wpAnyH_take (i := 4) (v := ?vz65) rfl (by kernel_rfl) (by kernel_rfl) (by kernel_rfl) (fun _ _ _ h => h) (Or.inl ⟨by rfl, ?hyz65⟩) (by first | assumption | exact trivial) ?restz65
            case hyz65 => intro W hSW; go_simp; try (with_reducible rfl)
            simp only [Act.put, List.getElem_toArray, List.getElem_cons_succ, List.getElem_cons_zero, List.setIfInBounds_toArray, List.set_cons_zero, List.set_cons_succ]
            refine wpAnyH_take (i := 5) (v := ?vz66) rfl (by kernel_rfl) (by kernel_rfl) (by kernel_rfl) (fun _ _ _ h => h) (Or.inl ⟨by rfl, ?hyz66⟩) (by first | assumption | exact trivial) ?restz66
            case hyz66 => intro W hSW; have q5 := (HC.out W hSW).2.1; go_simp; try (with_reducible rfl)
            simp only [Act.put, List.getElem_toArray, List.getElem_cons_succ, List.getElem_cons_zero, List.setIfInBounds_toArray, List.set_cons_zero, List.set_cons_succ]
            refine wpAnyH_take (i := 6) (v := ?vz67) rfl (by kernel_rfl) (by kernel_rfl) (by kernel_rfl) (fun _ _ _ h => h) (Or.inl ⟨by rfl, ?hyz67⟩) (by first | assumption | exact trivial) ?restz67
            case hyz67 => intro W hSW; go_simp; try (with_reducible rfl)
            simp only [Act.put, List.getElem_toArray, List.getElem_cons_succ, List.getElem_cons_zero, List.setIfInBounds_toArray, List.set_cons_zero, List.set_cons_succ]
            refine wpAnyH_take (i := 7) (v := ?vz68) rfl (by kernel_rfl) (by kernel_rfl) (by kernel_rfl) (fun _ _ _ h => h) (Or.inl ⟨by rfl, ?hyz68⟩) (by first | assumption | exact trivial) ?restz68
            case hyz68 => intro W hSW; go_simp; try (with_reducible rfl)
            simp only [Act.put, List.getElem_toArray, List.getElem_cons_succ, List.getElem_cons_zero, List.setIfInBounds_toArray, List.set_cons_zero, List.set_cons_succ]
            refine wpAnyH_take (i := 8) (v := ?vz69) rfl (by kernel_rfl) (by kernel_rfl) (by kernel_rfl) (fun _ _ _ h => h) (Or.inl ⟨by rfl, ?hyz69⟩) (by first | assumption | exact trivial) ?restz69
            case hyz69 => intro W hSW; go_simp; try (with_reducible rfl)
            simp only [Act.put, List.getElem_toArray, List.getElem_cons_succ, List.getElem_cons_zero, List.setIfInBounds_toArray, List.set_cons_zero, List.set_cons_succ]
            refine wpAnyH_take (i := 9) (v := ?vz70) rfl (by kernel_rfl) (by kernel_rfl) (by kernel_rfl) (fun _ _ _ h => h) (Or.inl ⟨by rfl, ?hyz70⟩) (by first | assumption | exact trivial) ?restz70
            case hyz70 => intro W hSW; go_simp; try (with_reducible rfl)
            simp only [Act.put, List.getElem_toArray, List.getElem_cons_succ, List.getElem_cons_zero, List.setIfInBounds_toArray, List.set_cons_zero, List.set_cons_succ]
            refine wpAnyH_take (i := 10) (v := ?vz71) rfl (by kernel_rfl) (by kernel_rfl) (by kernel_rfl) (fun _ _ _ h => h) (Or.inl ⟨by rfl, ?hyz71⟩) (by first | assumption | exact trivial) ?restz71
            case hyz71 => intro W hSW; have q10 := (HC.out W hSW).2.2.2.2.1; go_simp; try (with_reducible rfl)
            simp only [Act.put, List.getElem_toArray, List.getElem_cons_succ, List.getElem_cons_zero, List.setIfInBounds_toArray, List.set_cons_zero, List.set_cons_succ]
            refine wpAnyH_ready (rs := [11]) (by kernel_rfl) (by simp) ?_
            refine AllReadyH.cons rfl (fun K hK => ?_) AllReadyH.nil
            go_simp
            go_wp2_with (go_at_call 26; refine (HCU.out wr.drew (hd.out.below ((Below.refl _ wr).drew))).mono ?_; rintro e w2 ⟨rfl, hd2, hb2⟩)
            have B2 : Below s w w2 := hb.out.drew.trans hb2.out
            refine hK.out _ _ (B2) (fun hHeld => ?_)
            clear hK K
            refine wpAnyH_take (i := 12) (v := ?vz72) rfl (by kernel_rfl) (by kernel_rfl) (by kernel_rfl) (fun _ _ _ h => h) (Or.inl ⟨by rfl, ?hyz72⟩) (by first | assumption | exact trivial) ?restz72
            case hyz72 => intro W hSW; go_simp; try (with_reducible rfl)
            simp only [Act.put, List.getElem_toArray, List.getElem_cons_succ, List.getElem_cons_zero, List.setIfInBounds_toArray, List.set_cons_zero, List.set_cons_succ]
            refine wpAnyH_done (by kernel_rfl) ?_ _
            go_wp2_with (go_at_call 22; refine (HDN.out w2 hd2).mono ?_; rintro e w' ⟨rfl, rfl⟩)
            go_roundw
            case rel => exact ⟨_, k + 1, st2, by omega, rfl, by go_num, ham, by have := hck.out; show _ ≤ _; omega, hd2, B2⟩
            case measure => simp [intOf]; omega
        have e2 : (kd == 2) = false := by simpa using h2
        by_cases h3 : kd = 3
        · subst h3
          obtain ⟨c, hc⟩ : ∃ c, renE st nm to = c := ⟨_, rfl⟩
          obtain ⟨st2, hst⟩ : ∃ st2, renS st nm to = st2 := ⟨_, rfl⟩
          have hop : OpA st c st2 := by rw [← hc, ← hst]; exact OpA.ren st nm to
          rw [hc, hst] at HRN
          clear hc hst
          have hcs := ham.out.cases hop
          clear hop HAP HSY HCU HRM
          rcases hcs with ⟨a1, rfl, rfl⟩ | ⟨a1, rfl, har⟩ | ⟨a1, a2, rfl⟩
          · subst a1
            have x1 : st2.down = true := by rw [ham.out.down]; simp
            have HDN := Lib.hid (fun (W : World) (hD : Hid (Df s W (s + 1) s st2)) => Down_f W (s + 1) s st2 hD)
            rw [x1] at HDN
            clear x1
            go_wp2
            refine wp_region_held_drew (S := fun W => Below s w W) (by kernel_rfl) hb.out.drew (fun hHeld => ?_)
            refine wpAnyH_take (i := 0) (v := ?vz73) rfl (by kernel_rfl) (by kernel_rfl) (by kernel_rfl) (fun _ _ _ h => h) (Or.inl ⟨by rfl, ?hyz73⟩) (by first | assumption | exact trivial) ?restz73
            case hyz73 => intro W hSW; go_simp; try (with_reducible rfl)
            simp only [Act.put, List.getElem_toArray, List.getElem_cons_succ, List.getElem_cons_zero, List.setIfInBounds_toArray, List.set_cons_zero, List.set_cons_succ]
            refine wpAnyH_take (i := 1) (v := ?vz74) rfl (by kernel_rfl) (by kernel_rfl) (by kernel_rfl) (fun _ _ _ h => h) (Or.inl ⟨by rfl, ?hyz74⟩) (by first | assumption | exact trivial) ?restz74
            case hyz74 => intro W hSW; go_simp; try (with_reducible rfl)
            simp only [Act.put, List.getElem_toArray, List.getElem_cons_succ, List.getElem_cons_zero, List.setIfInBounds_toArray, List.set_cons_zero, List.set_cons_succ]
            refine wpAnyH_take (i := 2) (v := ?vz75) rfl (by kernel_rfl) (by kernel_rfl) (by kernel_rfl) (fun _ _ _ h => h) (Or.inl ⟨by rfl, ?hyz75⟩) (by first | assumption | exact trivial) ?restz75
            case hyz75 => intro W hSW; go_simp; try (with_reducible rfl)
            simp only [Act.put, List.getElem_toArray, List.getElem_cons_succ, List.getElem_cons_zero, List.setIfInBounds_toArray, List.set_cons_zero, List.set_cons_succ]
            refine wpAnyH_take (i := 3) (v := ?vz76) rfl (by kernel_rfl) (by kernel_rfl) (by kernel_rfl) (fun _ _ _ h => h) (Or.inl ⟨by rfl, ?hyz76⟩) (by first | assumption | exact trivial) ?restz76
            case hyz76 => intro W hSW; go_simp; try (with_reducible rfl)
            simp only [Act.put, List.getElem_toArray, List.getElem_cons_succ, List.getElem_cons_zero, List.setIfInBounds_toArray, List.set_cons_zero, List.set_cons_succ]
            refine wpAnyH_take (i := 4) (v := ?vz77) rfl (by kernel_rfl) (by kernel_rfl) (by kernel_rfl) (fun _ _ _ h => h) (Or.inl ⟨by rfl, ?hyz77⟩) (by first | assumption | exact trivial) ?restz77
            case hyz77 => intro W hSW; go_simp; try (with_reducible rfl)
            simp only [Act.put, List.getElem_toArray, List.getElem_cons_succ, List.getElem_cons_zero, List.setIfInBounds_toArray, List.set_cons_zero, List.set_cons_succ]
            refine wpAnyH_take (i := 5) (v := ?vz78) rfl (by kernel_rfl) (by kernel_rfl) (by kernel_rfl) (fun _ _ _ h => h) (Or.inl ⟨by rfl, ?hyz78⟩) (by first | assumption | exact trivial) ?restz78
            case hyz78 => intro W hSW; have q5 := (HC.out W hSW).2.1; go_simp; try (with_reducible rfl)
            simp only [Act.put, List.getElem_toArray, List.getElem_cons_succ, List.getElem_cons_zero, List.setIfInBounds_toArray, List.set_cons_zero, List.set_cons_succ]
            refine wpAnyH_take (i := 6) (v := ?vz79) rfl (by kernel_rfl) (by kernel_rfl) (by kernel_rfl) (fun _ _ _ h => h) (Or.inl ⟨by rfl, ?hyz79⟩) (by first | assumption | exact trivial) ?restz79
            case hyz79 => intro W hSW; go_simp; try (with_reducible rfl)
            simp only [Act.put, List.getElem_toArray, List.getElem_cons_succ, List.getElem_cons_zero, List.setIfInBounds_toArray, List.set_cons_zero, List.set_cons_succ]
            refine wpAnyH_take (i := 7) (v := ?vz80) rfl (by kernel_rfl) (by kernel_rfl) (by kernel_rfl) (fun _ _ _ h => h) (Or.inl ⟨by rfl, ?hyz80⟩) (by first | assumption | exact trivial) ?restz80
            case hyz80 => intro W hSW; go_simp; try (with_reducible rfl)
            simp only [Act.put, List.getElem_toArray, List.getElem_cons_succ, List.getElem_cons_zero, List.setIfInBounds_toArray, List.set_cons_zero, List.set_cons_succ]
            refine wpAnyH_take (i := 8) (v := ?vz81) rfl (by kernel_rfl) (by kernel_rfl) (by kernel_rfl) (fun _ _ _ h => h) (Or.inl ⟨by rfl, ?hyz81⟩) (by first | assumption | exact trivial) ?restz81
            case hyz81 => intro W hSW; go_simp; try (with_reducible rfl)
            simp only [Act.put, List.getElem_toArray, List.getElem_cons_succ, List.getElem_cons_zero, List.setIfInBounds_toArray, List.set_cons_zero, List.set_cons_succ]
            refine wpAnyH_take (i := 9) (v := ?vz82) rfl (by kernel_rfl) (by kernel_rfl) (by kernel_rfl) (fun _ _ _ h => h) (Or.inl ⟨by rfl, ?hyz82⟩) (by first | assumption | exact trivial) ?restz82
            case hyz82 => intro W hSW; go_simp; try (with_reducible rfl)
            simp only [Act.put, List.getElem_toArray, List.getElem_cons_succ, List.getElem_cons_zero, List.setIfInBounds_toArray, List.set_cons_zero, List.set_cons_succ]
            refine wpAnyH_take (i := 10) (v := ?vz83) rfl (by kernel_rfl) (by kernel_rfl) (by kernel_rfl) (fun _ _ _ h => h) (Or.inl ⟨by rfl, ?hyz83⟩) (by first | assumption | exact trivial) ?restz83
            case hyz83 => intro W hSW; have q10 := (HC.out W hSW).2.2.1; go_simp; try (with_reducible rfl)
            simp only [Act.put, List.getElem_toArray, List.getElem_cons_succ, List.getElem_cons_zero, List.setIfInBounds_toArray, List.set_cons_zero, List.set_cons_succ]
            refine wpAnyH_ready (rs := [11]) (by kernel_rfl) (by simp) ?_
            refine AllReadyH.cons rfl (fun K hK => ?_) AllReadyH.nil
            go_simp
            go_wp2_with (go_at_call 27; refine (HRN.out wr.drew (hd.out.below ((Below.refl _ wr).drew))).mono ?_; rintro e w2 ⟨rfl, hd2, hb2⟩)
            have B2 : Below s w w2 := hb.out.drew.trans hb2.out
            refine hK.out _ _ (B2) (fun hHeld => ?_)
            clear hK K
            refine wpAnyH_take (i := 12) (v := ?vz84) rfl (by kernel_rfl) (by kernel_rfl) (by kernel_rfl) (fun _ _ _ h => h) (Or.inl ⟨by rfl, ?hyz84⟩) (by first | assumption | exact trivial) ?restz84
            case hyz84 => intro W hSW; go_simp; try (with_reducible rfl)
            simp only [Act.put, List.getElem_toArray, List.getElem_cons_succ, List.getElem_cons_zero, List.setIfInBounds_toArray, List.set_cons_zero, List.set_cons_succ]
            refine wpAnyH_done (by kernel_rfl) ?_ _
            go_wp2_with (go_at_call 22; refine (HDN.out w2 hd2).mono ?_; rintro e w' ⟨rfl, rfl⟩)
            go_roundw
            case rel => exact ⟨_, k + 1, st2, by omega, rfl, by go_num, ham, by have := hck.out; show _ ≤ _; omega, hd2, B2⟩
            case measure => simp [intOf]; omega
          · have x1 : ((ch : Int) == (m : Int)) = false := ne_b a1
            have x2 : st2.down = (((ch : Int) + 1) == (m : Int)) := by
              rw [har.down]
              by_cases e : ch + 1 = m
              · have : (ch : Int) + 1 = (m : Int) := by omega
                simp [e, this]
              · have : ¬ (ch : Int) + 1 = (m : Int) := by omega
                simp [e, this]
            have HDN := Lib.hid (fun (W : World) (hD : Hid (Df s W (s + 1) s st2)) => Down_f W (s + 1) s st2 hD)
            rw [x2] at HDN
            obtain ⟨bb, hbb2⟩ : ∃ bb, (((ch : Int) + 1) == (m : Int)) = bb := ⟨_, rfl⟩
            rw [hbb2] at HDN
            have HAR2 := Lib.hid har
            clear x2 har
            go_wp2
            refine wp_region_held_drew (S := fun W => Below s w W) (by kernel_rfl) hb.out.drew (fun hHeld => ?_)
            refine wpAnyH_take (i := 0) (v := ?vz85) rfl (by kernel_rfl) (by kernel_rfl) (by kernel_rfl) (fun _ _ _ h => h) (Or.inl ⟨by rfl, ?hyz85⟩) (by first | assumption | exact trivial) ?restz85
            case hyz85 => intro W hSW; go_simp; try (with_reducible rfl)
            simp only [Act.put, List.getElem_toArray, List.getElem_cons_succ, List.getElem_cons_zero, List.setIfInBounds_toArray, List.set_cons_zero, List.set_cons_succ]
            refine wpAnyH_take (i := 1) (v := ?vz86) rfl (by kernel_rfl) (by kernel_rfl) (by kernel_rfl) (fun _ _ _ h => h) (Or.inl ⟨by rfl, ?hyz86⟩) (by first | assumption | exact trivial) ?restz86
            case hyz86 => intro W hSW; go_simp; try (with_reducible rfl)
            simp only [Act.put, List.getElem_toArray, List.getElem_cons_succ, List.getElem_cons_zero, List.setIfInBounds_toArray, List.set_cons_zero, List.set_cons_succ]
            refine wpAnyH_take (i := 2) (v := ?vz87) rfl (by kernel_rfl) (by kernel_rfl) (by kernel_rfl) (fun _ _ _ h => h) (Or.inl ⟨by rfl, ?hyz87⟩) (by first | assumption | exact trivial) ?restz87
            case hyz87 => intro W hSW; go_simp; try (with_reducible rfl)
            simp only [Act.put, List.getElem_toArray, List.getElem_cons_succ, List.getElem_cons_zero, List.setIfInBounds_toArray, List.set_cons_zero, List.set_cons_succ]
            refine wpAnyH_take (i := 3) (v := ?vz88) rfl (by kernel_rfl) (by kernel_rfl) (by kernel_rfl) (fun _ _ _ h => h) (Or.inl ⟨by rfl, ?hyz88⟩) (by first | assumption | exact trivial) ?restz88
            case hyz88 => intro W hSW; go_simp; try (with_reducible rfl)
            simp only [Act.put, List.getElem_toArray, List.getElem_cons_succ, List.getElem_cons_zero, List.setIfInBounds_toArray, List.set_cons_zero, List.set_cons_succ]
            refine wpAnyH_take (i := 4) (v := ?vz89) rfl (by kernel_rfl) (by kernel_rfl) (by kernel_rfl) (fun _ _ _ h => h) (Or.inl ⟨by rfl, ?hyz89⟩) (by first | assumption | exact trivial) ?restz89
            case hyz89 => intro W hSW; go_simp; try (with_reducible rfl)
            simp only [Act.put, List.getElem_toArray, List.getElem_cons_succ, List.getElem_cons_zero, List.setIfInBounds_toArray, List.set_cons_zero, List.set_cons_succ]
            refine wpAnyH_take (i := 5) (v := ?vz90) rfl (by kernel_rfl) (by kernel_rfl) (by kernel_rfl) (fun _ _ _ h => h) (Or.inl ⟨by rfl, ?hyz90⟩) (by first | assumption | exact trivial) ?restz90
            case hyz90 => intro W hSW; have q5 := (HC.out W hSW).2.1; go_simp; try (with_reducible rfl)
            simp only [Act.put, List.getElem_toArray, List.getElem_cons_succ, List.getElem_cons_zero, List.setIfInBounds_toArray, List.set_cons_zero, List.set_cons_succ]
            refine wpAnyH_take (i := 6) (v := ?vz91) rfl (by kernel_rfl) (by kernel_rfl) (by kernel_rfl) (fun _ _ _ h => h) (Or.inl ⟨by rfl, ?hyz91⟩) (by first | assumption | exact trivial) ?restz91
            case hyz91 => intro W hSW; go_simp; try (with_reducible rfl)
            simp only [Act.put, List.getElem_toArray, List.getElem_cons_succ, List.getElem_cons_zero, List.setIfInBounds_toArray, List.set_cons_zero, List.set_cons_succ]
            refine wpAnyH_take (i := 7) (v := ?vz92) rfl (by kernel_rfl) (by kernel_rfl) (by kernel_rfl) (fun _ _ _ h => h) (Or.inl ⟨by rfl, ?hyz92⟩) (by first | assumption | exact trivial) ?restz92
            case hyz92 => intro W hSW; go_simp; try (with_reducible rfl)
            simp only [Act.put, List.getElem_toArray, List.getElem_cons_succ, List.getElem_cons_zero, List.setIfInBounds_toArray, List.set_cons_zero, List.set_cons_succ]
            refine wpAnyH_take (i := 8) (v := ?vz93) rfl (by kernel_rfl) (by kernel_rfl) (by kernel_rfl) (fun _ _ _ h => h) (Or.inl ⟨by rfl, ?hyz93⟩) (by first | assumption | exact trivial) ?restz93
            case hyz93 => intro W hSW; go_simp; try (with_reducible rfl)
            simp only [Act.put, List.getElem_toArray, List.getElem_cons_succ, List.getElem_cons_zero, List.setIfInBounds_toArray, List.set_cons_zero, List.set_cons_succ]
            refine wpAnyH_take (i := 9) (v := ?vz94) rfl (by kernel_rfl) (by kernel_rfl) (by kernel_rfl) (fun _ _ _ h => h) (Or.inl ⟨by rfl, ?hyz94⟩) (by first | assumption | exact trivial) ?restz94
            case hyz94 => intro W hSW; go_simp; try (with_reducible rfl)
            simp only [Act.put, List.getElem_toArray, List.getElem_cons_succ, List.getElem_cons_zero, List.setIfInBounds_toArray, List.set_cons_zero, List.set_cons_succ]
            refine wpAnyH_take (i := 10) (v := ?vz95) rfl (by kernel_rfl) (by kernel_rfl) (by kernel_rfl) (fun _ _ _ h => h) (Or.inl ⟨by rfl, ?hyz95⟩) (by first | assumption | exact trivial) ?restz95
            case hyz95 => intro W hSW; have q10 := (HC.out W hSW).2.2.1; go_simp; try (with_reducible rfl)
            simp only [Act.put, List.getElem_toArray, List.getElem_cons_succ, List.getElem_cons_zero, List.setIfInBounds_toArray, List.set_cons_zero, List.set_cons_succ]
            refine wpAnyH_ready (rs := [11]) (by kernel_rfl) (by simp) ?_
            refine AllReadyH.cons rfl (fun K hK => ?_) AllReadyH.nil
            go_simp
            go_wp2_with (go_at_call 27; refine (HRN.out wr.drew (hd.out.below ((Below.refl _ wr).drew))).mono ?_; rintro e w2 ⟨rfl, hd2, hb2⟩)
            have B2 : Below s w w2 := hb.out.drew.trans hb2.out
            refine hK.out _ _ (B2) (fun hHeld => ?_)
            clear hK K
            refine wpAnyH_take (i := 12) (v := ?vz96) rfl (by kernel_rfl) (by kernel_rfl) (by kernel_rfl) (fun _ _ _ h => h) (Or.inl ⟨by rfl, ?hyz96⟩) (by first | assumption | exact trivial) ?restz96
            case hyz96 => intro W hSW; go_simp; try (with_reducible rfl)
            simp only [Act.put, List.getElem_toArray, List.getElem_cons_succ, List.getElem_cons_zero, List.setIfInBounds_toArray, List.set_cons_zero, List.set_cons_succ]
            refine wpAnyH_done (by kernel_rfl) ?_ _
            go_wp2_with (go_at_call 22; refine (HDN.out w2 hd2).mono ?_; rintro e w' ⟨rfl, rfl⟩)
            go_roundw
            case rel => exact ⟨ch + 1, k + 1, st2, by omega, by go_num, by go_num, HAR2, by have := hck.out; show _ ≤ _; omega, hd2, B2⟩
            case measure => simp [intOf]; omega
          · have x1 : ((ch : Int) == (m : Int)) = false := ne_b a1
            have x2 : st2.down = false := by rw [ham.out.down]; simp; omega
            have HDN := Lib.hid (fun (W : World) (hD : Hid (Df s W (s + 1) s st2)) => Down_f W (s + 1) s st2 hD)
            rw [x2] at HDN
            have a3 : ((c : Int) == 0) = false := nz a2
            clear x2 a2
            go_wp2
            refine wp_region_held_drew (S := fun W => Below s w W) (by kernel_rfl) hb.out.drew (fun hHeld => ?_)
            refine wpAnyH_take (i := 0) (v := ?vz97) rfl (by kernel_rfl) (by kernel_rfl) (by kernel_rfl) (fun _ _ _ h => h) (Or.inl ⟨by rfl, ?hyz97⟩) (by first | assumption | exact trivial) ?restz97
            case hyz97 => intro W hSW; go_simp; try (with_reducible rfl)
            simp only [Act.put, List.getElem_toArray, List.getElem_cons_succ, List.getElem_cons_zero, List.setIfInBounds_toArray, List.set_cons_zero, List.set_cons_succ]
            refine wpAnyH_take (i := 1) (v := ?vz98) rfl (by kernel_rfl) (by kernel_rfl) (by kernel_rfl) (fun _ _ _ h => h) (Or.inl ⟨by rfl, ?hyz98⟩) (by first | assumption | exact trivial) ?restz98
            case hyz98 => intro W hSW; go_simp; try (with_reducible rfl)
            simp only [Act.put, List.getElem_toArray, List.getElem_cons_succ, List.getElem_cons_zero, List.setIfInBounds_toArray, List.set_cons_zero, List.set_cons_succ]
            refine wpAnyH_take (i := 2) (v := ?vz99) rfl (by kernel_rfl) (by kernel_rfl) (by kernel_rfl) (fun _ _ _ h => h) (Or.inl ⟨by rfl, ?hyz99⟩) (by first | assumption | exact trivial) ?restz99
            case hyz99 => intro W hSW; go_simp; try (with_reducible rfl)
            simp only [Act.put, List.getElem_toArray, List.getElem_cons_succ, List.getElem_cons_zero, List.setIfInBounds_toArray, List.set_cons_zero, List.set_cons_succ]
            refine wpAnyH_take (i := 3) (v := ?vz100) rfl (by kernel_rfl) (by kernel_rfl) (by kernel_rfl) (fun _ _ _ h => h) (Or.inl ⟨by rfl, ?hyz100⟩) (by first | assumption | exact trivial) ?restz100
            case hyz100 => intro W hSW; go_simp; try (with_reducible rfl)
            simp only [Act.put, List.getElem_toArray, List.getElem_cons_succ, List.getElem_cons_zero, List.setIfInBounds_toArray, List.set_cons_zero, List.set_cons_succ]
            refine wpAnyH_take (i := 4) (v := ?vz101) rfl (by kernel_rfl) (by kernel_rfl) (by kernel_rfl) (fun _ _ _ h => h) (Or.inl ⟨by rfl, ?hyz101⟩) (by first | assumption | exact trivial) ?restz101
            case hyz101 => intro W hSW; go_simp; try (with_reducible rfl)
            simp only [Act.put, List.getElem_toArray, List.getElem_cons_succ, List.getElem_cons_zero, List.setIfInBounds_toArray, List.set_cons_zero, List.set_cons_succ]
            refine wpAnyH_take (i := 5) (v := ?vz102) rfl (by kernel_rfl) (by kernel_rfl) (by kernel_rfl) (fun _ _ _ h => h) (Or.inl ⟨by rfl, ?hyz102⟩) (by first | assumption | exact trivial) ?restz102
            case hyz102 => intro W hSW; have q5 := (HC.out W hSW).2.1; go_simp; try (with_reducible rfl)
            simp only [Act.put, List.getElem_toArray, List.getElem_cons_succ, List.getElem_cons_zero, List.setIfInBounds_toArray, List.set_cons_zero, List.set_cons_succ]
            refine wpAnyH_take (i := 6) (v := ?vz103) rfl (by kernel_rfl) (by kernel_rfl) (by kernel_rfl) (fun _ _ _ h => h) (Or.inl ⟨by rfl, ?hyz103⟩) (by first | assumption | exact trivial) ?restz103
            case hyz103 => intro W hSW; go_simp; try (with_reducible rfl)
            simp only [Act.put, List.getElem_toArray, List.getElem_cons_succ, List.getElem_cons_zero, List.setIfInBounds_toArray, List.set_cons_zero, List.set_cons_succ]
            refine wpAnyH_take (i := 7) (v := ?vz104) rfl (by kernel_rfl) (by kernel_rfl) (by kernel_rfl) (fun _ _ _ h => h) (Or.inl ⟨by rfl, ?hyz104⟩) (by first | assumption | exact trivial) ?restz104
            case hyz104 => intro W hSW; go_simp; try (with_reducible rfl)
            simp only [Act.put, List.getElem_toArray, List.getElem_cons_succ, List.getElem_cons_zero, List.setIfInBounds_toArray, List.set_cons_zero, List.set_cons_succ]
            refine wpAnyH_take (i := 8) (v := ?vz105) rfl (by kernel_rfl) (by kernel_rfl) (by kernel_rfl) (fun _ _ _ h => h) (Or.inl ⟨by rfl, ?hyz105⟩) (by first | assumption | exact trivial) ?restz105
            case hyz105 => intro W hSW; go_simp; try (with_reducible rfl)
            simp only [Act.put, List.getElem_toArray, List.getElem_cons_succ, List.getElem_cons_zero, List.setIfInBounds_toArray, List.set_cons_zero, List.set_cons_succ]
            refine wpAnyH_take (i := 9) (v := ?vz106) rfl (by kernel_rfl) (by kernel_rfl) (by kernel_rfl) (fun _ _ _ h => h) (Or.inl ⟨by rfl, ?hyz106⟩) (by first | assumption | exact trivial) ?restz106
            case hyz106 => intro W hSW; go_simp; try (with_reducible rfl)
            simp only [Act.put, List.getElem_toArray, List.getElem_cons_succ, List.getElem_cons_zero, List.setIfInBounds_toArray, List.set_cons_zero, List.set_cons_succ]
            refine wpAnyH_take (i := 10) (v := ?vz107) rfl (by kernel_rfl) (by kernel_rfl) (by kernel_rfl) (fun _ _ _ h => h) (Or.inl ⟨by rfl, ?hyz107⟩) (by first | assumption | exact trivial) ?restz107
            case hyz107 => intro W hSW; have q10 := (HC.out W hSW).2.2.1; go_simp; try (with_reducible rfl)
            simp only [Act.put, List.getElem_toArray, List.getElem_cons_succ, List.getElem_cons_zero, List.setIfInBounds_toArray, List.set_cons_zero, List.set_cons_succ]
            refine wpAnyH_ready (rs := [11]) (by kernel_rfl) (by simp) ?_
            refine AllReadyH.cons rfl (fun K hK => ?_) AllReadyH.nil
            go_simp
            go_wp2_with (go_at_call 27; refine (HRN.out wr.drew (hd.out.below ((Below.refl _ wr).drew))).mono ?_; rintro e w2 ⟨rfl, hd2, hb2⟩)
            have B2 : Below s w w2 := hb.out.drew.trans hb2.out
            refine hK.out _ _ (B2) (fun hHeld => ?_)
            clear hK K
            refine wpAnyH_take (i := 12) (v := ?vz108) rfl (by kernel_rfl) (by kernel_rfl) (by kernel_rfl) (fun _ _ _ h => h) (Or.inl ⟨by rfl, ?hyz108⟩) (by first | assumption | exact trivial) ?restz108
            case hyz108 => intro W hSW; go_simp; try (with_reducible rfl)
            simp only [Act.put, List.getElem_toArray, List.getElem_cons_succ, List.getElem_cons_zero, List.setIfInBounds_toArray, List.set_cons_zero, List.set_cons_succ]
            refine wpAnyH_done (by kernel_rfl) ?_ _
            go_wp2_with (go_at_call 22; refine (HDN.out w2 hd2).mono ?_; rintro e w' ⟨rfl, rfl⟩)
            go_roundw
            case rel => exact ⟨_, k + 1, st2, by omega, rfl, by go_num, ham, by have := hck.out; show _ ≤ _; omega, hd2, B2⟩
            case measure => simp [intOf]; omega
        have e3 : (kd == 3) = false := by simpa using h3
        by_cases h4 : kd = 4
        · subst h4
          obtain ⟨c, hc⟩ : ∃ c, findE st nm = c := ⟨_, rfl⟩
          obtain ⟨st2, hst⟩ : ∃ st2, remS st nm = st2 := ⟨_, rfl⟩
          have hop : OpA st c st2 := by rw [← hc, ← hst]; exact OpA.rem st nm
          rw [hc, hst] at HRM
          clear hc hst
          have hcs := ham.out.cases hop
          clear hop HAP HSY HCU HRN
          rcases hcs with ⟨a1, rfl, rfl⟩ | ⟨a1, rfl, har⟩ | ⟨a1, a2, rfl⟩
          · subst a1
            have x1 : st2.down = true := by rw [ham.out.down]; simp
            have HDN := Lib.hid (fun (W : World) (hD : Hid (Df s W (s + 1) s st2)) => Down_f W (s + 1) s st2 hD)
            rw [x1] at HDN
            clear x1
            go_wp2_with (first
              | (go_at_call 28; refine (HRM.out wr hd.out).mono ?_; rintro e w2 ⟨rfl, hd2, hb2⟩; have B2 : Hid (Below s w w2) := hb.out.trans hb2.out)
              | (go_at_call 22; refine (HDN.out w2 hd2).mono ?_; rintro e w' ⟨rfl, rfl⟩))
            go_roundw
            case rel => exact ⟨_, k + 1, st2, by omega, rfl, by go_num, ham, by have := hck.out; show _ ≤ _; omega, hd2, B2⟩
            case measure => simp [intOf]; omega
          · have x1 : ((ch : Int) == (m : Int)) = false := ne_b a1
            have x2 : st2.down = (((ch : Int) + 1) == (m : Int)) := by
              rw [har.down]
              by_cases e : ch + 1 = m
              · have : (ch : Int) + 1 = (m : Int) := by omega
                simp [e, this]
              · have : ¬ (ch : Int) + 1 = (m : Int) := by omega
                simp [e, this]
            have HDN := Lib.hid (fun (W : World) (hD : Hid (Df s W (s + 1) s st2)) => Down_f W (s + 1) s st2 hD)
            rw [x2] at HDN
            obtain ⟨bb, hbb2⟩ : ∃ bb, (((ch : Int) + 1) == (m : Int)) = bb := ⟨_, rfl⟩
            rw [hbb2] at HDN
            have HAR2 := Lib.hid har
            clear x2 har
            go_wp2_with (first
              | (go_at_call 28; refine (HRM.out wr hd.out).mono ?_; rintro e w2 ⟨rfl, hd2, hb2⟩; have B2 : Hid (Below s w w2) := hb.out.trans hb2.out)
              | (go_at_call 22; refine (HDN.out w2 hd2).mono ?_; rintro e w' ⟨rfl, rfl⟩))
            go_roundw
            case rel => exact ⟨ch + 1, k + 1, st2, by omega, by go_num, by go_num, HAR2, by have := hck.out; show _ ≤ _; omega, hd2, B2⟩
            case measure => simp [intOf]; omega
          · have x1 : ((ch : Int) == (m : Int)) = false := ne_b a1
            have x2 : st2.down = false := by rw [ham.out.down]; simp; omega
            have HDN := Lib.hid (fun (W : World) (hD : Hid (Df s W (s + 1) s st2)) => Down_f W (s + 1) s st2 hD)
            rw [x2] at HDN
            have a3 : ((c : Int) == 0) = false := nz a2
            clear x2 a2
            go_wp2_with (first
              | (go_at_call 28; refine (HRM.out wr hd.out).mono ?_; rintro e w2 ⟨rfl, hd2, hb2⟩; have B2 : Hid (Below s w w2) := hb.out.trans hb2.out)
              | (go_at_call 22; refine (HDN.out w2 hd2).mono ?_; rintro e w' ⟨rfl, rfl⟩))
            go_roundw
            case rel => exact ⟨_, k + 1, st2, by omega, rfl, by go_num, ham, by have := hck.out; show _ ≤ _; omega, hd2, B2⟩
            case measure => simp [intOf]; omega
        have e4 : (kd == 4) = false := by simpa using h4
        clear h0 h1 h2 h3 h4
        go_wp2
        go_roundw
        case rel => exact ⟨ch, k + 1, st, by omega, rfl, by go_num, ham, by have := hck.out; show _ ≤ _; omega, hd, hb⟩
        case measure => simp [intOf]; omega
      · have g1 : (k : Int) < (L : Int) := by omega
        have g3 : (ch : Int) ≤ (m : Int) := by omega
        have HCR := Lib.hid (Crash_none wr (s + 1) s st hd)
        have HDN := Lib.hid (fun (W : World) (hD : Hid (Df s W (s + 1) s (crashS st []))) => Down_f W (s + 1) s (crashS st []) hD)
        rw [show (crashS st []).down = false from rfl] at HDN
        go_wp2_with (first
          | (go_at_call 13; refine HCR.out.mono ?_; rintro e w2 ⟨rfl, hd2, hb2⟩)
          | (go_at_call 22; refine (HDN.out w2 hd2).mono ?_; rintro e w' ⟨rfl, rfl⟩)
          | (go_at_call 11; refine (HW.out w2).mono ?_; rintro e w9 ⟨rfl, hb9⟩))
        go_ret
        exact ⟨rfl, (hb.out.trans hb2.out).trans (hb9.out.mono hd2.out.lt)⟩
    · have g1 : ¬ (k : Int) < (L : Int) := by omega
      have g3 : (ch : Int) ≤ (m : Int) := by omega
      have HCR := Lib.hid (Crash_none wr (s + 1) s st hd)
      have HDN := Lib.hid (fun (W : World) (hD : Hid (Df s W (s + 1) s (crashS st []))) => Down_f W (s + 1) s (crashS st []) hD)
      rw [show (crashS st []).down = false from rfl] at HDN
      go_wp2_with (first
        | (go_at_call 13; refine HCR.out.mono ?_; rintro e w2 ⟨rfl, hd2, hb2⟩)
        | (go_at_call 22; refine (HDN.out w2 hd2).mono ?_; rintro e w' ⟨rfl, rfl⟩)
        | (go_at_call 11; refine (HW.out w2).mono ?_; rintro e w9 ⟨rfl, hb9⟩))
      go_ret
      exact ⟨rfl, (hb.out.trans hb2.out).trans (hb9.out.mono hd2.out.lt)⟩
theorem darms (n : Int) (A : Option Addr) (len cap : Nat) (ls : List DAc) (z : Int) (w : World) (w0 : (Lit.int .i64 n).wf = true) (w1 : len = ls.length ∧ len ≤ cap ∧ cap ≤ 9223372036854775807 ∧ Acts w A ls) (w2 : (Lit.int .i64 z).wf = true) :
    Calls Try.prog 7 #[.int .i64 n, .slice A len cap, .int .i64 z] w fun e w' => e = .returned (.bool true) ∧ Below w.heap.size w w' := by
  obtain ⟨rfl, hlc, hm, ha⟩ := w1
  by_cases h : n < 1 ∨ 1048576 < n
  · exact arms_bad n h _ z w
  · obtain ⟨q, rfl⟩ : ∃ q : Nat, n = q := ⟨n.toNat, by omega⟩
    exact arms_ok q (by omega) (by omega) A cap ls z w hlc hm ha
end Go.Proofs.Ytdjgkoklkoahbaa.Dk
