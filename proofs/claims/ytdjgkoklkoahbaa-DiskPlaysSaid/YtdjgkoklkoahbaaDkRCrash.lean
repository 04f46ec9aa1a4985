/- The contract of the reference's Crash. -/
import Derived.Test.YtdjgkoklkoahbaaDkROpsB
namespace Go.Proofs.Ytdjgkoklkoahbaa.Dk
open Go.RowKit
open Go.Proofs.Ytdjgkoklkoahbaa.Me Go.Proofs.Ytdjgkoklkoahbaa.Hd
set_option linter.unusedVariables false
set_option linter.unusedSimpArgs false

/-- One file appended, where the operation stands alone (a region that draws its order). -/
theorem appFlw {w0 w wl : World} {o : Oper} {a : Act} {K : Act → World → Prop} {Q : Exit → Act → World → Prop} (s x : Operand)
    (ho : o.op = .call { callee := .builtin .append, args := #[s, x], argTypes := #[27, 27] })
    (B : Nat) (v : Value) (L : Fs) (p : Nm × Fl) (hs : a.eval s = v) (hw : w = wl.alloc (.cells (flV p).toArray 82)) (hown : Fo wl B v L) (hb : Below B w0 wl) (hB : B ≤ wl.heap.size)
    (g : Nat) (hg : g = wl.heap.size) (hx : a.eval x = .slice (some ⟨g, 0, none⟩) 1 1) (hlen : L.length ≤ 1000)
    (h : ∀ v' w', Fo w' B v' (L ++ [p]) → Below B w0 w' → K (a.put o.dst v') w') : o.wp Try.prog a w K Q := by
  subst hw hg
  obtain ⟨i0, hi, hz0, hz1, hz2⟩ := info_parts infoFl
  obtain ⟨v', w', hr, h1, h2, _, _⟩ := run_append_own_at (P := Try.prog) (wl.alloc (.cells (flV p).toArray 82)) B 27 o.type 82 i0 (.agg #[.string ⟨#[]⟩, .string ⟨#[]⟩, .string ⟨#[]⟩]) 3 48 Try.underlying27 hi hz0 hz1 hz2 rfl (by decide) v L.length (flsV L) (hown.alloc _) ⟨wl.heap.size, 0, none⟩ 1 1 (flV p) rfl (fl_new wl p _ _) (fl_one p) (by unfold maxLen; omega) (by omega) (by simp; omega)
  have hb1 : Below B w0 (wl.alloc (.cells (flV p).toArray 82)) := hb.alloc hB _
  unfold Oper.wp execOp
  simp only [ho, resolve, invoke, builtin, Sem.run_bind, Sem.run_pure, Result.andThen_ok, List.map_toArray, List.map_cons, List.map_nil, hs, hx, hr]
  refine h v' w' ?_ (hb1.grown h2 (by simp; omega) fun k hk => (hown.lt k hk).1)
  unfold Fo
  rw [List.length_append, flsV_snoc]; exact h1
section
variable {Q : Nat → Prop} (w : World) (s : St) (v : Value) (hv : Hid (Fv Q w v s.files))
include hv
set_option maxRecDepth 100000 in
set_option maxHeartbeats 8000000 in
theorem RCrash_any (ok : s.Ok) (K : Option Addr) (ck : Nat) (ks : List Int) (hr : Hid (Mi.Rd w w.heap.size K ks)) (hc : ks.length ≤ ck) : Calls Try.prog 45 #[.agg (rcs s v), .slice K ks.length ck] w fun e w' => ∃ A n k, e = .returned (.agg (rcs (crashS s ks) (.slice A n k))) ∧ Hid (Fv (fun b => Q b ∨ w.heap.size ≤ b) w' (.slice A n k) (crashS s ks).files) ∧ Hid (Below w.heap.size w w') := by
  obtain ⟨A, c, rfl, h1, h2⟩ := hv.out.form
  have HOK := Lib.hid ok
  have HVV : Hid (∀ W, RX w s (.slice A s.files.length c) W → Fv Q W (.slice A s.files.length c) s.files) := fun W hW => hv.out.below hW.b
  have hc64 := ok.cnt
  obtain ⟨F, hF⟩ : ∃ F, s.files.length = F := ⟨_, rfl⟩
  have HFF := Lib.hid hF
  rw [hF] at h1 HVV hc64 ⊢
  obtain ⟨m, hm⟩ : ∃ m, ks.length = m := ⟨_, rfl⟩
  have HM := Lib.hid hm
  rw [hm] at hc ⊢
  obtain ⟨W0, hW0⟩ : ∃ W0, (w.alloc (.cells (rcs s (.slice A F c)) 29)).alloc (.cells zD 29) = W0 := ⟨_, rfl⟩
  have HWE := Lib.hid hW0
  have HY0 : Hid (RY w s (.slice A F c) zD W0) := by show RY _ _ _ _ _; rw [← hW0]; exact RY.new w s (.slice A F c)
  have HO0 : Hid (Fo (W0.alloc (.cells #[] 82)) W0.heap.size (.slice (some ⟨W0.heap.size, 0, none⟩) 0 0) ((crashL s.files ks).take 0)) := Fo.lit (Nat.le_refl _)
  have HB0 : Hid (Below W0.heap.size W0 (W0.alloc (.cells #[] 82))) := Me.below_alloc (Below.refl _ _)
  have HSZ : Hid (W0.heap.size = w.heap.size + 1 + 1) := by show _ = _; rw [← hW0]; simp
  obtain ⟨W1, hW1⟩ : ∃ W1, W0.alloc (.cells #[] 82) = W1 := ⟨_, rfl⟩
  have HWE1 := Lib.hid hW1
  rw [hW1] at HO0 HB0
  rw [HSZ.out] at HO0
  show Calls Try.prog 45 #[.agg #[.int .i64 (s.limit : Int), .slice A F c, .int .i64 (leftI s), .bool s.down], .slice K m ck] w _
  unfold rcs zD at HWE
  clear hW0 hF hm hW1 ok
  go_enter Try.func45, Try.ntmps45
  go_wp2
  rw [HWE.out, HWE1.out]
  go_loopw [5, 6, 7] (fun o u _ wr => ∃ k : Nat, k ≤ F ∧ u = .int .i64 k ∧ Hid (Fo wr (w.heap.size + 1 + 1) o ((crashL s.files ks).take k)) ∧ Hid (Below W0.heap.size W0 wr)) (fun _ u _ _ => F - (intOf u).toNat)
  case atStart => exact ⟨0, Nat.zero_le _, rfl, HO0, HB0⟩
  case round =>
    obtain ⟨k, hk, rfl, ho, hb⟩ := hrel
    clear HO0 HB0
    have HYW : Hid (∀ W, Below W0.heap.size W0 W → RY w s (.slice A F c) zD W) := fun W hW => HY0.out.grow hW
    obtain ⟨y0, y1, y2, y3⟩ := (HYW.out wr hb.out).x.cells
    by_cases hlt : k < F
    · have hkF : k < s.files.length := by rw [HFF.out]; exact hlt
      obtain ⟨g, rfl, hg, hcc⟩ := (HVV.out wr (HYW.out wr hb.out).x).at_ (j := k) hkF
      clear hcc hg
      have HC : Hid (∀ W, Below W0.heap.size W0 W → W.cell? ⟨w.heap.size, 1, none⟩ = some (.slice (some ⟨g, 0, none⟩) F c) ∧ W.cell? ⟨g, k * 3, none⟩ = some (nmV (flAt s.files k).1) ∧ W.cell? ⟨g, k * 3 + 1, none⟩ = some (.string (Me.strOf ((flAt s.files k).2.bytes.take (flAt s.files k).2.safe))) ∧ W.cell? ⟨g, k * 3 + 2, none⟩ = some (.string (Me.strOf ((flAt s.files k).2.bytes.drop (flAt s.files k).2.safe)))) := fun W hW => by
        obtain ⟨g', e, _, hc'⟩ := (HVV.out W (HYW.out W hW).x).at_ (j := k) hkF
        cases e
        exact ⟨(HYW.out W hW).x.cells.2.1, hc' W (Below.refl _ _)⟩
      have hmem : flAt s.files k ∈ s.files := by rw [flAt_get hkF]; exact List.getElem_mem hkF
      have hsl := HOK.out.safe _ hmem
      have hul : (flAt s.files k).2.bytes.length ≤ 1048576 := Nat.le_trans (used_mem hmem) HOK.out.use
      have hck : k < (crashL s.files ks).length := by rw [crash_len]; exact hkF
      have hat : flAt (crashL s.files ks) k = ((flAt s.files k).1, crashF (flAt s.files k).2 (ks.getD k 0)) := by
        rw [flAt_get hck, crash_at s.files ks hkF, flAt_get hkF]
      have HST : Hid ((crashL s.files ks).take (k + 1) = (crashL s.files ks).take k ++ [((flAt s.files k).1, crashF (flAt s.files k).2 (ks.getD k 0))]) := by show _ = _; rw [take_succ hck, hat]
      obtain ⟨fs1, fs2⟩ := fl_crash hsl (ks.getD k 0)
      obtain ⟨nm, hnm⟩ : ∃ nm, (flAt s.files k).1 = nm := ⟨_, rfl⟩
      obtain ⟨f, hf⟩ : ∃ f, (flAt s.files k).2 = f := ⟨_, rfl⟩
      rw [hnm, hf] at HC HST
      rw [hf] at hsl hul fs1 fs2
      obtain ⟨z, hz⟩ : ∃ z, ks.getD k 0 = z := ⟨_, rfl⟩
      have HZ := Lib.hid hz
      rw [hz] at HST fs1 fs2
      obtain ⟨t, ht⟩ : ∃ t, f.bytes.length - f.safe = t := ⟨_, rfl⟩
      obtain ⟨u, hu⟩ : ∃ u, min z.toNat t = u := ⟨_, rfl⟩
      rw [ht, hu] at fs1
      have HKS : Hid (k < m → ∃ b off, K = some ⟨b, off, none⟩ ∧ ∀ W, Below W0.heap.size W0 W → W.cell? ⟨b, off + k, none⟩ = some (.int .i64 z)) := fun hkm => by
        obtain ⟨b, off, ha, hbb, hcell⟩ := hr.out (by rw [HM.out]; omega)
        refine ⟨b, off, ha, fun W hW => ?_⟩
        have e1 := hcell k (by rw [HM.out]; exact hkm)
        rw [show Mi.at_ ks k = ks.getD k 0 from rfl, HZ.out] at e1
        rw [(HYW.out W hW).x.b.cell (p := ⟨b, off + k, none⟩) hbb]
        exact e1
      have HKN : Hid (¬ k < m → z = 0) := fun h => by
        rw [← HZ.out, List.getD_eq_getElem?_getD, List.getElem?_eq_none (by rw [HM.out]; omega)]; rfl
      obtain ⟨S1, hS1⟩ : ∃ S, Me.strOf (f.bytes.take f.safe) = S := ⟨_, rfl⟩
      obtain ⟨S2, hS2⟩ : ∃ S, Me.strOf (f.bytes.drop f.safe) = S := ⟨_, rfl⟩
      obtain ⟨SC, hSC⟩ : ∃ S, Me.strOf ((f.bytes.drop f.safe).take u) = S := ⟨_, rfl⟩
      obtain ⟨SD, hSD⟩ : ∃ S, S1 ++ SC = S := ⟨_, rfl⟩
      have z2 : S2.size = t := by rw [← hS2, str_size, List.length_drop, ht]
      have hex : S2.extract 0 u = SC := by rw [← hS2, str_take, hSC]
      have hsz : ¬ 9223372036854775807 < S1.size + SC.size := by
        rw [← hS1, ← hSC, str_size, str_size, List.length_take, List.length_take, List.length_drop]; omega
      have HWQ : Hid (∀ wl : World, wl.alloc (.cells #[nmV nm, .string SD, .string ⟨#[]⟩] 82) = wl.alloc (.cells (flV (nm, crashF f z)).toArray 82)) := fun wl => by
        rw [fV_eq]
        unfold fV
        rw [fs1, fs2, ← str_app, hS1, hSC, hSD]
        rfl
      rw [hS1, hS2] at HC
      have hut : u ≤ t := by omega
      have HQ : Hid (((crashL s.files ks).take k).length ≤ 1000) := by
        have h2 : ((crashL s.files ks).take k).length ≤ k := List.length_take_le ..
        show _ ≤ _; omega
      have q1 : (k : Int) < (F : Int) := by omega
      have q0 : (0 : Int) ≤ (k : Int) := by omega
      have u0 : (0 : Int) ≤ (u : Int) := by omega
      have u1 : (u : Int) ≤ (t : Int) := by omega
      have HZU : Hid (min z.toNat t = u) := hu
      obtain ⟨_, x0, x1, x2⟩ := HC.out wr hb.out
      clear hkF hmem hsl hul hck hat fs1 fs2 hnm hf hz ht hu hS1 hS2 hSC hc64
      by_cases hkm : k < m
      · obtain ⟨kb, off, rfl, hkc⟩ := HKS.out hkm
        have HKC := Lib.hid hkc
        have k0 := hkc wr hb.out
        have q2 : (k : Int) < (m : Int) := by omega
        clear hkc HKS HKN
        by_cases hzp : 0 < z
        · have HMN : Hid (min z ((t : Nat) : Int) = (u : Int)) := by have := HZU.out; show _ = _; omega
          clear HZU
          go_wp2
          clear y0 y1 y2 y3 x0 x1 x2 k0
          refine wp_region_held_drew (S := fun W => Below W0.heap.size W0 W) (by kernel_rfl) (hb.out.trans ((Below.refl _ wr).drew.mono hb.out.size)) (fun hHeld => ?_)
          refine wpAnyH_take (i := 0) (v := ?vz1) rfl (by kernel_rfl) (by kernel_rfl) (by kernel_rfl) (fun _ _ _ h => h) (Or.inl ⟨by rfl, ?hyz1⟩) (by first | assumption | exact trivial) ?restz1
          case hyz1 => intro W hSW; go_simp; try (with_reducible rfl)
          simp only [Act.put, List.getElem_toArray, List.getElem_cons_succ, List.getElem_cons_zero, List.setIfInBounds_toArray, List.set_cons_zero, List.set_cons_succ]
          refine wpAnyH_take (i := 1) (v := ?vz2) rfl (by kernel_rfl) (by kernel_rfl) (by kernel_rfl) (fun _ _ _ h => h) (Or.inl ⟨by rfl, ?hyz2⟩) (by first | assumption | exact trivial) ?restz2
          case hyz2 => intro W hSW; go_simp; try (with_reducible rfl)
          simp only [Act.put, List.getElem_toArray, List.getElem_cons_succ, List.getElem_cons_zero, List.setIfInBounds_toArray, List.set_cons_zero, List.set_cons_succ]
          refine wpAnyH_take (i := 2) (v := ?vz3) rfl (by kernel_rfl) (by kernel_rfl) (by kernel_rfl) (fun _ _ _ h => h) (Or.inl ⟨by rfl, ?hyz3⟩) (by first | assumption | exact trivial) ?restz3
          case hyz3 => intro W hSW; go_simp; try (with_reducible rfl)
          simp only [Act.put, List.getElem_toArray, List.getElem_cons_succ, List.getElem_cons_zero, List.setIfInBounds_toArray, List.set_cons_zero, List.set_cons_succ]
          refine wpAnyH_take (i := 3) (v := ?vz4) rfl (by kernel_rfl) (by kernel_rfl) (by kernel_rfl) (fun _ _ _ h => h) (Or.inl ⟨by rfl, ?hyz4⟩) (by first | assumption | exact trivial) ?restz4
          case hyz4 => intro W hSW; have q3 := HKC.out W hSW; go_simp; try (with_reducible rfl)
          simp only [Act.put, List.getElem_toArray, List.getElem_cons_succ, List.getElem_cons_zero, List.setIfInBounds_toArray, List.set_cons_zero, List.set_cons_succ]
          refine wpAnyH_take (i := 4) (v := ?vz5) rfl (by kernel_rfl) (by kernel_rfl) (by kernel_rfl) (fun _ _ _ h => h) (Or.inl ⟨by rfl, ?hyz5⟩) (by first | assumption | exact trivial) ?restz5
          case hyz5 => intro W hSW; go_simp; try (with_reducible rfl)
          simp only [Act.put, List.getElem_toArray, List.getElem_cons_succ, List.getElem_cons_zero, List.setIfInBounds_toArray, List.set_cons_zero, List.set_cons_succ]
          refine wpAnyH_take (i := 5) (v := ?vz6) rfl (by kernel_rfl) (by kernel_rfl) (by kernel_rfl) (fun _ _ _ h => h) (Or.inl ⟨by rfl, ?hyz6⟩) (by first | assumption | exact trivial) ?restz6
          case hyz6 => intro W hSW; obtain ⟨r1, _, _, _⟩ := HC.out W hSW; go_simp; try (with_reducible rfl)
          simp only [Act.put, List.getElem_toArray, List.getElem_cons_succ, List.getElem_cons_zero, List.setIfInBounds_toArray, List.set_cons_zero, List.set_cons_succ]
          refine wpAnyH_take (i := 6) (v := ?vz7) rfl (by kernel_rfl) (by kernel_rfl) (by kernel_rfl) (fun _ _ _ h => h) (Or.inl ⟨by rfl, ?hyz7⟩) (by first | assumption | exact trivial) ?restz7
          case hyz7 => intro W hSW; go_simp; try (with_reducible rfl)
          simp only [Act.put, List.getElem_toArray, List.getElem_cons_succ, List.getElem_cons_zero, List.setIfInBounds_toArray, List.set_cons_zero, List.set_cons_succ]
          refine wpAnyH_take (i := 7) (v := ?vz8) rfl (by kernel_rfl) (by kernel_rfl) (by kernel_rfl) (fun _ _ _ h => h) (Or.inl ⟨by rfl, ?hyz8⟩) (by first | assumption | exact trivial) ?restz8
          case hyz8 => intro W hSW; go_simp; try (with_reducible rfl)
          simp only [Act.put, List.getElem_toArray, List.getElem_cons_succ, List.getElem_cons_zero, List.setIfInBounds_toArray, List.set_cons_zero, List.set_cons_succ]
          refine wpAnyH_take (i := 8) (v := ?vz9) rfl (by kernel_rfl) (by kernel_rfl) (by kernel_rfl) (fun _ _ _ h => h) (Or.inl ⟨by rfl, ?hyz9⟩) (by first | assumption | exact trivial) ?restz9
          case hyz9 => intro W hSW; go_simp; try (with_reducible rfl)
          simp only [Act.put, List.getElem_toArray, List.getElem_cons_succ, List.getElem_cons_zero, List.setIfInBounds_toArray, List.set_cons_zero, List.set_cons_succ]
          refine wpAnyH_take (i := 9) (v := ?vz10) rfl (by kernel_rfl) (by kernel_rfl) (by kernel_rfl) (fun _ _ _ h => h) (Or.inl ⟨by rfl, ?hyz10⟩) (by first | assumption | exact trivial) ?restz10
          case hyz10 => intro W hSW; obtain ⟨_, _, _, r3⟩ := HC.out W hSW; go_simp; try (with_reducible rfl)
          simp only [Act.put, List.getElem_toArray, List.getElem_cons_succ, List.getElem_cons_zero, List.setIfInBounds_toArray, List.set_cons_zero, List.set_cons_succ]
          refine wpAnyH_take (i := 10) (v := ?vz11) rfl (by kernel_rfl) (by kernel_rfl) (by kernel_rfl) (fun _ _ _ h => h) (Or.inl ⟨by rfl, ?hyz11⟩) (by first | assumption | exact trivial) ?restz11
          case hyz11 => intro W hSW; go_simp; try (with_reducible rfl)
          simp only [Act.put, List.getElem_toArray, List.getElem_cons_succ, List.getElem_cons_zero, List.setIfInBounds_toArray, List.set_cons_zero, List.set_cons_succ]
          refine wpAnyH_take (i := 11) (v := .int .i64 (u : Int)) rfl (by kernel_rfl) (by kernel_rfl) (by kernel_rfl) (fun _ _ _ h => h) (Or.inl ⟨by rfl, ?_⟩) (by first | assumption | exact trivial) ?_
          · intro W hSW; have q11 := HMN.out; go_simp; try (with_reducible rfl)
          simp only [Act.put, List.getElem_toArray, List.getElem_cons_succ, List.getElem_cons_zero, List.setIfInBounds_toArray, List.set_cons_zero, List.set_cons_succ]
          refine wpAnyH_take (i := 12) (v := ?vz12) rfl (by kernel_rfl) (by kernel_rfl) (by kernel_rfl) (fun _ _ _ h => h) (Or.inl ⟨by rfl, ?hyz12⟩) (by first | assumption | exact trivial) ?restz12
          case hyz12 => intro W hSW; go_simp; try (with_reducible rfl)
          simp only [Act.put, List.getElem_toArray, List.getElem_cons_succ, List.getElem_cons_zero, List.setIfInBounds_toArray, List.set_cons_zero, List.set_cons_succ]
          refine wpAnyH_done (by kernel_rfl) ?_ _
          have hbx : Hid (Below W0.heap.size W0 wr.drew) := hb.out.trans ((Below.refl _ wr).drew.mono hb.out.size)
          have hox : Hid (Fo wr.drew (w.heap.size + 1 + 1) u5 ((crashL s.files ks).take k)) := ho.out.below ((Below.refl _ wr).drew)
          obtain ⟨wx, hwx⟩ : ∃ wx, wr.drew = wx := ⟨_, rfl⟩
          rw [hwx] at hbx hox ⊢
          clear hwx ho hb HKC HMN
          go_wp2
          refine wp_region_held_drew (S := fun W => Below W0.heap.size W0 W) (by kernel_rfl) (hbx.out.trans ((Below.refl _ wx).drew.mono hbx.out.size)) (fun hHeld => ?_)
          refine wpAnyH_take (i := 0) (v := ?vz13) rfl (by kernel_rfl) (by kernel_rfl) (by kernel_rfl) (fun _ _ _ h => h) (Or.inl ⟨by rfl, ?hyz13⟩) (by first | assumption | exact trivial) ?restz13
          case hyz13 => intro W hSW; go_simp; try (with_reducible rfl)
          simp only [Act.put, List.getElem_toArray, List.getElem_cons_succ, List.getElem_cons_zero, List.setIfInBounds_toArray, List.set_cons_zero, List.set_cons_succ]
          refine wpAnyH_take (i := 1) (v := ?vz14) rfl (by kernel_rfl) (by kernel_rfl) (by kernel_rfl) (fun _ _ _ h => h) (Or.inl ⟨by rfl, ?hyz14⟩) (by first | assumption | exact trivial) ?restz14
          case hyz14 => intro W hSW; go_simp; try (with_reducible rfl)
          simp only [Act.put, List.getElem_toArray, List.getElem_cons_succ, List.getElem_cons_zero, List.setIfInBounds_toArray, List.set_cons_zero, List.set_cons_succ]
          refine wpAnyH_take (i := 2) (v := ?vz15) rfl (by kernel_rfl) (by kernel_rfl) (by kernel_rfl) (fun _ _ _ h => h) (Or.inl ⟨by rfl, ?hyz15⟩) (by first | assumption | exact trivial) ?restz15
          case hyz15 => intro W hSW; obtain ⟨r1, _, _, _⟩ := HC.out W hSW; go_simp; try (with_reducible rfl)
          simp only [Act.put, List.getElem_toArray, List.getElem_cons_succ, List.getElem_cons_zero, List.setIfInBounds_toArray, List.set_cons_zero, List.set_cons_succ]
          refine wpAnyH_take (i := 3) (v := ?vz16) rfl (by kernel_rfl) (by kernel_rfl) (by kernel_rfl) (fun _ _ _ h => h) (Or.inl ⟨by rfl, ?hyz16⟩) (by first | assumption | exact trivial) ?restz16
          case hyz16 => intro W hSW; go_simp; try (with_reducible rfl)
          simp only [Act.put, List.getElem_toArray, List.getElem_cons_succ, List.getElem_cons_zero, List.setIfInBounds_toArray, List.set_cons_zero, List.set_cons_succ]
          refine wpAnyH_take (i := 4) (v := ?vz17) rfl (by kernel_rfl) (by kernel_rfl) (by kernel_rfl) (fun _ _ _ h => h) (Or.inl ⟨by rfl, ?hyz17⟩) (by first | assumption | exact trivial) ?restz17
          case hyz17 => intro W hSW; go_simp; try (with_reducible rfl)
          simp only [Act.put, List.getElem_toArray, List.getElem_cons_succ, List.getElem_cons_zero, List.setIfInBounds_toArray, List.set_cons_zero, List.set_cons_succ]
          refine wpAnyH_take (i := 5) (v := ?vz18) rfl (by kernel_rfl) (by kernel_rfl) (by kernel_rfl) (fun _ _ _ h => h) (Or.inl ⟨by rfl, ?hyz18⟩) (by first | assumption | exact trivial) ?restz18
          case hyz18 => intro W hSW; go_simp; try (with_reducible rfl)
          simp only [Act.put, List.getElem_toArray, List.getElem_cons_succ, List.getElem_cons_zero, List.setIfInBounds_toArray, List.set_cons_zero, List.set_cons_succ]
          refine wpAnyH_take (i := 6) (v := ?vz19) rfl (by kernel_rfl) (by kernel_rfl) (by kernel_rfl) (fun _ _ _ h => h) (Or.inl ⟨by rfl, ?hyz19⟩) (by first | assumption | exact trivial) ?restz19
          case hyz19 => intro W hSW; obtain ⟨_, r2, _, _⟩ := HC.out W hSW; go_simp; try (with_reducible rfl)
          simp only [Act.put, List.getElem_toArray, List.getElem_cons_succ, List.getElem_cons_zero, List.setIfInBounds_toArray, List.set_cons_zero, List.set_cons_succ]
          refine wpAnyH_take (i := 7) (v := ?vz20) rfl (by kernel_rfl) (by kernel_rfl) (by kernel_rfl) (fun _ _ _ h => h) (Or.inl ⟨by rfl, ?hyz20⟩) (by first | assumption | exact trivial) ?restz20
          case hyz20 => intro W hSW; go_simp; try (with_reducible rfl)
          simp only [Act.put, List.getElem_toArray, List.getElem_cons_succ, List.getElem_cons_zero, List.setIfInBounds_toArray, List.set_cons_zero, List.set_cons_succ]
          refine wpAnyH_take (i := 8) (v := ?vz21) rfl (by kernel_rfl) (by kernel_rfl) (by kernel_rfl) (fun _ _ _ h => h) (Or.inl ⟨by rfl, ?hyz21⟩) (by first | assumption | exact trivial) ?restz21
          case hyz21 => intro W hSW; obtain ⟨r1, _, _, _⟩ := HC.out W hSW; go_simp; try (with_reducible rfl)
          simp only [Act.put, List.getElem_toArray, List.getElem_cons_succ, List.getElem_cons_zero, List.setIfInBounds_toArray, List.set_cons_zero, List.set_cons_succ]
          refine wpAnyH_take (i := 9) (v := ?vz22) rfl (by kernel_rfl) (by kernel_rfl) (by kernel_rfl) (fun _ _ _ h => h) (Or.inl ⟨by rfl, ?hyz22⟩) (by first | assumption | exact trivial) ?restz22
          case hyz22 => intro W hSW; go_simp; try (with_reducible rfl)
          simp only [Act.put, List.getElem_toArray, List.getElem_cons_succ, List.getElem_cons_zero, List.setIfInBounds_toArray, List.set_cons_zero, List.set_cons_succ]
          refine wpAnyH_take (i := 10) (v := ?vz23) rfl (by kernel_rfl) (by kernel_rfl) (by kernel_rfl) (fun _ _ _ h => h) (Or.inl ⟨by rfl, ?hyz23⟩) (by first | assumption | exact trivial) ?restz23
          case hyz23 => intro W hSW; go_simp; try (with_reducible rfl)
          simp only [Act.put, List.getElem_toArray, List.getElem_cons_succ, List.getElem_cons_zero, List.setIfInBounds_toArray, List.set_cons_zero, List.set_cons_succ]
          refine wpAnyH_take (i := 11) (v := ?vz24) rfl (by kernel_rfl) (by kernel_rfl) (by kernel_rfl) (fun _ _ _ h => h) (Or.inl ⟨by rfl, ?hyz24⟩) (by first | assumption | exact trivial) ?restz24
          case hyz24 => intro W hSW; go_simp; try (with_reducible rfl)
          simp only [Act.put, List.getElem_toArray, List.getElem_cons_succ, List.getElem_cons_zero, List.setIfInBounds_toArray, List.set_cons_zero, List.set_cons_succ]
          refine wpAnyH_take (i := 12) (v := ?vz25) rfl (by kernel_rfl) (by kernel_rfl) (by kernel_rfl) (fun _ _ _ h => h) (Or.inl ⟨by rfl, ?hyz25⟩) (by first | assumption | exact trivial) ?restz25
          case hyz25 => intro W hSW; obtain ⟨_, _, r2, _⟩ := HC.out W hSW; go_simp; try (with_reducible rfl)
          simp only [Act.put, List.getElem_toArray, List.getElem_cons_succ, List.getElem_cons_zero, List.setIfInBounds_toArray, List.set_cons_zero, List.set_cons_succ]
          refine wpAnyH_take (i := 13) (v := ?vz26) rfl (by kernel_rfl) (by kernel_rfl) (by kernel_rfl) (fun _ _ _ h => h) (Or.inl ⟨by rfl, ?hyz26⟩) (by first | assumption | exact trivial) ?restz26
          case hyz26 => intro W hSW; go_simp; try (with_reducible rfl)
          simp only [Act.put, List.getElem_toArray, List.getElem_cons_succ, List.getElem_cons_zero, List.setIfInBounds_toArray, List.set_cons_zero, List.set_cons_succ]
          refine wpAnyH_take (i := 14) (v := ?vz27) rfl (by kernel_rfl) (by kernel_rfl) (by kernel_rfl) (fun _ _ _ h => h) (Or.inl ⟨by rfl, ?hyz27⟩) (by first | assumption | exact trivial) ?restz27
          case hyz27 => intro W hSW; obtain ⟨r1, _, _, _⟩ := HC.out W hSW; go_simp; try (with_reducible rfl)
          simp only [Act.put, List.getElem_toArray, List.getElem_cons_succ, List.getElem_cons_zero, List.setIfInBounds_toArray, List.set_cons_zero, List.set_cons_succ]
          refine wpAnyH_take (i := 15) (v := ?vz28) rfl (by kernel_rfl) (by kernel_rfl) (by kernel_rfl) (fun _ _ _ h => h) (Or.inl ⟨by rfl, ?hyz28⟩) (by first | assumption | exact trivial) ?restz28
          case hyz28 => intro W hSW; go_simp; try (with_reducible rfl)
          simp only [Act.put, List.getElem_toArray, List.getElem_cons_succ, List.getElem_cons_zero, List.setIfInBounds_toArray, List.set_cons_zero, List.set_cons_succ]
          refine wpAnyH_take (i := 16) (v := ?vz29) rfl (by kernel_rfl) (by kernel_rfl) (by kernel_rfl) (fun _ _ _ h => h) (Or.inl ⟨by rfl, ?hyz29⟩) (by first | assumption | exact trivial) ?restz29
          case hyz29 => intro W hSW; go_simp; try (with_reducible rfl)
          simp only [Act.put, List.getElem_toArray, List.getElem_cons_succ, List.getElem_cons_zero, List.setIfInBounds_toArray, List.set_cons_zero, List.set_cons_succ]
          refine wpAnyH_take (i := 17) (v := ?vz30) rfl (by kernel_rfl) (by kernel_rfl) (by kernel_rfl) (fun _ _ _ h => h) (Or.inl ⟨by rfl, ?hyz30⟩) (by first | assumption | exact trivial) ?restz30
          case hyz30 => intro W hSW; go_simp; try (with_reducible rfl)
          simp only [Act.put, List.getElem_toArray, List.getElem_cons_succ, List.getElem_cons_zero, List.setIfInBounds_toArray, List.set_cons_zero, List.set_cons_succ]
          refine wpAnyH_take (i := 18) (v := ?vz31) rfl (by kernel_rfl) (by kernel_rfl) (by kernel_rfl) (fun _ _ _ h => h) (Or.inl ⟨by rfl, ?hyz31⟩) (by first | assumption | exact trivial) ?restz31
          case hyz31 => intro W hSW; obtain ⟨_, _, _, r2⟩ := HC.out W hSW; go_simp; try (with_reducible rfl)
          simp only [Act.put, List.getElem_toArray, List.getElem_cons_succ, List.getElem_cons_zero, List.setIfInBounds_toArray, List.set_cons_zero, List.set_cons_succ]
          refine wpAnyH_take (i := 19) (v := ?vz32) rfl (by kernel_rfl) (by kernel_rfl) (by kernel_rfl) (fun _ _ _ h => h) (Or.inl ⟨by rfl, ?hyz32⟩) (by first | assumption | exact trivial) ?restz32
          case hyz32 => intro W hSW; go_simp; try (with_reducible rfl)
          simp only [Act.put, List.getElem_toArray, List.getElem_cons_succ, List.getElem_cons_zero, List.setIfInBounds_toArray, List.set_cons_zero, List.set_cons_succ]
          refine wpAnyH_take (i := 20) (v := ?vz33) rfl (by kernel_rfl) (by kernel_rfl) (by kernel_rfl) (fun _ _ _ h => h) (Or.inl ⟨by rfl, ?hyz33⟩) (by first | assumption | exact trivial) ?restz33
          case hyz33 => intro W hSW; go_simp; try (with_reducible rfl)
          simp only [Act.put, List.getElem_toArray, List.getElem_cons_succ, List.getElem_cons_zero, List.setIfInBounds_toArray, List.set_cons_zero, List.set_cons_succ]
          refine wpAnyH_take (i := 21) (v := ?vz34) rfl (by kernel_rfl) (by kernel_rfl) (by kernel_rfl) (fun _ _ _ h => h) (Or.inl ⟨by rfl, ?hyz34⟩) (by first | assumption | exact trivial) ?restz34
          case hyz34 => intro W hSW; go_simp; try (with_reducible rfl)
          simp only [Act.put, List.getElem_toArray, List.getElem_cons_succ, List.getElem_cons_zero, List.setIfInBounds_toArray, List.set_cons_zero, List.set_cons_succ]
          refine wpAnyH_take (i := 22) (v := ?vz35) rfl (by kernel_rfl) (by kernel_rfl) (by kernel_rfl) (fun _ _ _ h => h) (Or.inl ⟨by rfl, ?hyz35⟩) (by first | assumption | exact trivial) ?restz35
          case hyz35 => intro W hSW; go_simp; try (with_reducible rfl)
          simp only [Act.put, List.getElem_toArray, List.getElem_cons_succ, List.getElem_cons_zero, List.setIfInBounds_toArray, List.set_cons_zero, List.set_cons_succ]
          refine wpAnyH_ready (rs := [23]) (by kernel_rfl) (by simp) ?_
          refine AllReadyH.cons rfl (fun K hK => ?_) AllReadyH.nil
          go_simp
          have hby : Below W0.heap.size W0 (wx.drew.alloc (.cells #[nmV nm, .string SD, .string ⟨#[]⟩] 82)) := (hbx.out.trans ((Below.refl _ wx).drew.mono hbx.out.size)).alloc hbx.out.size _
          refine hK.out _ _ (hby) (fun hHeld => ?_)
          clear hK K
          refine wpAnyH_ready (rs := [24]) (by kernel_rfl) (by simp) ?_
          refine AllReadyH.cons rfl (fun K hK => ?_) AllReadyH.nil
          rw [if_pos (by kernel_rfl)]
          have hsz0 := HSZ.out
          refine appFlw (w0 := W0) (wl := wx.drew) (.tmp 39) (.tmp 62) rfl (w.heap.size + 1 + 1) _ ((crashL s.files ks).take k) (nm, crashF f z) (by rfl) (by show _ = wx.drew.alloc _; rw [← HWQ.out]; rfl) (hox.out.below ((Below.refl _ wx).drew)) (by rw [← hsz0]; exact hbx.out.trans ((Below.refl _ wx).drew.mono hbx.out.size)) (by have := hbx.out.size; show _ ≤ wx.heap.size; omega) wx.heap.size rfl (by rfl) HQ.out ?_
          intro v4 w4 ho4 hb4
          have HO4 := Lib.hid ho4
          have HB4 : Hid (Below W0.heap.size W0 w4) := by rw [hsz0]; exact hb4
          clear ho4 hb4 hsz0
          simp only [Act.put, List.getElem_toArray, List.getElem_cons_succ, List.getElem_cons_zero, List.setIfInBounds_toArray, List.set_cons_zero, List.set_cons_succ]
          refine hK.out _ _ (HB4.out) (fun hHeld => ?_)
          clear hK K
          refine wpAnyH_take (i := 25) (v := ?vz36) rfl (by kernel_rfl) (by kernel_rfl) (by kernel_rfl) (fun _ _ _ h => h) (Or.inl ⟨by rfl, ?hyz36⟩) (by first | assumption | exact trivial) ?restz36
          case hyz36 => intro W hSW; go_simp; try (with_reducible rfl)
          simp only [Act.put, List.getElem_toArray, List.getElem_cons_succ, List.getElem_cons_zero, List.setIfInBounds_toArray, List.set_cons_zero, List.set_cons_succ]
          refine wpAnyH_done (by kernel_rfl) ?_ _
          go_wp2
          go_roundw
          case rel => exact ⟨k + 1, by omega, by go_num, by rw [HST.out]; exact HO4, HB4⟩
          case measure => simp [intOf]; omega
        · have hu0 : u = 0 := by have := HZU.out; omega
          subst hu0
          have e0 : SC = ByteArray.empty := by rw [← hex]; simp
          have eD : SD = S1 := by rw [← hSD, e0]; simp
          have hsz1 : ¬ 9223372036854775807 < S1.size := by rw [e0] at hsz; simpa using hsz
          subst eD
          clear hex hsz hSD e0 u0 u1
          have hox := ho
          have hbx := hb
          clear HZU ho hb HKC
          go_wp2
          clear y0 y1 y2 y3 x0 x1 x2 k0
          refine wp_region_held_drew (S := fun W => Below W0.heap.size W0 W) (by kernel_rfl) (hbx.out.trans ((Below.refl _ wr).drew.mono hbx.out.size)) (fun hHeld => ?_)
          refine wpAnyH_take (i := 0) (v := ?vz37) rfl (by kernel_rfl) (by kernel_rfl) (by kernel_rfl) (fun _ _ _ h => h) (Or.inl ⟨by rfl, ?hyz37⟩) (by first | assumption | exact trivial) ?restz37
          case hyz37 => intro W hSW; go_simp; try (with_reducible rfl)
          simp only [Act.put, List.getElem_toArray, List.getElem_cons_succ, List.getElem_cons_zero, List.setIfInBounds_toArray, List.set_cons_zero, List.set_cons_succ]
          refine wpAnyH_take (i := 1) (v := ?vz38) rfl (by kernel_rfl) (by kernel_rfl) (by kernel_rfl) (fun _ _ _ h => h) (Or.inl ⟨by rfl, ?hyz38⟩) (by first | assumption | exact trivial) ?restz38
          case hyz38 => intro W hSW; go_simp; try (with_reducible rfl)
          simp only [Act.put, List.getElem_toArray, List.getElem_cons_succ, List.getElem_cons_zero, List.setIfInBounds_toArray, List.set_cons_zero, List.set_cons_succ]
          refine wpAnyH_take (i := 2) (v := ?vz39) rfl (by kernel_rfl) (by kernel_rfl) (by kernel_rfl) (fun _ _ _ h => h) (Or.inl ⟨by rfl, ?hyz39⟩) (by first | assumption | exact trivial) ?restz39
          case hyz39 => intro W hSW; obtain ⟨r1, _, _, _⟩ := HC.out W hSW; go_simp; try (with_reducible rfl)
          simp only [Act.put, List.getElem_toArray, List.getElem_cons_succ, List.getElem_cons_zero, List.setIfInBounds_toArray, List.set_cons_zero, List.set_cons_succ]
          refine wpAnyH_take (i := 3) (v := ?vz40) rfl (by kernel_rfl) (by kernel_rfl) (by kernel_rfl) (fun _ _ _ h => h) (Or.inl ⟨by rfl, ?hyz40⟩) (by first | assumption | exact trivial) ?restz40
          case hyz40 => intro W hSW; go_simp; try (with_reducible rfl)
          simp only [Act.put, List.getElem_toArray, List.getElem_cons_succ, List.getElem_cons_zero, List.setIfInBounds_toArray, List.set_cons_zero, List.set_cons_succ]
          refine wpAnyH_take (i := 4) (v := ?vz41) rfl (by kernel_rfl) (by kernel_rfl) (by kernel_rfl) (fun _ _ _ h => h) (Or.inl ⟨by rfl, ?hyz41⟩) (by first | assumption | exact trivial) ?restz41
          case hyz41 => intro W hSW; go_simp; try (with_reducible rfl)
          simp only [Act.put, List.getElem_toArray, List.getElem_cons_succ, List.getElem_cons_zero, List.setIfInBounds_toArray, List.set_cons_zero, List.set_cons_succ]
          refine wpAnyH_take (i := 5) (v := ?vz42) rfl (by kernel_rfl) (by kernel_rfl) (by kernel_rfl) (fun _ _ _ h => h) (Or.inl ⟨by rfl, ?hyz42⟩) (by first | assumption | exact trivial) ?restz42
          case hyz42 => intro W hSW; go_simp; try (with_reducible rfl)
          simp only [Act.put, List.getElem_toArray, List.getElem_cons_succ, List.getElem_cons_zero, List.setIfInBounds_toArray, List.set_cons_zero, List.set_cons_succ]
          refine wpAnyH_take (i := 6) (v := ?vz43) rfl (by kernel_rfl) (by kernel_rfl) (by kernel_rfl) (fun _ _ _ h => h) (Or.inl ⟨by rfl, ?hyz43⟩) (by first | assumption | exact trivial) ?restz43
          case hyz43 => intro W hSW; obtain ⟨_, r2, _, _⟩ := HC.out W hSW; go_simp; try (with_reducible rfl)
          simp only [Act.put, List.getElem_toArray, List.getElem_cons_succ, List.getElem_cons_zero, List.setIfInBounds_toArray, List.set_cons_zero, List.set_cons_succ]
          refine wpAnyH_take (i := 7) (v := ?vz44) rfl (by kernel_rfl) (by kernel_rfl) (by kernel_rfl) (fun _ _ _ h => h) (Or.inl ⟨by rfl, ?hyz44⟩) (by first | assumption | exact trivial) ?restz44
          case hyz44 => intro W hSW; go_simp; try (with_reducible rfl)
          simp only [Act.put, List.getElem_toArray, List.getElem_cons_succ, List.getElem_cons_zero, List.setIfInBounds_toArray, List.set_cons_zero, List.set_cons_succ]
          refine wpAnyH_take (i := 8) (v := ?vz45) rfl (by kernel_rfl) (by kernel_rfl) (by kernel_rfl) (fun _ _ _ h => h) (Or.inl ⟨by rfl, ?hyz45⟩) (by first | assumption | exact trivial) ?restz45
          case hyz45 => intro W hSW; obtain ⟨r1, _, _, _⟩ := HC.out W hSW; go_simp; try (with_reducible rfl)
          simp only [Act.put, List.getElem_toArray, List.getElem_cons_succ, List.getElem_cons_zero, List.setIfInBounds_toArray, List.set_cons_zero, List.set_cons_succ]
          refine wpAnyH_take (i := 9) (v := ?vz46) rfl (by kernel_rfl) (by kernel_rfl) (by kernel_rfl) (fun _ _ _ h => h) (Or.inl ⟨by rfl, ?hyz46⟩) (by first | assumption | exact trivial) ?restz46
          case hyz46 => intro W hSW; go_simp; try (with_reducible rfl)
          simp only [Act.put, List.getElem_toArray, List.getElem_cons_succ, List.getElem_cons_zero, List.setIfInBounds_toArray, List.set_cons_zero, List.set_cons_succ]
          refine wpAnyH_take (i := 10) (v := ?vz47) rfl (by kernel_rfl) (by kernel_rfl) (by kernel_rfl) (fun _ _ _ h => h) (Or.inl ⟨by rfl, ?hyz47⟩) (by first | assumption | exact trivial) ?restz47
          case hyz47 => intro W hSW; go_simp; try (with_reducible rfl)
          simp only [Act.put, List.getElem_toArray, List.getElem_cons_succ, List.getElem_cons_zero, List.setIfInBounds_toArray, List.set_cons_zero, List.set_cons_succ]
          refine wpAnyH_take (i := 11) (v := ?vz48) rfl (by kernel_rfl) (by kernel_rfl) (by kernel_rfl) (fun _ _ _ h => h) (Or.inl ⟨by rfl, ?hyz48⟩) (by first | assumption | exact trivial) ?restz48
          case hyz48 => intro W hSW; go_simp; try (with_reducible rfl)
          simp only [Act.put, List.getElem_toArray, List.getElem_cons_succ, List.getElem_cons_zero, List.setIfInBounds_toArray, List.set_cons_zero, List.set_cons_succ]
          refine wpAnyH_take (i := 12) (v := ?vz49) rfl (by kernel_rfl) (by kernel_rfl) (by kernel_rfl) (fun _ _ _ h => h) (Or.inl ⟨by rfl, ?hyz49⟩) (by first | assumption | exact trivial) ?restz49
          case hyz49 => intro W hSW; obtain ⟨_, _, r2, _⟩ := HC.out W hSW; go_simp; try (with_reducible rfl)
          simp only [Act.put, List.getElem_toArray, List.getElem_cons_succ, List.getElem_cons_zero, List.setIfInBounds_toArray, List.set_cons_zero, List.set_cons_succ]
          refine wpAnyH_take (i := 13) (v := ?vz50) rfl (by kernel_rfl) (by kernel_rfl) (by kernel_rfl) (fun _ _ _ h => h) (Or.inl ⟨by rfl, ?hyz50⟩) (by first | assumption | exact trivial) ?restz50
          case hyz50 => intro W hSW; go_simp; try (with_reducible rfl)
          simp only [Act.put, List.getElem_toArray, List.getElem_cons_succ, List.getElem_cons_zero, List.setIfInBounds_toArray, List.set_cons_zero, List.set_cons_succ]
          refine wpAnyH_take (i := 14) (v := ?vz51) rfl (by kernel_rfl) (by kernel_rfl) (by kernel_rfl) (fun _ _ _ h => h) (Or.inl ⟨by rfl, ?hyz51⟩) (by first | assumption | exact trivial) ?restz51
          case hyz51 => intro W hSW; obtain ⟨r1, _, _, _⟩ := HC.out W hSW; go_simp; try (with_reducible rfl)
          simp only [Act.put, List.getElem_toArray, List.getElem_cons_succ, List.getElem_cons_zero, List.setIfInBounds_toArray, List.set_cons_zero, List.set_cons_succ]
          refine wpAnyH_take (i := 15) (v := ?vz52) rfl (by kernel_rfl) (by kernel_rfl) (by kernel_rfl) (fun _ _ _ h => h) (Or.inl ⟨by rfl, ?hyz52⟩) (by first | assumption | exact trivial) ?restz52
          case hyz52 => intro W hSW; go_simp; try (with_reducible rfl)
          simp only [Act.put, List.getElem_toArray, List.getElem_cons_succ, List.getElem_cons_zero, List.setIfInBounds_toArray, List.set_cons_zero, List.set_cons_succ]
          refine wpAnyH_take (i := 16) (v := ?vz53) rfl (by kernel_rfl) (by kernel_rfl) (by kernel_rfl) (fun _ _ _ h => h) (Or.inl ⟨by rfl, ?hyz53⟩) (by first | assumption | exact trivial) ?restz53
          case hyz53 => intro W hSW; go_simp; try (with_reducible rfl)
          simp only [Act.put, List.getElem_toArray, List.getElem_cons_succ, List.getElem_cons_zero, List.setIfInBounds_toArray, List.set_cons_zero, List.set_cons_succ]
          refine wpAnyH_take (i := 17) (v := ?vz54) rfl (by kernel_rfl) (by kernel_rfl) (by kernel_rfl) (fun _ _ _ h => h) (Or.inl ⟨by rfl, ?hyz54⟩) (by first | assumption | exact trivial) ?restz54
          case hyz54 => intro W hSW; go_simp; try (with_reducible rfl)
          simp only [Act.put, List.getElem_toArray, List.getElem_cons_succ, List.getElem_cons_zero, List.setIfInBounds_toArray, List.set_cons_zero, List.set_cons_succ]
          refine wpAnyH_take (i := 18) (v := ?vz55) rfl (by kernel_rfl) (by kernel_rfl) (by kernel_rfl) (fun _ _ _ h => h) (Or.inl ⟨by rfl, ?hyz55⟩) (by first | assumption | exact trivial) ?restz55
          case hyz55 => intro W hSW; obtain ⟨_, _, _, r2⟩ := HC.out W hSW; go_simp; try (with_reducible rfl)
          simp only [Act.put, List.getElem_toArray, List.getElem_cons_succ, List.getElem_cons_zero, List.setIfInBounds_toArray, List.set_cons_zero, List.set_cons_succ]
          refine wpAnyH_take (i := 19) (v := ?vz56) rfl (by kernel_rfl) (by kernel_rfl) (by kernel_rfl) (fun _ _ _ h => h) (Or.inl ⟨by rfl, ?hyz56⟩) (by first | assumption | exact trivial) ?restz56
          case hyz56 => intro W hSW; go_simp; try (with_reducible rfl)
          simp only [Act.put, List.getElem_toArray, List.getElem_cons_succ, List.getElem_cons_zero, List.setIfInBounds_toArray, List.set_cons_zero, List.set_cons_succ]
          refine wpAnyH_take (i := 20) (v := ?vz57) rfl (by kernel_rfl) (by kernel_rfl) (by kernel_rfl) (fun _ _ _ h => h) (Or.inl ⟨by rfl, ?hyz57⟩) (by first | assumption | exact trivial) ?restz57
          case hyz57 => intro W hSW; go_simp; try (with_reducible rfl)
          simp only [Act.put, List.getElem_toArray, List.getElem_cons_succ, List.getElem_cons_zero, List.setIfInBounds_toArray, List.set_cons_zero, List.set_cons_succ]
          refine wpAnyH_take (i := 21) (v := ?vz58) rfl (by kernel_rfl) (by kernel_rfl) (by kernel_rfl) (fun _ _ _ h => h) (Or.inl ⟨by rfl, ?hyz58⟩) (by first | assumption | exact trivial) ?restz58
          case hyz58 => intro W hSW; go_simp; try (with_reducible rfl)
          simp only [Act.put, List.getElem_toArray, List.getElem_cons_succ, List.getElem_cons_zero, List.setIfInBounds_toArray, List.set_cons_zero, List.set_cons_succ]
          refine wpAnyH_take (i := 22) (v := ?vz59) rfl (by kernel_rfl) (by kernel_rfl) (by kernel_rfl) (fun _ _ _ h => h) (Or.inl ⟨by rfl, ?hyz59⟩) (by first | assumption | exact trivial) ?restz59
          case hyz59 => intro W hSW; go_simp; try (with_reducible rfl)
          simp only [Act.put, List.getElem_toArray, List.getElem_cons_succ, List.getElem_cons_zero, List.setIfInBounds_toArray, List.set_cons_zero, List.set_cons_succ]
          refine wpAnyH_ready (rs := [23]) (by kernel_rfl) (by simp) ?_
          refine AllReadyH.cons rfl (fun K hK => ?_) AllReadyH.nil
          go_simp
          have hby : Below W0.heap.size W0 (wr.drew.alloc (.cells #[nmV nm, .string SD, .string ⟨#[]⟩] 82)) := (hbx.out.trans ((Below.refl _ wr).drew.mono hbx.out.size)).alloc hbx.out.size _
          refine hK.out _ _ (hby) (fun hHeld => ?_)
          clear hK K
          refine wpAnyH_ready (rs := [24]) (by kernel_rfl) (by simp) ?_
          refine AllReadyH.cons rfl (fun K hK => ?_) AllReadyH.nil
          rw [if_pos (by kernel_rfl)]
          have hsz0 := HSZ.out
          refine appFlw (w0 := W0) (wl := wr.drew) (.tmp 39) (.tmp 62) rfl (w.heap.size + 1 + 1) _ ((crashL s.files ks).take k) (nm, crashF f z) (by rfl) (by show _ = wr.drew.alloc _; rw [← HWQ.out]; rfl) (hox.out.below ((Below.refl _ wr).drew)) (by rw [← hsz0]; exact hbx.out.trans ((Below.refl _ wr).drew.mono hbx.out.size)) (by have := hbx.out.size; show _ ≤ wr.heap.size; omega) wr.heap.size rfl (by rfl) HQ.out ?_
          intro v4 w4 ho4 hb4
          have HO4 := Lib.hid ho4
          have HB4 : Hid (Below W0.heap.size W0 w4) := by rw [hsz0]; exact hb4
          clear ho4 hb4 hsz0
          simp only [Act.put, List.getElem_toArray, List.getElem_cons_succ, List.getElem_cons_zero, List.setIfInBounds_toArray, List.set_cons_zero, List.set_cons_succ]
          refine hK.out _ _ (HB4.out) (fun hHeld => ?_)
          clear hK K
          refine wpAnyH_take (i := 25) (v := ?vz60) rfl (by kernel_rfl) (by kernel_rfl) (by kernel_rfl) (fun _ _ _ h => h) (Or.inl ⟨by rfl, ?hyz60⟩) (by first | assumption | exact trivial) ?restz60
          case hyz60 => intro W hSW; go_simp; try (with_reducible rfl)
          simp only [Act.put, List.getElem_toArray, List.getElem_cons_succ, List.getElem_cons_zero, List.setIfInBounds_toArray, List.set_cons_zero, List.set_cons_succ]
          refine wpAnyH_done (by kernel_rfl) ?_ _
          go_wp2
          go_roundw
          case rel => exact ⟨k + 1, by omega, by go_num, by rw [HST.out]; exact HO4, HB4⟩
          case measure => simp [intOf]; omega
      · have q2 : ¬ (k : Int) < (m : Int) := by omega
        have hu0 : u = 0 := by have h1 := HZU.out; have h2 := HKN.out hkm; rw [h2] at h1; simp at h1; omega
        subst hu0
        have e0 : SC = ByteArray.empty := by rw [← hex]; simp
        have eD : SD = S1 := by rw [← hSD, e0]; simp
        have hsz1 : ¬ 9223372036854775807 < S1.size := by rw [e0] at hsz; simpa using hsz
        subst eD
        clear hex hsz hSD e0 u0 u1
        have hox := ho
        have hbx := hb
        clear HZU ho hb HKS HKN
        go_wp2
        clear y0 y1 y2 y3 x0 x1 x2
        refine wp_region_held_drew (S := fun W => Below W0.heap.size W0 W) (by kernel_rfl) (hbx.out.trans ((Below.refl _ wr).drew.mono hbx.out.size)) (fun hHeld => ?_)
        refine wpAnyH_take (i := 0) (v := ?vz61) rfl (by kernel_rfl) (by kernel_rfl) (by kernel_rfl) (fun _ _ _ h => h) (Or.inl ⟨by rfl, ?hyz61⟩) (by first | assumption | exact trivial) ?restz61
        case hyz61 => intro W hSW; go_simp; try (with_reducible rfl)
        simp only [Act.put, List.getElem_toArray, List.getElem_cons_succ, List.getElem_cons_zero, List.setIfInBounds_toArray, List.set_cons_zero, List.set_cons_succ]
        refine wpAnyH_take (i := 1) (v := ?vz62) rfl (by kernel_rfl) (by kernel_rfl) (by kernel_rfl) (fun _ _ _ h => h) (Or.inl ⟨by rfl, ?hyz62⟩) (by first | assumption | exact trivial) ?restz62
        case hyz62 => intro W hSW; go_simp; try (with_reducible rfl)
        simp only [Act.put, List.getElem_toArray, List.getElem_cons_succ, List.getElem_cons_zero, List.setIfInBounds_toArray, List.set_cons_zero, List.set_cons_succ]
        refine wpAnyH_take (i := 2) (v := ?vz63) rfl (by kernel_rfl) (by kernel_rfl) (by kernel_rfl) (fun _ _ _ h => h) (Or.inl ⟨by rfl, ?hyz63⟩) (by first | assumption | exact trivial) ?restz63
        case hyz63 => intro W hSW; obtain ⟨r1, _, _, _⟩ := HC.out W hSW; go_simp; try (with_reducible rfl)
        simp only [Act.put, List.getElem_toArray, List.getElem_cons_succ, List.getElem_cons_zero, List.setIfInBounds_toArray, List.set_cons_zero, List.set_cons_succ]
        refine wpAnyH_take (i := 3) (v := ?vz64) rfl (by kernel_rfl) (by kernel_rfl) (by kernel_rfl) (fun _ _ _ h => h) (Or.inl ⟨by rfl, ?hyz64⟩) (by first | assumption | exact trivial) ?restz64
        case hyz64 => intro W hSW; go_simp; try (with_reducible rfl)
        simp only [Act.put, List.getElem_toArray, List.getElem_cons_succ, List.getElem_cons_zero, List.setIfInBounds_toArray, List.set_cons_zero, List.set_cons_succ]
        refine wpAnyH_take (i := 4) (v := ?vz65) rfl (by kernel_rfl) (by kernel_rfl) (by kernel_rfl) (fun _ _ _ h => h) (Or.inl ⟨by rfl, ?hyz65⟩) (by first | assumption | exact trivial) ?restz65
        case hyz65 => intro W hSW; go_simp; try (with_reducible rfl)
        simp only [Act.put, List.getElem_toArray, List.getElem_cons_succ, List.getElem_cons_zero, List.setIfInBounds_toArray, List.set_cons_zero, List.set_cons_succ]
        refine wpAnyH_take (i := 5) (v := ?vz66) rfl (by kernel_rfl) (by kernel_rfl) (by kernel_rfl) (fun _ _ _ h => h) (Or.inl ⟨by rfl, ?hyz66⟩) (by first | assumption | exact trivial) ?restz66
        case hyz66 => intro W hSW; go_simp; try (with_reducible rfl)
        simp only [Act.put, List.getElem_toArray, List.getElem_cons_succ, List.getElem_cons_zero, List.setIfInBounds_toArray, List.set_cons_zero, List.set_cons_succ]
        refine wpAnyH_take (i := 6) (v := ?vz67) rfl (by kernel_rfl) (by kernel_rfl) (by kernel_rfl) (fun _ _ _ h => h) (Or.inl ⟨by rfl, ?hyz67⟩) (by first | assumption | exact trivial) ?restz67
        case hyz67 => intro W hSW; obtain ⟨_, r2, _, _⟩ := HC.out W hSW; go_simp; try (with_reducible rfl)
        simp only [Act.put, List.getElem_toArray, List.getElem_cons_succ, List.getElem_cons_zero, List.setIfInBounds_toArray, List.set_cons_zero, List.set_cons_succ]
        refine wpAnyH_take (i := 7) (v := ?vz68) rfl (by kernel_rfl) (by kernel_rfl) (by kernel_rfl) (fun _ _ _ h => h) (Or.inl ⟨by rfl, ?hyz68⟩) (by first | assumption | exact trivial) ?restz68
        case hyz68 => intro W hSW; go_simp; try (with_reducible rfl)
        simp only [Act.put, List.getElem_toArray, List.getElem_cons_succ, List.getElem_cons_zero, List.setIfInBounds_toArray, List.set_cons_zero, List.set_cons_succ]
        refine wpAnyH_take (i := 8) (v := ?vz69) rfl (by kernel_rfl) (by kernel_rfl) (by kernel_rfl) (fun _ _ _ h => h) (Or.inl ⟨by rfl, ?hyz69⟩) (by first | assumption | exact trivial) ?restz69
        case hyz69 => intro W hSW; obtain ⟨r1, _, _, _⟩ := HC.out W hSW; go_simp; try (with_reducible rfl)
        simp only [Act.put, List.getElem_toArray, List.getElem_cons_succ, List.getElem_cons_zero, List.setIfInBounds_toArray, List.set_cons_zero, List.set_cons_succ]
        refine wpAnyH_take (i := 9) (v := ?vz70) rfl (by kernel_rfl) (by kernel_rfl) (by kernel_rfl) (fun _ _ _ h => h) (Or.inl ⟨by rfl, ?hyz70⟩) (by first | assumption | exact trivial) ?restz70
        case hyz70 => intro W hSW; go_simp; try (with_reducible rfl)
        simp only [Act.put, List.getElem_toArray, List.getElem_cons_succ, List.getElem_cons_zero, List.setIfInBounds_toArray, List.set_cons_zero, List.set_cons_succ]
        refine wpAnyH_take (i := 10) (v := ?vz71) rfl (by kernel_rfl) (by kernel_rfl) (by kernel_rfl) (fun _ _ _ h => h) (Or.inl ⟨by rfl, ?hyz71⟩) (by first | assumption | exact trivial) ?restz71
        case hyz71 => intro W hSW; go_simp; try (with_reducible rfl)
        simp only [Act.put, List.getElem_toArray, List.getElem_cons_succ, List.getElem_cons_zero, List.setIfInBounds_toArray, List.set_cons_zero, List.set_cons_succ]
        refine wpAnyH_take (i := 11) (v := ?vz72) rfl (by kernel_rfl) (by kernel_rfl) (by kernel_rfl) (fun _ _ _ h => h) (Or.inl ⟨by rfl, ?hyz72⟩) (by first | assumption | exact trivial) ?restz72
        case hyz72 => intro W hSW; go_simp; try (with_reducible rfl)
        simp only [Act.put, List.getElem_toArray, List.getElem_cons_succ, List.getElem_cons_zero, List.setIfInBounds_toArray, List.set_cons_zero, List.set_cons_succ]
        refine wpAnyH_take (i := 12) (v := ?vz73) rfl (by kernel_rfl) (by kernel_rfl) (by kernel_rfl) (fun _ _ _ h => h) (Or.inl ⟨by rfl, ?hyz73⟩) (by first | assumption | exact trivial) ?restz73
        case hyz73 => intro W hSW; obtain ⟨_, _, r2, _⟩ := HC.out W hSW; go_simp; try (with_reducible rfl)
        simp only [Act.put, List.getElem_toArray, List.getElem_cons_succ, List.getElem_cons_zero, List.setIfInBounds_toArray, List.set_cons_zero, List.set_cons_succ]
        refine wpAnyH_take (i := 13) (v := ?vz74) rfl (by kernel_rfl) (by kernel_rfl) (by kernel_rfl) (fun _ _ _ h => h) (Or.inl ⟨by rfl, ?hyz74⟩) (by first | assumption | exact trivial) ?restz74
        case hyz74 => intro W hSW; go_simp; try (with_reducible rfl)
        simp only [Act.put, List.getElem_toArray, List.getElem_cons_succ, List.getElem_cons_zero, List.setIfInBounds_toArray, List.set_cons_zero, List.set_cons_succ]
        refine wpAnyH_take (i := 14) (v := ?vz75) rfl (by kernel_rfl) (by kernel_rfl) (by kernel_rfl) (fun _ _ _ h => h) (Or.inl ⟨by rfl, ?hyz75⟩) (by first | assumption | exact trivial) ?restz75
        case hyz75 => intro W hSW; obtain ⟨r1, _, _, _⟩ := HC.out W hSW; go_simp; try (with_reducible rfl)
        simp only [Act.put, List.getElem_toArray, List.getElem_cons_succ, List.getElem_cons_zero, List.setIfInBounds_toArray, List.set_cons_zero, List.set_cons_succ]
        refine wpAnyH_take (i := 15) (v := ?vz76) rfl (by kernel_rfl) (by kernel_rfl) (by kernel_rfl) (fun _ _ _ h => h) (Or.inl ⟨by rfl, ?hyz76⟩) (by first | assumption | exact trivial) ?restz76
        case hyz76 => intro W hSW; go_simp; try (with_reducible rfl)
        simp only [Act.put, List.getElem_toArray, List.getElem_cons_succ, List.getElem_cons_zero, List.setIfInBounds_toArray, List.set_cons_zero, List.set_cons_succ]
        refine wpAnyH_take (i := 16) (v := ?vz77) rfl (by kernel_rfl) (by kernel_rfl) (by kernel_rfl) (fun _ _ _ h => h) (Or.inl ⟨by rfl, ?hyz77⟩) (by first | assumption | exact trivial) ?restz77
        case hyz77 => intro W hSW; go_simp; try (with_reducible rfl)
        simp only [Act.put, List.getElem_toArray, List.getElem_cons_succ, List.getElem_cons_zero, List.setIfInBounds_toArray, List.set_cons_zero, List.set_cons_succ]
        refine wpAnyH_take (i := 17) (v := ?vz78) rfl (by kernel_rfl) (by kernel_rfl) (by kernel_rfl) (fun _ _ _ h => h) (Or.inl ⟨by rfl, ?hyz78⟩) (by first | assumption | exact trivial) ?restz78
        case hyz78 => intro W hSW; go_simp; try (with_reducible rfl)
        simp only [Act.put, List.getElem_toArray, List.getElem_cons_succ, List.getElem_cons_zero, List.setIfInBounds_toArray, List.set_cons_zero, List.set_cons_succ]
        refine wpAnyH_take (i := 18) (v := ?vz79) rfl (by kernel_rfl) (by kernel_rfl) (by kernel_rfl) (fun _ _ _ h => h) (Or.inl ⟨by rfl, ?hyz79⟩) (by first | assumption | exact trivial) ?restz79
        case hyz79 => intro W hSW; obtain ⟨_, _, _, r2⟩ := HC.out W hSW; go_simp; try (with_reducible rfl)
        simp only [Act.put, List.getElem_toArray, List.getElem_cons_succ, List.getElem_cons_zero, List.setIfInBounds_toArray, List.set_cons_zero, List.set_cons_succ]
        refine wpAnyH_take (i := 19) (v := ?vz80) rfl (by kernel_rfl) (by kernel_rfl) (by kernel_rfl) (fun _ _ _ h => h) (Or.inl ⟨by rfl, ?hyz80⟩) (by first | assumption | exact trivial) ?restz80
        case hyz80 => intro W hSW; go_simp; try (with_reducible rfl)
        simp only [Act.put, List.getElem_toArray, List.getElem_cons_succ, List.getElem_cons_zero, List.setIfInBounds_toArray, List.set_cons_zero, List.set_cons_succ]
        refine wpAnyH_take (i := 20) (v := ?vz81) rfl (by kernel_rfl) (by kernel_rfl) (by kernel_rfl) (fun _ _ _ h => h) (Or.inl ⟨by rfl, ?hyz81⟩) (by first | assumption | exact trivial) ?restz81
        case hyz81 => intro W hSW; go_simp; try (with_reducible rfl)
        simp only [Act.put, List.getElem_toArray, List.getElem_cons_succ, List.getElem_cons_zero, List.setIfInBounds_toArray, List.set_cons_zero, List.set_cons_succ]
        refine wpAnyH_take (i := 21) (v := ?vz82) rfl (by kernel_rfl) (by kernel_rfl) (by kernel_rfl) (fun _ _ _ h => h) (Or.inl ⟨by rfl, ?hyz82⟩) (by first | assumption | exact trivial) ?restz82
        case hyz82 => intro W hSW; go_simp; try (with_reducible rfl)
        simp only [Act.put, List.getElem_toArray, List.getElem_cons_succ, List.getElem_cons_zero, List.setIfInBounds_toArray, List.set_cons_zero, List.set_cons_succ]
        refine wpAnyH_take (i := 22) (v := ?vz83) rfl (by kernel_rfl) (by kernel_rfl) (by kernel_rfl) (fun _ _ _ h => h) (Or.inl ⟨by rfl, ?hyz83⟩) (by first | assumption | exact trivial) ?restz83
        case hyz83 => intro W hSW; go_simp; try (with_reducible rfl)
        simp only [Act.put, List.getElem_toArray, List.getElem_cons_succ, List.getElem_cons_zero, List.setIfInBounds_toArray, List.set_cons_zero, List.set_cons_succ]
        refine wpAnyH_ready (rs := [23]) (by kernel_rfl) (by simp) ?_
        refine AllReadyH.cons rfl (fun K hK => ?_) AllReadyH.nil
        go_simp
        have hby : Below W0.heap.size W0 (wr.drew.alloc (.cells #[nmV nm, .string SD, .string ⟨#[]⟩] 82)) := (hbx.out.trans ((Below.refl _ wr).drew.mono hbx.out.size)).alloc hbx.out.size _
        refine hK.out _ _ (hby) (fun hHeld => ?_)
        clear hK K
        refine wpAnyH_ready (rs := [24]) (by kernel_rfl) (by simp) ?_
        refine AllReadyH.cons rfl (fun K hK => ?_) AllReadyH.nil
        rw [if_pos (by kernel_rfl)]
        have hsz0 := HSZ.out
        refine appFlw (w0 := W0) (wl := wr.drew) (.tmp 39) (.tmp 62) rfl (w.heap.size + 1 + 1) _ ((crashL s.files ks).take k) (nm, crashF f z) (by rfl) (by show _ = wr.drew.alloc _; rw [← HWQ.out]; rfl) (hox.out.below ((Below.refl _ wr).drew)) (by rw [← hsz0]; exact hbx.out.trans ((Below.refl _ wr).drew.mono hbx.out.size)) (by have := hbx.out.size; show _ ≤ wr.heap.size; omega) wr.heap.size rfl (by rfl) HQ.out ?_
        intro v4 w4 ho4 hb4
        have HO4 := Lib.hid ho4
        have HB4 : Hid (Below W0.heap.size W0 w4) := by rw [hsz0]; exact hb4
        clear ho4 hb4 hsz0
        simp only [Act.put, List.getElem_toArray, List.getElem_cons_succ, List.getElem_cons_zero, List.setIfInBounds_toArray, List.set_cons_zero, List.set_cons_succ]
        refine hK.out _ _ (HB4.out) (fun hHeld => ?_)
        clear hK K
        refine wpAnyH_take (i := 25) (v := ?vz84) rfl (by kernel_rfl) (by kernel_rfl) (by kernel_rfl) (fun _ _ _ h => h) (Or.inl ⟨by rfl, ?hyz84⟩) (by first | assumption | exact trivial) ?restz84
        case hyz84 => intro W hSW; go_simp; try (with_reducible rfl)
        simp only [Act.put, List.getElem_toArray, List.getElem_cons_succ, List.getElem_cons_zero, List.setIfInBounds_toArray, List.set_cons_zero, List.set_cons_succ]
        refine wpAnyH_done (by kernel_rfl) ?_ _
        go_wp2
        go_roundw
        case rel => exact ⟨k + 1, by omega, by go_num, by rw [HST.out]; exact HO4, HB4⟩
        case measure => simp [intOf]; omega
    · obtain rfl : k = F := by omega
      have q1 : ¬ (k : Int) < (k : Int) := by omega
      have HE : Hid ((crashL s.files ks).take k = (crashS s ks).files) := by show _ = _; rw [List.take_of_length_le (by rw [crash_len, HFF.out]; exact Nat.le_refl _)]; rfl
      rw [HE.out] at ho
      obtain ⟨A5, c5, e5, _, _⟩ := ho.out.form
      subst e5
      have HRC : Hid (∀ n5, rcs (crashS s ks) (.slice A5 n5 c5) = #[.int .i64 (s.limit : Int), .slice A5 n5 c5, .int .i64 (-1), .bool false]) := fun _ => rfl
      obtain ⟨n5, hn5⟩ : ∃ n5, (crashS s ks).files.length = n5 := ⟨_, rfl⟩
      rw [hn5] at ho ⊢
      have HYR := Lib.hid (HYW.out wr hb.out)
      clear hk hlt hn5
      go_wp2_with (refine wpList_store_row rfl 29 (.tmp 4) (.tmp 67) rfl (w.heap.size + 1) (rcs (crashS s ks) (.slice A5 n5 c5)) rfl rfl 29 _ HYR.out.z (by kernel_rfl) rfl (rcs_one _ _ _ _) ?_; have HYF := Lib.hid (HYR.out.store (rcs (crashS s ks) (.slice A5 n5 c5))))
      refine bodyPost_ret (v := .agg (rcs (crashS s ks) (.slice A5 n5 c5))) (results_cell_row rfl _ _ (w.heap.size + 1) 29 _ (0, 0) _ rfl HYF.out.z Try.underlying29 rfl (by kernel_rfl)) rfl ⟨A5, n5, c5, rfl, ?_, HYF.out.x.b⟩
      have h1 : Fv (fun b => w.heap.size + 1 + 1 ≤ b) wr (.slice A5 n5 c5) (crashS s ks).files := ho.out.fv
      exact (fv_keep h1 (by omega) _).mono fun b _ hb => .inr (by omega)
end
end Go.Proofs.Ytdjgkoklkoahbaa.Dk
