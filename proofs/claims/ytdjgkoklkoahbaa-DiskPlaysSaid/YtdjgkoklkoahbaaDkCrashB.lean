/- A crash, what is kept told by any slice: where it has numbers, they lie outside of the disk. -/
import Derived.Test.YtdjgkoklkoahbaaDkF
namespace Go.Proofs.Ytdjgkoklkoahbaa.Dk
open Go.RowKit
open Go.Proofs.Ytdjgkoklkoahbaa.Me Go.Proofs.Ytdjgkoklkoahbaa.Hd
set_option linter.unusedVariables false
set_option linter.unusedSimpArgs false

set_option maxRecDepth 100000 in
set_option maxHeartbeats 2000000 in
theorem Crash_any2 {G : Nat → Prop} (w : World) (D mb : Nat) (s : St) (h : Hid (Dq G w D mb s)) (ok : Hid s.Ok) (A : Option Addr) (c : Nat) (ks : List Int) (hr : Hid (Mi.Rd w w.heap.size A ks)) (hc : ks.length ≤ c) (hc2 : c ≤ 9223372036854775807) (hG : Hid (0 < ks.length → ∀ a, A = some a → ¬ G a.block)) :
    Calls Try.prog 13 #[.pointer (some ⟨D, 0, none⟩), .slice A ks.length c] w (OpP G w D mb (crashS s ks) 0) := by
  have HN := Lib.hid (Names_any w D mb s h ok)
  obtain ⟨m, hm⟩ : ∃ m, ks.length = m := ⟨_, rfl⟩
  have HM : Hid (ks.length = m) := hm
  rw [hm] at hc ⊢
  clear hm
  have hL64 := ok.out.cnt
  obtain ⟨L, hL⟩ : ∃ L, s.files.length = L := ⟨_, rfl⟩
  have HL : Hid (s.files.length = L) := hL
  rw [hL] at hL64
  clear hL
  have HD0 := Lib.hid h.out.lt
  go_enter Try.func13, Try.ntmps13
  go_wp2_with (go_at_call 19; refine HN.out.mono ?_; rintro e w1 ⟨v, rfl, hS, hb⟩; obtain ⟨A1, c1, rfl, hl1, hm1, hcells⟩ := hS.out.form; rw [show (namesL s.files).length = L from (List.length_map ..).trans HL.out] at hl1 hcells ⊢; have HC1 := Lib.hid hcells; clear hcells hS)
  have HB1 := hb
  clear hb
  have HG1 : Hid (∀ k, k < w.heap.size → ¬ G k → ¬ Rg G w.heap.size w1.heap.size k) := fun k hk hg => Rg.out hg (Nat.lt_of_lt_of_le hk HB1.out.size)
  have HDQ1 : Hid (Dq (Rg G w.heap.size w1.heap.size) w1 D mb ⟨s.limit, crashK s.files ks 0, s.left, s.down⟩) := by
    rw [crashK_zero]
    have h1 := h.out.below HB1.out
    exact ⟨h1.blk, h.out.mf.below HB1.out |>.mono (fun k _ hk => hk) |> fun q => (h.out.mf.keep (E' := fun k => Rg G w.heap.size w1.heap.size k ∧ k ≠ D ∧ k ≠ mb) (HB1.out.block mb h.out.ltm) fun k hk he => ⟨HB1.out.block k hk, .inl ⟨he.1, hk⟩, he.2⟩), .inl ⟨h.out.gD, h.out.lt⟩, .inl ⟨h.out.gm, h.out.ltm⟩⟩
  clear HN
  go_loopw [14] (fun i wr => ∃ k : Nat, k ≤ L ∧ i = .int .i64 k ∧ Hid (Dq (Rg G w.heap.size w1.heap.size) wr D mb ⟨s.limit, crashK s.files ks k, s.left, s.down⟩) ∧ Hid (But (Rg G w.heap.size w1.heap.size) w1 wr)) (fun i _ => L - (intOf i).toNat)
  case atStart => exact ⟨0, Nat.zero_le _, rfl, HDQ1, But.refl _ _⟩
  case round =>
    obtain ⟨k, hkL, rfl, hq, hbt⟩ := hrel
    by_cases hk : k < L
    · have hkf : k < s.files.length := by rw [HL.out]; exact hk
      obtain ⟨p, v, f, hF, hf, hLk, hplt, hsl, hl20, hby, hnext⟩ := round_at ok.out ks hkf hq.out (hbt.out.size)
      have HNX := Lib.hid hnext
      have HF := Lib.hid hF
      have HP := Lib.hid hplt
      obtain ⟨g, hg, hg1, hg2, hgc⟩ := HC1.out (by omega)
      have hname : wr.cell? ⟨g, k, none⟩ = some (nmV s.files[k].1) := by
        have e1 := hgc k hk
        rw [show (namesL s.files).getD k [] = s.files[k].1 by simp [namesL, hkf]] at e1
        rw [← e1]
        exact World.cell?_of_block (hbt.out.same g hg2 (Rg.out' hg1 hg2))
      have hlook := hLk wr rfl
      subst hg
      have c0 := hq.out.c0
      obtain ⟨ns, hns⟩ : ∃ ns, (⟨s.files[k].1.toArray⟩ : ByteArray) = ns := ⟨_, rfl⟩
      simp only [nmV] at hname hlook
      rw [hns] at hname hlook
      clear hns hnext hF hLk hgc hplt
      have g1 : (k : Int) < (L : Int) := by omega
      have g0 : (0 : Int) ≤ (k : Int) := by omega
      have HKS : Hid (k < m → ∃ b off, A = some ⟨b, off, none⟩ ∧ b < wr.heap.size ∧ wr.cell? ⟨b, off + k, none⟩ = some (.int .i64 (ks.getD k 0))) := fun hkm => by
        obtain ⟨b, off, ha, hb, hcell⟩ := hr.out (by rw [HM.out]; omega)
        refine ⟨b, off, ha, by have := HB1.out.size; have := hbt.out.size; omega, ?_⟩
        have e1 := hcell k (by rw [HM.out]; exact hkm)
        rw [show Mi.at_ ks k = ks.getD k 0 from rfl] at e1
        rw [← e1]
        refine World.cell?_of_block (a := ⟨b, off + k, none⟩) ?_
        show wr.heap[b]? = w.heap[b]?
        rw [hbt.out.same b (Nat.lt_of_lt_of_le hb HB1.out.size) (HG1.out b hb (by have := hG.out (by rw [HM.out]; omega) ⟨b, off, none⟩ ha; exact this)), HB1.out.block b hb]
      obtain ⟨t, ht⟩ : ∃ t, f.bytes.length - f.safe = t := ⟨_, rfl⟩
      obtain ⟨q, hqs⟩ : ∃ q, f.safe = q := ⟨_, rfl⟩
      have HT := Lib.hid (fun (W : World) (hb : Below wr.heap.size wr W) => tail_any W p v f (HF.out.keep (hb.block p HF.out.lt) fun j e => hb.block j (HF.out.ltv j e)) hby hsl)
      rw [ht] at HT
      have hq63 : q + t ≤ 1048576 := by omega
      have HX : Hid (∀ (u : Nat) (W : World), u = min (ks.getD k 0).toNat t → Below wr.heap.size wr W → Calls Try.prog 33 #[.pointer (some ⟨p, 0, none⟩), .int .i64 ((q + u : Nat) : Int)] W fun e w' => (∃ u, e = .returned u) ∧ Hid (Dq (Rg G w.heap.size w1.heap.size) w' D mb ⟨s.limit, crashK s.files ks (k + 1), s.left, s.down⟩) ∧ Hid (But (Rg G w.heap.size w1.heap.size) wr w')) := fun u W hu hb => by
        subst hu
        refine (keep_any W p v f (HF.out.keep (hb.block p HF.out.lt) fun j e => hb.block j (HF.out.ltv j e)) (q + min (ks.getD k 0).toNat t) (by omega) hl20 hby).mono ?_
        rintro e w' ⟨he, ⟨v', hf', hfr⟩, hb'⟩
        have e1 : (⟨f.bytes.take (q + min (ks.getD k 0).toNat t), q + min (ks.getD k 0).toNat t⟩ : Fl) = crashF f (ks.getD k 0) := by
          unfold crashF; rw [ht, hqs]
        rw [e1] at hf'
        obtain ⟨d1, d2⟩ := HNX.out W w' v' hb hf' hfr hb'
        exact ⟨he, d1, d2⟩
      have HSF : Hid (∀ W : World, Below wr.heap.size wr W → W.cell? ⟨p, 1, none⟩ = some (.int .i64 (q : Int))) := fun W hb => by
        rw [hb.cell (p := ⟨p, 1, none⟩) HF.out.lt, cell_of_row wr p 1 _ _ (0, 0) HF.out.blk, ← hqs]; rfl
      clear hf hsl hl20 hby ht hqs HNX hkf
      by_cases hkm : k < m
      · obtain ⟨b, off, ha, hb, hz⟩ := HKS.out hkm
        subst ha
        have HZ := Lib.hid hz
        have HBL := Lib.hid hb
        obtain ⟨z, hzz⟩ : ∃ z, ks.getD k 0 = z := ⟨_, rfl⟩
        rw [hzz] at HZ HX
        obtain ⟨u, hu⟩ : ∃ u, min z.toNat t = u := ⟨_, rfl⟩
        have HU : Hid (min (max z 0) (t : Int) = (u : Int)) := by show _ = _; rw [mm, hu]
        have hu2 : u ≤ t := by omega
        have HX1 := Lib.hid (fun (W : World) (hb : Below wr.heap.size wr W) => HX.out u W hu.symm hb)
        have g2 : (k : Int) < (m : Int) := by omega
        clear hz hb hzz hu HKS hkm HX
        go_wp2
        refine wp_region_held_drew (S := fun W => Below wr.heap.size wr W) (by kernel_rfl) ((Below.refl _ wr).drew) (fun hHeld => ?_)
        refine wpAnyH_take (i := 0) (v := ?vz1) rfl (by kernel_rfl) (by kernel_rfl) (by kernel_rfl) (fun _ _ _ h => h) (Or.inl ⟨by rfl, ?hyz1⟩) (by first | assumption | exact trivial) ?restz1
        case hyz1 => intro W hSW; go_simp; try (with_reducible rfl)
        simp only [Act.put, List.getElem_toArray, List.getElem_cons_succ, List.getElem_cons_zero, List.setIfInBounds_toArray, List.set_cons_zero, List.set_cons_succ]
        refine wpAnyH_take (i := 1) (v := ?vz2) rfl (by kernel_rfl) (by kernel_rfl) (by kernel_rfl) (fun _ _ _ h => h) (Or.inl ⟨by rfl, ?hyz2⟩) (by first | assumption | exact trivial) ?restz2
        case hyz2 => intro W hSW; go_simp; try (with_reducible rfl)
        simp only [Act.put, List.getElem_toArray, List.getElem_cons_succ, List.getElem_cons_zero, List.setIfInBounds_toArray, List.set_cons_zero, List.set_cons_succ]
        refine wpAnyH_take (i := 2) (v := ?vz3) rfl (by kernel_rfl) (by kernel_rfl) (by kernel_rfl) (fun _ _ _ h => h) (Or.inl ⟨by rfl, ?hyz3⟩) (by first | assumption | exact trivial) ?restz3
        case hyz3 => intro W hSW; go_simp; try (with_reducible rfl)
        simp only [Act.put, List.getElem_toArray, List.getElem_cons_succ, List.getElem_cons_zero, List.setIfInBounds_toArray, List.set_cons_zero, List.set_cons_succ]
        refine wpAnyH_take (i := 3) (v := ?vz4) rfl (by kernel_rfl) (by kernel_rfl) (by kernel_rfl) (fun _ _ _ h => h) (Or.inl ⟨by rfl, ?hyz4⟩) (by first | assumption | exact trivial) ?restz4
        case hyz4 => intro W hSW; have q3 := (hSW.cell (p := ⟨b, off + k, none⟩) HBL.out).trans HZ.out; go_simp; try (with_reducible rfl)
        simp only [Act.put, List.getElem_toArray, List.getElem_cons_succ, List.getElem_cons_zero, List.setIfInBounds_toArray, List.set_cons_zero, List.set_cons_succ]
        refine wpAnyH_take (i := 4) (v := ?vz5) rfl (by kernel_rfl) (by kernel_rfl) (by kernel_rfl) (fun _ _ _ h => h) (Or.inl ⟨by rfl, ?hyz5⟩) (by first | assumption | exact trivial) ?restz5
        case hyz5 => intro W hSW; go_simp; try (with_reducible rfl)
        simp only [Act.put, List.getElem_toArray, List.getElem_cons_succ, List.getElem_cons_zero, List.setIfInBounds_toArray, List.set_cons_zero, List.set_cons_succ]
        refine wpAnyH_take (i := 5) (v := ?vz6) rfl (by kernel_rfl) (by kernel_rfl) (by kernel_rfl) (fun _ _ _ h => h) (Or.inl ⟨by rfl, ?hyz6⟩) (by first | assumption | exact trivial) ?restz6
        case hyz6 => intro W hSW; go_simp; try (with_reducible rfl)
        simp only [Act.put, List.getElem_toArray, List.getElem_cons_succ, List.getElem_cons_zero, List.setIfInBounds_toArray, List.set_cons_zero, List.set_cons_succ]
        have HT1 := Lib.hid (HT.out wr.drew ((Below.refl _ wr).drew))
        refine wpAnyH_ready (rs := [6]) (by kernel_rfl) (by simp) ?_
        refine AllReadyH.cons rfl (fun K hK => ?_) AllReadyH.nil
        go_simp
        go_wp2_with (go_at_call 32; refine HT1.out.mono ?_; rintro e w2 ⟨rfl, hb2⟩)
        have S2 : Below wr.heap.size wr w2 := ((Below.refl _ wr).drew).trans hb2.out
        refine hK.out _ _ (S2) (fun hHeld => ?_)
        clear hK K
        refine wpAnyH_take (i := 7) (v := .int .i64 (u : Int)) rfl (by kernel_rfl) (by kernel_rfl) (by kernel_rfl) (fun _ _ _ h => h) (Or.inl ⟨by rfl, ?_⟩) (by first | assumption | exact trivial) ?_
        · intro W hSW; have q7 := HU.out; go_simp; try (with_reducible rfl)
        simp only [Act.put, List.getElem_toArray, List.getElem_cons_succ, List.getElem_cons_zero, List.setIfInBounds_toArray, List.set_cons_zero, List.set_cons_succ]
        refine wpAnyH_take (i := 8) (v := ?vz7) rfl (by kernel_rfl) (by kernel_rfl) (by kernel_rfl) (fun _ _ _ h => h) (Or.inl ⟨by rfl, ?hyz7⟩) (by first | assumption | exact trivial) ?restz7
        case hyz7 => intro W hSW; go_simp; try (with_reducible rfl)
        simp only [Act.put, List.getElem_toArray, List.getElem_cons_succ, List.getElem_cons_zero, List.setIfInBounds_toArray, List.set_cons_zero, List.set_cons_succ]
        refine wpAnyH_done (by kernel_rfl) ?_ _
        have k1 := HSF.out w2 S2
        have HX2 := Lib.hid (HX1.out w2 S2)
        have e1 : ((q + u : Nat) : Int) = (q : Int) + (u : Int) := by omega
        rw [e1] at HX2
        clear e1
        go_wp2_with (go_at_call 33; refine HX2.out.mono ?_; rintro e w3 ⟨⟨uu, rfl⟩, HD3, HB3⟩)
        go_roundw
        case rel => exact ⟨k + 1, by omega, by go_num, HD3, hbt.out.trans HB3.out fun _ _ e => e⟩
        case measure => simp [intOf]; omega
      · have g2 : ¬ (k : Int) < (m : Int) := by omega
        have hz : ks.getD k 0 = 0 := by
          rw [List.getD_eq_getElem?_getD, List.getElem?_eq_none (by rw [HM.out]; omega)]; rfl
        have k1 := HSF.out wr (Below.refl _ wr)
        have HX2 := HX.out 0 wr (by rw [hz]; simp) (Below.refl _ wr)
        rw [show ((q + 0 : Nat) : Int) = (q : Int) from by simp] at HX2
        have HX3 := Lib.hid HX2
        clear hz HX2 HX HKS hkm
        go_wp2_with (go_at_call 33; refine HX3.out.mono ?_; rintro e w3 ⟨⟨uu, rfl⟩, HD3, HB3⟩)
        go_roundw
        case rel => exact ⟨k + 1, by omega, by go_num, HD3, hbt.out.trans HB3.out fun _ _ e => e⟩
        case measure => simp [intOf]; omega
    · obtain rfl : k = L := by omega
      have g1 : ¬ (k : Int) < (k : Int) := by omega
      have HE : Hid (crashS s ks = ⟨s.limit, crashK s.files ks k, 0, false⟩) := by
        show _ = _
        unfold crashS
        rw [← HL.out, crashK_all]
      have f3 := hq.out.frozen 3
      have f2 := hq.out.frozen 2
      have c2 := hq.out.c2
      have c3 := hq.out.c3
      have d2 := hq.out.set2 false
      have HD := Lib.hid (d2.set3 0)
      have HB := Lib.hid ((but_set hq.out 2 (.bool false)).trans (but_set d2 3 (.int .i64 ((0 : Nat) : Int))) (fun _ _ h => h))
      rw [show ((0 : Nat) : Int) = 0 from rfl] at HD HB
      clear d2 hk
      go_wp2
      go_ret
      refine ⟨rfl, ?_, ?_⟩
      · rw [HE.out]
        refine HD.out.mono fun j _ hj => ?_
        rcases hj with hj | hj
        · exact .inl hj.1
        · exact .inr (Nat.le_trans HB1.out.size hj)
      · have b2 : But (Rg G w.heap.size w1.heap.size) w1 _ := hbt.out.trans HB.out fun _ _ e => e
        exact (But.of_below (S := G) HB1.out).trans b2 fun j hj e => by
          rcases e with e | e
          · exact e.1
          · exact absurd hj (by have := HB1.out.size; omega)
theorem Crash_f2 {s B : Nat} (w : World) (D mb : Nat) (st : St) (h : Hid (Dq (fun k => s ≤ k ∧ k < B) w D mb st)) (ok : Hid st.Ok) (A : Option Addr) (c : Nat) (ks : List Int) (hr : Hid (Mi.Rd w w.heap.size A ks)) (hc : ks.length ≤ c) (hc2 : c ≤ 9223372036854775807) (hG : Hid (0 < ks.length → ∀ a, A = some a → a.block < s ∨ B ≤ a.block)) :
    Calls Try.prog 13 #[.pointer (some ⟨D, 0, none⟩), .slice A ks.length c] w (OpF s w D mb (crashS st ks) 0) :=
  (Crash_any2 w D mb st h ok A c ks hr hc hc2 fun h0 a e e2 => by have := hG.out h0 a e; omega).mono fun e w' hp => OpF.of hp (fun _ hk => hk.1) (Nat.le_trans h.out.gD.1 (Nat.le_of_lt h.out.lt)) (ok.out.crash ks)
end Go.Proofs.Ytdjgkoklkoahbaa.Dk
