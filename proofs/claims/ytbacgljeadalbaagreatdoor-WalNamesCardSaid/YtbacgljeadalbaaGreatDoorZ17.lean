/- A crash: each file keeps its safe bytes and a beginning of its tail. -/
import Derived.Test.YtbacgljeadalbaaGreatDoorZ1
import Derived.Test.YtbacgljeadalbaaGreatDoorZ9
import Derived.Test.YtbacgljeadalbaaGreatDoorIKit
import Derived.Test.YtbacgljeadalbaaGreatDoorZ10
import Derived.Test.YtbacgljeadalbaaGreatDoorZ16
namespace Go.Proofs.YtbacgljeadalbaaGreatDoor.Dk
open Go.RowKit
open Go.Proofs.YtbacgljeadalbaaGreatDoor.Me Go.Proofs.YtbacgljeadalbaaGreatDoor.Hd
set_option linter.unusedVariables false
set_option linter.unusedSimpArgs false

/-- What the rounds may touch: the disk's own blocks, and what is newer than the names. -/
def Rg (G : Nat → Prop) (n m k : Nat) : Prop := (G k ∧ k < n) ∨ m ≤ k
theorem Rg.out {G : Nat → Prop} {n m k : Nat} (h : ¬ G k) (hk : k < m) : ¬ Rg G n m k := fun e => by
  rcases e with e | e
  · exact h e.1
  · omega
theorem Rg.out' {G : Nat → Prop} {n m k : Nat} (h : n ≤ k) (hk : k < m) : ¬ Rg G n m k := fun e => by
  rcases e with e | e
  · omega
  · omega
/-- What one round of a crash is: the file that is met, what it becomes. -/
theorem round_at {G : Nat → Prop} {w : World} {D mb : Nat} {s : St} (ok : s.Ok) (ks : List Int) {k n m : Nat} (hk : k < s.files.length) (h : Dq (Rg G n m) w D mb ⟨s.limit, crashK s.files ks k, s.left, s.down⟩) (hm : m ≤ w.heap.size) :
    ∃ p v f, FileIn w p v f ∧ s.files[k].2 = f ∧ Lk w mb s.files[k].1 p ∧ p < w.heap.size ∧ f.safe ≤ f.bytes.length ∧ f.bytes.length ≤ 1048576 ∧ (∀ z ∈ f.bytes, z < 256) ∧
      ∀ w1 w2 v', Below w.heap.size w w1 → FileIn w2 p v' (crashF f (ks.getD k 0)) → (∀ j, v'.ownBlock = some j → w1.heap.size ≤ j) → But (fun j => j = p) w1 w2 → Dq (Rg G n m) w2 D mb ⟨s.limit, crashK s.files ks (k + 1), s.left, s.down⟩ ∧ But (Rg G n m) w w2 := by
  have hmem := List.getElem_mem hk
  have hnm := nameOk_len (ok.nm _ hmem)
  obtain ⟨p, v, hF, hp, hpD, hpm, hv, hL, hc⟩ := h.yes (crashK_srt ok.srt ks k) (n := s.files[k].1) (by unfold maxLen; omega) (crashK_look ok.srt ks hk)
  refine ⟨p, v, s.files[k].2, hF, rfl, hL, hF.lt, ok.safe _ hmem, Nat.le_trans (used_mem hmem) ok.use, ok.byte _ hmem, fun w1 w2 v' hb hF2 hfr hb2 => ?_⟩
  obtain ⟨h1, h2⟩ := hc w2 v' (crashF s.files[k].2 (ks.getD k 0)) ((But.of_below hb).trans hb2 fun j _ e => .inl e) hF2 fun j e => .inr (Nat.le_trans hb.size (hfr j e))
  refine ⟨?_, h2⟩
  have e := crashK_step ok.srt ks hk
  simp only at h1
  rw [e] at h1
  exact h1.mono fun j _ hj => by
    rcases hj with hj | hj
    · exact hj
    · exact .inr (Nat.le_trans hm hj)
theorem mm {z : Int} {t : Nat} : min (max z 0) ((t : Nat) : Int) = ((min z.toNat t : Nat) : Int) := by omega
set_option maxRecDepth 100000 in
set_option maxHeartbeats 2000000 in
theorem Crash_any {G : Nat → Prop} (w : World) (D mb : Nat) (s : St) (h : Hid (Dq G w D mb s)) (ok : Hid s.Ok) (A : Option Addr) (c : Nat) (ks : List Int) (hr : Hid (Mi.Rd w w.heap.size A ks)) (hc : ks.length ≤ c) (hc2 : c ≤ 9223372036854775807) (hG : Hid (∀ a, A = some a → ¬ G a.block)) :
    Calls Tryz.prog 16 #[.pointer (some ⟨D, 0, none⟩), .slice A ks.length c] w (OpP G w D mb (crashS s ks) 0) := by
  have HN := Lib.hid (Names_any w D mb s h ok)
  obtain ⟨m, hm⟩ : ∃ m, ks.length = m := ⟨_, rfl⟩
  have HM : Hid (ks.length = m) := hm
  rw [hm] at hc ⊢
  clear hm
  have hL64 := ok.out.cnt
  obtain ⟨L, hL⟩ : ∃ L, s.files.length = L := ⟨_, rfl⟩
  have HL : Hid (s.files.length = L) := hL
  rw [hL] at hL64
  clear hL
  have HD0 := Lib.hid h.out.lt
  go_enter Tryz.func16, Tryz.ntmps16
  go_wp2_with (go_at_call 24; refine HN.out.mono ?_; rintro e w1 ⟨v, rfl, hS, hb⟩; obtain ⟨A1, c1, rfl, hl1, hm1, hcells⟩ := hS.out.form; rw [show (namesL s.files).length = L from (List.length_map ..).trans HL.out] at hl1 hcells ⊢; have HC1 := Lib.hid hcells; clear hcells hS)
  have HB1 := hb
  clear hb
  have HG1 : Hid (∀ k, k < w.heap.size → ¬ G k → ¬ Rg G w.heap.size w1.heap.size k) := fun k hk hg => Rg.out hg (Nat.lt_of_lt_of_le hk HB1.out.size)
  have HDQ1 : Hid (Dq (Rg G w.heap.size w1.heap.size) w1 D mb ⟨s.limit, crashK s.files ks 0, s.left, s.down⟩) := by
    rw [crashK_zero]
    have h1 := h.out.below HB1.out
    exact ⟨h1.blk, h.out.mf.below HB1.out |>.mono (fun k _ hk => hk) |> fun q => (h.out.mf.keep (E' := fun k => Rg G w.heap.size w1.heap.size k ∧ k ≠ D ∧ k ≠ mb) (HB1.out.block mb h.out.ltm) fun k hk he => ⟨HB1.out.block k hk, .inl ⟨he.1, hk⟩, he.2⟩), .inl ⟨h.out.gD, h.out.lt⟩, .inl ⟨h.out.gm, h.out.ltm⟩⟩
  clear HN
  go_loopw [14] (fun i wr => ∃ k : Nat, k ≤ L ∧ i = .int .i64 k ∧ Hid (Dq (Rg G w.heap.size w1.heap.size) wr D mb ⟨s.limit, crashK s.files ks k, s.left, s.down⟩) ∧ Hid (But (Rg G w.heap.size w1.heap.size) w1 wr)) (fun i _ => L - (intOf i).toNat)
  case atStart => exact ⟨0, Nat.zero_le _, rfl, HDQ1, But.refl _ _⟩
  case round =>
    obtain ⟨k, hkL, rfl, hq, hbt⟩ := hrel
    by_cases hk : k < L
    · have hkf : k < s.files.length := by rw [HL.out]; exact hk
      obtain ⟨p, v, f, hF, hf, hLk, hplt, hsl, hl20, hby, hnext⟩ := round_at ok.out ks hkf hq.out (hbt.out.size)
      have HNX := Lib.hid hnext
      have HF := Lib.hid hF
      have HP := Lib.hid hplt
      obtain ⟨g, hg, hg1, hg2, hgc⟩ := HC1.out (by omega)
      have hname : wr.cell? ⟨g, k, none⟩ = some (nmV s.files[k].1) := by
        have e1 := hgc k hk
        rw [show (namesL s.files).getD k [] = s.files[k].1 by simp [namesL, hkf]] at e1
        rw [← e1]
        exact World.cell?_of_block (hbt.out.same g hg2 (Rg.out' hg1 hg2))
      have hlook := hLk wr rfl
      subst hg
      have c0 := hq.out.c0
      obtain ⟨ns, hns⟩ : ∃ ns, (⟨s.files[k].1.toArray⟩ : ByteArray) = ns := ⟨_, rfl⟩
      simp only [nmV] at hname hlook
      rw [hns] at hname hlook
      clear hns hnext hF hLk hgc hplt
      have g1 : (k : Int) < (L : Int) := by omega
      have g0 : (0 : Int) ≤ (k : Int) := by omega
      have HKS : Hid (k < m → ∃ b off, A = some ⟨b, off, none⟩ ∧ b < wr.heap.size ∧ wr.cell? ⟨b, off + k, none⟩ = some (.int .i64 (ks.getD k 0))) := fun hkm => by
        obtain ⟨b, off, ha, hb, hcell⟩ := hr.out (by rw [HM.out]; omega)
        refine ⟨b, off, ha, by have := HB1.out.size; have := hbt.out.size; omega, ?_⟩
        have e1 := hcell k (by rw [HM.out]; exact hkm)
        rw [show Mi.at_ ks k = ks.getD k 0 from rfl] at e1
        rw [← e1]
        refine World.cell?_of_block (a := ⟨b, off + k, none⟩) ?_
        show wr.heap[b]? = w.heap[b]?
        rw [hbt.out.same b (Nat.lt_of_lt_of_le hb HB1.out.size) (HG1.out b hb (by have := hG.out ⟨b, off, none⟩ ha; exact this)), HB1.out.block b hb]
      obtain ⟨t, ht⟩ : ∃ t, f.bytes.length - f.safe = t := ⟨_, rfl⟩
      obtain ⟨q, hqs⟩ : ∃ q, f.safe = q := ⟨_, rfl⟩
      have HT := Lib.hid (fun (W : World) (hb : Below wr.heap.size wr W) => tail_any W p v f (HF.out.keep (hb.block p HF.out.lt) fun j e => hb.block j (HF.out.ltv j e)) hby hsl)
      rw [ht] at HT
      have hq63 : q + t ≤ 1048576 := by omega
      have HX : Hid (∀ (u : Nat) (W : World), u = min (ks.getD k 0).toNat t → Below wr.heap.size wr W → Calls Tryz.prog 37 #[.pointer (some ⟨p, 0, none⟩), .int .i64 ((q + u : Nat) : Int)] W fun e w' => (∃ u, e = .returned u) ∧ Hid (Dq (Rg G w.heap.size w1.heap.size) w' D mb ⟨s.limit, crashK s.files ks (k + 1), s.left, s.down⟩) ∧ Hid (But (Rg G w.heap.size w1.heap.size) wr w')) := fun u W hu hb => by
        subst hu
        refine (keep_any W p v f (HF.out.keep (hb.block p HF.out.lt) fun j e => hb.block j (HF.out.ltv j e)) (q + min (ks.getD k 0).toNat t) (by omega) hl20 hby).mono ?_
        rintro e w' ⟨he, ⟨v', hf', hfr⟩, hb'⟩
        have e1 : (⟨f.bytes.take (q + min (ks.getD k 0).toNat t), q + min (ks.getD k 0).toNat t⟩ : Fl) = crashF f (ks.getD k 0) := by
          unfold crashF; rw [ht, hqs]
        rw [e1] at hf'
        obtain ⟨d1, d2⟩ := HNX.out W w' v' hb hf' hfr hb'
        exact ⟨he, d1, d2⟩
      have HSF : Hid (∀ W : World, Below wr.heap.size wr W → W.cell? ⟨p, 1, none⟩ = some (.int .i64 (q : Int))) := fun W hb => by
        rw [hb.cell (p := ⟨p, 1, none⟩) HF.out.lt, cell_of_row wr p 1 _ _ (0, 0) HF.out.blk, ← hqs]; rfl
      clear hf hsl hl20 hby ht hqs HNX hkf
      by_cases hkm : k < m
      · obtain ⟨b, off, ha, hb, hz⟩ := HKS.out hkm
        subst ha
        have HZ := Lib.hid hz
        have HBL := Lib.hid hb
        obtain ⟨z, hzz⟩ : ∃ z, ks.getD k 0 = z := ⟨_, rfl⟩
        rw [hzz] at HZ HX
        obtain ⟨u, hu⟩ : ∃ u, min z.toNat t = u := ⟨_, rfl⟩
        have HU : Hid (min (max z 0) (t : Int) = (u : Int)) := by show _ = _; rw [mm, hu]
        have hu2 : u ≤ t := by omega
        have HX1 := Lib.hid (fun (W : World) (hb : Below wr.heap.size wr W) => HX.out u W hu.symm hb)
        have g2 : (k : Int) < (m : Int) := by omega
        clear hz hb hzz hu HKS hkm HX
        go_wp2
        refine wp_region_held_drew (S := fun W => Below wr.heap.size wr W) (by kernel_rfl) ((Below.refl _ wr).drew) (fun hHeld => ?_)
        refine wpAnyH_take (i := 0) (v := ?vz1) rfl (by kernel_rfl) (by kernel_rfl) (by kernel_rfl) (fun _ _ _ h => h) (Or.inl ⟨by rfl, ?hyz1⟩) (by first | assumption | exact trivial) ?restz1
        case hyz1 => intro W hSW; go_simp; try (with_reducible rfl)
        simp only [Act.put, List.getElem_toArray, List.getElem_cons_succ, List.getElem_cons_zero, List.setIfInBounds_toArray, List.set_cons_zero, List.set_cons_succ]
        refine wpAnyH_take (i := 1) (v := ?vz2) rfl (by kernel_rfl) (by kernel_rfl) (by kernel_rfl) (fun _ _ _ h => h) (Or.inl ⟨by rfl, ?hyz2⟩) (by first | assumption | exact trivial) ?restz2
        case hyz2 => intro W hSW; go_simp; try (with_reducible rfl)
        simp only [Act.put, List.getElem_toArray, List.getElem_cons_succ, List.getElem_cons_zero, List.setIfInBounds_toArray, List.set_cons_zero, List.set_cons_succ]
        refine wpAnyH_take (i := 2) (v := ?vz3) rfl (by kernel_rfl) (by kernel_rfl) (by kernel_rfl) (fun _ _ _ h => h) (Or.inl ⟨by rfl, ?hyz3⟩) (by first | assumption | exact trivial) ?restz3
        case hyz3 => intro W hSW; go_simp; try (with_reducible rfl)
        simp only [Act.put, List.getElem_toArray, List.getElem_cons_succ, List.getElem_cons_zero, List.setIfInBounds_toArray, List.set_cons_zero, List.set_cons_succ]
        refine wpAnyH_take (i := 3) (v := ?vz4) rfl (by kernel_rfl) (by kernel_rfl) (by kernel_rfl) (fun _ _ _ h => h) (Or.inl ⟨by rfl, ?hyz4⟩) (by first | assumption | exact trivial) ?restz4
        case hyz4 => intro W hSW; have q3 := (hSW.cell (p := ⟨b, off + k, none⟩) HBL.out).trans HZ.out; go_simp; try (with_reducible rfl)
        simp only [Act.put, List.getElem_toArray, List.getElem_cons_succ, List.getElem_cons_zero, List.setIfInBounds_toArray, List.set_cons_zero, List.set_cons_succ]
        refine wpAnyH_take (i := 4) (v := ?vz5) rfl (by kernel_rfl) (by kernel_rfl) (by kernel_rfl) (fun _ _ _ h => h) (Or.inl ⟨by rfl, ?hyz5⟩) (by first | assumption | exact trivial) ?restz5
        case hyz5 => intro W hSW; go_simp; try (with_reducible rfl)
        simp only [Act.put, List.getElem_toArray, List.getElem_cons_succ, List.getElem_cons_zero, List.setIfInBounds_toArray, List.set_cons_zero, List.set_cons_succ]
        refine wpAnyH_take (i := 5) (v := ?vz6) rfl (by kernel_rfl) (by kernel_rfl) (by kernel_rfl) (fun _ _ _ h => h) (Or.inl ⟨by rfl, ?hyz6⟩) (by first | assumption | exact trivial) ?restz6
        case hyz6 => intro W hSW; go_simp; try (with_reducible rfl)
        simp only [Act.put, List.getElem_toArray, List.getElem_cons_succ, List.getElem_cons_zero, List.setIfInBounds_toArray, List.set_cons_zero, List.set_cons_succ]
        have HT1 := Lib.hid (HT.out wr.drew ((Below.refl _ wr).drew))
        refine wpAnyH_ready (rs := [6]) (by kernel_rfl) (by simp) ?_
        refine AllReadyH.cons rfl (fun K hK => ?_) AllReadyH.nil
        go_simp
        go_wp2_with (go_at_call 36; refine HT1.out.mono ?_; rintro e w2 ⟨rfl, hb2⟩)
        have S2 : Below wr.heap.size wr w2 := ((Below.refl _ wr).drew).trans hb2.out
        refine hK.out _ _ (S2) (fun hHeld => ?_)
        clear hK K
        refine wpAnyH_take (i := 7) (v := .int .i64 (u : Int)) rfl (by kernel_rfl) (by kernel_rfl) (by kernel_rfl) (fun _ _ _ h => h) (Or.inl ⟨by rfl, ?_⟩) (by first | assumption | exact trivial) ?_
        · intro W hSW; have q7 := HU.out; go_simp; try (with_reducible rfl)
        simp only [Act.put, List.getElem_toArray, List.getElem_cons_succ, List.getElem_cons_zero, List.setIfInBounds_toArray, List.set_cons_zero, List.set_cons_succ]
        refine wpAnyH_take (i := 8) (v := ?vz7) rfl (by kernel_rfl) (by kernel_rfl) (by kernel_rfl) (fun _ _ _ h => h) (Or.inl ⟨by rfl, ?hyz7⟩) (by first | assumption | exact trivial) ?restz7
        case hyz7 => intro W hSW; go_simp; try (with_reducible rfl)
        simp only [Act.put, List.getElem_toArray, List.getElem_cons_succ, List.getElem_cons_zero, List.setIfInBounds_toArray, List.set_cons_zero, List.set_cons_succ]
        refine wpAnyH_done (by kernel_rfl) ?_ _
        have k1 := HSF.out w2 S2
        have HX2 := Lib.hid (HX1.out w2 S2)
        have e1 : ((q + u : Nat) : Int) = (q : Int) + (u : Int) := by omega
        rw [e1] at HX2
        clear e1
        go_wp2_with (go_at_call 37; refine HX2.out.mono ?_; rintro e w3 ⟨⟨uu, rfl⟩, HD3, HB3⟩)
        go_roundw
        case rel => exact ⟨k + 1, by omega, by go_num, HD3, hbt.out.trans HB3.out fun _ _ e => e⟩
        case measure => simp [intOf]; omega
      · have g2 : ¬ (k : Int) < (m : Int) := by omega
        have hz : ks.getD k 0 = 0 := by
          rw [List.getD_eq_getElem?_getD, List.getElem?_eq_none (by rw [HM.out]; omega)]; rfl
        have k1 := HSF.out wr (Below.refl _ wr)
        have HX2 := HX.out 0 wr (by rw [hz]; simp) (Below.refl _ wr)
        rw [show ((q + 0 : Nat) : Int) = (q : Int) from by simp] at HX2
        have HX3 := Lib.hid HX2
        clear hz HX2 HX HKS hkm
        go_wp2_with (go_at_call 37; refine HX3.out.mono ?_; rintro e w3 ⟨⟨uu, rfl⟩, HD3, HB3⟩)
        go_roundw
        case rel => exact ⟨k + 1, by omega, by go_num, HD3, hbt.out.trans HB3.out fun _ _ e => e⟩
        case measure => simp [intOf]; omega
    · obtain rfl : k = L := by omega
      have g1 : ¬ (k : Int) < (k : Int) := by omega
      have HE : Hid (crashS s ks = ⟨s.limit, crashK s.files ks k, 0, false⟩) := by
        show _ = _
        unfold crashS
        rw [← HL.out, crashK_all]
      have f3 := hq.out.frozen 3
      have f2 := hq.out.frozen 2
      have c2 := hq.out.c2
      have c3 := hq.out.c3
      have d2 := hq.out.set2 false
      have HD := Lib.hid (d2.set3 0)
      have HB := Lib.hid ((but_set hq.out 2 (.bool false)).trans (but_set d2 3 (.int .i64 ((0 : Nat) : Int))) (fun _ _ h => h))
      rw [show ((0 : Nat) : Int) = 0 from rfl] at HD HB
      clear d2 hk
      go_wp2
      go_ret
      refine ⟨rfl, ?_, ?_⟩
      · rw [HE.out]
        refine HD.out.mono fun j _ hj => ?_
        rcases hj with hj | hj
        · exact .inl hj.1
        · exact .inr (Nat.le_trans HB1.out.size hj)
      · have b2 : But (Rg G w.heap.size w1.heap.size) w1 _ := hbt.out.trans HB.out fun _ _ e => e
        exact (But.of_below (S := G) HB1.out).trans b2 fun j hj e => by
          rcases e with e | e
          · exact e.1
          · exact absurd hj (by have := HB1.out.size; omega)
end Go.Proofs.YtbacgljeadalbaaGreatDoor.Dk
/- The disk's calls for the laws: all own blocks from s on. -/
namespace Go.Proofs.YtbacgljeadalbaaGreatDoor.Dk
open Go.RowKit
open Go.Proofs.YtbacgljeadalbaaGreatDoor.Me Go.Proofs.YtbacgljeadalbaaGreatDoor.Hd
set_option linter.unusedVariables false
set_option linter.unusedSimpArgs false

/-- All from block s on. -/
abbrev From (s : Nat) : Nat → Prop := fun k => s ≤ k
/-- A disk of the law's own, all of it from block s on. -/
structure Df (s : Nat) (w : World) (D mb : Nat) (st : St) : Prop where
  dq : Dq (From s) w D mb st
  ok : st.Ok
theorem Df.lt {s : Nat} {w : World} {D mb : Nat} {st : St} (h : Df s w D mb st) : s ≤ w.heap.size := Nat.le_trans h.dq.gD (Nat.le_of_lt h.dq.lt)
theorem Df.below {s : Nat} {w w' : World} {D mb : Nat} {st : St} (h : Df s w D mb st) (hb : Below w.heap.size w w') : Df s w' D mb st := ⟨h.dq.below hb, h.ok⟩
theorem Df.keep {s B : Nat} {w w' : World} {D mb : Nat} {st : St} (h : Df s w D mb st) (hb : Below B w w') (hB : w.heap.size ≤ B) : Df s w' D mb st := h.below (hb.mono hB)
/-- What a changing call answers, and leaves. -/
def OpF (s : Nat) (w : World) (D mb : Nat) (st' : St) (c : Nat) (e : Ending) (w' : World) : Prop := e = .returned (.int .i64 (c : Int)) ∧ Hid (Df s w' D mb st') ∧ Hid (Below s w w')
theorem OpF.of {G : Nat → Prop} {s : Nat} {w : World} {D mb : Nat} {st' : St} {c : Nat} {e : Ending} {w' : World} (h : OpP G w D mb st' c e w') (hG : ∀ k, G k → s ≤ k) (hs : s ≤ w.heap.size) (ok : st'.Ok) : OpF s w D mb st' c e w' := by
  obtain ⟨h1, h2, h3⟩ := h
  refine ⟨h1, ⟨h2.out.mono fun k _ hk => ?_, ok⟩, h3.out.below hs hG⟩
  rcases hk with hk | hk
  · exact hG k hk
  · exact Nat.le_trans hs hk
section
variable {s : Nat} (w : World) (D mb : Nat) (st : St)
theorem Append_f (h : Hid (Df s w D mb st)) (n : Nm) (Ap : Option Addr) (cp : Nat) (l : List Nat) (hr : Hid (Me.Rd w w.heap.size Ap l)) (hA : Hid (Ap = none → l.length = 0 ∧ cp = 0)) (hl : l.length ≤ 140737488351232) :
    Calls Tryz.prog 19 #[.pointer (some ⟨D, 0, none⟩), nmV n, .slice Ap l.length cp] w (OpF s w D mb (appS st n l) (appE st n l)) :=
  (Append_any w D mb st h.out.dq h.out.ok n Ap cp l hr hA hl).mono fun e w' hp => OpF.of hp (fun _ hk => hk) h.out.lt (h.out.ok.app n hr.out.1)
theorem Sync_f (h : Hid (Df s w D mb st)) (n : Nm) : Calls Tryz.prog 35 #[.pointer (some ⟨D, 0, none⟩), nmV n] w (OpF s w D mb (syncS st n) (findE st n)) :=
  (Sync_any w D mb st h.out.dq h.out.ok n).mono fun e w' hp => OpF.of hp (fun _ hk => hk) h.out.lt (h.out.ok.sync n)
theorem Cut_f (h : Hid (Df s w D mb st)) (n : Nm) (k : Int) : Calls Tryz.prog 74 #[.pointer (some ⟨D, 0, none⟩), nmV n, .int .i64 k] w (OpF s w D mb (cutS st n k) (cutE st n k)) :=
  (Cut_any w D mb st h.out.dq h.out.ok n k).mono fun e w' hp => OpF.of hp (fun _ hk => hk) h.out.lt (h.out.ok.cut n k)
theorem Remove_f (h : Hid (Df s w D mb st)) (n : Nm) : Calls Tryz.prog 20 #[.pointer (some ⟨D, 0, none⟩), nmV n] w (OpF s w D mb (remS st n) (findE st n)) :=
  (Remove_any w D mb st h.out.dq h.out.ok n).mono fun e w' hp => OpF.of hp (fun _ hk => hk) h.out.lt (h.out.ok.rem n)
theorem Arm_f (h : Hid (Df s w D mb st)) (k : Int) (hk : k ≤ 9223372036854775807) : Calls Tryz.prog 15 #[.pointer (some ⟨D, 0, none⟩), .int .i64 k] w (OpF s w D mb (armS st k) (armE st)) :=
  (Arm_any w D mb st h.out.dq k).mono fun e w' ⟨h1, h2, h3⟩ => ⟨h1, ⟨h2.out, h.out.ok.arm hk⟩, h3.out.below h.out.lt fun _ hk => hk⟩
/-- A crash: what is kept is told by a slice that is none of the disk's. -/
theorem Crash_f {B : Nat} (h : Hid (Dq (fun k => s ≤ k ∧ k < B) w D mb st)) (ok : Hid st.Ok) (A : Option Addr) (c : Nat) (ks : List Int) (hr : Hid (Mi.Rd w w.heap.size A ks)) (hc : ks.length ≤ c) (hc2 : c ≤ 9223372036854775807) (hG : Hid (∀ a, A = some a → a.block < s ∨ B ≤ a.block)) :
    Calls Tryz.prog 16 #[.pointer (some ⟨D, 0, none⟩), .slice A ks.length c] w (OpF s w D mb (crashS st ks) 0) :=
  (Crash_any w D mb st h ok A c ks hr hc hc2 fun a e e2 => by have := hG.out a e; omega).mono fun e w' hp => OpF.of hp (fun _ hk => hk.1) (Nat.le_trans h.out.gD.1 (Nat.le_of_lt h.out.lt)) (ok.out.crash ks)
theorem Crash_none (h : Hid (Df s w D mb st)) : Calls Tryz.prog 16 #[.pointer (some ⟨D, 0, none⟩), .slice none 0 0] w (OpF s w D mb (crashS st []) 0) :=
  (Crash_any w D mb st h.out.dq h.out.ok none 0 [] (Mi.Rd.nil _ _ _) (Nat.le_refl _) (by decide) fun a e => by cases e).mono fun e w' hp => OpF.of hp (fun _ hk => hk) h.out.lt (h.out.ok.crash [])
theorem Read_f (h : Hid (Df s w D mb st)) (n : Nm) : Calls Tryz.prog 25 #[.pointer (some ⟨D, 0, none⟩), nmV n] w (ReadP w st n) := Read_any w D mb st h.out.dq h.out.ok n
theorem Safe_f (h : Hid (Df s w D mb st)) (n : Nm) (hn : n.length ≤ maxLen) : Calls Tryz.prog 34 #[.pointer (some ⟨D, 0, none⟩), nmV n] w fun e w' => e = .returned (.int .i64 ((fileOf st n).safe : Int)) ∧ w = w' := Safe_any w D mb st h.out.dq n hn
theorem Used_f (h : Hid (Df s w D mb st)) : Calls Tryz.prog 45 #[.pointer (some ⟨D, 0, none⟩)] w fun e w' => e = .returned (.int .i64 (used st.files : Int)) ∧ Hid (Below w.heap.size w w') := Used_any w D mb st h.out.dq h.out.ok
theorem Names_f (h : Hid (Df s w D mb st)) : Calls Tryz.prog 24 #[.pointer (some ⟨D, 0, none⟩)] w fun e w' => ∃ v, e = .returned v ∧ Hid (NmS w' w.heap.size v (namesL st.files)) ∧ Hid (Below w.heap.size w w') := Names_any w D mb st h.out.dq h.out.ok
theorem Down_f (h : Hid (Df s w D mb st)) : Calls Tryz.prog 33 #[.pointer (some ⟨D, 0, none⟩)] w fun e w' => e = .returned (.bool st.down) ∧ w = w' := Down_any w D mb st h.out.dq
/-- A fork: all of it is new. -/
theorem Fork_f (h : Hid (Df s w D mb st)) : Calls Tryz.prog 21 #[.pointer (some ⟨D, 0, none⟩)] w fun e w' => e = .returned (.pointer (some ⟨w.heap.size, 0, none⟩)) ∧ Hid (Df w.heap.size w' w.heap.size (w.heap.size + 1) st) ∧ Hid (Below w.heap.size w w') :=
  (Fork_any w D mb st h.out.dq h.out.ok).mono fun e w' ⟨h1, h2, h3⟩ => ⟨h1, ⟨h2.out, h.out.ok⟩, h3⟩
end
theorem New_f (n : Nat) (h1 : 1 ≤ n) (h2 : n ≤ 1048576) (w : World) : Calls Tryz.prog 29 #[.int .i64 n] w fun e w' =>
    e = .returned (.tuple #[.pointer (some ⟨w.heap.size + 1, 0, none⟩), .int .i64 0]) ∧ Hid (Df w.heap.size w' (w.heap.size + 1) w.heap.size (newS n)) ∧ Hid (Below w.heap.size w w') :=
  (New_ok n h1 h2 w).mono fun e w' ⟨q1, q2, q3⟩ => ⟨q1, ⟨q2.out, St.Ok.new h2⟩, q3⟩
end Go.Proofs.YtbacgljeadalbaaGreatDoor.Dk
