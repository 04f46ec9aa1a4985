/- The walk of the law DiskSyncs. -/
import Derived.Test.YtdjgkoklkoahbaaDkRooms
import Derived.Test.YtdjgkoklkoahbaaDkCrashB
namespace Go.Proofs.Ytdjgkoklkoahbaa.Dk
open Go.RowKit
open Go.Proofs.Ytdjgkoklkoahbaa.Me Go.Proofs.Ytdjgkoklkoahbaa.Hd
set_option linter.unusedVariables false
set_option linter.unusedSimpArgs false

theorem but_from {t : Nat} {w X : World} (h : Below t w X) : But (From t) w X := ⟨h.os, h.tape, h.output, h.size, fun k _ hn => h.block k (by
  have h1 : ¬ t ≤ k := hn
  omega)⟩
/-- All of a file safe: as if so much of its tail were kept. -/
theorem sync_crash {f : Fl} (h1 : f.safe ≤ f.bytes.length) (h2 : f.bytes.length ≤ 1048576) : crashF f 1048576 = ⟨f.bytes, f.bytes.length⟩ := by
  have e : f.safe + min (1048576 : Int).toNat (f.bytes.length - f.safe) = f.bytes.length := by
    have : (1048576 : Int).toNat = 1048576 := rfl
    rw [this]; omega
  unfold crashF
  rw [e, List.take_of_length_le (Nat.le_refl _)]
def bigs (n : Nat) : List Int := List.replicate n 1048576
theorem bigs_get {n k : Nat} (h : k < n) : (bigs n).getD k 0 = 1048576 := by simp [bigs, h]
/-- The disk behind k rounds. -/
def synK (st : St) (k : Nat) : St := ⟨st.limit, crashK st.files (bigs st.files.length) k, 0, false⟩
theorem synK_zero {n : Nat} {st : St} (h : Dn n st) : synK st 0 = st := by
  obtain ⟨a, b, c, d⟩ := st
  have h1 := h.left
  have h2 := h.down
  simp only at h1 h2
  subst h1 h2
  simp [synK, crashK_zero]
theorem synK_step {st : St} (ok : st.Ok) {k : Nat} (h : k < st.files.length) : findE (synK st k) st.files[k].1 = 0 ∧ syncS (synK st k) st.files[k].1 = synK st (k + 1) := by
  have hl : look (synK st k).files st.files[k].1 = some st.files[k].2 := crashK_look ok.srt (bigs st.files.length) h
  have hm := List.getElem_mem h
  have h2 := ok.nm _ hm
  have he : findE (synK st k) st.files[k].1 = 0 := by
    unfold findE
    rw [if_neg (by simp [synK]), if_pos h2, hl]
    rfl
  have hf : fileOf (synK st k) st.files[k].1 = st.files[k].2 := by unfold fileOf; rw [hl]; rfl
  refine ⟨he, ?_⟩
  unfold syncS
  rw [if_pos he, hf]
  have h3 := crashK_step ok.srt (bigs st.files.length) h
  rw [bigs_get h, sync_crash (ok.safe _ hm) (Nat.le_trans (used_mem hm) ok.use)] at h3
  show chg (synK st k) (put (crashK st.files (bigs st.files.length) k) st.files[k].1 _) = _
  rw [h3]
  rfl
theorem crash_all {L : Fs} (h : ∀ p ∈ L, p.2.safe = p.2.bytes.length) (ks : List Int) : crashL L ks = L := by
  induction L generalizing ks with
  | nil => rfl
  | cons p r ih =>
    obtain ⟨n, f⟩ := p
    have hf : f.safe = f.bytes.length := h (n, f) (by simp)
    simp only [crashL]
    rw [ih (fun q hq => h q (List.mem_cons_of_mem _ hq))]
    have e : crashF f (ks.headD 0) = f := by
      obtain ⟨b, s⟩ := f
      simp only at hf
      subst hf
      unfold crashF
      simp
    rw [e]
theorem synK_all {st : St} (ok : st.Ok) (ks : List Int) : (crashS (synK st st.files.length) ks).files = (synK st st.files.length).files := by
  show crashL (crashK st.files _ st.files.length) ks = crashK st.files _ st.files.length
  rw [crashK_all]
  refine crash_all (fun p hp => ?_) ks
  obtain ⟨f, k, hm, e⟩ := crash_mem hp
  rw [e]
  exact (crashF_len (ok.safe _ hm) k).1
theorem syncs_bad (n : Int) (h : n < 1 ∨ 1048576 < n) (v v2 : Value) (w : World) : Calls Try.prog 5 #[.int .i64 n, v, v2] w fun e w' => e = .returned (.bool true) ∧ Below w.heap.size w w' := by
  have N := Lib.hid (fun W => done_bad n h v W)
  have M := Lib.hid (fun W => may_no n h W)
  have HW := Lib.hid awake_any
  clear h
  go_enter Try.func5, Try.ntmps5
  go_wp2_with (first
    | (go_at_call 17; refine (N.out _).mono ?_; rintro e w' ⟨rfl, rfl⟩)
    | (go_at_call 18; refine (M.out _).mono ?_; rintro e w' ⟨rfl, rfl⟩)
    | (go_at_call 11; refine (HW.out _).mono ?_; rintro e w' ⟨rfl, hb⟩))
  go_ret
  exact ⟨rfl, hb.out⟩
set_option maxRecDepth 100000 in
set_option maxHeartbeats 8000000 in
theorem syncs_ok (n : Nat) (h1 : 1 ≤ n) (h2 : n ≤ 1048576) (A : Option Addr) (cap : Nat) (ls : List DAc) (K : Option Addr) (ck : Nat) (ks : List Int) (w : World) (hlc : ls.length ≤ cap) (hm : cap ≤ 9223372036854775807) (hacts : Hid (Acts w A ls)) (hk1 : ks.length ≤ ck) (hk2 : ck ≤ 9223372036854775807) (hkr : Hid (Mi.Rd w w.heap.size K ks)) (hkb : Hid (0 < ks.length → ∀ a, K = some a → a.block < w.heap.size)) :
    Calls Try.prog 5 #[.int .i64 n, .slice A ls.length cap, .slice K ks.length ck] w fun e w' => e = .returned (.bool true) ∧ Below w.heap.size w w' := by
  have N := Lib.hid (done_ok n h1 h2 A cap ls w hlc hm hacts)
  have HAW := Lib.hid awake_any
  obtain ⟨s, hs⟩ : ∃ s, w.heap.size = s := ⟨_, rfl⟩
  have HS := Lib.hid hs
  rw [hs] at N hkr hkb ⊢
  obtain ⟨L, hL⟩ : ∃ L, ls.length = L := ⟨_, rfl⟩
  rw [hL] at N ⊢
  obtain ⟨kl, hkl⟩ : ∃ kl, ks.length = kl := ⟨_, rfl⟩
  have HKL := Lib.hid hkl
  rw [hkl] at hk1 ⊢
  clear hL hs hacts hlc hm hkl
  go_enter Try.func5, Try.ntmps5
  go_wp2_with (first
    | (go_at_call 17; refine N.out.mono ?_; rintro e w1 ⟨st, rfl, hd1, hn1, hb1⟩; have NM := Lib.hid (Names_f w1 (s + 1) s st hd1))
    | (go_at_call 19; refine NM.out.mono ?_; rintro e w2 ⟨v, rfl, hS, hb2⟩; obtain ⟨A1, c1, rfl, hl1, hm1, hcells⟩ := hS.out.form; rw [show (namesL st.files).length = st.files.length from List.length_map ..] at hl1 hcells ⊢; have HC1 := Lib.hid hcells; clear hcells hS))
  obtain ⟨F, hF⟩ : ∃ F, st.files.length = F := ⟨_, rfl⟩
  have HF := Lib.hid hF
  rw [hF] at hl1 HC1 ⊢
  have HQ2 : Hid (Dq (Rg (From s) w1.heap.size w2.heap.size) w2 (s + 1) s (synK st 0)) := by
    rw [synK_zero hn1.out]
    exact (hd1.out.dq.mono fun k hk e => .inl ⟨e, hk⟩ : Dq (Rg (From s) w1.heap.size w2.heap.size) w1 (s + 1) s st).below hb2.out
  have HO2 : Hid ((synK st 0).Ok) := by rw [synK_zero hn1.out]; exact hd1.out.ok
  have B2 : Hid (Below s w w2) := hb1.out.trans (hb2.out.mono hd1.out.lt)
  have HS1 : Hid (s ≤ w1.heap.size) := hd1.out.lt
  clear hF NM N
  go_loopw [9] (fun u wr => ∃ k : Nat, k ≤ F ∧ u = .int .i64 k ∧ Hid (Dq (Rg (From s) w1.heap.size w2.heap.size) wr (s + 1) s (synK st k)) ∧ Hid ((synK st k).Ok) ∧ Hid (But (Rg (From s) w1.heap.size w2.heap.size) w2 wr)) (fun u _ => F - (intOf u).toNat)
  case atStart => exact ⟨0, Nat.zero_le _, rfl, HQ2, HO2, But.refl _ _⟩
  case round =>
    obtain ⟨k, hk, rfl, hq, hok, hb⟩ := hrel
    clear HQ2 HO2
    have BR : Hid (Below s w wr) := B2.out.trans (hb.out.below (Nat.le_trans HS1.out hb2.out.size) fun j hj => by
      have h1 := HS1.out
      have h2 := hb2.out.size
      rcases hj with hj | hj
      · exact hj.1
      · omega)
    by_cases hlt : k < F
    · have hkF : k < st.files.length := by rw [HF.out]; exact hlt
      obtain ⟨g, rfl, hg1, hg2, hgc⟩ := HC1.out (by omega)
      obtain ⟨he, hsy⟩ := synK_step hd1.out.ok hkF
      obtain ⟨nm, hnm⟩ : ∃ nm, st.files[k].1 = nm := ⟨_, rfl⟩
      rw [hnm] at he hsy
      have y1 : wr.cell? ⟨g, k, none⟩ = some (nmV nm) := by
        have e1 := hgc k hlt
        rw [show (namesL st.files).getD k [] = nm by simp [namesL, hkF, hnm]] at e1
        rw [← e1]
        exact World.cell?_of_block (a := ⟨g, k, none⟩) (hb.out.same g hg2 (Rg.out' hg1 hg2))
      have SY : Hid (Calls Try.prog 23 #[.pointer (some ⟨s + 1, 0, none⟩), nmV nm] wr (OpP (Rg (From s) w1.heap.size w2.heap.size) wr (s + 1) s (synK st (k + 1)) 0)) := by
        have h := Sync_any wr (s + 1) s (synK st k) hq hok nm
        rw [he, hsy] at h
        exact h
      have HO3 : Hid ((synK st (k + 1)).Ok) := by rw [← hsy]; exact hok.out.sync nm
      obtain ⟨ns, hns⟩ : ∃ ns, (⟨nm.toArray⟩ : ByteArray) = ns := ⟨_, rfl⟩
      simp only [nmV] at y1 SY
      rw [hns] at y1 SY
      have q1 : (k : Int) < (F : Int) := by omega
      have q0 : (0 : Int) ≤ (k : Int) := by omega
      clear hns hnm he hsy hgc hkF HC1
      go_wp2_with (go_at_call 23; refine SY.out.mono ?_; rintro e w3 ⟨rfl, hq3, hb3⟩)
      go_roundw
      case rel =>
        refine ⟨k + 1, by omega, by go_num, hq3.out.mono fun j _ hj => ?_, HO3, hb.out.trans hb3.out fun _ _ e => e⟩
        rcases hj with hj | hj
        · exact hj
        · exact .inr (Nat.le_trans hb.out.size hj)
      case measure => simp [intOf]; omega
    · obtain rfl : k = F := by omega
      have q1 : ¬ (k : Int) < (k : Int) := by omega
      have hd : Hid (Df s wr (s + 1) s (synK st k)) := ⟨hq.out.mono fun j _ hj => by
        have h1 := HS1.out
        have h2 := hb2.out.size
        rcases hj with hj | hj
        · exact hj.1
        · show s ≤ j; omega, hok.out⟩
      have FK := Lib.hid (Fork_t wr s (s + 1) s (synK st k) hd)
      obtain ⟨t, ht⟩ : ∃ t, wr.heap.size = t := ⟨_, rfl⟩
      have HT := Lib.hid ht
      rw [ht] at FK
      have HST : Hid (s ≤ t) := by have := hd.out.lt; rw [ht] at this; exact this
      have HFE : Hid ((crashS (synK st k) ks).files = (synK st k).files) := by rw [← HF.out]; exact synK_all hd1.out.ok ks
      clear ht hk hlt
      go_wp2_with (first
        | (go_at_call 12; refine FK.out.mono ?_; rintro e w4 ⟨rfl, hc4, hd4, hb4⟩; have BR4 : Hid (Below s w w4) := BR.out.trans (hb4.out.mono HST.out); have CR := Lib.hid (Crash_f2 (B := w4.heap.size) w4 t (t + 1) (synK st k) (hc4.out.dq.mono fun j hj e => ⟨e, hj⟩) hok K ck ks (by have h1 := hkr.out; exact (h1.below BR4.out).more (by have := hc4.out.lt; have := HST.out; omega)) (by rw [HKL.out]; exact hk1) hk2 fun h0 a e => .inl (by have := hkb.out h0 a e; have := HST.out; omega)); rw [HKL.out] at CR)
        | (go_at_call 13; refine CR.out.mono ?_; rintro e w5 ⟨rfl, hc5, hb5⟩; have hd5 : Hid (Df s w5 (s + 1) s (synK st k)) := ⟨(hd4.out.but (but_from hb5.out) fun j hj e => (by have h1 : t ≤ j := e; have := hj.2; omega)).mono fun j _ hj => hj.1, hok.out⟩; have BR5 : Hid (Below s w w5) := BR4.out.trans (hb5.out.mono HST.out); have SM := Lib.hid (same_yes w5 t t (t + 1) s (s + 1) s _ _ hc5 hd5 rfl rfl HFE.out))
        | (go_at_call 24; refine SM.out.mono ?_; rintro e w6 ⟨rfl, hb6⟩)
        | (go_at_call 11; refine (HAW.out _).mono ?_; rintro e w7 ⟨rfl, hb7⟩))
      go_ret
      exact ⟨rfl, BR5.out.trans ((hb6.out.trans (hb7.out.mono hb6.out.size)).mono hd5.out.lt)⟩
theorem dsyncs (n : Int) (A : Option Addr) (len cap : Nat) (ls : List DAc) (K : Option Addr) (kl ck : Nat) (ks : List Int) (w : World) (w0 : (Lit.int .i64 n).wf = true) (w1 : len = ls.length ∧ len ≤ cap ∧ cap ≤ 9223372036854775807 ∧ Acts w A ls) (w2 : Mi.BySlice w K kl ck ks) (c2 : ck * 8 ≤ 140737488351232) :
    Calls Try.prog 5 #[.int .i64 n, .slice A len cap, .slice K kl ck] w fun e w' => e = .returned (.bool true) ∧ Below w.heap.size w w' := by
  obtain ⟨rfl, hlc, hm, ha⟩ := w1
  obtain ⟨rfl, h1, h2, h3, _, _⟩ := w2
  by_cases h : n < 1 ∨ 1048576 < n
  · exact syncs_bad n h _ _ w
  · obtain ⟨q, rfl⟩ : ∃ q : Nat, n = q := ⟨n.toNat, by omega⟩
    exact syncs_ok q (by omega) (by omega) A cap ls K ck ks w hlc hm ha h1 h2 h3 fun h0 a e => by
      obtain ⟨b, off, e2, hb, _⟩ := h3 h0
      rw [e] at e2
      cases e2
      exact hb
end Go.Proofs.Ytdjgkoklkoahbaa.Dk
