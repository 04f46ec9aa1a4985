/- The walk of the law DiskCrashes. -/
import Derived.Test.YtdjgkoklkoahbaaDkSyncs
namespace Go.Proofs.Ytdjgkoklkoahbaa.Dk
open Go.RowKit
open Go.Proofs.Ytdjgkoklkoahbaa.Me Go.Proofs.Ytdjgkoklkoahbaa.Hd
set_option linter.unusedVariables false
set_option linter.unusedSimpArgs false

theorem crashes_bad (n : Int) (h : n < 1 ∨ 1048576 < n) (v v2 : Value) (w : World) : Calls Try.prog 4 #[.int .i64 n, v, v2] w fun e w' => e = .returned (.bool true) ∧ Below w.heap.size w w' := by
  have N := Lib.hid (fun W => done_bad n h v W)
  have M := Lib.hid (fun W => may_no n h W)
  have HW := Lib.hid awake_any
  clear h
  go_enter Try.func4, Try.ntmps4
  go_wp2_with (first
    | (go_at_call 17; refine (N.out _).mono ?_; rintro e w' ⟨rfl, rfl⟩)
    | (go_at_call 18; refine (M.out _).mono ?_; rintro e w' ⟨rfl, rfl⟩)
    | (go_at_call 11; refine (HW.out _).mono ?_; rintro e w' ⟨rfl, hb⟩))
  go_ret
  exact ⟨rfl, hb.out⟩
/-- What is left of a file: a beginning, all of it safe. -/
theorem crashF_facts {f : Fl} (h : f.safe ≤ f.bytes.length) (k : Int) : ∃ m, (crashF f k).bytes = f.bytes.take m ∧ (crashF f k).safe = m ∧ m ≤ f.bytes.length ∧ f.safe ≤ m ∧ (k = 0 → m = f.safe) :=
  ⟨f.safe + min k.toNat (f.bytes.length - f.safe), rfl, rfl, by omega, by omega, fun e => by subst e; simp⟩
set_option maxRecDepth 100000 in
set_option maxHeartbeats 8000000 in
theorem crashes_ok (n : Nat) (h1 : 1 ≤ n) (h2 : n ≤ 1048576) (A : Option Addr) (cap : Nat) (ls : List DAc) (K : Option Addr) (ck : Nat) (ks : List Int) (w : World) (hlc : ls.length ≤ cap) (hm : cap ≤ 9223372036854775807) (hacts : Hid (Acts w A ls)) (hk1 : ks.length ≤ ck) (hk2 : ck ≤ 9223372036854775807) (hkr : Hid (Mi.Rd w w.heap.size K ks)) (hkb : Hid (0 < ks.length → ∀ a, K = some a → a.block < w.heap.size)) :
    Calls Try.prog 4 #[.int .i64 n, .slice A ls.length cap, .slice K ks.length ck] w fun e w' => e = .returned (.bool true) ∧ Below w.heap.size w w' := by
  have N := Lib.hid (done_ok n h1 h2 A cap ls w hlc hm hacts)
  have HAW := Lib.hid awake_any
  obtain ⟨s, hs⟩ : ∃ s, w.heap.size = s := ⟨_, rfl⟩
  have HS := Lib.hid hs
  rw [hs] at N hkr hkb ⊢
  obtain ⟨L, hL⟩ : ∃ L, ls.length = L := ⟨_, rfl⟩
  rw [hL] at N ⊢
  obtain ⟨kl, hkl⟩ : ∃ kl, ks.length = kl := ⟨_, rfl⟩
  have HKL := Lib.hid hkl
  rw [hkl] at hk1 ⊢
  clear hL hs hacts hlc hm hkl
  go_enter Try.func4, Try.ntmps4
  go_wp2_with (first
    | (go_at_call 17; refine N.out.mono ?_; rintro e w1 ⟨st, rfl, hd1, hn1, hb1⟩; have FK := Lib.hid (Fork_t w1 s (s + 1) s st hd1); obtain ⟨t, ht⟩ : ∃ t, w1.heap.size = t := ⟨_, rfl⟩; have HT := Lib.hid ht; rw [ht] at FK; have HST : Hid (s ≤ t) := (by have := hd1.out.lt; rw [ht] at this; exact this); clear ht)
    | (go_at_call 12; refine FK.out.mono ?_; rintro e w2 ⟨rfl, hc2, hd2, hb2⟩; have B2 : Hid (Below s w w2) := hb1.out.trans (hb2.out.mono HST.out); have CR := Lib.hid (Crash_f2 (B := w2.heap.size) w2 t (t + 1) st (hc2.out.dq.mono fun j hj e => ⟨e, hj⟩) hd1.out.ok K ck ks (by have h1 := hkr.out; exact (h1.below B2.out).more (by have := hc2.out.lt; have := HST.out; omega)) (by rw [HKL.out]; exact hk1) hk2 fun h0 a e => .inl (by have := hkb.out h0 a e; have := HST.out; omega)); rw [HKL.out] at CR)
    | (go_at_call 13; refine CR.out.mono ?_; rintro e w3 ⟨rfl, hc3, hb3⟩; have hd3 : Hid (Df s w3 (s + 1) s st) := ⟨(hd2.out.but (but_from hb3.out) fun j hj e => (by have h1 : t ≤ j := e; have := hj.2; omega)).mono fun j _ hj => hj.1, hd1.out.ok⟩; have B3 : Hid (Below s w w3) := B2.out.trans (hb3.out.mono HST.out); have N1 := Lib.hid (Names_f w3 (s + 1) s st hd3))
    | (go_at_call 19; (with_reducible refine N1.out.mono ?_); rintro e w4 ⟨v1, rfl, hS1, hb4⟩; obtain ⟨A1, c1, rfl, hl1, hm1, hcells⟩ := hS1.out.form; rw [show (namesL st.files).length = st.files.length from List.length_map ..] at hl1 hcells ⊢; have HC1 := Lib.hid hcells; clear hcells hS1; have N2 := Lib.hid (Names_f w4 t (t + 1) (crashS st ks) (hc3.out.below hb4.out)))
    | (go_at_call 19; (with_reducible refine N2.out.mono ?_); rintro e w5 ⟨v2, rfl, hS2, hb5⟩; obtain ⟨A2, c2, rfl, hl2, hm2, hcells2⟩ := hS2.out.form; rw [show (namesL (crashS st ks).files).length = st.files.length from (List.length_map ..).trans (crash_len ..)] at hl2 hcells2 ⊢; clear hcells2 hS2))
  obtain ⟨F, hF⟩ : ∃ F, st.files.length = F := ⟨_, rfl⟩
  have HF := Lib.hid hF
  rw [hF] at hl1 hl2 HC1 ⊢
  have hd5 : Hid (Df s w5 (s + 1) s st) := (hd3.out.below hb4.out).below hb5.out
  have hc5 : Hid (Df t w5 t (t + 1) (crashS st ks)) := (hc3.out.below hb4.out).below hb5.out
  have B5 : Hid (Below s w w5) := (B3.out.trans (hb4.out.mono hd3.out.lt)).trans (hb5.out.mono (Nat.le_trans hd3.out.lt hb4.out.size))
  have HD : Hid (st.down = false) := hn1.out.down
  clear hF N1 N2 N FK CR hl2
  go_wp2
  go_loopw [10] (fun u wr => ∃ k : Nat, k ≤ F ∧ u = .int .i64 k ∧ Hid (Below w5.heap.size w5 wr)) (fun u _ => F - (intOf u).toNat)
  case atStart => exact ⟨0, Nat.zero_le _, rfl, Below.refl _ _⟩
  case round =>
    obtain ⟨k, hk, rfl, hb⟩ := hrel
    have BR : Hid (Below s w wr) := B5.out.trans (hb.out.mono hd5.out.lt)
    by_cases hlt : k < F
    · have hkF : k < st.files.length := by rw [HF.out]; exact hlt
      obtain ⟨g, rfl, hg1, hg2, hgc⟩ := HC1.out (by omega)
      obtain ⟨nm, hnm⟩ : ∃ nm, st.files[k].1 = nm := ⟨_, rfl⟩
      obtain ⟨f, hff⟩ : ∃ f, st.files[k].2 = f := ⟨_, rfl⟩
      have x1 := hgc k hlt
      rw [show (namesL st.files).getD k [] = nm by simp [namesL, hkF, hnm]] at x1
      have X1 : Hid (∀ W, Below w5.heap.size w5 W → W.cell? ⟨g, k, none⟩ = some (nmV nm)) := fun W hW => by
        rw [hW.cell (p := ⟨g, k, none⟩) (show g < _ by have := hb5.out.size; omega), hb5.out.cell (p := ⟨g, k, none⟩) hg2]; exact x1
      have hmem := List.getElem_mem hkF
      have hsl : f.safe ≤ f.bytes.length := by rw [← hff]; exact hd1.out.ok.safe _ hmem
      have hby : ∀ z ∈ f.bytes, z < 256 := by rw [← hff]; exact hd1.out.ok.byte _ hmem
      obtain ⟨m, em1, em2, hmn, hsm, hkz⟩ := crashF_facts hsl (ks.getD k 0)
      have hkf2 : k < (crashS st ks).files.length := by show k < (crashL st.files ks).length; rw [crash_len]; exact hkF
      have hat : (crashS st ks).files[k] = (nm, crashF f (ks.getD k 0)) := by
        have := crash_at st.files ks hkF
        rw [hnm, hff] at this
        exact this
      have hlm : (crashF f (ks.getD k 0)).bytes.length = m := by rw [em1, List.length_take]; omega
      have R1 : Hid (∀ W, Below w5.heap.size w5 W → Calls Try.prog 20 #[.pointer (some ⟨s + 1, 0, none⟩), nmV nm] W fun e w' => ∃ A, e = .returned (.tuple #[.slice A f.bytes.length f.bytes.length, .int .i64 0]) ∧ Hid (Me.Rd w' w'.heap.size A f.bytes) ∧ Hid (A = none → f.bytes.length = 0) ∧ Hid (Below W.heap.size W w')) := fun W hW => by
        have h := read_place W (hd5.out.below hW) HD.out (i := k) hkF
        simp only [hnm, hff] at h
        exact h
      have R2 : Hid (∀ W, Below w5.heap.size w5 W → Calls Try.prog 20 #[.pointer (some ⟨t, 0, none⟩), nmV nm] W fun e w' => ∃ A, e = .returned (.tuple #[.slice A m m, .int .i64 0]) ∧ Hid (Me.Rd w' w'.heap.size A (f.bytes.take m)) ∧ Hid (A = none → m = 0) ∧ Hid (Below W.heap.size W w')) := fun W hW => by
        have h := read_place W (hc5.out.below hW) rfl (i := k) hkf2
        simp only [hat, hlm] at h
        rw [em1] at h
        exact h
      have S1 : Hid (∀ W, Below w5.heap.size w5 W → Calls Try.prog 21 #[.pointer (some ⟨s + 1, 0, none⟩), nmV nm] W fun e w' => e = .returned (.int .i64 (f.safe : Int)) ∧ W = w') := fun W hW => by
        have h := safe_place W (hd5.out.below hW) HD.out (i := k) hkF
        simp only [hnm, hff] at h
        exact h
      have S2 : Hid (∀ W, Below w5.heap.size w5 W → Calls Try.prog 21 #[.pointer (some ⟨t, 0, none⟩), nmV nm] W fun e w' => e = .returned (.int .i64 (m : Int)) ∧ W = w') := fun W hW => by
        have h := safe_place W (hc5.out.below hW) rfl (i := k) hkf2
        simp only [hat, em2] at h
        exact h
      have hkz2 : ¬ k < kl → m = f.safe := fun h => hkz (by
        rw [List.getD_eq_getElem?_getD, List.getElem?_eq_none (by rw [HKL.out]; omega)]; rfl)
      obtain ⟨ns, hns⟩ : ∃ ns, (⟨nm.toArray⟩ : ByteArray) = ns := ⟨_, rfl⟩
      have y1 := X1.out wr hb.out
      simp only [nmV] at X1 R1 R2 S1 S2 y1
      rw [hns] at X1 R1 R2 S1 S2 y1
      have q1 : (k : Int) < (F : Int) := by omega
      have q0 : (0 : Int) ≤ (k : Int) := by omega
      clear hns hgc hkF HC1 x1 hnm hff hmem em1 em2 hat hlm hkz hkf2
      obtain ⟨l, hl⟩ : ∃ l, f.bytes = l := ⟨_, rfl⟩
      rw [hl] at R1 R2 hsl hmn hby
      obtain ⟨len, hlen⟩ : ∃ len, l.length = len := ⟨_, rfl⟩
      have HN := Lib.hid hlen
      rw [hlen] at R1 hsl hmn
      obtain ⟨sf, hsf⟩ : ∃ sf, f.safe = sf := ⟨_, rfl⟩
      rw [hsf] at S1 hsm hkz2 hsl
      have HLM : Hid ((l.take m).length = m) := by show _ = _; rw [List.length_take, HN.out]; omega
      clear hl hlen hsf hby
      have a1 : ¬ (len : Int) < (m : Int) := by omega
      have a2 : ¬ (m : Int) < (sf : Int) := by omega
      have a3 : (m : Int) ≤ (len : Int) := by omega
      have a4 : (0 : Int) ≤ (m : Int) := by omega
      have HKZ := Lib.hid hkz2
      clear hkz2
      go_wp2_with (first
        | (go_at_call 20; (with_reducible refine (R1.out wr hb.out).mono ?_); rintro e w6 ⟨A6, rfl, r6, n6, hb6⟩; have B6 : Hid (Below w5.heap.size w5 w6) := hb.out.trans (hb6.out.mono hb.out.size); have y2 := X1.out w6 B6.out; clear hb6)
        | (go_at_call 20; (with_reducible refine (R2.out w6 B6.out).mono ?_); rintro e w7 ⟨A7, rfl, r7, n7, hb7⟩; have B7 : Hid (Below w5.heap.size w5 w7) := B6.out.trans (hb7.out.mono B6.out.size); have y3 := X1.out w7 B7.out; have r6' := Lib.hid ((r6.out.below hb7.out).more hb7.out.size); clear hb7))
      have hv1 : ∀ x, (convert 33 9 (.slice A7 m m)).run Try.prog (w7.drewN x) = .ok (.string (Me.strOf (l.take m))) (w7.drewN x) := fun x => by
        have := conv_rd (w7.drewN x) _ A7 (l.take m) m (r7.out.below (Me.below_drewN (Below.refl _ w7) x)) (fun e => by have := n7.out e; rw [HLM.out]; omega)
        rwa [HLM.out] at this
      have hv2 : ∀ x, (convert 33 9 (.slice A6 m len)).run Try.prog (w7.drewN x) = .ok (.string (Me.strOf (l.take m))) (w7.drewN x) := fun x => by
        have := conv_rd (w7.drewN x) _ A6 (l.take m) len ((r6'.out.take m).below (Me.below_drewN (Below.refl _ w7) x)) (fun e => by have := n6.out e; rw [HLM.out]; omega)
        rwa [HLM.out] at this
      have T1 := Lib.hid (fun x => S1.out (w7.drewN x) (Me.below_drewN B7.out x))
      have T2 := Lib.hid (fun x => S2.out (w7.drewN x) (Me.below_drewN B7.out x))
      go_quiet (first
        | (go_at_call 21; (with_reducible exact (T1.out _).mono fun _ _ h => ⟨h.1, _, h.2.symm⟩))
        | (go_at_call 21; (with_reducible exact (T2.out _).mono fun _ _ h => ⟨h.1, _, h.2.symm⟩)))
      obtain ⟨w8, hw8⟩ : ∃ w8, w7.drewN nq = w8 := ⟨_, rfl⟩
      have B8 : Hid (Below w5.heap.size w5 w8) := by show Below _ _ _; rw [← hw8]; exact Me.below_drewN B7.out _
      rw [hw8]
      have y4 := X1.out w8 B8.out
      have T3 := Lib.hid (S1.out w8 B8.out)
      clear hw8 hv1 hv2 y1 y2 y3 T1 T2
      by_cases hkl : k < kl
      · have b1 : ¬ (kl : Int) ≤ (k : Int) := by omega
        clear HKZ
        go_wp2
        go_roundw
        case rel => exact ⟨k + 1, by omega, by go_num, B8⟩
        case measure => simp [intOf]; omega
      · have b1 : (kl : Int) ≤ (k : Int) := by omega
        have e1 := HKZ.out hkl
        subst e1
        go_wp2_with (go_at_call 21; refine T3.out.mono ?_; rintro e w9 ⟨rfl, rfl⟩)
        go_roundw
        case rel => exact ⟨k + 1, by omega, by go_num, B8⟩
        case measure => simp [intOf]; omega
    · obtain rfl : k = F := by omega
      have q1 : ¬ (k : Int) < (k : Int) := by omega
      have DN := Lib.hid (Down_f wr t (t + 1) (crashS st ks) (hc5.out.below hb.out))
      rw [show (crashS st ks).down = false from rfl] at DN
      clear hk hlt
      go_wp2_with (first
        | (go_at_call 22; refine DN.out.mono ?_; rintro e w6 ⟨rfl, rfl⟩)
        | (go_at_call 11; refine (HAW.out _).mono ?_; rintro e w7 ⟨rfl, hb7⟩))
      go_ret
      exact ⟨rfl, BR.out.trans (hb7.out.mono (Nat.le_trans hd5.out.lt hb.out.size))⟩
theorem dcrashes (n : Int) (A : Option Addr) (len cap : Nat) (ls : List DAc) (K : Option Addr) (kl ck : Nat) (ks : List Int) (w : World) (w0 : (Lit.int .i64 n).wf = true) (w1 : len = ls.length ∧ len ≤ cap ∧ cap ≤ 9223372036854775807 ∧ Acts w A ls) (w2 : Mi.BySlice w K kl ck ks) (c2 : ck * 8 ≤ 140737488351232) :
    Calls Try.prog 4 #[.int .i64 n, .slice A len cap, .slice K kl ck] w fun e w' => e = .returned (.bool true) ∧ Below w.heap.size w w' := by
  obtain ⟨rfl, hlc, hm, ha⟩ := w1
  obtain ⟨rfl, h1, h2, h3, _, _⟩ := w2
  by_cases h : n < 1 ∨ 1048576 < n
  · exact crashes_bad n h _ _ w
  · obtain ⟨q, rfl⟩ : ∃ q : Nat, n = q := ⟨n.toNat, by omega⟩
    exact crashes_ok q (by omega) (by omega) A cap ls K ck ks w hlc hm ha h1 h2 h3 fun h0 a e => by
      obtain ⟨b, off, e2, hb, _⟩ := h3 h0
      rw [e] at e2
      cases e2
      exact hb
end Go.Proofs.Ytdjgkoklkoahbaa.Dk
