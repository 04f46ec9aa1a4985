/- The walk of the law HdlcFinds. -/
import Derived.Test.YtoaffkmjobmhaaaHdThere
import Derived.StillTailTactics
namespace Go.Proofs.Ytoaffkmjobmhaaa.Hd
open Go.RowKit
open Go.Proofs.Ytoaffkmjobmhaaa.Me Go.Proofs.Ytoaffkmjobmhaaa.St
open Go.Proofs.Ytoaffkmjobmhaaa.Cr (addL rightB)
set_option linter.unusedVariables false
set_option linter.unusedSimpArgs false

theorem FeedN.parts {w wr : World} {D : Nat} {v0 vr : Value} {d : Dec} {ts : List (List Nat)} (h : FeedN w D v0 d ts vr wr) : ∃ A c, Dblk wr D d (.slice A d.inn.length c) ∧ Me.Own wr 0 (.slice A d.inn.length c) d.inn ∧ (∀ j, (Value.slice A d.inn.length c).ownBlock = some j → v0.ownBlock = some j ∨ w.heap.size ≤ j) ∧ But (fun j => j = D ∨ v0.ownBlock = some j) w wr ∧ Rws (fun j => w.heap.size ≤ j ∧ (Value.slice A d.inn.length c).ownBlock ≠ some j) wr vr ts := h
/-- The frame's bytes lie where they lay behind the first feed and Stats. -/
theorem finds_rd {w1 w2 w3 w4 : World} {D n c : Nat} {A5 : Option Addr} {fr : List Nat} {d : Dec} {v : Value} (h4 : Below w3.heap.size w3 w4) (h3 : But (fun j => j = D ∨ (Value.slice none 0 0).ownBlock = some j) w2 w3) (ho : Me.Own w2 w1.heap.size (.slice A5 n c) fr) (hd : Dblk w2 D d v) (hb : ∀ z ∈ fr, z < 256) : Rd w4 w4.heap.size A5 fr := by
  have o : Me.Own w4 w1.heap.size (.slice A5 n c) fr := own_same ho fun k e hk => (h4.block k (Nat.lt_of_lt_of_le hk h3.size)).trans (h3.same k hk fun hs => by
    rcases hs with hs | hs
    · subst hs; exact hd.not_own ho e
    · cases hs)
  exact (own_rd o hb).1
theorem finds_ne {w1 w2 : World} {n c n6 c6 : Nat} {A5 A6 : Option Addr} {fr : List Nat} (hg : ∀ j, (Value.slice A6 n6 c6).ownBlock = some j → (Value.slice none 0 0).ownBlock = some j ∨ w2.heap.size ≤ j) (ho : Me.Own w2 w1.heap.size (.slice A5 n c) fr) : ∀ a, A5 = some a → (Value.slice A6 n6 c6).ownBlock ≠ some a.block := by
  intro a ha e
  have h1 := (ho.lt a.block (by rw [ha]; rfl)).2
  rcases hg _ e with h | h
  · cases h
  · omega
theorem finds_below {w w2 w3 w4 w5 : World} {n6 c6 : Nat} {A6 : Option Addr} (b2 : Below w.heap.size w w2) (h3 : But (fun j => j = w.heap.size ∨ (Value.slice none 0 0).ownBlock = some j) w2 w3) (h4 : Below w3.heap.size w3 w4) (h5 : But (fun j => j = w.heap.size ∨ (Value.slice A6 n6 c6).ownBlock = some j) w4 w5) (hg : ∀ j, (Value.slice A6 n6 c6).ownBlock = some j → (Value.slice none 0 0).ownBlock = some j ∨ w2.heap.size ≤ j) : Below w.heap.size w w5 := by
  have s2 := b2.size
  have b3 : Below w.heap.size w w3 := b2.trans (h3.below s2 fun k e => by
    rcases e with e | e
    · omega
    · cases e)
  have b4 : Below w.heap.size w w4 := b3.trans (h4.mono b3.size)
  exact b4.trans (h5.below b4.size fun k e => by
    rcases e with e | e
    · omega
    · rcases hg k e with h | h
      · cases h
      · omega)
theorem field_good (a b c d e : Int) (w : World) : (Instr.field 32 (.agg #[.int .i64 a, .int .i64 b, .int .i64 c, .int .i64 d, .int .i64 e]) 0).run Try.prog w = .ok (.int .i64 a) w := by
  simp [Instr.field, Sem.run_bind, run_underlying Try.underlying32, part, asAgg, go_sem]
set_option maxRecDepth 100000 in
set_option maxHeartbeats 2000000 in
theorem finds_fit (A : Option Addr) (cap : Nat) (z : List Nat) (A1 : Option Addr) (cap1 : Nat) (l : List Nat) (w : World) (hz : BySlice w A z.length cap z) (hl : BySlice w A1 l.length cap1 l) (c0 : cap ≤ 1048576) (c1 : cap1 ≤ 1048576) (hf : fits l = true) :
    Calls Try.prog 5 #[.slice A z.length cap, .slice A1 l.length cap1] w fun e w' => e = .returned (.bool true) ∧ Below w.heap.size w w' := by
  obtain ⟨_, h2, _, h3, hA⟩ := hz
  obtain ⟨_, k2, _, k3, kA⟩ := hl
  have HZ := Lib.hid h3
  have HR := Lib.hid k3
  have HA1 := Lib.hid kA
  have HLB := Lib.hid k3.1
  have hf2 := hf
  simp only [fits, Bool.and_eq_true, decide_eq_true_eq] at hf2
  have HN := Lib.hid (New_any w)
  -- the first feed
  obtain ⟨G1, T1, L1⟩ := Good.new.feed z h3.1
  have F1 := fun (w2 : World) (hd : Hid (Dblk w2 w.heap.size newD (.slice none 0 0))) (hr : Hid (Rd w2 w2.heap.size A z)) => Feed_any w2 w.heap.size newD none 0 hd (Me.Own.nil _ _) Good.new A cap z hr (fun a _ => by simp [Value.ownBlock]) (by have : tot newD.met = 0 := rfl; omega) (by omega)
  obtain ⟨d1, hd1⟩ : ∃ d1, (feedD rightB newD z).1 = d1 := ⟨_, rfl⟩
  rw [hd1] at G1 T1
  simp only [hd1] at F1
  have t1 : tot d1.met ≤ 1048576 := by have : tot newD.met = 0 := rfl; omega
  -- the second
  obtain ⟨m, t, hft, ht1⟩ := frame_found sums k3.1 hf2.1 hf2.2 d1
  have hgood := feed_good rightB (frameL addL l) d1
  rw [hft] at hgood
  have E := fun (w1 : World) (hr : Hid (Rd w1 w1.heap.size A1 l)) => (Encode_any A1 cap1 l w1 hr k2 (by omega)).mono fun _ _ h => h.q
  have e1 : encL l = frameL addL l := if_pos hf
  have e2 : encE l = 0 := if_pos hf
  simp only [e1, e2] at E
  have hfl := frame_len (c := l)
  have h260 := stuffed_len sums (c := l) hf2.2
  have HFB := Lib.hid (frame_lt k3.1)
  have F2 := fun (w4 : World) (A6 : Option Addr) (c6 : Nat) (A5 : Option Addr) (c5 : Nat) (hd : Hid (Dblk w4 w.heap.size d1 (.slice A6 d1.inn.length c6))) (ho : Hid (Me.Own w4 0 (.slice A6 d1.inn.length c6) d1.inn)) (hr : Hid (Rd w4 w4.heap.size A5 (frameL addL l))) (hne : Hid (∀ a, A5 = some a → (Value.slice A6 d1.inn.length c6).ownBlock ≠ some a.block)) =>
    Feed_any w4 w.heap.size d1 A6 c6 hd ho G1 A5 c5 (frameL addL l) hr hne (by omega) (by omega)
  simp only [hft] at F2
  obtain ⟨fr, hfr⟩ : ∃ fr, frameL addL l = fr := ⟨_, rfl⟩
  simp only [hfr] at E F2 HFB
  obtain ⟨ts, hts⟩ : ∃ ts, t ++ [l] = ts := ⟨_, rfl⟩
  obtain ⟨n, hn⟩ : ∃ n, ts.length = n := ⟨_, rfl⟩
  have hn12 : 1 ≤ n ∧ n ≤ 2 := by rw [← hn, ← hts]; simp; omega
  have hlast : lsAt ts (n - 1) = l := by
    rw [← hn, ← hts]; simp [lsAt]
  rw [hts] at hgood
  simp only [hts] at F2
  rw [hn] at hgood
  simp only at hgood
  have hg1 : d1.met.good ≤ 1048576 := (tot_each t1).1
  have hTB : Hid (∀ c ∈ ts, ∀ y ∈ c, y < 256) := by
    intro c hc
    have h8 := frame_lt k3.1
    rw [hfr] at h8
    have : (feedD rightB d1 fr).2 = ts := by rw [← hfr, hft, hts]
    -- what is told are bytes of what was gathered or came
    rw [← hts] at hc
    rcases List.mem_append.mp hc with hc | hc
    · exact told_bytes_any G1 HFB.out c (by rw [this, ← hts]; exact List.mem_append_left _ hc)
    · simp at hc; subst hc; exact k3.1
  have HE := Lib.hid E
  have HF1 := Lib.hid F1
  have HF2 := Lib.hid F2
  have HLAST := Lib.hid hlast
  have HTN := Lib.hid hn
  have hw1 : IntKind.i64.wrap ((m.good : Int) - (d1.met.good : Int)) = (n : Int) := by
    rw [hgood]
    have e : (((d1.met.good + n : Nat) : Int) - (d1.met.good : Int)) = (n : Int) := by omega
    rw [e]; exact IntWalk.i64_in _ (by omega)
  obtain ⟨g, hg⟩ : ∃ g, m.good = g := ⟨_, rfl⟩
  rw [hg] at hw1
  have HMG := Lib.hid hg
  clear h2 h3 hA k2 k3 kA hf2 L1 E F1 F2 e1 e2 hfl h260 hfr hft hts hn hlast hgood hd1 hg ht1 T1 t1
  have kf := field_good
  go_enter Try.func5, Try.ntmps5
  go_wp2_with (first
    | (go_at_call 13; refine HN.out.mono ?_; rintro e w1 ⟨rfl, hd1, hb1⟩)
    | (go_at_call 10; refine (HE.out w1 ((HR.out.below hb1.out).more hb1.out.size)).mono ?_; rintro e w2 ⟨A5, c5, rfl, HO5, HB5⟩; have B2 : Hid (Below w.heap.size w w2) := hb1.out.trans (HB5.out.mono hb1.out.size); have D2 : Hid (Dblk w2 w.heap.size newD (.slice none 0 0)) := (HB5.out.block _ hd1.out.lt).trans hd1.out; have Q0 : Hid (Rd w2 w2.heap.size A z) := (HZ.out.below B2.out).more B2.out.size)
    | (go_at_call 15; (with_reducible refine (HF1.out w2 D2 Q0).mono ?_); rintro e w3 ⟨vr, rfl, hfn⟩; obtain ⟨A6, c6, D3, O3, G3, T3, _⟩ := hfn.out.parts; have HD3 := Lib.hid D3; have HO3 := Lib.hid O3; have HG3 := Lib.hid G3; have HT3 := Lib.hid T3; clear hfn D3 O3 G3 T3))
  go_at_call 18
  refine (Stats_any w3 w.heap.size _ _ HD3).mono ?_
  rintro e w4 ⟨he, hb4⟩
  unfold mval at he
  subst he
  have Q1 : Hid (Dblk w4 w.heap.size d1 (.slice A6 d1.inn.length c6)) := (hb4.out.block _ HD3.out.lt).trans HD3.out
  have Q2 : Hid (Me.Own w4 0 (.slice A6 d1.inn.length c6) d1.inn) := own_same HO3.out fun k _ hk => hb4.out.block k hk
  have Q3 : Hid (Rd w4 w4.heap.size A5 fr) := finds_rd hb4.out HT3.out HO5.out D2.out HFB.out
  have Q4 : Hid (∀ a, A5 = some a → (Value.slice A6 d1.inn.length c6).ownBlock ≠ some a.block) := finds_ne HG3.out HO5.out
  go_wp2_with (go_at_call 15; (with_reducible refine (HF2.out w4 A6 c6 A5 c5 Q1 Q2 Q3 Q4).mono ?_); rintro e w5 ⟨vr2, rfl, hfn2⟩; obtain ⟨A7, c7, D5, O5, _, T5, R5⟩ := hfn2.out.parts; obtain ⟨A8, c8, rfl, q1, q2, q3, q4, q5⟩ := R5.lst hTB.out; have HD5 := Lib.hid D5; have HT5 := Lib.hid T5; have HL5 := Lib.hid q3; have HN5 := Lib.hid q4; clear hfn2 D5 O5 T5 R5 q1 q2 q3 q4 q5; rw [HTN.out])
  go_at_call 18
  refine (Stats_any w5 w.heap.size _ _ HD5).mono ?_
  rintro e w6 ⟨he, hb6⟩
  unfold mval at he
  simp only at he
  rw [HMG.out] at he
  subst he
  go_wp2
  obtain ⟨b, off, R, cr, rfl, r1, r2, r3, r4, r5⟩ := row_conv (j := n - 1) HL5.out HN5.out (by rw [HTN.out]; omega)
  rw [HLAST.out] at r1 r2 r4 r5
  have hltb : b < w5.heap.size := World.block_lt_of_cell? w5 _ r1
  have b6 : Below w5.heap.size w5 w6.drew := hb6.out.drew
  have hcell := (b6.cell (p := ⟨b, off + (n - 1), none⟩) hltb).trans r1
  have bw : Below w.heap.size w w5 := finds_below B2.out HT3.out hb4.out HT5.out HG3.out
  have K1 : (convert 22 9 (.slice R l.length cr)).run Try.prog w6.drew = .ok (.string (strOf l)) w6.drew := conv_rd w6.drew _ R l cr (r4.below b6) r5
  have K2 : (convert 22 9 (.slice A1 l.length cap1)).run Try.prog w6.drew = .ok (.string (strOf l)) w6.drew := conv_rd w6.drew _ A1 l cap1 (HR.out.below (bw.trans (b6.mono bw.size))) HA1.out
  have hdd : Hid (Dblk w6.drew w.heap.size ⟨false, [], m⟩ (.slice A7 ([] : List Nat).length c7)) := (b6.block _ HD5.out.lt).trans HD5.out
  have hbd : Hid (Below w.heap.size w w6.drew) := bw.trans (b6.mono bw.size)
  have v1 : IntKind.i64.wrap ((n : Int) - 1) = (n : Int) - 1 := IntWalk.i64_in _ (by omega)
  have v2 : (0 : Int) ≤ (n : Int) - 1 := by omega
  have v3 : (n : Int) - 1 < (n : Int) := by omega
  have v4 : ((n : Int) - 1).toNat = n - 1 := by omega
  have v5 : (1 : Int) ≤ (n : Int) := by omega
  have v6 : (n : Int) ≤ 2 := by omega
  clear r1 r2 r3 r4 r5 hltb b6 bw HL5 HN5 hb6 HF1 HF2 HE hn12
  go_still_tail 25, (by kernel_rfl)
  change wpList _ _ _ _ _ w6.drew
  generalize w6.drew = wd at hbd hdd ⊢
  go_wp2_with (first
    | (go_at_call 19; refine (Inside_any wd w.heap.size _ A7 c7 hdd).mono ?_; rintro e w' ⟨he, rfl⟩; simp only [Bool.false_eq_true, if_false] at he; subst he)
    | (go_at_call 12; refine (awake_below hbd).mono ?_; rintro e w7 ⟨rfl, hb7⟩))
  go_ret
  exact ⟨rfl, hb7.out⟩
theorem finds (A : Option Addr) (len cap : Nat) (z : List Nat) (A1 : Option Addr) (len1 cap1 : Nat) (l : List Nat) (w : World) (w0 : BySlice w A len cap z) (c0 : cap ≤ 1048576) (w1 : BySlice w A1 len1 cap1 l) (c1 : cap1 ≤ 1048576) :
    Calls Try.prog 5 #[.slice A len cap, .slice A1 len1 cap1] w fun e w' => e = .returned (.bool true) ∧ Below w.heap.size w w' := by
  obtain ⟨rfl, h1, h2, h3, hA⟩ := w0
  obtain ⟨rfl, k1, k2, k3, kA⟩ := w1
  cases hf : fits l with
  | true => exact finds_fit A cap z A1 cap1 l w ⟨rfl, h1, h2, h3, hA⟩ ⟨rfl, k1, k2, k3, kA⟩ c0 c1 hf
  | false =>
    have HN := Lib.hid (New_any w)
    have HR := Lib.hid k3
    have E := fun (w1 : World) (hr : Hid (Rd w1 w1.heap.size A1 l)) => (Encode_any A1 cap1 l w1 hr k1 (by omega)).mono fun _ _ h => h.q
    have e1 : encL l = [] := by unfold encL; rw [hf]; rfl
    have e2 : encE l = if l = [] then 2 else 3 := by unfold encE; rw [hf]; rfl
    simp only [e1, e2] at E
    by_cases h0 : l = []
    · simp only [h0, if_true] at E
      subst h0
      have HE := Lib.hid E
      clear E e1 e2
      go_enter Try.func5, Try.ntmps5
      go_wp2_with (first
        | (go_at_call 13; refine HN.out.mono ?_; rintro e w1 ⟨rfl, hd1, hb1⟩)
        | (go_at_call 10; refine (HE.out w1 ((HR.out.below hb1.out).more hb1.out.size)).mono ?_; rintro e w2 ⟨A5, c5, rfl, HO5, HB5⟩; have B2 : Hid (Below w.heap.size w w2) := hb1.out.trans (HB5.out.mono hb1.out.size))
        | (go_at_call 12; refine (awake_below B2).mono ?_; rintro e w7 ⟨rfl, hb7⟩))
      go_ret
      exact ⟨rfl, hb7.out⟩
    · simp only [h0, if_false] at E
      have hpos := List.length_pos_iff.mpr h0
      have hf2 : 128 < l.length := by simp [fits] at hf; omega
      have n0 : ((l.length : Int) == 0) = false := by simp; omega
      have n1 : (128 : Int) < (l.length : Int) := by omega
      have HE := Lib.hid E
      clear E e1 e2 hf2 hf h0 hpos
      go_enter Try.func5, Try.ntmps5
      go_wp2_with (first
        | (go_at_call 13; refine HN.out.mono ?_; rintro e w1 ⟨rfl, hd1, hb1⟩)
        | (go_at_call 10; refine (HE.out w1 ((HR.out.below hb1.out).more hb1.out.size)).mono ?_; rintro e w2 ⟨A5, c5, rfl, HO5, HB5⟩; have B2 : Hid (Below w.heap.size w w2) := hb1.out.trans (HB5.out.mono hb1.out.size))
        | (go_at_call 12; refine (awake_below B2).mono ?_; rintro e w7 ⟨rfl, hb7⟩))
      go_ret
      exact ⟨rfl, hb7.out⟩
end Go.Proofs.Ytoaffkmjobmhaaa.Hd
