/- The walk of the law SenderRooms. -/
import Derived.Test.YtdfjlhiliifapaaSnWoke
namespace Go.Proofs.Ytdfjlhiliifapaa.Sn
open Go.RowKit
open Go.Proofs.Ytdfjlhiliifapaa.Me Go.Proofs.Ytdfjlhiliifapaa.Hd
set_option linter.unusedVariables false
set_option linter.unusedSimpArgs false

theorem push1 {s : Snd} (ok : s.Ok) (h : s.l.length < 64) {b : Nat} (hb : b < 256) : pushE s [b] = 0 ∧ (pushS s [b]).Ok ∧ (pushS s [b]).size = s.size ∧ (pushS s [b]).base = s.base ∧ (pushS s [b]).under = s.under ∧ (pushS s [b]).l.length = s.l.length + 1 := by
  have he : pushE s [b] = 0 := by
    unfold pushE
    rw [if_neg (by simp), if_neg (by simp), if_neg (by omega)]
  refine ⟨he, ok.push fun z hz => (show z = b by simpa using hz) ▸ hb, ?_⟩
  unfold pushS
  rw [if_pos he]
  exact ⟨rfl, rfl, rfl, by simp⟩
theorem pushF {s : Snd} (h : s.l.length = 64) (b : Nat) : pushE s [b] = 6 ∧ pushS s [b] = s := by
  have he : pushE s [b] = 6 := by
    unfold pushE
    rw [if_neg (by simp), if_neg (by simp), if_pos h]
  refine ⟨he, ?_⟩
  unfold pushS
  rw [if_neg (by omega)]
theorem send1 {s : Snd} (ok : s.Ok) (h1 : s.under < s.size) (h2 : s.under < s.l.length) : (sendS s).Ok ∧ (sendS s).size = s.size ∧ (sendS s).base = s.base ∧ (sendS s).under = s.under + 1 ∧ (sendS s).l = s.l := by
  refine ⟨ok.send, ?_⟩
  unfold sendS
  rw [if_pos (show sendOk s = true from decide_eq_true ⟨h1, h2⟩)]
  exact ⟨rfl, rfl, rfl, rfl⟩
theorem ack1 {s : Snd} (ok : s.Ok) (hb : s.base = 0) : ackE s (s.under : Int) = 0 ∧ ackN s (s.under : Int) = s.under ∧ (ackS s (s.under : Int)).Ok ∧ (ackS s (s.under : Int)).l.length = s.l.length - s.under := by
  have hu := ok.u
  have h63 := ok.s63
  have hw : wayOf s (s.under : Int) = s.under := by unfold wayOf; rw [hb]; omega
  have he : ackE s (s.under : Int) = 0 := by
    unfold ackE
    rw [if_neg (by omega), hw, if_neg (by omega)]
  refine ⟨he, by unfold ackN; rw [if_pos he, hw], ok.ack _, ?_⟩
  unfold ackS
  rw [if_pos he, hw]
  simp
theorem q_ok {m n q : Nat} (h : m < n) (hq : 1 + m = q) : 1 ≤ q ∧ q ≤ n := by omega
theorem wrapS {m : Nat} (h : m ≤ 100) : RowKit.wrap64 (m : Int) = (m : Int) := Mi.fits ⟨by omega, by omega⟩
theorem wrapQ {m q : Nat} (h : m ≤ 100) (hq : 1 + m = q) : RowKit.wrap64 (1 + (m : Int)) = (q : Int) := by
  rw [Mi.fits ⟨by omega, by omega⟩]; omega
theorem wrapK {k : Nat} (h : k ≤ 100) : RowKit.wrap64 ((k : Int) + 1) = ((k + 1 : Nat) : Int) := by
  rw [Mi.fits ⟨by omega, by omega⟩]; omega
theorem u64_nat (more : Int) : ∃ X : Nat, IntKind.u64.wrap more = (X : Int) := ⟨(IntKind.u64.wrap more).toNat, by rw [IntKind.wrap_u64]; omega⟩
theorem u64_small {n : Nat} (h : n ≤ 63) : IntKind.u64.wrap (n : Int) = (n : Int) := by rw [IntKind.wrap_u64]; omega
/-- A sender with these numbers. -/
def Room (n b u k : Nat) (s : Snd) : Prop := s.Ok ∧ s.size = n ∧ (b = 0 → s.base = 0) ∧ s.under = u ∧ s.l.length = k
set_option maxRecDepth 100000 in
set_option maxHeartbeats 4000000 in
theorem rooms (size more : Int) (w : World) (w0 : (Lit.int .i64 size).wf = true) (w1 : (Lit.int .i64 more).wf = true) : Calls Try.prog 7 #[.int .i64 size, .int .i64 more] w fun e w' => e = .returned (.bool true) ∧ Below w.heap.size w w' := by
  by_cases hbad : size < 1 ∨ 63 < size
  · have N := Lib.hid (New_bad size hbad w)
    have HW := Lib.hid (awake_any w)
    by_cases h1 : size < 1
    all_goals
      try (have h2 : 63 < size := by omega)
      clear hbad w0 w1
      go_enter Try.func7, Try.ntmps7
      go_wp2_with (first
        | (go_at_call 9; refine N.out.mono ?_; rintro e w' ⟨rfl, rfl⟩)
        | (go_at_call 11; refine HW.out.mono ?_; rintro e w9 ⟨rfl, hb9⟩))
      go_ret
      exact ⟨rfl, hb9.out⟩
  · obtain ⟨n, rfl⟩ : ∃ n : Nat, size = (n : Int) := ⟨size.toNat, by omega⟩
    have hn1 : 1 ≤ n := by omega
    have hn2 : n ≤ 63 := by omega
    have hno : ∀ (W : World), Hid (∀ k, no k → k < W.heap.size) := fun W k hk => hk.elim
    have N := Lib.hid (New_s w.heap.size no n hn1 hn2 w (Nat.le_refl _) (hno w))
    have HRN : Hid (Room n 0 0 0 (newS n)) := ⟨Snd.Ok.new hn1 hn2, rfl, fun _ => rfl, rfl, rfl⟩
    have P := Lib.hid (fun (W : World) (D : Nat) (s : Snd) (h : Hid (Sn w.heap.size no W D s)) (ok : s.Ok) (hb : Hid (Below w.heap.size w W)) (b : Nat) (h8 : b < 256) => push_lit w.heap.size no W D s h ok hb.out.size (hno W) h8 (0, 0))
    have HN1 := Lib.hid hn1
    have HN2 := Lib.hid hn2
    clear hbad hn1 hn2 w0
    go_enter Try.func7, Try.ntmps7
    go_wp2_with (go_at_call 9; refine N.out.mono ?_; rintro e w1 ⟨rfl, H1, B1⟩)
    go_loopw [7] (fun i wr => ∃ k : Nat, k ≤ 64 ∧ i = .int .i64 k ∧ ∃ s, Room n 0 0 k s ∧ Sn w.heap.size no wr w.heap.size s ∧ Below w.heap.size w wr) (fun i _ => 64 - (intOf i).toNat)
    case atStart => exact ⟨0, by decide, rfl, newS n, HRN.out, H1.out, B1.out⟩
    case round =>
      obtain ⟨k, hk, rfl, s, hr, hs, hb⟩ := hrel
      have HR := Lib.hid hr
      have HS := Lib.hid hs
      have HB := Lib.hid hb
      clear hr hs hb H1 B1 N HRN
      by_cases hlt : k < 64
      · have h8 : IntKind.u8.wrap (k : Int) = (k : Int) := Me.wrap8 (by unfold U8; omega)
        have hi : (k : Int) < 64 := by omega
        have PP := P.out wr w.heap.size s HS HR.out.1 HB k (by omega)
        obtain ⟨e1, e2, e3, e4, e5, e6⟩ := push1 HR.out.1 (by rw [HR.out.2.2.2.2]; exact hlt) (b := k) (by omega)
        rw [e1] at PP
        have HPP := Lib.hid PP
        have HR2 : Hid (Room n 0 0 (k + 1) (pushS s [k])) := ⟨e2, e3.trans HR.out.2.1, fun _ => e4.trans (HR.out.2.2.1 rfl), e5.trans HR.out.2.2.2.1, by rw [e6, HR.out.2.2.2.2]⟩
        clear e1 e2 e3 e4 e5 e6 PP
        go_wp2_with (go_at_call 19; refine HPP.out.mono ?_; rintro e w2 ⟨rfl, H2, b2⟩)
        go_roundw
        case rel => exact ⟨k + 1, by omega, by go_num, _, HR2.out, H2.out, HB.out.trans (but_out b2.out HB.out.size)⟩
        case measure => simp [intOf]; omega
      · obtain rfl : k = 64 := by omega
        have hr64 := HR.out.2.2.2.2
        have PP := P.out wr w.heap.size s HS HR.out.1 HB 1 (by decide)
        obtain ⟨e1, e2⟩ := pushF hr64 1
        rw [e1, e2] at PP
        have HPP := Lib.hid PP
        have HL := Lib.hid (fun W (h : Hid (Sn w.heap.size no W w.heap.size s)) => Len_s w.heap.size no W w.heap.size s h)
        rw [hr64] at HL
        obtain ⟨X, gX⟩ := u64_nat more
        have gn := u64_small HN2.out
        have gz : ¬ (n : Int) = 0 := by have := HN1.out; omega
        have hmn : X % n < n := Nat.mod_lt _ HN1.out
        have gt : Int.tmod (X : Int) (n : Int) = ((X % n : Nat) : Int) := rfl
        obtain ⟨m, hm⟩ : ∃ m, X % n = m := ⟨_, rfl⟩
        rw [hm] at gt hmn
        have hm100 : m ≤ 100 := Nat.le_trans (Nat.le_of_lt hmn) (Nat.le_trans HN2.out (by decide))
        have gw := wrapS hm100
        obtain ⟨q, hq⟩ : ∃ q, 1 + m = q := ⟨_, rfl⟩
        have gq := wrapQ hm100 hq
        have HQ := Lib.hid (q_ok hmn hq)
        clear hm100
        have SD := Lib.hid (fun (W : World) (s : Snd) (h : Hid (Sn w.heap.size no W w.heap.size s)) (ok : Hid s.Ok) (hb : Hid (Below w.heap.size w W)) => Send_v w.heap.size no W w.heap.size s h ok hb.out.size (hno W))
        have HRR := Lib.hid HR.out
        clear hm hmn hq hr64
        clear e1 e2 PP hlt
        go_wp2_with (first
          | (go_at_call 19; refine HPP.out.mono ?_; rintro e w2 ⟨rfl, H2, b2⟩)
          | (go_at_call 18; refine (HL.out w2 H2).mono ?_; rintro e w' ⟨rfl, rfl⟩))
        rw [gq]
        have H2' := H2
        have hB2 : Hid (Below w.heap.size w w2) := HB.out.trans (but_out b2.out HB.out.size)
        clear HPP HL b2 gX gn gt gw gq gz
        go_loopw [9] (fun i wr => ∃ k : Nat, k ≤ q ∧ i = .int .i64 k ∧ ∃ s, Room n 0 k 64 s ∧ Sn w.heap.size no wr w.heap.size s ∧ Below w.heap.size w wr) (fun i _ => q - (intOf i).toNat)
        case atStart => exact ⟨0, Nat.zero_le _, rfl, s, HRR.out, H2.out, hB2.out⟩
        case round =>
          obtain ⟨k, hk, rfl, s2, hr, hs, hb⟩ := hrel
          have HR2 := Lib.hid hr
          have HS2 := Lib.hid hs
          have HB2 := Lib.hid hb
          clear hr hs hb H2 H2' hB2 HRR HS HB HR
          by_cases hlt : k < q
          · have hi : (k : Int) < (q : Int) := by omega
            have hk63 : (k : Int) < 64 := by have := HQ.out; have := HN2.out; omega
            obtain ⟨e1, e2, e3, e4, e5⟩ := send1 HR2.out.1 (by rw [HR2.out.2.2.2.1, HR2.out.2.1]; have := HQ.out; omega) (by rw [HR2.out.2.2.2.1, HR2.out.2.2.2.2]; have := HQ.out; have := HN2.out; omega)
            have HR3 : Hid (Room n 0 (k + 1) 64 (sendS s2)) := ⟨e1, e2.trans HR2.out.2.1, fun _ => e3.trans (HR2.out.2.2.1 rfl), by rw [e4, HR2.out.2.2.2.1], by rw [e5, HR2.out.2.2.2.2]⟩
            obtain ⟨s3, hs3⟩ : ∃ s3, sendS s2 = s3 := ⟨_, rfl⟩
            have HSP := Lib.hid (SD.out wr s2 HS2 HR2.out.1 HB2 s3 hs3)
            rw [hs3] at HR3
            clear e1 e2 e3 e4 e5 hs3
            go_wp2_with (go_at_call 21; refine HSP.out.mono ?_; rintro e w3 ⟨v3, rfl, h3, b3⟩)
            go_roundw
            case rel => exact ⟨k + 1, by omega, by go_num, _, HR3.out, h3.out, HB2.out.trans (but_out b3.out HB2.out.size)⟩
            case measure => simp [intOf]; omega
          · obtain rfl : k = q := by omega
            have hi : ¬ (k : Int) < (k : Int) := by omega
            have hu := HR2.out.2.2.2.1
            obtain ⟨e1, e2, e3, e4⟩ := ack1 HR2.out.1 (HR2.out.2.2.1 rfl)
            rw [hu] at e1 e2 e3 e4
            rw [HR2.out.2.2.2.2] at e4
            have AK := Ack_s w.heap.size no wr w.heap.size s2 HS2 HR2.out.1 HB2.out.size (hno wr) (k : Int)
            rw [e1, e2] at AK
            have HAK := Lib.hid AK
            have HR4 : Hid ((ackS s2 (k : Int)).Ok ∧ (ackS s2 (k : Int)).l.length = 64 - k) := ⟨e3, e4⟩
            obtain ⟨s4, hs4⟩ : ∃ s4, ackS s2 (k : Int) = s4 := ⟨_, rfl⟩
            rw [hs4] at HAK HR4
            clear e1 e2 e3 e4 AK hu hs4 SD
            go_wp2_with (go_at_call 20; refine HAK.out.mono ?_; rintro e w4 ⟨rfl, H4, b4⟩)
            have B4 : Hid (Below w.heap.size w w4) := HB2.out.trans (but_out b4.out HB2.out.size)
            clear HAK b4
            go_loopw [12] (fun i wr => ∃ j : Nat, j ≤ k ∧ i = .int .i64 j ∧ ∃ s : Snd, (s.Ok ∧ s.l.length = 64 - k + j) ∧ Sn w.heap.size no wr w.heap.size s ∧ Below w.heap.size w wr) (fun i _ => k - (intOf i).toNat)
            case atStart => exact ⟨0, Nat.zero_le _, rfl, s4, HR4.out, H4.out, B4.out⟩
            case round =>
              obtain ⟨j, hj, rfl, s5, hr, hs, hb⟩ := hrel
              have HR5 := Lib.hid hr
              have HS5 := Lib.hid hs
              have HB5 := Lib.hid hb
              clear hr hs hb H4 B4 HR4
              have hk64 : k ≤ 63 := by have := HQ.out; have := HN2.out; omega
              by_cases hlt2 : j < k
              · have hi2 : (j : Int) < (k : Int) := by omega
                have hj63 : (j : Int) < 64 := by omega
                have PP := P.out wr w.heap.size s5 HS5 HR5.out.1 HB5 2 (by decide)
                obtain ⟨e1, e2, e3, e4, e5, e6⟩ := push1 HR5.out.1 (by rw [HR5.out.2]; omega) (b := 2) (by decide)
                rw [e1] at PP
                have HPP := Lib.hid PP
                have HR6 : Hid ((pushS s5 [2]).Ok ∧ (pushS s5 [2]).l.length = 64 - k + (j + 1)) := ⟨e2, by rw [e6, HR5.out.2]; omega⟩
                clear e1 e2 e3 e4 e5 e6 PP hk64
                go_wp2_with (go_at_call 19; refine HPP.out.mono ?_; rintro e w5 ⟨rfl, H5, b5⟩)
                go_roundw
                case rel => exact ⟨j + 1, by omega, by go_num, _, HR6.out, H5.out, HB5.out.trans (but_out b5.out HB5.out.size)⟩
                case measure => simp [intOf]; omega
              · obtain rfl : j = k := by omega
                have hi2 : ¬ (j : Int) < (j : Int) := by omega
                have PP := P.out wr w.heap.size s5 HS5 HR5.out.1 HB5 1 (by decide)
                obtain ⟨e1, e2⟩ := pushF (show s5.l.length = 64 by rw [HR5.out.2]; omega) 1
                rw [e1, e2] at PP
                have HPP := Lib.hid PP
                clear e1 e2 PP hk64
                go_wp2_with (first
                  | (go_at_call 19; refine HPP.out.mono ?_; rintro e w5 ⟨rfl, H5, b5⟩)
                  | (go_at_call 11; refine (awake_any w5).mono ?_; rintro e w6 ⟨rfl, hb6⟩))
                go_ret
                have hb5 := HB5.out.trans (but_out b5.out HB5.out.size)
                exact ⟨rfl, hb5.trans (hb6.out.mono hb5.size)⟩
end Go.Proofs.Ytdfjlhiliifapaa.Sn
