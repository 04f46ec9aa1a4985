/- The law's own question 'does a sender send?' is answered true, whatever the memory; the calls of no sender. -/
import Derived.Test.YtdfjlhiliifapaaSnState
import Derived.Lib.SlBytesConst
namespace Go.Proofs.Ytdfjlhiliifapaa.Sn
open Go.RowKit
open Go.Proofs.Ytdfjlhiliifapaa.Me Go.Proofs.Ytdfjlhiliifapaa.Hd
set_option linter.unusedVariables false
set_option linter.unusedSimpArgs false

theorem rd_one (W : World) {b : Nat} (hb : b < 256) (fr : Nat × Nat) : Me.Rd (W.alloc (.cells #[.int .u8 (b : Int)] 5 fr)) (W.alloc (.cells #[.int .u8 (b : Int)] 5 fr)).heap.size (some ⟨W.heap.size, 0, none⟩) [b] := by
  have := Me.rd_lit (w := W) (r := [b]) (fun z hz => (show z = b by simpa using hz) ▸ hb) 5 fr
  exact this.more (by simp)
/-- A payload of one byte, laid down for the call. -/
theorem push_lit (M : Nat) (O : Nat → Prop) (W : World) (D : Nat) (s : Snd) (h : Hid (Sn M O W D s)) (ok : Hid s.Ok) (hM : Hid (M ≤ W.heap.size)) (hO : Hid (∀ k, O k → k < W.heap.size)) {b : Nat} (hb : b < 256) (fr : Nat × Nat) :
    Calls Try.prog 19 #[.pointer (some ⟨D, 0, none⟩), .slice (some ⟨W.heap.size, 0, none⟩) 1 1] (W.alloc (.cells #[.int .u8 (b : Int)] 5 fr)) fun e w' => e = .returned (.int .i64 (pushE s [b] : Int)) ∧ Hid (Sn M O w' D (pushS s [b])) ∧ Hid (But (Out M O) W w') := by
  have hs : W.heap.size ≤ (W.alloc (.cells #[.int .u8 (b : Int)] 5 fr)).heap.size := by simp
  refine (Push_s M O (W.alloc (.cells #[.int .u8 (b : Int)] 5 fr)) D s (h.out.below (Me.below_alloc (Below.refl _ _))) ok (Nat.le_trans hM.out hs) (fun k hk => Nat.lt_of_lt_of_le (hO.out k hk) hs) (some ⟨W.heap.size, 0, none⟩) 1 [b] (rd_one W hb fr) (fun e => by cases e) (by simp)).mono ?_
  rintro e w' ⟨rfl, h1, h2⟩
  exact ⟨rfl, h1, (But.of_below (Me.below_alloc (Below.refl _ _))).trans h2.out fun k _ hk => hk⟩
def no (_ : Nat) : Prop := False
theorem ok1 : (⟨1, 0, 0, [[97]]⟩ : Snd).Ok := ⟨by decide, by decide, by decide, by decide, by decide, by decide, by decide⟩
theorem ok2 : (⟨1, 0, 0, [[97], [98]]⟩ : Snd).Ok := ⟨by decide, by decide, by decide, by decide, by decide, by decide, by decide⟩
theorem ok3 : (⟨1, 0, 1, [[97], [98]]⟩ : Snd).Ok := ⟨by decide, by decide, by decide, by decide, by decide, by decide, by decide⟩
theorem str_a : strOf [97] = ⟨#[97]⟩ := rfl
theorem conv_at {M : Nat} {w3 w4 w5 w6 : World} {A4 : Option Addr} {c4 : Nat} (ho : Me.Own w4 w3.heap.size (.slice A4 1 c4) [97]) (b5 : But (Out M (bk A4)) w4 w5) (b6 : But (Out M (bk A4)) w5 w6) :
    (convert 36 9 (.slice A4 1 c4)).run Try.prog w6 = .ok (.string ⟨#[97]⟩) w6 := by
  have h5 := own_same ho (w' := w6) fun k e hk => by
    have hA : bk A4 k := by
      cases A4 with
      | none => cases e
      | some a => cases e; exact ⟨a, rfl, rfl⟩
    exact (b6.same k (Nat.lt_of_lt_of_le hk b5.size) fun h => h.2 hA).trans (b5.same k hk fun h => h.2 hA)
  obtain ⟨r1, r2, r3, r4⟩ := own_rd h5 (by decide)
  exact conv_rd w6 _ A4 [97] c4 r1 r2
set_option maxHeartbeats 2000000 in
theorem awake_any (w : World) : Calls Try.prog 11 #[] w fun e w' => e = .returned (.bool true) ∧ Hid (Below w.heap.size w w') := by
  have kc := fun (w : World) (C : Array Value) (n c : Nat) => Lib.run_convert_bytes_const (P := Try.prog) w 36 5 C n c Try.underlying36 Try.underlying5
  have hno : ∀ (W : World), Hid (∀ k, no k → k < W.heap.size) := fun W k hk => hk.elim
  have N := Lib.hid (New_s w.heap.size no 1 (by decide) (by decide) w (Nat.le_refl _) (hno w))
  have P1 := Lib.hid (fun (W : World) (D : Nat) (h : Hid (Sn w.heap.size no W D (newS 1))) (hb : Hid (Below w.heap.size w W)) => push_lit w.heap.size no W D (newS 1) h (Snd.Ok.new (by decide) (by decide)) hb.out.size (hno W) (b := 97) (by decide) (1, 2))
  have P2 := Lib.hid (fun (W : World) (D : Nat) (h : Hid (Sn w.heap.size no W D ⟨1, 0, 0, [[97]]⟩)) (hb : Hid (Below w.heap.size w W)) => push_lit w.heap.size no W D ⟨1, 0, 0, [[97]]⟩ h ok1 hb.out.size (hno W) (b := 98) (by decide) (1, 2))
  have S1 := Lib.hid (fun (W : World) (D : Nat) (h : Hid (Sn w.heap.size no W D ⟨1, 0, 0, [[97], [98]]⟩)) (hb : Hid (Below w.heap.size w W)) => Send_s w.heap.size no W D ⟨1, 0, 0, [[97], [98]]⟩ h ok2 hb.out.size (hno W))
  have S2 := Lib.hid (fun (W : World) (D : Nat) (O : Nat → Prop) (h : Hid (Sn w.heap.size O W D ⟨1, 0, 1, [[97], [98]]⟩)) (hb : Hid (Below w.heap.size w W)) (hO : Hid (∀ k, O k → k < W.heap.size)) => Send_s w.heap.size O W D ⟨1, 0, 1, [[97], [98]]⟩ h ok3 hb.out.size hO)
  have A1 := Lib.hid (fun (W : World) (D : Nat) (O : Nat → Prop) (h : Hid (Sn w.heap.size O W D ⟨1, 0, 1, [[97], [98]]⟩)) (hb : Hid (Below w.heap.size w W)) (hO : Hid (∀ k, O k → k < W.heap.size)) => Ack_s w.heap.size O W D ⟨1, 0, 1, [[97], [98]]⟩ h ok3 hb.out.size hO 1)
  rw [show pushE (newS 1) [97] = 0 from rfl, show pushS (newS 1) [97] = ⟨1, 0, 0, [[97]]⟩ from rfl] at P1
  rw [show pushE ⟨1, 0, 0, [[97]]⟩ [98] = 0 from rfl, show pushS ⟨1, 0, 0, [[97]]⟩ [98] = ⟨1, 0, 0, [[97], [98]]⟩ from rfl] at P2
  rw [show sendOk ⟨1, 0, 0, [[97], [98]]⟩ = true from rfl, show sendN ⟨1, 0, 0, [[97], [98]]⟩ = 0 from rfl, show sendP ⟨1, 0, 0, [[97], [98]]⟩ = [97] from rfl, show sendS ⟨1, 0, 0, [[97], [98]]⟩ = ⟨1, 0, 1, [[97], [98]]⟩ from rfl] at S1
  rw [show sendOk ⟨1, 0, 1, [[97], [98]]⟩ = false from rfl, show sendN ⟨1, 0, 1, [[97], [98]]⟩ = 0 from rfl, show sendP ⟨1, 0, 1, [[97], [98]]⟩ = [] from rfl, show sendS ⟨1, 0, 1, [[97], [98]]⟩ = ⟨1, 0, 1, [[97], [98]]⟩ from rfl] at S2
  rw [show ackN ⟨1, 0, 1, [[97], [98]]⟩ 1 = 1 from rfl, show ackE ⟨1, 0, 1, [[97], [98]]⟩ 1 = 0 from rfl, show ackS ⟨1, 0, 1, [[97], [98]]⟩ 1 = ⟨1, 1, 0, [[98]]⟩ from rfl] at A1
  rw [show ((1 : Nat) : Int) = 1 from rfl] at N
  simp only [show ((97 : Nat) : Int) = 97 from rfl, show ((98 : Nat) : Int) = 98 from rfl, show ((1 : Nat) : Int) = 1 from rfl, show ((0 : Nat) : Int) = 0 from rfl, show [97].length = 1 from rfl, show ([] : List Nat).length = 0 from rfl] at P1 P2 S1 S2 A1
  go_enter Try.func11, Try.ntmps11
  go_wp2_with (first
    | (go_at_call 9; refine N.out.mono ?_; rintro e w1 ⟨rfl, H1, B1⟩)
    | (go_at_call 19; (with_reducible refine (P1.out w1 w.heap.size H1 B1).mono ?_); rintro e w2 ⟨rfl, H2, b2⟩; have B2 : Hid (Below w.heap.size w w2) := B1.out.trans (but_out b2.out B1.out.size))
    | (go_at_call 19; (with_reducible refine (P2.out w2 w.heap.size H2 B2).mono ?_); rintro e w3 ⟨rfl, H3, b3⟩; have B3 : Hid (Below w.heap.size w w3) := B2.out.trans (but_out b3.out B2.out.size))
    | (go_at_call 21; (with_reducible refine (S1.out w3 w.heap.size H3 B3).mono ?_); rintro e w4 ⟨A4, c4, rfl, o4, h4, b4⟩; have B4 : Hid (Below w.heap.size w w4) := B3.out.trans (but_out b4.out B3.out.size); have H4 : Hid (Sn w.heap.size (bk A4) w4 w.heap.size ⟨1, 0, 1, [[97], [98]]⟩) := h4.out.other fun k _ ⟨a, ea, ek⟩ => .inr (by have := (o4.out.lt a.block (by rw [ea]; rfl)).1; omega); have O4 : Hid (∀ k, bk A4 k → k < w4.heap.size) := fun k ⟨a, ea, ek⟩ => by have := (o4.out.lt a.block (by rw [ea]; rfl)).2; omega)
    | (go_at_call 21; (with_reducible refine (S2.out w4 w.heap.size (bk A4) H4 B4 O4).mono ?_); rintro e w5 ⟨A5, c5, rfl, o5, h5, b5⟩; have B5 : Hid (Below w.heap.size w w5) := B4.out.trans (but_out b5.out B4.out.size); have H5 : Hid (Sn w.heap.size (bk A4) w5 w.heap.size ⟨1, 0, 1, [[97], [98]]⟩) := h5.out.other (fun _ _ h => .inl h); have O5 : Hid (∀ k, bk A4 k → k < w5.heap.size) := fun k hk => Nat.lt_of_lt_of_le (O4.out k hk) b5.out.size)
    | (go_at_call 20; (with_reducible refine (A1.out w5 w.heap.size (bk A4) H5 B5 O5).mono ?_); rintro e w6 ⟨rfl, H6, b6⟩; have B6 : Hid (Below w.heap.size w w6) := B5.out.trans (but_out b6.out B5.out.size); have kv := conv_at (o4.out) b5.out b6.out; have L6 := Lib.hid (Len_s w.heap.size (bk A4) w6 w.heap.size ⟨1, 1, 0, [[98]]⟩ H6); have Q6 := Lib.hid (Base_s w.heap.size (bk A4) w6 w.heap.size ⟨1, 1, 0, [[98]]⟩ H6); rw [show (([[98]] : List (List Nat)).length : Int) = 1 from rfl] at L6; rw [show ((1 : Nat) : Int) = 1 from rfl] at Q6)
    | (go_at_call 18; refine L6.out.mono ?_; rintro e w' ⟨rfl, rfl⟩)
    | (go_at_call 17; refine Q6.out.mono ?_; rintro e w' ⟨rfl, rfl⟩))
  go_ret
  exact ⟨rfl, B6⟩
theorem awake_below {w0 w : World} (hb : Hid (Below w0.heap.size w0 w)) : Calls Try.prog 11 #[] w fun e w' => e = .returned (.bool true) ∧ Hid (Below w0.heap.size w0 w') :=
  (awake_any w).mono fun _ _ ⟨he, h⟩ => ⟨he, hb.out.trans (h.out.mono hb.out.size)⟩
end Go.Proofs.Ytdfjlhiliifapaa.Sn
