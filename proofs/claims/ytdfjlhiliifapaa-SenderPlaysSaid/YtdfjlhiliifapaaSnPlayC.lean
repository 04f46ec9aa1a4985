/- play: Again. -/
import Derived.Test.YtdfjlhiliifapaaSnPlay
namespace Go.Proofs.Ytdfjlhiliifapaa.Sn
open Go.RowKit
open Go.Proofs.Ytdfjlhiliifapaa.Me Go.Proofs.Ytdfjlhiliifapaa.Hd
set_option linter.unusedVariables false
set_option linter.unusedSimpArgs false
theorem againP_lt {s : Snd} (ok : s.Ok) (n : Int) : ∀ z ∈ againP s n, z < 256 := by
  intro z hz
  unfold againP at hz
  split at hz
  · by_cases h : wayOf s n < s.l.length
    · exact (ok.at_ h).2.2 z hz
    · simp [lsAt, h] at hz
  · simp at hz
set_option maxRecDepth 100000 in
set_option maxHeartbeats 4000000 in
theorem play3 (M D : Nat) (w : World) (s : Snd) (A : Option Addr) (c : Nat) (an : Int) (R : Option Addr) (cr : Nat) (p : List Nat) (X0 : Nat → Prop) (hX0 : Hid (∀ q, X0 q → q < w.heap.size)) (h : Hid (Pl M X0 w D s s.l A c (.slice none 0 0) [])) (ok : Hid s.Ok) (hM : Hid (M ≤ w.heap.size)) :
    Calls Try.prog 13 #[.pointer (some ⟨D, 0, none⟩), rval s A c, .agg #[.int .i64 3, .int .i64 an, .slice R p.length cr]] w (PlayP M X0 D w) := by
  rw [show rval s A c = .agg #[.int .i64 (s.size : Int), .int .i64 (s.base : Int), .slice A s.l.length c, .int .i64 (s.under : Int)] from rfl]
  have HT0 : Bt w s A c 3 an R p.length cr (((w.alloc (.cells #[.int .i64 (s.size : Int), .int .i64 (s.base : Int), .slice A s.l.length c, .int .i64 (s.under : Int)] 29)).alloc (.cells #[.int .i64 3, .int .i64 an, .slice R p.length cr] 38)).alloc (.cells #[.int .i64 0, .int .i64 0, .slice none 0 0, .int .i64 0] 29)) := Bt.new w s A c 3 an R p.length cr
  obtain ⟨pp, hpp⟩ : ∃ pp, againP s an = pp := ⟨_, rfl⟩
  obtain ⟨ee, hee⟩ : ∃ ee, againE s an = ee := ⟨_, rfl⟩
  have HB : Hid (∀ z ∈ pp, z < 256) := by rw [← hpp]; exact againP_lt ok.out an
  have RP := fun (W : World) (X : Nat → Prop) (P1 : Hid (Pl M X W D s s.l A c (.slice none 0 0) [])) => RAgain_p P1 ok an
  have PP := fun (W : World) (X : Nat → Prop) (u : Value) (r : List Nat) (P1 : Hid (Pl M X W D s s.l A c u r)) => Again_p P1 ok an
  rw [hee, hpp] at RP PP
  have HRP := Lib.hid RP
  have HPP := Lib.hid PP
  clear hpp hee RP PP
  go_enter Try.func13, Try.ntmps13
  go_wp2_with (first
    | (go_at_call 29; generalize (((w.alloc (.cells #[.int .i64 (s.size : Int), .int .i64 (s.base : Int), .slice A s.l.length c, .int .i64 (s.under : Int)] 29)).alloc (.cells #[.int .i64 3, .int .i64 an, .slice R p.length cr] 38)).alloc (.cells #[.int .i64 0, .int .i64 0, .slice none 0 0, .int .i64 0] 29)) = W0 at HT0 ⊢; have b1 : Hid (Below w.heap.size w W0) := HT0.b; have BX1 : Hid (Bx w.heap.size s A c 3 an R p.length cr W0) := HT0.x; have HN1 := Lib.hid HT0.n; obtain ⟨p1, m1, l1⟩ := play_at h.out hX0.out b1.out; have P1 := Lib.hid p1; have B1 := Lib.hid m1; have L1 := Lib.hid l1; clear HT0 p1 m1 l1; refine (HRP.out W0 _ P1).mono ?_; rintro e w2 ⟨R2, c2, rfl, P2, b2⟩; have X2 : Hid (Bx w.heap.size s A c 3 an R p.length cr w2) := BX1.out.below b2.out; obtain ⟨a0, a1, a2⟩ := X2.out.act)
    | (go_at_call 24; refine (HPP.out w2 _ (.slice R2 pp.length c2) pp P2).mono ?_; rintro e w4 ⟨A5, c5, rfl, o4, b4⟩; have P4 : Hid (Pl M (MidX X0 w.heap.size W0.heap.size) w4 D s s.l A c (.slice R2 pp.length c2) pp) := P2.out.grow b4.out fun q hq => .inl hq; have X4 : Hid (Bx w.heap.size s A c 3 an R p.length cr w4) := X2.out.below b4.out; have B4 : Hid (But (Out M X0) w w4) := but_more (but_more B1.out b2.out) b4.out; have HZ := Lib.hid X4.out.z; have FIN := Lib.hid (play_fin P4.out (.inr ⟨by omega, by have := BX1.out.lt; omega⟩) (fun q hq => .inl hq) (fun q hq => by have := hX0.out q hq; omega) HZ.out B4.out (by have := hM.out; omega)); have k1 : (convert 36 9 (.slice R2 pp.length c2)).run Try.prog w4 = .ok (.string (strOf pp)) w4 := Pl.conv P4.out rfl HB.out 0; have k2 : (convert 36 9 (.slice A5 pp.length c5)).run Try.prog w4 = .ok (.string (strOf pp)) w4 := own_conv o4.out rfl HB.out 0; clear a0 a1 a2; obtain ⟨y0, y1, y2, y3⟩ := X4.out.row; clear HRP HPP P1 P2)
    | (refine wpList_store_row rfl 29 (.tmp 6) (.tmp 155) rfl (w.heap.size + 1 + 1) (rcells s A c) rfl rfl 29 _ HZ.out (by kernel_rfl) rfl (rc_one _ _ _) ?_))
  refine ret_cell rfl rfl FIN.out.1 rfl Try.underlying29 (by kernel_rfl) rfl ?_
  exact ⟨s, A, c, rfl, ok, FIN.out.2.1, FIN.out.2.2⟩
end Go.Proofs.Ytdfjlhiliifapaa.Sn
