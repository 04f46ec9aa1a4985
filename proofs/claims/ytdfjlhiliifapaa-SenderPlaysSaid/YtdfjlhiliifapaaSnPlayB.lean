/- play: Ack and Again. -/
import Derived.Test.YtdfjlhiliifapaaSnPlay
namespace Go.Proofs.Ytdfjlhiliifapaa.Sn
open Go.RowKit
open Go.Proofs.Ytdfjlhiliifapaa.Me Go.Proofs.Ytdfjlhiliifapaa.Hd
set_option linter.unusedVariables false
set_option linter.unusedSimpArgs false
set_option maxRecDepth 100000 in
set_option maxHeartbeats 4000000 in
theorem play2 (M D : Nat) (w : World) (s : Snd) (A : Option Addr) (c : Nat) (an : Int) (R : Option Addr) (cr : Nat) (p : List Nat) (X0 : Nat → Prop) (hX0 : Hid (∀ q, X0 q → q < w.heap.size)) (h : Hid (Pl M X0 w D s s.l A c (.slice none 0 0) [])) (ok : Hid s.Ok) (hM : Hid (M ≤ w.heap.size)) :
    Calls Try.prog 13 #[.pointer (some ⟨D, 0, none⟩), rval s A c, .agg #[.int .i64 2, .int .i64 an, .slice R p.length cr]] w (PlayP M X0 D w) := by
  rw [show rval s A c = .agg #[.int .i64 (s.size : Int), .int .i64 (s.base : Int), .slice A s.l.length c, .int .i64 (s.under : Int)] from rfl]
  have HT0 : Bt w s A c 2 an R p.length cr (((w.alloc (.cells #[.int .i64 (s.size : Int), .int .i64 (s.base : Int), .slice A s.l.length c, .int .i64 (s.under : Int)] 29)).alloc (.cells #[.int .i64 2, .int .i64 an, .slice R p.length cr] 38)).alloc (.cells #[.int .i64 0, .int .i64 0, .slice none 0 0, .int .i64 0] 29)) := Bt.new w s A c 2 an R p.length cr
  obtain ⟨s', hs'⟩ : ∃ s', ackS s an = s' := ⟨_, rfl⟩
  obtain ⟨ee, hee⟩ : ∃ ee, ackE s an = ee := ⟨_, rfl⟩
  obtain ⟨nn, hnn⟩ : ∃ nn, ackN s an = nn := ⟨_, rfl⟩
  have HOK' : Hid s'.Ok := by rw [← hs']; exact ok.out.ack an
  have RP := fun (W : World) (X : Nat → Prop) (P1 : Hid (Pl M X W D s s.l A c (.slice none 0 0) [])) => RAck_p P1 ok an s' hs'
  have PP := fun (W : World) (X : Nat → Prop) (l : List (List Nat)) (A2 : Option Addr) (c2 : Nat) (P1 : Hid (Pl M X W D s l A2 c2 (.slice none 0 0) [])) (hX : Hid (∀ q, X q → q < W.heap.size)) => Ack_p P1 ok hX an s' hs'
  rw [hee, hnn] at RP PP
  have HRP := Lib.hid RP
  have HPP := Lib.hid PP
  clear hs' hee hnn RP PP
  go_enter Try.func13, Try.ntmps13
  go_wp2_with (first
    | (go_at_call 28; generalize (((w.alloc (.cells #[.int .i64 (s.size : Int), .int .i64 (s.base : Int), .slice A s.l.length c, .int .i64 (s.under : Int)] 29)).alloc (.cells #[.int .i64 2, .int .i64 an, .slice R p.length cr] 38)).alloc (.cells #[.int .i64 0, .int .i64 0, .slice none 0 0, .int .i64 0] 29)) = W0 at HT0 ⊢; have b1 : Hid (Below w.heap.size w W0) := HT0.b; have BX1 : Hid (Bx w.heap.size s A c 2 an R p.length cr W0) := HT0.x; have HN1 := Lib.hid HT0.n; obtain ⟨p1, m1, l1⟩ := play_at h.out hX0.out b1.out; have P1 := Lib.hid p1; have B1 := Lib.hid m1; have L1 := Lib.hid l1; clear HT0 p1 m1 l1; refine (HRP.out W0 _ P1).mono ?_; rintro e w2 ⟨A2, c2, he, P2, b2⟩; unfold rval rcells at he; subst he; have a1 : (w2.alloc (.cells #[.int .i64 (s'.size : Int), .int .i64 (s'.base : Int), .slice A2 s'.l.length c2, .int .i64 (s'.under : Int)] 29)).cell? ⟨w.heap.size + 1, 1, none⟩ = some (.int .i64 an) := ((BX1.out.below b2.out).below (Me.below_alloc (Below.refl _ _))).act.2.1)
    | (go_at_call 20; obtain ⟨P3, L3, B3, X3, T3, Q3⟩ := play_box P2.out L1.out b2.out.size (but_more B1.out b2.out) (BX1.out.below b2.out) (rcells s' A2 c2); refine (HPP.out (w2.alloc (.cells #[.int .i64 (s'.size : Int), .int .i64 (s'.base : Int), .slice A2 s'.l.length c2, .int .i64 (s'.under : Int)] 29)) _ s'.l A2 c2 P3 L3).mono ?_; rintro e w4 ⟨rfl, P4, b4⟩; obtain ⟨X4, T4, B4⟩ := play_keep b4.out X3.out T3.out Q3.out (by have := HN1.out; have := BX1.out.lt; omega) B3.out; obtain ⟨y0, y1, y2, y3⟩ := rrow T4.out; have HZ := Lib.hid X4.out.z; have FIN := Lib.hid (play_fin P4.out (.inl (.inr ⟨by omega, by have := BX1.out.lt; omega⟩)) (fun q hq => .inl (.inl hq)) (fun q hq => by have := hX0.out q hq; omega) HZ.out B4.out (by have := hM.out; omega)); clear a1 HRP HPP P1 P2 P3)
    | (refine wpList_store_row rfl 29 (.tmp 6) (.tmp 130) rfl (w.heap.size + 1 + 1) (rcells s' A2 c2) rfl rfl 29 _ HZ.out (by kernel_rfl) rfl (rc_one _ _ _) ?_))
  refine ret_cell rfl rfl FIN.out.1 rfl Try.underlying29 (by kernel_rfl) rfl ?_
  exact ⟨s', A2, c2, rfl, HOK', FIN.out.2.1, FIN.out.2.2⟩
end Go.Proofs.Ytdfjlhiliifapaa.Sn
