/- play: Send. -/
import Derived.Test.YtdfjlhiliifapaaSnPlay
namespace Go.Proofs.Ytdfjlhiliifapaa.Sn
open Go.RowKit
open Go.Proofs.Ytdfjlhiliifapaa.Me Go.Proofs.Ytdfjlhiliifapaa.Hd
set_option linter.unusedVariables false
set_option linter.unusedSimpArgs false
theorem sendP_lt {s : Snd} (ok : s.Ok) : ∀ z ∈ sendP s, z < 256 := by
  intro z hz
  unfold sendP at hz
  split at hz
  · by_cases h : s.under < s.l.length
    · exact (ok.at_ h).2.2 z hz
    · simp [lsAt, h] at hz
  · simp at hz
theorem sendP_len {s : Snd} (ok : s.Ok) : (sendP s).length ≤ 121 := by
  unfold sendP
  split
  · by_cases h : s.under < s.l.length
    · exact (ok.at_ h).2.1
    · simp [lsAt, h]
  · simp
set_option maxRecDepth 100000 in
set_option maxHeartbeats 4000000 in
theorem play1 (M D : Nat) (w : World) (s : Snd) (A : Option Addr) (c : Nat) (an : Int) (R : Option Addr) (cr : Nat) (p : List Nat) (X0 : Nat → Prop) (hX0 : Hid (∀ q, X0 q → q < w.heap.size)) (h : Hid (Pl M X0 w D s s.l A c (.slice none 0 0) [])) (ok : Hid s.Ok) (hM : Hid (M ≤ w.heap.size)) :
    Calls Try.prog 13 #[.pointer (some ⟨D, 0, none⟩), rval s A c, .agg #[.int .i64 1, .int .i64 an, .slice R p.length cr]] w (PlayP M X0 D w) := by
  rw [show rval s A c = .agg #[.int .i64 (s.size : Int), .int .i64 (s.base : Int), .slice A s.l.length c, .int .i64 (s.under : Int)] from rfl]
  have HT0 : Bt w s A c 1 an R p.length cr (((w.alloc (.cells #[.int .i64 (s.size : Int), .int .i64 (s.base : Int), .slice A s.l.length c, .int .i64 (s.under : Int)] 29)).alloc (.cells #[.int .i64 1, .int .i64 an, .slice R p.length cr] 38)).alloc (.cells #[.int .i64 0, .int .i64 0, .slice none 0 0, .int .i64 0] 29)) := Bt.new w s A c 1 an R p.length cr
  obtain ⟨s', hs'⟩ : ∃ s', sendS s = s' := ⟨_, rfl⟩
  obtain ⟨pp, hpp⟩ : ∃ pp, sendP s = pp := ⟨_, rfl⟩
  obtain ⟨nn, hnn⟩ : ∃ nn, sendN s = nn := ⟨_, rfl⟩
  obtain ⟨oo, hoo⟩ : ∃ oo, sendOk s = oo := ⟨_, rfl⟩
  have HOK' : Hid s'.Ok := by rw [← hs']; exact ok.out.send
  have HB : Hid (∀ z ∈ pp, z < 256) := by rw [← hpp]; exact sendP_lt ok.out
  have HPN : Hid (pp.length ≤ 121) := by rw [← hpp]; exact sendP_len ok.out
  have RP := fun (W : World) (X : Nat → Prop) (P1 : Hid (Pl M X W D s s.l A c (.slice none 0 0) [])) => RSend_p P1 ok s' hs'
  have PP := fun (W : World) (X : Nat → Prop) (l : List (List Nat)) (u : Value) (r : List Nat) (P1 : Hid (Pl M X W D s l A c u r)) (hX : Hid (∀ q, X q → q < W.heap.size)) => Send_p P1 ok hX s' hs'
  rw [hpp, hnn, hoo] at RP PP
  have HRP := Lib.hid RP
  have HPP := Lib.hid PP
  clear hs' hpp hnn hoo RP PP
  go_enter Try.func13, Try.ntmps13
  go_wp2_with (first
    | (go_at_call 27; generalize (((w.alloc (.cells #[.int .i64 (s.size : Int), .int .i64 (s.base : Int), .slice A s.l.length c, .int .i64 (s.under : Int)] 29)).alloc (.cells #[.int .i64 1, .int .i64 an, .slice R p.length cr] 38)).alloc (.cells #[.int .i64 0, .int .i64 0, .slice none 0 0, .int .i64 0] 29)) = W0 at HT0 ⊢; have b1 : Hid (Below w.heap.size w W0) := HT0.b; have BX1 : Hid (Bx w.heap.size s A c 1 an R p.length cr W0) := HT0.x; have HN1 := Lib.hid HT0.n; obtain ⟨p1, m1, l1⟩ := play_at h.out hX0.out b1.out; have P1 := Lib.hid p1; have B1 := Lib.hid m1; have L1 := Lib.hid l1; clear HT0 p1 m1 l1; refine (HRP.out W0 _ P1).mono ?_; rintro e w2 ⟨R2, cr2, he, P2, b2⟩; unfold rval rcells at he; subst he)
    | (go_at_call 21; obtain ⟨P3, L3, B3, X3, T3, Q3⟩ := play_box P2.out L1.out b2.out.size (but_more B1.out b2.out) (BX1.out.below b2.out) (rcells s' A c); refine (HPP.out (w2.alloc (.cells #[.int .i64 (s'.size : Int), .int .i64 (s'.base : Int), .slice A s'.l.length c, .int .i64 (s'.under : Int)] 29)) _ s'.l _ _ P3 L3).mono ?_; rintro e w4 ⟨A1, c1, rfl, o4, P4, b4⟩; obtain ⟨X4, T4, B4⟩ := play_keep b4.out X3.out T3.out Q3.out (by have := HN1.out; have := BX1.out.lt; omega) B3.out; have k1 : (convert 36 9 (.slice R2 pp.length cr2)).run Try.prog w4 = .ok (.string (strOf pp)) w4 := Pl.conv P4.out rfl HB.out 0; have k2 : (convert 36 9 (.slice A1 pp.length c1)).run Try.prog w4 = .ok (.string (strOf pp)) w4 := own_conv o4.out rfl HB.out 0; clear HRP HPP P1 P2 P3))
  clear k1 k2
  have HOW : Hid (∀ q, (Value.slice A1 pp.length c1).ownBlock = some q → (w2.alloc (.cells #[.int .i64 (s'.size : Int), .int .i64 (s'.base : Int), .slice A s'.l.length c, .int .i64 (s'.under : Int)] 29)).heap.size ≤ q) := fun q hq => (World.ownsRow.lt o4.out q hq).1
  have GV : Hid (Giv w4 (.slice A1 pp.length c1) pp.length) := ⟨pp, rfl, HB.out, own_base (B' := 0) o4.out fun _ _ => Nat.zero_le _⟩
  go_loopw [21] (fun i wr => ∃ j : Nat, j ≤ pp.length ∧ i = .int .i64 j ∧ Giv wr (.slice A1 pp.length c1) pp.length ∧ But (fun q => (Value.slice A1 pp.length c1).ownBlock = some q) w4 wr) (fun i _ => pp.length - (intOf i).toNat)
  case atStart => exact ⟨0, Nat.zero_le _, rfl, GV.out, But.refl _ _⟩
  case round =>
    obtain ⟨j, hj, rfl, hgv, hbt⟩ := hrel
    have HGV := Lib.hid hgv
    have HBT := Lib.hid hbt
    clear hgv hbt
    by_cases hjl : j < pp.length
    · have hpn := HPN.out
      obtain ⟨g, y, rfl, hy, hc1, hf1, hob⟩ := HGV.out.cell hjl
      have HOB := Lib.hid hob
      have HY : Hid (255 - y < 256) := by show _ < _; omega
      have HT := Lib.hid (turn8 hy)
      clear hob
      go_wp2
      go_roundw
      case rel =>
        refine ⟨j + 1, by omega, by go_num, ?_⟩
        have e : (255 : Int) - (y : Int) = ((255 - y : Nat) : Int) := by omega
        first
          | exact ⟨by rw [e]; exact HGV.out.put HY.out, HBT.out.set (.inl HOB.out) _⟩
          | exact ⟨by rw [HT.out]; exact HGV.out.put HY.out, HBT.out.set (.inl HOB.out) _⟩
          | exact ⟨HGV.out.put HY.out, HBT.out.set (.inl HOB.out) _⟩
      case measure => simp [intOf]; omega
    · have hjn : ¬ (j : Int) < (pp.length : Int) := by omega
      have nO : ∀ k, k < (w2.alloc (.cells #[.int .i64 (s'.size : Int), .int .i64 (s'.base : Int), .slice A s'.l.length c, .int .i64 (s'.under : Int)] 29)).heap.size → ¬ (Value.slice A1 pp.length c1).ownBlock = some k := fun k hk hq => by have := HOW.out k hq; omega
      have T5 : wr.heap[w2.heap.size]? = some (.cells (rcells s' A c) 29 (0, 0)) := HBT.out.at_ T4.out (nO _ Q3.out)
      have HZ : Hid (wr.heap[w.heap.size + 1 + 1]? = some (.cells zcells 29 (0, 0))) := HBT.out.at_ X4.out.z (nO _ X3.out.lt)
      have P5 := P4.out.but HBT.out fun q hq => .inr (HOW.out q hq)
      have B5 : But (Out M X0) w wr := B4.out.trans HBT.out fun q hlt hq => by have h1 := HOW.out q hq; have h2 := Q3.out; have h3 := b2.out.size; have h4 := b1.out.size; exact absurd (Nat.lt_of_lt_of_le hlt (Nat.le_trans h4 (Nat.le_trans h3 (Nat.le_trans (Nat.le_of_lt h2) h1)))) (Nat.lt_irrefl _)
      have FIN := Lib.hid (play_fin P5 (.inl (.inl (.inr ⟨by omega, by have := BX1.out.lt; omega⟩))) (fun q hq => .inl (.inl (.inl hq))) (fun q hq => by have := hX0.out q hq; omega) HZ.out B5 (by have := hM.out; omega))
      obtain ⟨y0, y1, y2, y3⟩ := rrow T5
      clear T5 P5 B5 nO
      go_wp2_with (refine wpList_store_row rfl 29 (.tmp 6) (.tmp 111) rfl (w.heap.size + 1 + 1) (rcells s' A c) rfl rfl 29 _ HZ.out (by kernel_rfl) rfl (rc_one _ _ _) ?_)
      refine ret_cell rfl rfl FIN.out.1 rfl Try.underlying29 (by kernel_rfl) rfl ?_
      exact ⟨s', A, c, rfl, HOK', FIN.out.2.1, FIN.out.2.2⟩
end Go.Proofs.Ytdfjlhiliifapaa.Sn
