/- The walk of the law SenderAgain. -/
import Derived.Test.YtdfjlhiliifapaaSnOrder
namespace Go.Proofs.Ytdfjlhiliifapaa.Sn
open Go.RowKit
open Go.Proofs.Ytdfjlhiliifapaa.Me Go.Proofs.Ytdfjlhiliifapaa.Hd
set_option linter.unusedVariables false
set_option linter.unusedSimpArgs false

/-- Of each number: what was sent last with it. -/
def srow (f : Nat → List Nat) : Array Value := ((List.range 128).map fun i => Value.string (strOf (f i))).toArray
theorem srow_at (f : Nat → List Nat) {j : Nat} (h : j < 128) : (srow f)[j]? = some (.string (strOf (f j))) := by simp [srow, h]
def upd (f : Nat → List Nat) (j : Nat) (p : List Nat) (i : Nat) : List Nat := if i = j then p else f i
theorem srow_upd (f : Nat → List Nat) {j : Nat} (p : List Nat) (h : j < 128) : (srow f).setIfInBounds j (.string (strOf p)) = srow (upd f j p) := by
  apply Array.ext_getElem?
  intro i
  have hs : ∀ f, (srow f).size = 128 := fun f => by simp [srow]
  by_cases hi : i < 128
  · rw [srow_at _ hi, Array.getElem?_setIfInBounds]
    by_cases hj : j = i
    · subst hj
      rw [if_pos rfl, if_pos (by rw [hs]; exact hi)]
      simp [upd]
    · rw [if_neg hj, srow_at _ hi]
      have : upd f j p i = f i := by unfold upd; rw [if_neg fun e => hj e.symm]
      rw [this]
  · rw [Array.getElem?_eq_none (by simp [hs]; omega), Array.getElem?_eq_none (by rw [hs]; omega)]
theorem make_row (a : Act) (o : Oper) (ho : o.op = .makeSlice 52 (.const (.int .i64 128)) (.const (.int .i64 128))) (w : World) :
    (execOp a.eval o).run Try.prog w = .ok (.value (.slice (some ⟨w.heap.size, 0, none⟩) 128 128)) (w.alloc (.cells (srow fun _ => []) 9 (0, 0))) := by
  unfold execOp
  rw [ho]
  kernel_rfl
/-- Block g holds these strings. -/
def Strs (w : World) (g : Nat) (f : Nat → List Nat) : Prop := w.heap[g]? = some (.cells (srow f) 9 (0, 0))
theorem Strs.lt {w : World} {g : Nat} {f : Nat → List Nat} (h : Strs w g f) : g < w.heap.size := (Array.getElem?_eq_some_iff.1 h).1
theorem Strs.cell {w : World} {g : Nat} {f : Nat → List Nat} (h : Strs w g f) {j : Nat} (hj : j < 128) : w.cell? ⟨g, j, none⟩ = some (.string (strOf (f j))) := by
  rw [cell_of_row w g j _ _ (0, 0) h, srow_at f hj]
theorem Strs.frozen {w : World} {g : Nat} {f : Nat → List Nat} (h : Strs w g f) (j : Nat) : w.frozen? ⟨g, j, none⟩ = false := frozen_of_row w g j _ _ h
theorem Strs.put {w : World} {g j : Nat} {f : Nat → List Nat} {p : List Nat} (h : Strs w g f) (hj : j < 128) : Strs (w.setCell ⟨g, j, none⟩ (.string (strOf p))) g (upd f j p) := by
  unfold Strs
  rw [heap_setCell_same w g j _ _ _ h, srow_upd f p hj]
/-- What was sent and is under way stands there. -/
def Fit (s : Snd) (f : Nat → List Nat) : Prop := ∀ i, i < s.under → f ((s.base + i) % 128) = lsAt s.l i
theorem Fit.push {s : Snd} {f : Nat → List Nat} (h : Fit s f) (ok : s.Ok) (p : List Nat) : Fit (pushS s p) f ∧ (pushS s p).size = s.size := by
  unfold pushS
  split
  · refine ⟨fun i hi => ?_, rfl⟩
    have hul := ok.ul
    show f ((s.base + i) % 128) = lsAt (s.l ++ [p]) i
    rw [lsAt_append_left (Nat.lt_of_lt_of_le hi hul)]
    exact h i hi
  · exact ⟨h, rfl⟩
theorem Fit.ack {s : Snd} {f : Nat → List Nat} (h : Fit s f) (n : Int) : Fit (ackS s n) f ∧ (ackS s n).size = s.size := by
  unfold ackS
  split
  · rename_i he
    obtain ⟨e1, e2, e3⟩ := ack_ok he
    refine ⟨fun i hi => ?_, rfl⟩
    simp only at hi
    have hw := wayOf_eq s n
    obtain ⟨a, ha⟩ : ∃ a, wayOf s n = a := ⟨_, rfl⟩
    rw [ha] at hi e3 hw ⊢
    show f ((n.toNat + i) % 128) = lsAt (s.l.drop a) i
    rw [lsAt_drop, ← h (a + i) (by omega)]
    congr 1
    omega
  · exact ⟨h, rfl⟩
theorem Fit.send {s : Snd} {f : Nat → List Nat} (h : Fit s f) (ok : s.Ok) : (sendS s).size = s.size ∧ (sendOk s = true → sendN s < 128 ∧ Fit (sendS s) (upd f (sendN s) (sendP s))) ∧ (sendOk s = false → Fit (sendS s) f) := by
  refine ⟨by unfold sendS; split <;> rfl, fun hs => ?_, fun hs => ?_⟩
  · unfold sendS sendN sendP
    rw [if_pos hs, if_pos hs, if_pos hs]
    refine ⟨Nat.mod_lt _ (by decide), fun i hi => ?_⟩
    simp only at hi ⊢
    have h1 := ok.u
    have h2 := ok.s63
    unfold upd
    by_cases hiu : i = s.under
    · subst hiu; rw [if_pos rfl]
    · rw [if_neg (by omega)]
      exact h i (by omega)
  · unfold sendS
    rw [if_neg (by rw [hs]; decide)]
    exact h
theorem has_goes (base m n : Nat) (hm : m ≤ 63) (hn : n < 128) : Wn.has (Wn.goes (base : Int) m) (n : Int) = decide (((n : Int) - (base : Int)) % 128 < (m : Int)) := by
  rw [Bool.eq_iff_iff, decide_eq_true_eq]
  unfold Wn.has Wn.goes
  simp only [List.any_map, List.any_eq_true, List.mem_range, Function.comp_apply, decide_eq_true_eq]
  constructor
  · rintro ⟨i, hi, e⟩; omega
  · intro h
    exact ⟨(((n : Int) - (base : Int)) % 128).toNat, by omega, by omega⟩
theorem again_yes {s : Snd} {n : Nat} (hn : n < 128) (h : wayOf s (n : Int) < s.under) : againE s (n : Int) = 0 ∧ againP s (n : Int) = lsAt s.l (wayOf s (n : Int)) ∧ (s.base + wayOf s (n : Int)) % 128 = n := by
  have he : againE s (n : Int) = 0 := by
    unfold againE
    rw [if_neg (by omega), if_neg (by omega)]
  refine ⟨he, by unfold againP; rw [if_pos he], ?_⟩
  have := wayOf_eq s (n : Int)
  omega
theorem again_no {s : Snd} {n : Nat} (hn : n < 128) (h : ¬ wayOf s (n : Int) < s.under) : againE s (n : Int) = 4 ∧ againP s (n : Int) = [] := by
  have he : againE s (n : Int) = 4 := by
    unfold againE
    rw [if_neg (by omega), if_pos (by omega)]
  exact ⟨he, by unfold againP; rw [he]; rfl⟩
/-- What a round of SenderAgain's first loop holds. -/
def AgaI (w0 : World) (D n g : Nat) (f : Nat → List Nat) (s : Snd) (wr : World) : Prop :=
  s.Ok ∧ s.size = n ∧ Fit s f ∧ Sn w0.heap.size (fun q => q = g) wr D s ∧ Strs wr g f ∧ Below w0.heap.size w0 wr ∧ w0.heap.size ≤ g
theorem AgaI.call {w0 w w2 : World} {D n g : Nat} {f : Nat → List Nat} {s' : Snd} (ok : s'.Ok) (hsz : s'.size = n) (hf : Fit s' f) (h2 : Sn w0.heap.size (fun q => q = g) w2 D s') (b2 : But (Out w0.heap.size (fun q => q = g)) w w2) (ht : Strs w g f) (hb : Below w0.heap.size w0 w) (hg : w0.heap.size ≤ g) : AgaI w0 D n g f s' w2 :=
  ⟨ok, hsz, hf, h2, (b2.same g ht.lt fun h => h.2 rfl).trans ht, hb.trans (but_out b2 hb.size), hg⟩
theorem AgaI.put {w0 w2 : World} {D n g j : Nat} {f : Nat → List Nat} {s' : Snd} {p : List Nat} (h : AgaI w0 D n g f s' w2 ∨ True) (ok : s'.Ok) (hsz : s'.size = n) (hj : j < 128) (hf : Fit s' (upd f j p)) (h2 : Sn w0.heap.size (fun q => q = g) w2 D s') (ht : Strs w2 g f) (hb : Below w0.heap.size w0 w2) (hg : w0.heap.size ≤ g) :
    AgaI w0 D n g (upd f j p) s' (w2.setCell ⟨g, j, none⟩ (.string (strOf p))) :=
  ⟨ok, hsz, hf, h2.but ((But.refl (fun q => q = g) w2).set (p := ⟨g, j, none⟩) (.inl rfl) _) (fun k hk => .inl hk), ht.put hj, hb.setCell (p := ⟨g, j, none⟩) hg _, hg⟩
set_option maxRecDepth 100000 in
set_option maxHeartbeats 4000000 in
theorem again (size : Int) (Al : Option Addr) (len cap : Nat) (ls0 : List Ac) (w : World) (w0 : (Lit.int .i64 size).wf = true) (w1 : len = ls0.length ∧ len ≤ cap ∧ cap ≤ 9223372036854775807 ∧ Acts w Al ls0) :
    Calls Try.prog 6 #[.int .i64 size, .slice Al len cap] w fun e w' => e = .returned (.bool true) ∧ Below w.heap.size w w' := by
  obtain ⟨rfl, hlc, hm, hacts⟩ := w1
  by_cases hbad : size < 1 ∨ 63 < size
  · have N := Lib.hid (New_bad size hbad w)
    have HW := Lib.hid (awake_any w)
    by_cases h1 : size < 1
    all_goals
      try (have h2 : 63 < size := by omega)
      clear hbad w0 hacts
      go_enter Try.func6, Try.ntmps6
      go_wp2_with (first
        | (go_at_call 9; refine N.out.mono ?_; rintro e w' ⟨rfl, rfl⟩)
        | (go_at_call 11; refine HW.out.mono ?_; rintro e w9 ⟨rfl, hb9⟩))
      go_ret
      exact ⟨rfl, hb9.out⟩
  · obtain ⟨n, rfl⟩ : ∃ n : Nat, size = (n : Int) := ⟨size.toNat, by omega⟩
    have hn1 : 1 ≤ n := by omega
    have hn2 : n ≤ 63 := by omega
    have N := Lib.hid (New_s w.heap.size no n hn1 hn2 w (Nat.le_refl _) (fun k hk => hk.elim))
    obtain ⟨ls, hls⟩ : ∃ ls, ls0.take 300 = ls := ⟨_, rfl⟩
    have HC := Lib.hid (fun W => cutA_any Al cap ls0 W hlc hm ls.length (by rw [hls]))
    have HA : Hid (Acts w Al ls) := by rw [← hls]; exact hacts.take 300
    have h300 : ls.length ≤ 300 := by rw [← hls]; simp; omega
    have H300 := Lib.hid h300
    have HNEW : Hid ((newS n).Ok) := Snd.Ok.new hn1 hn2
    obtain ⟨L0, hL0⟩ : ∃ L0, ls0.length = L0 := ⟨_, rfl⟩
    rw [hL0] at HC ⊢
    clear hbad hn1 hn2 w0 hls hlc hm hacts h300 hL0
    go_enter Try.func6, Try.ntmps6
    go_wp2_with (first
      | (go_at_call 9; refine N.out.mono ?_; rintro e w1 ⟨rfl, H1, B1⟩)
      | (go_at_call 12; refine (HC.out _).mono ?_; rintro e w' ⟨rfl, rfl⟩)
      | (refine Mi.allocTo rfl (.slice (some ⟨w1.heap.size, 0, none⟩) 128 128) (.cells (srow fun _ => []) 9 (0, 0)) (make_row _ _ rfl _) ?_))
    have HI0 : Hid (AgaI w w.heap.size n w1.heap.size (fun _ => []) (newS n) (w1.alloc (.cells (srow fun _ => []) 9 (0, 0)))) :=
      ⟨HNEW.out, rfl, fun i hi => absurd hi (Nat.not_lt_zero _), H1.out.swap (World.grownBy_alloc w1 _ none) (fun k e => by cases e) (fun k e => .inr (Nat.le_of_eq e.symm)), heap_alloc_new w1 _, Me.below_alloc B1.out, B1.out.size⟩
    clear H1 B1 N HC
    obtain ⟨W0, hW0⟩ : ∃ W0, w1.alloc (.cells (srow fun _ => []) 9 (0, 0)) = W0 := ⟨_, rfl⟩
    obtain ⟨g0, hg0⟩ : ∃ g0, w1.heap.size = g0 := ⟨_, rfl⟩
    rw [hW0, hg0] at HI0
    rw [hW0, hg0]
    clear hW0 hg0
    go_loopw [8] (fun i wr => ∃ (k : Nat) (f : Nat → List Nat) (s : Snd), k ≤ ls.length ∧ i = .int .i64 k ∧ AgaI w w.heap.size n g0 f s wr) (fun i _ => ls.length - (intOf i).toNat)
    case atStart => exact ⟨0, _, newS n, Nat.zero_le _, rfl, HI0.out⟩
    case round =>
      obtain ⟨k, f, s, hk, rfl, ok, hsz, hft, hsn, hst, hbl, hg0⟩ := hrel
      have OK := Lib.hid ok
      have HSZ := Lib.hid hsz
      have HFT := Lib.hid hft
      have HSN := Lib.hid hsn
      have HST := Lib.hid hst
      have HBL := Lib.hid hbl
      have HG0 := Lib.hid hg0
      have HO : Hid (∀ q, q = g0 → q < wr.heap.size) := fun q hq => by subst hq; exact hst.lt
      clear ok hsz hft hsn hst hbl hg0 HI0
      by_cases hlt : k < ls.length
      · obtain ⟨b, off, R, cr, rfl, hbb, c0, c1, c2, r1, r2, r3, r4⟩ := HA.out k hlt
        have hk300 : (k : Int) < 300 := by have := H300.out; omega
        have d0 := (HBL.out.cell (p := ⟨b, off + k * 3, none⟩) hbb).trans c0
        have d1 := (HBL.out.cell (p := ⟨b, off + k * 3 + 1, none⟩) hbb).trans c1
        have d2 := (HBL.out.cell (p := ⟨b, off + k * 3 + 2, none⟩) hbb).trans c2
        obtain ⟨⟨kd, an, p⟩, hac⟩ : ∃ a, acAt ls k = a := ⟨_, rfl⟩
        rw [hac] at d0 d1 d2 r1 r3 r4
        simp only at d0 d1 d2 r1 r3 r4
        have HR3 := Lib.hid r3
        have HR4 := Lib.hid r4
        clear c0 c1 c2 hac
        by_cases hk0 : kd = 0
        · subst hk0
          have PP := Push_s w.heap.size (fun q => q = g0) wr w.heap.size s HSN OK HBL.out.size HO R cr p ((HR3.out.below HBL.out).more HBL.out.size) HR4 (by omega)
          obtain ⟨q1, q2⟩ := HFT.out.push OK.out p
          have hok := OK.out.push (p := p) HR3.out.1
          obtain ⟨ee, hee⟩ : ∃ ee, pushE s p = ee := ⟨_, rfl⟩
          obtain ⟨s', hs'⟩ : ∃ s', pushS s p = s' := ⟨_, rfl⟩
          rw [hee, hs'] at PP
          rw [hs'] at q1 q2 hok
          have HPP := Lib.hid PP
          have HQ1 := Lib.hid q1
          have HQ2 := Lib.hid (q2.trans HSZ.out)
          have HOK := Lib.hid hok
          clear PP q1 q2 hok hee hs'
          go_wp2_with (go_at_call 19; refine HPP.out.mono ?_; rintro e w2 ⟨rfl, H2, b2⟩)
          go_roundw
          case rel => exact ⟨k + 1, f, s', by omega, by go_num, AgaI.call HOK.out HQ2.out HQ1.out H2.out b2.out HST.out HBL.out HG0.out⟩
          case measure => simp [intOf]; omega
        · have hkb : (kd == 0) = false := beq_eq_false_iff_ne.mpr hk0
          by_cases hk2 : kd = 2
          · subst hk2
            have AA := Ack_s w.heap.size (fun q => q = g0) wr w.heap.size s HSN OK HBL.out.size HO an
            obtain ⟨q1, q2⟩ := HFT.out.ack an
            have HAA := Lib.hid AA
            have HQ1 := Lib.hid q1
            have HQ2 := Lib.hid (q2.trans HSZ.out)
            have HOK := Lib.hid (OK.out.ack an)
            clear AA q1 q2 hkb hk0
            go_wp2_with (go_at_call 20; refine HAA.out.mono ?_; rintro e w2 ⟨rfl, H2, b2⟩)
            go_roundw
            case rel => exact ⟨k + 1, f, ackS s an, by omega, by go_num, AgaI.call HOK.out HQ2.out HQ1.out H2.out b2.out HST.out HBL.out HG0.out⟩
            case measure => simp [intOf]; omega
          · have hkc : (kd == 2) = false := beq_eq_false_iff_ne.mpr hk2
            have SS := Send_s w.heap.size (fun q => q = g0) wr w.heap.size s HSN OK HBL.out.size HO
            obtain ⟨q1, q2, q3⟩ := HFT.out.send OK.out
            have HOK := Lib.hid OK.out.send
            have HQ1 := Lib.hid (q1.trans HSZ.out)
            clear hk0 hk2 q1
            by_cases hs : sendOk s = true
            · obtain ⟨t1, t2⟩ := q2 hs
              rw [hs] at SS
              have hpb : ∀ z ∈ sendP s, z < 256 := by
                unfold sendP
                rw [if_pos hs]
                exact (OK.out.at_ (of_decide_eq_true hs).2).2.2
              obtain ⟨s', hs'⟩ : ∃ s', sendS s = s' := ⟨_, rfl⟩
              obtain ⟨N3, hN3⟩ : ∃ N3, sendN s = N3 := ⟨_, rfl⟩
              obtain ⟨r, hr⟩ : ∃ r, sendP s = r := ⟨_, rfl⟩
              rw [hs', hN3, hr] at SS t2
              rw [hN3] at t1
              rw [hs'] at HOK HQ1
              rw [hr] at hpb
              have HSS := Lib.hid SS
              have HT1 := Lib.hid t1
              have HT2 := Lib.hid t2
              have HPB := Lib.hid hpb
              have hn128 : (N3 : Int) < 128 := by omega
              have gand : bits .and .i64 (N3 : Int) 127 = (N3 : Int) := by rw [Mi.and127]; omega
              clear SS q2 q3 hs' hN3 hr t1 t2 hs hpb
              go_wp2_with (go_at_call 21; refine HSS.out.mono ?_; rintro e w2 ⟨A2, c2, rfl, o2, h2, b2⟩; have B2 : Hid (Below w.heap.size w w2) := HBL.out.trans (but_out b2.out HBL.out.size); have H2 := Lib.hid (h2.out.other (O' := fun q => q = g0) fun _ _ h => .inl h); have ST2 : Hid (Strs w2 g0 f) := (b2.out.same g0 HST.out.lt fun h => h.2 rfl).trans HST.out; have y1 := ST2.out.cell HT1.out; have y2 := ST2.out.frozen N3; obtain ⟨z1, z2, _, _⟩ := own_rd o2.out HPB.out; have kv := conv_rd w2 w2.heap.size A2 r c2 z1 z2; clear z1 z2)
              go_roundw
              case rel => exact ⟨k + 1, upd f N3 r, s', by omega, by go_num, AgaI.put (.inr trivial) HOK.out HQ1.out HT1.out HT2.out H2.out ST2.out B2.out HG0.out⟩
              case measure => simp [intOf]; omega
            · have hs0 : sendOk s = false := by simpa using hs
              have t2 := q3 hs0
              rw [hs0] at SS
              obtain ⟨s', hs'⟩ : ∃ s', sendS s = s' := ⟨_, rfl⟩
              rw [hs'] at SS t2 HOK HQ1
              have HSS := Lib.hid SS
              have HT2 := Lib.hid t2
              clear SS q2 q3 hs' hs hs0 t2
              go_wp2_with (go_at_call 21; refine HSS.out.mono ?_; rintro e w2 ⟨A2, c2, rfl, o2, h2, b2⟩; have H2 := Lib.hid (h2.out.other (O' := fun q => q = g0) fun _ _ h => .inl h))
              go_roundw
              case rel => exact ⟨k + 1, f, s', by omega, by go_num, AgaI.call HOK.out HQ1.out HT2.out H2.out b2.out HST.out HBL.out HG0.out⟩
              case measure => simp [intOf]; omega
      · have hk2 : ¬ (k : Int) < (ls.length : Int) := by omega
        have US := Lib.hid (Under_s w.heap.size (fun q => q = g0) wr w.heap.size s HSN OK)
        go_wp2_with (go_at_call 15; refine US.out.mono ?_; rintro e w5 ⟨v5, rfl, o5, b5⟩; obtain ⟨A5, c5, rfl, _, _, m1, _, _⟩ := Mi.Own.form o5.out; rw [Wn.goes_length])
        have M1 := Lib.hid m1
        have S5 := Lib.hid (HSN.out.below b5.out)
        have T5 : Hid (Strs w5 g0 f) := (b5.out.block g0 HST.out.lt).trans HST.out
        have B5 : Hid (Below w.heap.size w w5) := HBL.out.trans (b5.out.mono HBL.out.size)
        have HU := Lib.hid (Nat.le_trans OK.out.u OK.out.s63)
        clear m1 o5 b5 US
        go_loopw [13] (fun i wr => ∃ (m : Nat), m ≤ 128 ∧ i = .int .i64 m ∧ Below w5.heap.size w5 wr) (fun i _ => 128 - (intOf i).toNat)
        case atStart => exact ⟨0, by decide, rfl, Below.refl _ _⟩
        case round =>
          obtain ⟨m, hm, rfl, hb⟩ := hrel
          have HB := Lib.hid hb
          clear hb HST HSN
          by_cases hlt2 : m < 128
          · have hm128 : (m : Int) < 128 := by omega
            have AG := Again_s w.heap.size (fun q => q = g0) wr w.heap.size s (S5.out.but (S := fun q => w5.heap.size ≤ q) ⟨HB.out.os, HB.out.tape, HB.out.output, HB.out.size, fun q hq hn => HB.out.block q hq⟩ fun q hq => .inr (.inr hq)) OK (m : Int)
            have HH := fun (W : World) (hW : Below w5.heap.size w5 W) => Wn.Has_any A5 c5 w5.heap.size (Wn.goes (s.base : Int) s.under) (m : Int) W (M1.out.below hW) (by rw [Wn.goes_length]; have := HU.out; omega)
            rw [Wn.goes_length, has_goes s.base s.under m HU.out hlt2, wayOf_eq s (m : Int)] at HH
            by_cases hy : wayOf s (m : Int) < s.under
            · obtain ⟨e1, e2, e3⟩ := again_yes hlt2 hy
              rw [e1, e2] at AG
              have hd : decide ((wayOf s (m : Int) : Int) < (s.under : Int)) = true := decide_eq_true (by omega)
              rw [hd] at HH
              have hfm : lsAt s.l (wayOf s (m : Int)) = f m := by rw [← HFT.out _ hy, e3]
              have hpb : ∀ z ∈ f m, z < 256 := by rw [← hfm]; exact (OK.out.at_ (by have := OK.out.ul; omega)).2.2
              rw [hfm] at AG
              have HAG := Lib.hid AG
              have HHH := Lib.hid HH
              have HPB := Lib.hid hpb
              have HST5 : Hid (Strs wr g0 f) := (HB.out.block g0 T5.out.lt).trans T5.out
              clear AG HH e1 e2 e3 hd hfm hpb hy
              obtain ⟨r, hr⟩ : ∃ r, f m = r := ⟨_, rfl⟩
              have HRR := Lib.hid hr
              rw [hr] at HAG HPB
              clear hr
              go_wp2_with (go_at_call 24; refine HAG.out.mono ?_; rintro e w6 ⟨A6, c6, rfl, o6, b6⟩)
              have B6 : Hid (Below w5.heap.size w5 w6) := HB.out.trans (b6.out.mono HB.out.size)
              have y1 : w6.cell? ⟨g0, m, none⟩ = some (.string (strOf r)) := by
                have h6 : Strs w6 g0 f := (b6.out.block g0 HST5.out.lt).trans HST5.out
                rw [h6.cell (by omega), HRR.out]
              obtain ⟨z1, z2, _, _⟩ := own_rd o6.out HPB.out
              have kv : ∀ q, (convert 36 9 (.slice A6 r.length c6)).run Try.prog (w6.drewN q) = .ok (.string (strOf r)) (w6.drewN q) := fun q => conv_rd (w6.drewN q) w6.heap.size A6 r c6 (z1.below (Me.below_drewN (Below.refl _ _) q)) z2
              have HH6 := Lib.hid (fun q => HHH.out (w6.drewN q) (Me.below_drewN B6.out q))
              clear z1 z2
              go_quiet ((go_at_call 25; exact (HH6.out _).mono fun _ _ h => ⟨h.1, _, h.2.symm⟩))
              have B7 : Hid (Below w5.heap.size w5 (w6.drewN nq)) := Me.below_drewN B6.out _
              clear kv y1
              go_wp2
              go_roundw
              case rel => exact ⟨m + 1, by omega, by go_num, B7.out⟩
              case measure => simp [intOf]; omega
            · obtain ⟨e1, e2⟩ := again_no hlt2 hy
              rw [e1, e2] at AG
              have hd : decide ((wayOf s (m : Int) : Int) < (s.under : Int)) = false := decide_eq_false (by omega)
              rw [hd] at HH
              have HAG := Lib.hid AG
              have HHH := Lib.hid HH
              clear AG HH e1 e2 hd hy
              go_wp2_with (go_at_call 24; refine HAG.out.mono ?_; rintro e w6 ⟨A6, c6, rfl, o6, b6⟩)
              have B6 : Hid (Below w5.heap.size w5 w6) := HB.out.trans (b6.out.mono HB.out.size)
              have HH6 := Lib.hid (fun q => HHH.out (w6.drewN q) (Me.below_drewN B6.out q))
              go_quiet ((go_at_call 25; exact (HH6.out _).mono fun _ _ h => ⟨h.1, _, h.2.symm⟩))
              have B7 : Hid (Below w5.heap.size w5 (w6.drewN nq)) := Me.below_drewN B6.out _
              go_wp2
              go_roundw
              case rel => exact ⟨m + 1, by omega, by go_num, B7.out⟩
              case measure => simp [intOf]; omega
          · have hm2 : ¬ (m : Int) < 128 := by omega
            go_wp2_with (go_at_call 11; refine (awake_any wr).mono ?_; rintro e w9 ⟨rfl, hb9⟩)
            go_ret
            have hbw := B5.out.trans (HB.out.mono B5.out.size)
            exact ⟨rfl, hbw.trans (hb9.out.mono hbw.size)⟩
end Go.Proofs.Ytdfjlhiliifapaa.Sn
