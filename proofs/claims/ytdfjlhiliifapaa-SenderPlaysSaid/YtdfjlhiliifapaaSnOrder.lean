/- The walk of the law SenderOrder. -/
import Derived.Test.YtdfjlhiliifapaaSnOrd
namespace Go.Proofs.Ytdfjlhiliifapaa.Sn
open Go.RowKit
open Go.Proofs.Ytdfjlhiliifapaa.Me Go.Proofs.Ytdfjlhiliifapaa.Hd
set_option linter.unusedVariables false
set_option linter.unusedSimpArgs false

/-- Out of Under's answer: how many there are. -/
theorem under_form {w w' : World} {s : Snd} {v : Value} (h : Mi.Own w' w.heap.size v (Wn.goes (s.base : Int) s.under)) : ∃ A c, v = .slice A s.under c := by
  obtain ⟨A, c, e, _⟩ := Mi.Own.form h
  rw [Wn.goes_length] at e
  exact ⟨A, c, e⟩
/-- A round's state behind Under. -/
theorem OrdI.under {w0 w : World} {D n out k : Nat} {ps : List (List Nat)} {v : Value} (h : OrdI w0 D n ps out k v w) :
    Calls Try.prog 15 #[.pointer (some ⟨D, 0, none⟩)] w fun e w' => ∃ A c u, e = .returned (.slice A u c) ∧ u ≤ n ∧ Hid (OrdI w0 D n ps out k v w') := by
  obtain ⟨s, g, ok, hsz, hgn, hout, hpk, hsn, hpo, hbl⟩ := h
  refine (Under_s _ _ w D s hsn ok).mono ?_
  rintro e w' ⟨v4, rfl, o4, b4⟩
  obtain ⟨A, c, rfl⟩ := under_form o4.out
  exact ⟨A, c, s.under, rfl, by have := ok.u; omega, s, g, ok, hsz, hgn, hout, hpk, hsn.below b4.out, hpo.but (S := fun _ => False) (But.of_below b4.out) (fun _ _ h => h.elim), hbl.trans (b4.out.mono hbl.size)⟩
theorem pushed_but {w0 w w' : World} {ps : List (List Nat)} {v : Value} (hv : PushedO w0 w v ps) (hb : But (Out w0.heap.size (fun q => v.ownBlock = some q)) w w') : PushedO w0 w' v ps := hv.but hb fun k e h => h.2 e
/-- Behind the append of a payload that was taken. -/
theorem OrdI.push {w0 w2 w3 : World} {D n out k g : Nat} {s : Snd} {ps : List (List Nat)} {p : List Nat} {v v3 : Value} {R : Option Addr} {cr : Nat} (ok : (pushS s p).Ok) (hsz : s.size = n) (hgn : Gone s ps g) (he : pushE s p = 0) (hout : out = g + s.under) (hpk : ps.length ≤ k)
    (hsn : Sn w0.heap.size (fun q => v.ownBlock = some q) w2 D (pushS s p)) (hb : Below w0.heap.size w0 w2) (hv : PushedO w0 w3 v3 (ps ++ [p]))
    (hg : (w2.alloc (.cells #[.slice R p.length cr] 36)).grownBy w3 v.ownBlock) (hl : ∀ k, v3.ownBlock = some k → v.ownBlock = some k ∨ (w2.alloc (.cells #[.slice R p.length cr] 36)).heap.size ≤ k) (hvb : ∀ k, v.ownBlock = some k → w0.heap.size ≤ k) : OrdI w0 D n (ps ++ [p]) out (k + 1) v3 w3 := by
  obtain ⟨q1, q2, q3⟩ := hgn.push p he
  refine ⟨pushS s p, g, ok, q2.trans hsz, q1, by rw [q3]; exact hout, by simp; omega, ?_, hv, ?_⟩
  · exact (hsn.below (Me.below_alloc (Below.refl _ _))).swap hg (fun k e => .inl e) hl
  · exact (hb.alloc hb.size _).grown hg (Nat.le_trans hb.size (by simp)) hvb
set_option maxRecDepth 100000 in
set_option maxHeartbeats 4000000 in
theorem order (size : Int) (Al : Option Addr) (len cap : Nat) (ls0 : List Ac) (w : World) (w0 : (Lit.int .i64 size).wf = true) (w1 : len = ls0.length ∧ len ≤ cap ∧ cap ≤ 9223372036854775807 ∧ Acts w Al ls0) :
    Calls Try.prog 4 #[.int .i64 size, .slice Al len cap] w fun e w' => e = .returned (.bool true) ∧ Below w.heap.size w w' := by
  obtain ⟨rfl, hlc, hm, hacts⟩ := w1
  by_cases hbad : size < 1 ∨ 63 < size
  · have N := Lib.hid (New_bad size hbad w)
    have HW := Lib.hid (awake_any w)
    by_cases h1 : size < 1
    all_goals
      try (have h2 : 63 < size := by omega)
      clear hbad w0 hacts
      go_enter Try.func4, Try.ntmps4
      go_wp2_with (first
        | (go_at_call 9; refine N.out.mono ?_; rintro e w' ⟨rfl, rfl⟩)
        | (go_at_call 11; refine HW.out.mono ?_; rintro e w9 ⟨rfl, hb9⟩))
      go_ret
      exact ⟨rfl, hb9.out⟩
  · obtain ⟨n, rfl⟩ : ∃ n : Nat, size = (n : Int) := ⟨size.toNat, by omega⟩
    have hn1 : 1 ≤ n := by omega
    have hn2 : n ≤ 63 := by omega
    have N := Lib.hid (New_s w.heap.size no n hn1 hn2 w (Nat.le_refl _) (fun k hk => hk.elim))
    obtain ⟨ls, hls⟩ : ∃ ls, ls0.take 300 = ls := ⟨_, rfl⟩
    have HC := Lib.hid (fun W => cutA_any Al cap ls0 W hlc hm ls.length (by rw [hls]))
    have HA : Hid (Acts w Al ls) := by rw [← hls]; exact hacts.take 300
    have h300 : ls.length ≤ 300 := by rw [← hls]; simp; omega
    have H300 := Lib.hid h300
    have HN2 := Lib.hid hn2
    have HNEW : Hid ((newS n).Ok) := Snd.Ok.new hn1 hn2
    obtain ⟨L0, hL0⟩ : ∃ L0, ls0.length = L0 := ⟨_, rfl⟩
    rw [hL0] at HC ⊢
    clear hbad hn1 hn2 w0 hls hlc hm hacts h300 hL0
    go_enter Try.func4, Try.ntmps4
    go_wp2_with (first
      | (go_at_call 9; refine N.out.mono ?_; rintro e w1 ⟨rfl, H1, B1⟩)
      | (go_at_call 12; refine (HC.out _).mono ?_; rintro e w' ⟨rfl, rfl⟩))
    have HI0 : Hid (OrdI w w.heap.size n [] 0 0 (.slice (some ⟨w1.heap.size, 0, none⟩) 0 0) (w1.alloc (.cells #[] 36))) := by
      have hs := B1.out.size
      refine ⟨newS n, 0, HNEW.out, rfl, Gone.new n, rfl, Nat.le_refl _, ?_, PushedO.lit hs, Me.below_alloc B1.out⟩
      exact H1.out.swap (World.grownBy_alloc w1 _ none) (fun k e => by cases e) fun k e => .inr (by cases e; exact Nat.le_refl _)
    clear H1 B1 N HC HNEW
    obtain ⟨W0, hW0⟩ : ∃ W0, w1.alloc (.cells #[] 36) = W0 := ⟨_, rfl⟩
    obtain ⟨g0, hg0⟩ : ∃ g0, w1.heap.size = g0 := ⟨_, rfl⟩
    rw [hW0, hg0] at HI0
    rw [hW0, hg0]
    clear hW0 hg0
    go_loopw [7, 8, 9] (fun v o i wr => ∃ (k out : Nat) (ps : List (List Nat)), k ≤ ls.length ∧ i = .int .i64 k ∧ o = .int .i64 out ∧ OrdI w w.heap.size n ps out k v wr) (fun _ _ i _ => ls.length - (intOf i).toNat)
    case atStart => exact ⟨0, 0, [], Nat.zero_le _, rfl, rfl, HI0.out⟩
    case round =>
      obtain ⟨k, out, ps, hk, rfl, rfl, s, g, ok, hsz, hgn, hout, hpk, hsn, hpo, hbl⟩ := hrel
      have OK := Lib.hid ok
      have HSZ := Lib.hid hsz
      have HGN := Lib.hid hgn
      have HOUT := Lib.hid hout
      have HPK := Lib.hid hpk
      have HSN := Lib.hid hsn
      have HPO := Lib.hid hpo
      have HBL := Lib.hid hbl
      clear ok hsz hgn hout hpk hsn hpo hbl HI0
      by_cases hlt : k < ls.length
      · obtain ⟨b, off, R, cr, rfl, hbb, c0, c1, c2, r1, r2, r3, r4⟩ := HA.out k hlt
        have hk300 : (k : Int) < 300 := by have := H300.out; omega
        have d0 := (HBL.out.cell (p := ⟨b, off + k * 3, none⟩) hbb).trans c0
        have d1 := (HBL.out.cell (p := ⟨b, off + k * 3 + 1, none⟩) hbb).trans c1
        have d2 := (HBL.out.cell (p := ⟨b, off + k * 3 + 2, none⟩) hbb).trans c2
        obtain ⟨⟨kd, an, p⟩, hac⟩ : ∃ a, acAt ls k = a := ⟨_, rfl⟩
        rw [hac] at d0 d1 d2 r1 r3 r4 c2
        simp only at d0 d1 d2 r1 r3 r4 c2
        have HR3 := Lib.hid r3
        have HR4 := Lib.hid r4
        have HO : Hid (∀ q, u7.ownBlock = some q → q < wr.heap.size) := HPO.out.lt
        have HBB := Lib.hid hbb
        have C2 := Lib.hid c2
        have HVB : Hid (∀ q, u7.ownBlock = some q → w.heap.size ≤ q) := by obtain ⟨_, _, h, _⟩ := HPO.out; exact h
        have C2 := Lib.hid c2
        clear c0 c1 c2 hac
        by_cases hk0 : kd = 0
        · subst hk0
          have hpl : p.length ≤ 140737488355328 := by omega
          have PP := Push_s w.heap.size (fun q => u7.ownBlock = some q) wr w.heap.size s HSN OK HBL.out.size HO R cr p ((HR3.out.below HBL.out).more HBL.out.size) HR4 hpl
          clear hpl
          by_cases he : pushE s p = 0
          · rw [he] at PP
            have HPP := Lib.hid PP
            have HE := Lib.hid he
            have HOK2 := Lib.hid (OK.out.push HR3.out.1)
            have HLN := Lib.hid (show (ps.length + 1) * 24 ≤ 140737488355328 by have := HPK.out; omega)
            clear PP he
            go_wp2_with (first
              | (go_at_call 19; refine HPP.out.mono ?_; rintro e w2 ⟨rfl, H2, b2⟩; have B2 : Hid (Below w.heap.size w w2) := HBL.out.trans (but_out b2.out HBL.out.size); have x2 := (B2.out.cell (p := ⟨b, off + k * 3 + 2, none⟩) HBB.out).trans C2.out; have V2 := Lib.hid (pushed_but HPO.out b2.out))
              | (at_builtin; refine appO (w0 := w) (wl := w2) rfl (.tmp 93) (.tmp 99) rfl u7 ps p R cr rfl rfl V2.out HR3.out HR4.out B2.out.size (by rfl) HLN.out ?_; intro v3 w3 hv3 hg3 hl3; obtain ⟨A3, c3, rfl⟩ := hv3.form; have HI3 := Lib.hid (OrdI.push HOK2.out HSZ.out HGN.out HE.out HOUT.out HPK.out H2.out B2.out hv3 hg3 hl3 HVB.out); clear hv3 hg3 hl3)
              | (go_at_call 15; refine (OrdI.under HI3.out).mono ?_; rintro e w4 ⟨A4, c4, u, rfl, hu, HI4⟩; have gu : (u : Int) ≤ (n : Int) := by omega))
            go_roundw
            case rel => exact ⟨k + 1, out, ps ++ [p], by omega, by go_num, rfl, by rw [List.length_append, List.length_singleton] at HI4; exact HI4.out⟩
            case measure => simp [intOf]; omega
          · have HE : Hid (pushS s p = s) := Gone.keep he
            rw [HE.out] at PP
            obtain ⟨ee, hee⟩ : ∃ ee, pushE s p = ee := ⟨_, rfl⟩
            rw [hee] at PP he
            have ge : ((ee : Int) == 0) = false := beq_eq_false_iff_ne.mpr (by omega)
            have HPP := Lib.hid PP
            clear PP he hee
            go_wp2_with (first
              | (go_at_call 19; refine HPP.out.mono ?_; rintro e w2 ⟨rfl, H2, b2⟩; have B2 : Hid (Below w.heap.size w w2) := HBL.out.trans (but_out b2.out HBL.out.size); have HI3 : Hid (OrdI w w.heap.size n ps out (k + 1) u7 w2) := ⟨s, g, OK.out, HSZ.out, HGN.out, HOUT.out, Nat.le_succ_of_le HPK.out, H2.out, pushed_but HPO.out b2.out, B2.out⟩)
              | (go_at_call 15; refine (OrdI.under HI3.out).mono ?_; rintro e w4 ⟨A4, c4, u, rfl, hu, HI4⟩; have gu : (u : Int) ≤ (n : Int) := by omega))
            go_roundw
            case rel => exact ⟨k + 1, out, ps, by omega, by go_num, rfl, HI4.out⟩
            case measure => simp [intOf]; omega
        · have hkb : (kd == 0) = false := beq_eq_false_iff_ne.mpr hk0
          by_cases hk2 : kd = 2
          · subst hk2
            have AA := Ack_s w.heap.size (fun q => u7.ownBlock = some q) wr w.heap.size s HSN OK HBL.out.size HO an
            obtain ⟨q1, q2, q3⟩ := HGN.out.ack OK.out an
            have HAA := Lib.hid AA
            have HQ : Hid (Gone (ackS s an) ps (g + ackN s an) ∧ (ackS s an).size = n ∧ out = g + ackN s an + (ackS s an).under) := ⟨q1, q2.trans HSZ.out, by rw [HOUT.out]; omega⟩
            clear q1 q2 q3 AA hkb hk0
            go_wp2_with (first
              | (go_at_call 20; refine HAA.out.mono ?_; rintro e w2 ⟨rfl, H2, b2⟩; have B2 : Hid (Below w.heap.size w w2) := HBL.out.trans (but_out b2.out HBL.out.size); have HI3 : Hid (OrdI w w.heap.size n ps out (k + 1) u7 w2) := ⟨ackS s an, g + ackN s an, OK.out.ack an, HQ.out.2.1, HQ.out.1, HQ.out.2.2, Nat.le_succ_of_le HPK.out, H2.out, pushed_but HPO.out b2.out, B2.out⟩)
              | (go_at_call 15; refine (OrdI.under HI3.out).mono ?_; rintro e w4 ⟨A4, c4, u, rfl, hu, HI4⟩; have gu : (u : Int) ≤ (n : Int) := by omega))
            go_roundw
            case rel => exact ⟨k + 1, out, ps, by omega, by go_num, rfl, HI4.out⟩
            case measure => simp [intOf]; omega
          · have hkc : (kd == 2) = false := beq_eq_false_iff_ne.mpr hk2
            have SS := Send_s w.heap.size (fun q => u7.ownBlock = some q) wr w.heap.size s HSN OK HBL.out.size HO
            obtain ⟨q1, q2, q3⟩ := HGN.out.send
            have HQ : Hid ((sendS s).Ok ∧ (sendS s).size = n ∧ Gone (sendS s) ps g) := ⟨OK.out.send, q2.trans HSZ.out, q1⟩
            clear q1 q2 hk0 hk2
            by_cases hs : sendOk s = true
            · obtain ⟨t1, t2, t3⟩ := HGN.out.sent hs
              rw [if_pos hs] at q3
              rw [hs] at SS
              rw [← HOUT.out] at t1 t2 t3
              have HQ3 : Hid (out + 1 = g + (sendS s).under) := by show _ = _; rw [q3, HOUT.out]; omega
              obtain ⟨s', hs'⟩ : ∃ s', sendS s = s' := ⟨_, rfl⟩
              obtain ⟨N3, hN3⟩ : ∃ N3, sendN s = N3 := ⟨_, rfl⟩
              obtain ⟨r, hr⟩ : ∃ r, sendP s = r := ⟨_, rfl⟩
              rw [hs'] at SS HQ HQ3
              rw [hN3] at SS t2
              rw [hr] at SS t3
              obtain ⟨Av, cv, rfl⟩ := HPO.out.form
              have hout2 : (out : Int) < (ps.length : Int) := by omega
              have HDEC := Lib.hid (show decide ((ps.length : Int) ≤ (out : Int)) = false from decide_eq_false (by omega))
              have hpk := HPK.out
              have HGM : Hid (Int.tmod (out : Int) 128 = (N3 : Int)) := by show _ = _; rw [t2]; exact (Int.ofNat_tmod out 128).symm
              have HSS := Lib.hid SS
              have HT3 := Lib.hid t3
              have HT1 := Lib.hid t1
              clear SS q3 hs' hN3 hr t1 t2 t3 hs
              go_wp2_with (go_at_call 21; refine HSS.out.mono ?_; rintro e w2 ⟨A2, c2, rfl, o2, h2, b2⟩; have B2 : Hid (Below w.heap.size w w2) := HBL.out.trans (but_out b2.out HBL.out.size); have H2 := Lib.hid (h2.out.other (O' := fun q => (Value.slice Av ps.length cv).ownBlock = some q) fun _ _ h => .inl h); have V2 := Lib.hid (pushed_but HPO.out b2.out))
              obtain ⟨gp, Rp, crp, rfl, x1, x2, x3⟩ := V2.out.elem HT1.out
              rw [← HT3.out] at x1 x2 x3
              have hrb : ∀ z ∈ r, z < 256 := x2.1
              obtain ⟨y1, y2, _, _⟩ := own_rd o2.out hrb
              have kv1 : ∀ m, (convert 36 9 (.slice A2 r.length c2)).run Try.prog (w2.drewN m) = .ok (.string (strOf r)) (w2.drewN m) := fun m => conv_rd (w2.drewN m) w2.heap.size A2 r c2 (y1.below (Me.below_drewN (Below.refl _ _) m)) y2
              have kv2 : ∀ m, (convert 36 9 (.slice Rp r.length crp)).run Try.prog (w2.drewN m) = .ok (.string (strOf r)) (w2.drewN m) := fun m => conv_rd (w2.drewN m) w.heap.size Rp r crp (x2.below (Me.below_drewN B2.out m)) x3
              have hdec := HDEC.out
              have hdn : decide (ps.length ≤ out) = false := decide_eq_false (by have := HT1.out; omega)
              have gm := HGM.out
              clear x2 x3 y1 y2 hrb
              go_quiet (fail)
              have HI3 : Hid (OrdI w w.heap.size n ps (out + 1) (k + 1) (.slice (some ⟨gp, 0, none⟩) ps.length cv) (w2.drewN nq)) := ⟨s', g, HQ.out.1, HQ.out.2.1, HQ.out.2.2, HQ3.out, Nat.le_succ_of_le HPK.out, H2.out.below (Me.below_drewN (Below.refl _ _) _), V2.out.but (S := fun _ => False) (But.of_below (Me.below_drewN (Below.refl _ _) _)) (fun _ _ h => h.elim), Me.below_drewN B2.out _⟩
              clear kv1 kv2 x1 gm hout2 hdec hdn
              have ho300 : (out : Int) < 300 := by have := HT1.out; have := HPK.out; omega
              go_wp2_with (go_at_call 15; refine (OrdI.under HI3.out).mono ?_; rintro e w4 ⟨A4, c4, u, rfl, hu, HI4⟩; have gu : (u : Int) ≤ (n : Int) := by omega)
              go_roundw
              case rel => exact ⟨k + 1, out + 1, ps, by omega, by go_num, by go_num, HI4.out⟩
              case measure => simp [intOf]; omega
            · have hs0 : sendOk s = false := by simpa using hs
              rw [if_neg hs] at q3
              rw [hs0] at SS
              have HQ3 : Hid (out = g + (sendS s).under) := by show _ = _; rw [q3, HOUT.out]; rfl
              obtain ⟨s', hs'⟩ : ∃ s', sendS s = s' := ⟨_, rfl⟩
              rw [hs'] at SS HQ HQ3
              have HSS := Lib.hid SS
              clear SS q3 hs' hs hs0
              go_wp2_with (go_at_call 21; refine HSS.out.mono ?_; rintro e w2 ⟨A2, c2, rfl, o2, h2, b2⟩; have B2 : Hid (Below w.heap.size w w2) := HBL.out.trans (but_out b2.out HBL.out.size); have H2 := Lib.hid (h2.out.other (O' := fun q => u7.ownBlock = some q) fun _ _ h => .inl h); have V2 := Lib.hid (pushed_but HPO.out b2.out))
              go_quiet (fail)
              have HI3 : Hid (OrdI w w.heap.size n ps out (k + 1) u7 (w2.drewN nq)) := ⟨s', g, HQ.out.1, HQ.out.2.1, HQ.out.2.2, HQ3.out, Nat.le_succ_of_le HPK.out, H2.out.below (Me.below_drewN (Below.refl _ _) _), V2.out.but (S := fun _ => False) (But.of_below (Me.below_drewN (Below.refl _ _) _)) (fun _ _ h => h.elim), Me.below_drewN B2.out _⟩
              go_wp2_with (go_at_call 15; refine (OrdI.under HI3.out).mono ?_; rintro e w4 ⟨A4, c4, u, rfl, hu, HI4⟩; have gu : (u : Int) ≤ (n : Int) := by omega)
              go_roundw
              case rel => exact ⟨k + 1, out, ps, by omega, by go_num, rfl, HI4.out⟩
              case measure => simp [intOf]; omega
      · have hk2 : ¬ (k : Int) < (ls.length : Int) := by omega
        go_wp2_with (go_at_call 11; refine (awake_any wr).mono ?_; rintro e w9 ⟨rfl, hb9⟩)
        go_ret
        exact ⟨rfl, HBL.out.trans (hb9.out.mono HBL.out.size)⟩
end Go.Proofs.Ytdfjlhiliifapaa.Sn
