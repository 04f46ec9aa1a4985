/- The walk of the law RecvAsks. -/
import Derived.Test.YtnfjfcoonabmmaaRvWin
import Derived.Test.YtnfjfcoonabmmaaRvWoke
import Derived.Test.YtnfjfcoonabmmaaRvActs
namespace Go.Proofs.Ytnfjfcoonabmmaa.Rv
open Go.RowKit
open Go.Proofs.Ytnfjfcoonabmmaa.Me Go.Proofs.Ytnfjfcoonabmmaa.Hd Go.Proofs.Ytnfjfcoonabmmaa.Sn
set_option linter.unusedVariables false
set_option linter.unusedSimpArgs false

/-- The law's state: the receiver, the open numbers. -/
structure AsI (w : World) (s : Nat) (r : Rcv) (op : List Int) (A : Option Addr) (wr : World) : Prop where
  rd : Mi.Rd wr wr.heap.size A op
  le : op.length ≤ 128
  rv : Rv (From s) wr (s + 1) s r
  ok : r.Ok
  win : Win r
  opn : Opn r op
  below : Below s w wr
  nA : ∀ a, A = some a → s + 1 < a.block
theorem AsI.same {w wr w2 : World} {s : Nat} {r : Rcv} {op : List Int} {A : Option Addr} (h : AsI w s r op A wr) (hs : s ≤ wr.heap.size) (hb : Below wr.heap.size wr w2) : AsI w s r op A w2 :=
  ⟨(h.rd.below hb).more hb.size, h.le, h.rv.below hb, h.ok, h.win, h.opn, h.below.trans (hb.mono hs), h.nA⟩
/-- Behind a Take that went well: what it asked for, what is open. -/
theorem AsI.took {w wr w0 w2 w3 : World} {s n i : Nat} {r : Rcv} {op al : List Int} {A A2 A3 : Option Addr} {c2 : Nat} {v3 : Value} {p : List Nat} (h : AsI w s r op A wr) (hs : s ≤ wr.heap.size) (hn : n < 128) (hw : way r.waits n < r.size) (hp : ∀ z ∈ p, z < 256)
    (h0 : Below wr.heap.size wr w0) (ht : Tells (keepR r n p) i) (ha : Mi.Own w2 w0.heap.size (.slice A2 al.length c2) al) (hr : Rv (fun k => From s k ∨ w0.heap.size ≤ k) w2 (s + 1) s (takeR r n p i)) (hb : But (fun k => k = s + 1 ∨ k = s) w0 w2)
    (hm : Mi.Own w3 w2.heap.size v3 (missR (takeR r n p i))) (hb3 : Below w2.heap.size w2 w3) :
    Mi.Rd w3 w3.heap.size A op ∧ Mi.Rd w3 w3.heap.size A2 al ∧ ∃ A3 c3, v3 = .slice A3 (missR (takeR r n p i)).length c3 ∧ AsI w s (takeR r n p i) (missR (takeR r n p i)) A3 w3 := by
  have hlt := h.rv.rq.lt
  have e0 := h0.size
  have e2 := hb.size
  have e3 := hb3.size
  have b02 : But (fun k => k = s + 1 ∨ k = s) wr w3 := ((But.of_below (S := fun k => k = s + 1 ∨ k = s) h0).trans hb fun _ _ h => h).trans (But.of_below (S := fun _ => False) hb3) fun _ _ h => h.elim
  have rr : Rv (From s) w2 (s + 1) s (takeR r n p i) := hr.mono fun k _ hk => hk.elim id fun hk => Nat.le_trans (Nat.le_trans hs e0) hk
  obtain ⟨A3, c3, rfl, _, _, q1, _, q2⟩ := Mi.Own.form hm
  obtain ⟨A2', c2', ee, _, _, q3, _, q4⟩ := Mi.Own.form ha
  simp only [Value.slice.injEq, true_and] at ee
  obtain ⟨rfl, rfl⟩ := ee
  refine ⟨?_, (q3.below hb3).more e3, A3, c3, rfl, ⟨q1, missR_le _, rr.below hb3, h.ok.take hn hp i, h.win.take h.ok hn hw hp ht, Opn.ask _, ?_, fun a e => by have := (q2 a e).1; omega⟩⟩
  · refine Mi.Rd.more (B := wr.heap.size) (h.rd.block fun b off e hlt => b02.same b hlt fun hk => ?_) (by omega)
    have := h.nA _ e
    simp only at this
    omega
  · exact h.below.trans (b02.below hs fun k hk => by omega)
theorem AsI.cell {w wr : World} {s : Nat} {r : Rcv} {op : List Int} {A : Option Addr} (h : AsI w s r op A wr) (hs : w.heap.size = s) {b : Nat} (hb : b < w.heap.size) (i : Nat) : wr.cell? ⟨b, i, none⟩ = w.cell? ⟨b, i, none⟩ := h.below.cell (p := ⟨b, i, none⟩) (by rw [← hs]; exact hb)
set_option maxRecDepth 100000 in
set_option maxHeartbeats 8000000 in
theorem rasks (size : Int) (Al : Option Addr) (len cap : Nat) (ls : List Ac) (w : World) (w0 : (Lit.int .i64 size).wf = true) (w1 : len = ls.length ∧ len ≤ cap ∧ cap ≤ 9223372036854775807 ∧ Acts w Al ls) :
    Calls Try.prog 3 #[.int .i64 size, .slice Al len cap] w fun e w' => e = .returned (.bool true) ∧ Below w.heap.size w w' := by
  obtain ⟨rfl, hlc, hm, hacts⟩ := w1
  by_cases hbad : size < 1 ∨ 63 < size
  · have N := Lib.hid (New_bad size hbad w)
    have HW := Lib.hid (awake_any w)
    by_cases h1 : size < 1
    all_goals
      try (have h2 : 63 < size := by omega)
      clear hbad w0 hacts
      go_enter Try.func3, Try.ntmps3
      go_wp2_with (first
        | (go_at_call 7; refine N.out.mono ?_; rintro e w' ⟨rfl, rfl⟩)
        | (go_at_call 8; refine HW.out.mono ?_; rintro e w9 ⟨rfl, hb9⟩))
      go_ret
      exact ⟨rfl, hb9.out⟩
  · obtain ⟨n, rfl⟩ : ∃ n : Nat, size = (n : Int) := ⟨size.toNat, by omega⟩
    have hn1 : 1 ≤ n := by omega
    have hn2 : n ≤ 63 := by omega
    have N := Lib.hid (New_g n hn1 hn2 w)
    obtain ⟨s, hs⟩ : ∃ s, w.heap.size = s := ⟨_, rfl⟩
    rw [hs] at N ⊢
    have HSS := Lib.hid hs
    have HA := Lib.hid hacts
    have HNEW : Hid ((newR n).Ok) := Rcv.Ok.new hn1 hn2
    obtain ⟨L, hL⟩ : ∃ L, ls.length = L := ⟨_, rfl⟩
    have HL := Lib.hid hL
    rw [hL] at hlc ⊢
    clear hbad hn1 hn2 w0 hacts hs hL
    go_enter Try.func3, Try.ntmps3
    go_wp2_with (go_at_call 7; refine N.out.mono ?_; rintro e w1 ⟨rfl, H1, B1⟩)
    have HI0 : Hid (AsI w s (newR n) [] (some ⟨w1.heap.size, 0, none⟩) (w1.alloc (.cells #[] 3))) := by
      have hb : Below w1.heap.size w1 (w1.alloc (.cells #[] 3)) := Me.below_alloc (Below.refl _ _)
      exact ⟨Mi.Rd.nil _ _ _, by simp, H1.out.below hb, HNEW.out, Win.new n, Opn.nil _, B1.out.trans (hb.mono (by have := B1.out.size; have := HSS.out; omega)), fun a e => by cases e; exact H1.out.rq.lt⟩
    clear H1 B1 N HNEW
    generalize w1.alloc (.cells #[] 3) = W0 at HI0
    generalize w1.heap.size = g0 at HI0
    go_loopw [7, 8] (fun o v wr => ∃ (k : Nat) (r : Rcv) (op : List Int) (A : Option Addr) (c : Nat), k ≤ L ∧ v = .int .i64 k ∧ o = .slice A op.length c ∧ AsI w s r op A wr) (fun _ v _ => L - (intOf v).toNat)
    case atStart => exact ⟨0, newR n, [], _, _, Nat.zero_le _, rfl, rfl, HI0.out⟩
    case round =>
      obtain ⟨k, r, op, A, c, hk, rfl, rfl, hI⟩ := hrel
      have HI := Lib.hid hI
      have hsz : s ≤ wr.heap.size := by have := hI.below.size; have := HSS.out; omega
      have HSZ := Lib.hid hsz
      clear hI HI0 hsz
      by_cases hlt : k < L
      · by_cases hlt2 : (k : Int) < 200
        · obtain ⟨b, off, R, cr, rfl, hbb, c0, c1, c2, r1, r2, r3, r4⟩ := HA.out k (by rw [HL.out]; exact hlt)
          have d1 := (HI.out.cell HSS.out hbb (off + k * 3 + 1)).trans c1
          have d2 := (HI.out.cell HSS.out hbb (off + k * 3 + 2)).trans c2
          obtain ⟨an, hAn⟩ : ∃ an, (acAt ls k).n = an := ⟨_, rfl⟩
          obtain ⟨p, hp⟩ : ∃ p, (acAt ls k).p = p := ⟨_, rfl⟩
          rw [hAn] at d1
          rw [hp] at d2 r1 r3 r4
          have HR3 : Hid (Me.Rd wr wr.heap.size R p) := ((r3.below (HSS.out ▸ HI.out.below)).more (by have := HSZ.out; have := HSS.out; omega))
          have HR4 := Lib.hid r4
          have HPL : Hid (p.length ≤ 140737488355328) := by show _ ≤ _; omega
          have HBO := Lib.hid hbb
          have HBW : Hid (b < wr.heap.size) := by have := HSZ.out; have := HSS.out; show _ < _; omega
          obtain ⟨ol, hol⟩ : ∃ ol, op.length = ol := ⟨_, rfl⟩
          have HOL := Lib.hid hol
          rw [hol]
          clear c0 c1 c2 r1 r2 r3 r4 hAn hp hbb hol
          by_cases he : mayE r an p = 0
          · obtain ⟨m, rfl, hm128, hp0, hp121, hway, hnk⟩ := may_ok he
            have HM8 := Lib.hid hm128
            have HT := Lib.hid (fun (W : World) (hW : Hid (Below wr.heap.size wr W)) => Take_g W (s + 1) s r (Lib.hid (HI.out.rv.below hW.out)) (Lib.hid HI.out.ok) m R cr p (Lib.hid ((HR3.out.below hW.out).more hW.out.size)) HR4 HPL HM8 he)
            have HWAY := Lib.hid hway
            have HPB := Lib.hid HR3.out.1
            clear he hp0 hp121 hway hnk hm128 HR3 HR4 HPL
            go_wp2
            refine wp_region_held_drew (S := fun W => W.cell? ⟨b, off + k * 3 + 1, none⟩ = some (.int .i64 (m : Int)) ∧ W.cell? ⟨b, off + k * 3 + 2, none⟩ = some (.slice R p.length cr)) (by kernel_rfl) ⟨d1, d2⟩ (fun hHeld => ?_)
            refine wpAnyH_take (i := 0) (v := ?vz1) rfl (by kernel_rfl) (by kernel_rfl) (by kernel_rfl) (fun _ _ _ h => h) (Or.inl ⟨by rfl, ?hyz1⟩) (by first | assumption | exact trivial) ?restz1
            case hyz1 => intro W hSW; go_simp; try (with_reducible rfl)
            simp only [Act.put, List.getElem_toArray, List.getElem_cons_succ, List.getElem_cons_zero, List.setIfInBounds_toArray, List.set_cons_zero, List.set_cons_succ]
            refine wpAnyH_take (i := 1) (v := ?vz2) rfl (by kernel_rfl) (by kernel_rfl) (by kernel_rfl) (fun _ _ _ h => h) (Or.inl ⟨by rfl, ?hyz2⟩) (by first | assumption | exact trivial) ?restz2
            case hyz2 => intro W hSW; go_simp; try (with_reducible rfl)
            simp only [Act.put, List.getElem_toArray, List.getElem_cons_succ, List.getElem_cons_zero, List.setIfInBounds_toArray, List.set_cons_zero, List.set_cons_succ]
            refine wpAnyH_take (i := 2) (v := ?vz3) rfl (by kernel_rfl) (by kernel_rfl) (by kernel_rfl) (fun _ _ _ h => h) (Or.inl ⟨by rfl, ?hyz3⟩) (by first | assumption | exact trivial) ?restz3
            case hyz3 => intro W hSW; go_simp; try (with_reducible rfl)
            simp only [Act.put, List.getElem_toArray, List.getElem_cons_succ, List.getElem_cons_zero, List.setIfInBounds_toArray, List.set_cons_zero, List.set_cons_succ]
            refine wpAnyH_take (i := 3) (v := ?vz4) rfl (by kernel_rfl) (by kernel_rfl) (by kernel_rfl) (fun _ _ _ h => h) (Or.inl ⟨by rfl, ?hyz4⟩) (by first | assumption | exact trivial) ?restz4
            case hyz4 => intro W hSW; go_simp; try (with_reducible rfl)
            simp only [Act.put, List.getElem_toArray, List.getElem_cons_succ, List.getElem_cons_zero, List.setIfInBounds_toArray, List.set_cons_zero, List.set_cons_succ]
            refine wpAnyH_take (i := 4) (v := ?vz5) rfl (by kernel_rfl) (by kernel_rfl) (by kernel_rfl) (fun _ _ _ h => h) (Or.inl ⟨by rfl, ?hyz5⟩) (by first | assumption | exact trivial) ?restz5
            case hyz5 => intro W hSW; go_simp; try (with_reducible rfl)
            simp only [Act.put, List.getElem_toArray, List.getElem_cons_succ, List.getElem_cons_zero, List.setIfInBounds_toArray, List.set_cons_zero, List.set_cons_succ]
            refine wpAnyH_take (i := 5) (v := ?vz6) rfl (by kernel_rfl) (by kernel_rfl) (by kernel_rfl) (fun _ _ _ h => h) (Or.inl ⟨by rfl, ?hyz6⟩) (by first | assumption | exact trivial) ?restz6
            case hyz6 => intro W hSW; have q5 := hSW.1; go_simp; try (with_reducible rfl)
            simp only [Act.put, List.getElem_toArray, List.getElem_cons_succ, List.getElem_cons_zero, List.setIfInBounds_toArray, List.set_cons_zero, List.set_cons_succ]
            refine wpAnyH_take (i := 6) (v := ?vz7) rfl (by kernel_rfl) (by kernel_rfl) (by kernel_rfl) (fun _ _ _ h => h) (Or.inl ⟨by rfl, ?hyz7⟩) (by first | assumption | exact trivial) ?restz7
            case hyz7 => intro W hSW; go_simp; try (with_reducible rfl)
            simp only [Act.put, List.getElem_toArray, List.getElem_cons_succ, List.getElem_cons_zero, List.setIfInBounds_toArray, List.set_cons_zero, List.set_cons_succ]
            refine wpAnyH_take (i := 7) (v := ?vz8) rfl (by kernel_rfl) (by kernel_rfl) (by kernel_rfl) (fun _ _ _ h => h) (Or.inl ⟨by rfl, ?hyz8⟩) (by first | assumption | exact trivial) ?restz8
            case hyz8 => intro W hSW; go_simp; try (with_reducible rfl)
            simp only [Act.put, List.getElem_toArray, List.getElem_cons_succ, List.getElem_cons_zero, List.setIfInBounds_toArray, List.set_cons_zero, List.set_cons_succ]
            refine wpAnyH_take (i := 8) (v := ?vz9) rfl (by kernel_rfl) (by kernel_rfl) (by kernel_rfl) (fun _ _ _ h => h) (Or.inl ⟨by rfl, ?hyz9⟩) (by first | assumption | exact trivial) ?restz9
            case hyz9 => intro W hSW; go_simp; try (with_reducible rfl)
            simp only [Act.put, List.getElem_toArray, List.getElem_cons_succ, List.getElem_cons_zero, List.setIfInBounds_toArray, List.set_cons_zero, List.set_cons_succ]
            refine wpAnyH_take (i := 9) (v := ?vz10) rfl (by kernel_rfl) (by kernel_rfl) (by kernel_rfl) (fun _ _ _ h => h) (Or.inl ⟨by rfl, ?hyz10⟩) (by first | assumption | exact trivial) ?restz10
            case hyz10 => intro W hSW; go_simp; try (with_reducible rfl)
            simp only [Act.put, List.getElem_toArray, List.getElem_cons_succ, List.getElem_cons_zero, List.setIfInBounds_toArray, List.set_cons_zero, List.set_cons_succ]
            refine wpAnyH_take (i := 10) (v := ?vz11) rfl (by kernel_rfl) (by kernel_rfl) (by kernel_rfl) (fun _ _ _ h => h) (Or.inl ⟨by rfl, ?hyz11⟩) (by first | assumption | exact trivial) ?restz11
            case hyz11 => intro W hSW; have q10 := hSW.2; go_simp; try (with_reducible rfl)
            simp only [Act.put, List.getElem_toArray, List.getElem_cons_succ, List.getElem_cons_zero, List.setIfInBounds_toArray, List.set_cons_zero, List.set_cons_succ]
            refine wpAnyH_ready (rs := [11]) (by kernel_rfl) (by simp) ?_
            refine AllReadyH.cons rfl (fun K hK => ?_) AllReadyH.nil
            have D0 : Hid (Below wr.heap.size wr wr.drew) := (Below.refl _ wr).drew
            go_simp
            go_wp2_with (go_at_call 9; refine (HT.out _ D0).mono ?_; rintro e w2 ⟨i, A1, c1, v1, rfl, ht, _, ha, hr, hb, _⟩; obtain ⟨A2, c2, rfl, _, _, _, _, _⟩ := Mi.Own.form ha.out)
            have hbl : Below s wr.drew w2 := hb.out.below HSZ.out fun k hk => by omega
            have S2 : w2.cell? ⟨b, off + k * 3 + 1, none⟩ = some (.int .i64 (m : Int)) ∧ w2.cell? ⟨b, off + k * 3 + 2, none⟩ = some (.slice R p.length cr) := by
              have hbs : b < s := by rw [← HSS.out]; exact HBO.out
              exact ⟨(hbl.cell (p := ⟨b, off + k * 3 + 1, none⟩) hbs).trans d1, (hbl.cell (p := ⟨b, off + k * 3 + 2, none⟩) hbs).trans d2⟩
            refine hK.out _ _ (S2) (fun hHeld => ?_)
            clear hK K
            refine wpAnyH_take (i := 12) (v := ?vz12) rfl (by kernel_rfl) (by kernel_rfl) (by kernel_rfl) (fun _ _ _ h => h) (Or.inl ⟨by rfl, ?hyz12⟩) (by first | assumption | exact trivial) ?restz12
            case hyz12 => intro W hSW; go_simp; try (with_reducible rfl)
            simp only [Act.put, List.getElem_toArray, List.getElem_cons_succ, List.getElem_cons_zero, List.setIfInBounds_toArray, List.set_cons_zero, List.set_cons_succ]
            refine wpAnyH_take (i := 13) (v := ?vz13) rfl (by kernel_rfl) (by kernel_rfl) (by kernel_rfl) (fun _ _ _ h => h) (Or.inl ⟨by rfl, ?hyz13⟩) (by first | assumption | exact trivial) ?restz13
            case hyz13 => intro W hSW; go_simp; try (with_reducible rfl)
            simp only [Act.put, List.getElem_toArray, List.getElem_cons_succ, List.getElem_cons_zero, List.setIfInBounds_toArray, List.set_cons_zero, List.set_cons_succ]
            refine wpAnyH_take (i := 14) (v := ?vz14) rfl (by kernel_rfl) (by kernel_rfl) (by kernel_rfl) (fun _ _ _ h => h) (Or.inl ⟨by rfl, ?hyz14⟩) (by first | assumption | exact trivial) ?restz14
            case hyz14 => intro W hSW; go_simp; try (with_reducible rfl)
            simp only [Act.put, List.getElem_toArray, List.getElem_cons_succ, List.getElem_cons_zero, List.setIfInBounds_toArray, List.set_cons_zero, List.set_cons_succ]
            refine wpAnyH_take (i := 15) (v := ?vz15) rfl (by kernel_rfl) (by kernel_rfl) (by kernel_rfl) (fun _ _ _ h => h) (Or.inl ⟨by rfl, ?hyz15⟩) (by first | assumption | exact trivial) ?restz15
            case hyz15 => intro W hSW; go_simp; try (with_reducible rfl)
            simp only [Act.put, List.getElem_toArray, List.getElem_cons_succ, List.getElem_cons_zero, List.setIfInBounds_toArray, List.set_cons_zero, List.set_cons_succ]
            refine wpAnyH_take (i := 16) (v := ?vz16) rfl (by kernel_rfl) (by kernel_rfl) (by kernel_rfl) (fun _ _ _ h => h) (Or.inl ⟨by rfl, ?hyz16⟩) (by first | assumption | exact trivial) ?restz16
            case hyz16 => intro W hSW; go_simp; try (with_reducible rfl)
            simp only [Act.put, List.getElem_toArray, List.getElem_cons_succ, List.getElem_cons_zero, List.setIfInBounds_toArray, List.set_cons_zero, List.set_cons_succ]
            refine wpAnyH_take (i := 17) (v := ?vz17) rfl (by kernel_rfl) (by kernel_rfl) (by kernel_rfl) (fun _ _ _ h => h) (Or.inl ⟨by rfl, ?hyz17⟩) (by first | assumption | exact trivial) ?restz17
            case hyz17 => intro W hSW; go_simp; try (with_reducible rfl)
            simp only [Act.put, List.getElem_toArray, List.getElem_cons_succ, List.getElem_cons_zero, List.setIfInBounds_toArray, List.set_cons_zero, List.set_cons_succ]
            refine wpAnyH_take (i := 18) (v := ?vz18) rfl (by kernel_rfl) (by kernel_rfl) (by kernel_rfl) (fun _ _ _ h => h) (Or.inl ⟨by rfl, ?hyz18⟩) (by first | assumption | exact trivial) ?restz18
            case hyz18 => intro W hSW; go_simp; try (with_reducible rfl)
            simp only [Act.put, List.getElem_toArray, List.getElem_cons_succ, List.getElem_cons_zero, List.setIfInBounds_toArray, List.set_cons_zero, List.set_cons_succ]
            refine wpAnyH_done (by kernel_rfl) ?_ _
            have HMS := Lib.hid (Missing_any w2 (s + 1) s (takeR r m p i) (Lib.hid hr.out.rq))
            have HTK := Lib.hid (fun (w3 : World) (v3 : Value) (hm : Mi.Own w3 w2.heap.size v3 (missR (takeR r m p i))) (hb3 : Below w2.heap.size w2 w3) => HI.out.took (A3 := none) HSZ.out HM8.out HWAY.out HPB.out D0.out ht.out ha.out hr.out hb.out hm hb3)
            have HAL := Lib.hid (fun x hx => asks_ok (x := x) HI.out.ok HI.out.win HM8.out HWAY.out HPB.out ht.out HI.out.opn hx)
            clear S2 hbl ha hr hb ht d1 d2 HT
            have hal128 : (askL (goneR (keepR r m p) i).asked (missR (goneR (keepR r m p) i))).length ≤ 128 := Nat.le_trans (askL_le _ _) (missR_le _)
            obtain ⟨r2, hr2⟩ : ∃ r2, takeR r m p i = r2 := ⟨_, rfl⟩
            obtain ⟨al, hal⟩ : ∃ al, askL (goneR (keepR r m p) i).asked (missR (goneR (keepR r m p) i)) = al := ⟨_, rfl⟩
            rw [hr2] at HMS HTK HAL
            rw [hal] at HTK HAL hal128 ⊢
            obtain ⟨ms, hms⟩ : ∃ ms, missR r2 = ms := ⟨_, rfl⟩
            rw [hms] at HMS HTK HAL
            clear hr2 hal hms
            obtain ⟨na, hna⟩ : ∃ na, al.length = na := ⟨_, rfl⟩
            have HNA := Lib.hid hna
            rw [hna] at hal128 ⊢
            clear hna
            go_wp2_with (go_at_call 10; refine HMS.out.mono ?_; rintro e w3 ⟨v3, rfl, hm3, hb3⟩; obtain ⟨q1, q2, A3, c3, rfl, q3⟩ := HTK.out w3 v3 hm3.out hb3.out; have Q1 := Lib.hid q1; have Q2 := Lib.hid q2; have Q3 := Lib.hid q3; clear hm3 hb3 q1 q2 q3)
            have HH1 := Lib.hid (fun (x : Int) => Wn.Has_any A c w3.heap.size op x w3 Q1 (by have := HI.out.le; omega))
            have HH2 := Lib.hid (fun (x : Int) => Wn.Has_any A3 c3 w3.heap.size ms x w3 (Lib.hid Q3.out.rd) (by have := Q3.out.le; omega))
            rw [HOL.out] at HH1
            clear Q1 HMS HTK
            go_loopw [13] (fun v W => ∃ j : Nat, j ≤ na ∧ v = .int .i64 j ∧ W = w3) (fun v _ => na - (intOf v).toNat)
            case atStart => exact ⟨0, Nat.zero_le _, rfl, rfl⟩
            case round =>
              obtain ⟨j, hj, rfl, rfl⟩ := hrel
              by_cases hjl : j < na
              · have hja : j < al.length := by rw [HNA.out]; exact hjl
                obtain ⟨b2, o2, rfl, _, hcs⟩ := Q2.out (by omega)
                have hc := hcs j hja
                have hx := HAL.out (Mi.at_ al j) (by rw [Mi.at_get hja]; exact List.getElem_mem _)
                obtain ⟨x, hxe⟩ : ∃ x, Mi.at_ al j = x := ⟨_, rfl⟩
                rw [hxe] at hc hx
                have HX1 := Lib.hid (HH1.out x)
                have HX2 := Lib.hid (HH2.out x)
                rw [hx.1] at HX1
                rw [hx.2] at HX2
                clear hcs hx hxe hja
                obtain ⟨ml, hml⟩ : ∃ ml, ms.length = ml := ⟨_, rfl⟩
                have HML := Lib.hid hml
                rw [hml] at HX2 ⊢
                clear hml
                go_wp2_with (first
                  | (go_at_call 11; (with_reducible refine HX1.out.mono ?_); rintro e w' ⟨rfl, rfl⟩)
                  | (go_at_call 11; (with_reducible refine HX2.out.mono ?_); rintro e w' ⟨rfl, rfl⟩))
                go_roundw
                case rel => exact ⟨j + 1, by omega, by go_num, trivial⟩
                case measure => simp [intOf]; omega
              · obtain rfl : j = na := by omega
                clear HH1 HH2
                go_wp2
                go_roundw
                case rel => exact ⟨k + 1, r2, ms, A3, c3, by omega, by go_num, rfl, Q3.out⟩
                case measure => simp [intOf]; omega
          · have HT := Lib.hid (fun (W : World) (hW : Hid (Below wr.heap.size wr W)) => Take_no W (s + 1) s r (HI.out.rv.below hW.out).rq HI.out.ok an R cr p (Lib.hid ((HR3.out.below hW.out).more hW.out.size)) HR4 HPL he)
            obtain ⟨ee, hee⟩ : ∃ ee, mayE r an p = ee := ⟨_, rfl⟩
            rw [hee] at HT he
            have ge : ((ee : Int) == 0) = false := beq_eq_false_iff_ne.mpr (by omega)
            clear he hee HR3 HR4 HPL
            go_wp2
            refine wp_region_held_drew (S := KeptN wr) (by kernel_rfl) ((Below.refl _ wr).drew) (fun hHeld => ?_)
            refine wpAnyH_take (i := 0) (v := ?vz19) rfl (by kernel_rfl) (by kernel_rfl) (by kernel_rfl) (fun _ _ _ h => h) (Or.inl ⟨by rfl, ?hyz19⟩) (by first | assumption | exact trivial) ?restz19
            case hyz19 => intro W hSW; go_simp; try (with_reducible rfl)
            simp only [Act.put, List.getElem_toArray, List.getElem_cons_succ, List.getElem_cons_zero, List.setIfInBounds_toArray, List.set_cons_zero, List.set_cons_succ]
            refine wpAnyH_take (i := 1) (v := ?vz20) rfl (by kernel_rfl) (by kernel_rfl) (by kernel_rfl) (fun _ _ _ h => h) (Or.inl ⟨by rfl, ?hyz20⟩) (by first | assumption | exact trivial) ?restz20
            case hyz20 => intro W hSW; go_simp; try (with_reducible rfl)
            simp only [Act.put, List.getElem_toArray, List.getElem_cons_succ, List.getElem_cons_zero, List.setIfInBounds_toArray, List.set_cons_zero, List.set_cons_succ]
            refine wpAnyH_take (i := 2) (v := ?vz21) rfl (by kernel_rfl) (by kernel_rfl) (by kernel_rfl) (fun _ _ _ h => h) (Or.inl ⟨by rfl, ?hyz21⟩) (by first | assumption | exact trivial) ?restz21
            case hyz21 => intro W hSW; go_simp; try (with_reducible rfl)
            simp only [Act.put, List.getElem_toArray, List.getElem_cons_succ, List.getElem_cons_zero, List.setIfInBounds_toArray, List.set_cons_zero, List.set_cons_succ]
            refine wpAnyH_take (i := 3) (v := ?vz22) rfl (by kernel_rfl) (by kernel_rfl) (by kernel_rfl) (fun _ _ _ h => h) (Or.inl ⟨by rfl, ?hyz22⟩) (by first | assumption | exact trivial) ?restz22
            case hyz22 => intro W hSW; go_simp; try (with_reducible rfl)
            simp only [Act.put, List.getElem_toArray, List.getElem_cons_succ, List.getElem_cons_zero, List.setIfInBounds_toArray, List.set_cons_zero, List.set_cons_succ]
            refine wpAnyH_take (i := 4) (v := ?vz23) rfl (by kernel_rfl) (by kernel_rfl) (by kernel_rfl) (fun _ _ _ h => h) (Or.inl ⟨by rfl, ?hyz23⟩) (by first | assumption | exact trivial) ?restz23
            case hyz23 => intro W hSW; go_simp; try (with_reducible rfl)
            simp only [Act.put, List.getElem_toArray, List.getElem_cons_succ, List.getElem_cons_zero, List.setIfInBounds_toArray, List.set_cons_zero, List.set_cons_succ]
            refine wpAnyH_take (i := 5) (v := ?vz24) rfl (by kernel_rfl) (by kernel_rfl) (by kernel_rfl) (fun _ _ _ h => h) (Or.inl ⟨by rfl, ?hyz24⟩) (by first | assumption | exact trivial) ?restz24
            case hyz24 => intro W hSW; have q5 := (KeptN.cell hSW HBW.out (off + k * 3 + 1)).trans d1; go_simp; try (with_reducible rfl)
            simp only [Act.put, List.getElem_toArray, List.getElem_cons_succ, List.getElem_cons_zero, List.setIfInBounds_toArray, List.set_cons_zero, List.set_cons_succ]
            refine wpAnyH_take (i := 6) (v := ?vz25) rfl (by kernel_rfl) (by kernel_rfl) (by kernel_rfl) (fun _ _ _ h => h) (Or.inl ⟨by rfl, ?hyz25⟩) (by first | assumption | exact trivial) ?restz25
            case hyz25 => intro W hSW; go_simp; try (with_reducible rfl)
            simp only [Act.put, List.getElem_toArray, List.getElem_cons_succ, List.getElem_cons_zero, List.setIfInBounds_toArray, List.set_cons_zero, List.set_cons_succ]
            refine wpAnyH_take (i := 7) (v := ?vz26) rfl (by kernel_rfl) (by kernel_rfl) (by kernel_rfl) (fun _ _ _ h => h) (Or.inl ⟨by rfl, ?hyz26⟩) (by first | assumption | exact trivial) ?restz26
            case hyz26 => intro W hSW; go_simp; try (with_reducible rfl)
            simp only [Act.put, List.getElem_toArray, List.getElem_cons_succ, List.getElem_cons_zero, List.setIfInBounds_toArray, List.set_cons_zero, List.set_cons_succ]
            refine wpAnyH_take (i := 8) (v := ?vz27) rfl (by kernel_rfl) (by kernel_rfl) (by kernel_rfl) (fun _ _ _ h => h) (Or.inl ⟨by rfl, ?hyz27⟩) (by first | assumption | exact trivial) ?restz27
            case hyz27 => intro W hSW; go_simp; try (with_reducible rfl)
            simp only [Act.put, List.getElem_toArray, List.getElem_cons_succ, List.getElem_cons_zero, List.setIfInBounds_toArray, List.set_cons_zero, List.set_cons_succ]
            refine wpAnyH_take (i := 9) (v := ?vz28) rfl (by kernel_rfl) (by kernel_rfl) (by kernel_rfl) (fun _ _ _ h => h) (Or.inl ⟨by rfl, ?hyz28⟩) (by first | assumption | exact trivial) ?restz28
            case hyz28 => intro W hSW; go_simp; try (with_reducible rfl)
            simp only [Act.put, List.getElem_toArray, List.getElem_cons_succ, List.getElem_cons_zero, List.setIfInBounds_toArray, List.set_cons_zero, List.set_cons_succ]
            refine wpAnyH_take (i := 10) (v := ?vz29) rfl (by kernel_rfl) (by kernel_rfl) (by kernel_rfl) (fun _ _ _ h => h) (Or.inl ⟨by rfl, ?hyz29⟩) (by first | assumption | exact trivial) ?restz29
            case hyz29 => intro W hSW; have q10 := (KeptN.cell hSW HBW.out (off + k * 3 + 2)).trans d2; go_simp; try (with_reducible rfl)
            simp only [Act.put, List.getElem_toArray, List.getElem_cons_succ, List.getElem_cons_zero, List.setIfInBounds_toArray, List.set_cons_zero, List.set_cons_succ]
            refine wpAnyH_ready (rs := [11]) (by kernel_rfl) (by simp) ?_
            refine AllReadyH.cons rfl (fun K hK => ?_) AllReadyH.nil
            go_simp
            go_wp2_with (go_at_call 9; refine (HT.out _ ((Below.refl _ wr).drew)).mono ?_; rintro e w2 ⟨rfl, b2⟩)
            have S2 : KeptN wr w2 := Below.trans ((Below.refl _ wr).drew) b2.out
            refine hK.out _ _ (S2) (fun hHeld => ?_)
            clear hK K
            refine wpAnyH_take (i := 12) (v := ?vz30) rfl (by kernel_rfl) (by kernel_rfl) (by kernel_rfl) (fun _ _ _ h => h) (Or.inl ⟨by rfl, ?hyz30⟩) (by first | assumption | exact trivial) ?restz30
            case hyz30 => intro W hSW; go_simp; try (with_reducible rfl)
            simp only [Act.put, List.getElem_toArray, List.getElem_cons_succ, List.getElem_cons_zero, List.setIfInBounds_toArray, List.set_cons_zero, List.set_cons_succ]
            refine wpAnyH_take (i := 13) (v := ?vz31) rfl (by kernel_rfl) (by kernel_rfl) (by kernel_rfl) (fun _ _ _ h => h) (Or.inl ⟨by rfl, ?hyz31⟩) (by first | assumption | exact trivial) ?restz31
            case hyz31 => intro W hSW; go_simp; try (with_reducible rfl)
            simp only [Act.put, List.getElem_toArray, List.getElem_cons_succ, List.getElem_cons_zero, List.setIfInBounds_toArray, List.set_cons_zero, List.set_cons_succ]
            refine wpAnyH_take (i := 14) (v := ?vz32) rfl (by kernel_rfl) (by kernel_rfl) (by kernel_rfl) (fun _ _ _ h => h) (Or.inl ⟨by rfl, ?hyz32⟩) (by first | assumption | exact trivial) ?restz32
            case hyz32 => intro W hSW; go_simp; try (with_reducible rfl)
            simp only [Act.put, List.getElem_toArray, List.getElem_cons_succ, List.getElem_cons_zero, List.setIfInBounds_toArray, List.set_cons_zero, List.set_cons_succ]
            refine wpAnyH_take (i := 15) (v := ?vz33) rfl (by kernel_rfl) (by kernel_rfl) (by kernel_rfl) (fun _ _ _ h => h) (Or.inl ⟨by rfl, ?hyz33⟩) (by first | assumption | exact trivial) ?restz33
            case hyz33 => intro W hSW; go_simp; try (with_reducible rfl)
            simp only [Act.put, List.getElem_toArray, List.getElem_cons_succ, List.getElem_cons_zero, List.setIfInBounds_toArray, List.set_cons_zero, List.set_cons_succ]
            refine wpAnyH_take (i := 16) (v := ?vz34) rfl (by kernel_rfl) (by kernel_rfl) (by kernel_rfl) (fun _ _ _ h => h) (Or.inl ⟨by rfl, ?hyz34⟩) (by first | assumption | exact trivial) ?restz34
            case hyz34 => intro W hSW; go_simp; try (with_reducible rfl)
            simp only [Act.put, List.getElem_toArray, List.getElem_cons_succ, List.getElem_cons_zero, List.setIfInBounds_toArray, List.set_cons_zero, List.set_cons_succ]
            refine wpAnyH_take (i := 17) (v := ?vz35) rfl (by kernel_rfl) (by kernel_rfl) (by kernel_rfl) (fun _ _ _ h => h) (Or.inl ⟨by rfl, ?hyz35⟩) (by first | assumption | exact trivial) ?restz35
            case hyz35 => intro W hSW; go_simp; try (with_reducible rfl)
            simp only [Act.put, List.getElem_toArray, List.getElem_cons_succ, List.getElem_cons_zero, List.setIfInBounds_toArray, List.set_cons_zero, List.set_cons_succ]
            refine wpAnyH_take (i := 18) (v := ?vz36) rfl (by kernel_rfl) (by kernel_rfl) (by kernel_rfl) (fun _ _ _ h => h) (Or.inl ⟨by rfl, ?hyz36⟩) (by first | assumption | exact trivial) ?restz36
            case hyz36 => intro W hSW; go_simp; try (with_reducible rfl)
            simp only [Act.put, List.getElem_toArray, List.getElem_cons_succ, List.getElem_cons_zero, List.setIfInBounds_toArray, List.set_cons_zero, List.set_cons_succ]
            refine wpAnyH_done (by kernel_rfl) ?_ _
            have HI2 := Lib.hid (HI.out.same HSZ.out S2)
            clear S2 b2 d1 d2
            go_wp2
            go_roundw
            case rel => exact ⟨k + 1, r, op, A, c, by omega, by go_num, by rw [HOL.out], HI2.out⟩
            case measure => simp [intOf]; omega
        · have HW := Lib.hid (awake_any wr)
          have g1 : (k : Int) < (L : Int) := by omega
          go_wp2_with (go_at_call 8; refine HW.out.mono ?_; rintro e w9 ⟨rfl, hb9⟩)
          go_ret
          exact ⟨rfl, HI.out.below.trans (hb9.out.mono HSZ.out)⟩
      · have HW := Lib.hid (awake_any wr)
        have g1 : ¬ (k : Int) < (L : Int) := by omega
        go_wp2_with (go_at_call 8; refine HW.out.mono ?_; rintro e w9 ⟨rfl, hb9⟩)
        go_ret
        exact ⟨rfl, HI.out.below.trans (hb9.out.mono HSZ.out)⟩
end Go.Proofs.Ytnfjfcoonabmmaa.Rv
