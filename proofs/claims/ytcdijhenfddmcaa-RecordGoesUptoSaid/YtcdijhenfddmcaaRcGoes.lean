/- The walk of the law RecordGoes. -/
import Derived.Test.YtcdijhenfddmcaaRcFirsts
import Derived.Test.YtcdijhenfddmcaaQuietR
namespace Go.Proofs.Ytcdijhenfddmcaa.Rc
open Go.RowKit
open Go.Proofs.Ytcdijhenfddmcaa.Me Go.Proofs.Ytcdijhenfddmcaa.Ma Go.Proofs.Ytcdijhenfddmcaa.Hd Go.Proofs.Ytcdijhenfddmcaa.It
set_option linter.unusedVariables false
set_option linter.unusedSimpArgs false
attribute [local go_sem] Oper.semAt_some

theorem lit2 {w0 w : World} {g : Nat} (hb : Below w0.heap.size w0 w) (hg : g = w.heap.size) : Me.Own (w.alloc (.cells #[] 5)) w0.heap.size (.slice (some ⟨g, 0, none⟩) 0 0) [] := by
  subst hg; exact Me.Own.lit hb
theorem below_alloc2 {w0 w : World} {o : Obj} (h : Below w0.heap.size w0 w) : Below w0.heap.size w0 (w.alloc o) := h.alloc h.size o
theorem func_nil_in (w : World) (d : Nat) (f : Fn) (lb : Array Value) : (Op.equalIn (d + 1) 35 (.func f #[] lb) .nilFunc).run Try.prog w = .ok false w := by
  simp [Op.equalIn, run_underlying Try.underlying35]
theorem func_nil (w : World) (f : Fn) (lb : Array Value) : (binOp .eql 35 (.func f #[] lb) .nilFunc).run Try.prog w = .ok (.bool false) w := by
  simp only [binOp]
  simp [Op.equal, Op.maxDepth, func_nil_in w 9999 f lb]
/-- A row's slices, with where they lie. -/
theorem row_all {w : World} {P : Nat → Prop} {A : Option Addr} {c : Nat} {ps : List (List Nat)} (h : Rws P w (.slice A ps.length c) ps) (hb : ∀ l ∈ ps, ∀ z ∈ l, z < 256) : ∀ j, j < ps.length → ∃ g R cr, A = some ⟨g, 0, none⟩ ∧ g < w.heap.size ∧ w.cell? ⟨g, j, none⟩ = some (.slice R (lsAt ps j).length cr) ∧ Rd w w.heap.size R (lsAt ps j) ∧ (R = none → (lsAt ps j).length = 0 ∧ cr = 0) := by
  intro j hj
  obtain ⟨vs, h1, _, h2, h3⟩ := h
  rcases h1.2 with ⟨e, h0⟩ | ⟨g, cp, cur, e, q1, q2, q3, q4, q5, q6⟩
  · omega
  · simp only [Value.slice.injEq, true_and] at e
    obtain ⟨rfl, rfl⟩ := e
    obtain ⟨R, cr, e3, h4, _⟩ := h3 j hj
    obtain ⟨r1, r2, _, _⟩ := own_rd h4 (hb _ (by simp [lsAt, hj]))
    refine ⟨g, R, cr, rfl, (Array.getElem?_eq_some_iff.1 q2).1, ?_, r1, r2⟩
    rw [h1.cellAt j (by omega)]
    exact e3
theorem own_grown {X Y : World} {B r : Nat} {u : Value} {p : List Nat} (h : Me.Own X B u p) (hg : X.grownBy Y (some r)) (hr : r < B) : Me.Own Y B u p :=
  h.kept hg (by
    cases hv : u.ownBlock with
    | none => exact .inl rfl
    | some b => exact .inr (fun e => by cases e; have := (h.lt _ hv).1; omega))
set_option maxRecDepth 100000 in
set_option maxHeartbeats 4000000 in
theorem goes (A : Option Addr) (len cap : Nat) (l : List Nat) (stop : Int) (w : World) (w0 : BySlice w A len cap l) (c0 : cap ≤ 1048576) (ws : (Lit.int .i64 stop).wf = true) :
    Calls Try.prog 5 #[.slice A len cap, .int .i64 stop] w fun e w' => e = .returned (.bool true) ∧ Below w.heap.size w w' := by
  obtain ⟨rfl, h1, h2, h3, hA⟩ := w0
  have HA := Lib.hid hA
  have HR := Lib.hid h3
  have hlb : l.length ≤ 1048576 := by omega
  have kf := func_nil
  have hbA : Hid (Below w.heap.size w ((w.alloc (.cells #[.int .i64 stop] 3)).alloc (.cells #[.bool false] 4))) := below_alloc2 (below_alloc2 (Below.refl _ _))
  have bS0 : Hid (Boxed ((w.alloc (.cells #[.int .i64 stop] 3)).alloc (.cells #[.bool false] 4)) w.heap.size 3 (.int .i64 stop)) := (Boxed.new w _ _).alloc _
  have bR0 : Hid (Boxed ((w.alloc (.cells #[.int .i64 stop] 3)).alloc (.cells #[.bool false] 4)) (w.heap.size + 1) 4 (.bool false)) := by
    have := Boxed.new (w.alloc (.cells #[.int .i64 stop] 3)) 4 (.bool false)
    rwa [World.size_alloc] at this
  have hszA : Hid (((w.alloc (.cells #[.int .i64 stop] 3)).alloc (.cells #[.bool false] 4)).heap.size = w.heap.size + 1 + 1) := by show _ = _; simp
  clear h3 hA
  refine (callsIn_wide (n := 0)).1 (callsIn_of_wp_marks Try.func5 rfl trivial ?_ rfl)
  simp only [Try.ntmps5, List.size_toArray, List.length_cons, List.length_nil, Nat.reduceAdd, Nat.reduceSub, Array.replicate_succ, Array.replicate_zero, List.push_toArray, List.append_toArray, List.nil_append, List.cons_append]
  refine wpIn_wide.2 ?_
  go_wp2_with (first
    | (at_builtin; refine app8 (w0 := (w.alloc (.cells #[.int .i64 stop] 3)).alloc (.cells #[.bool false] 4)) rfl (.tmp 17) (.tmp 18) rfl _ w.heap.size _ [] l rfl (lit2 (Below.refl _ _) hszA.out.symm) (below_alloc2 (Below.refl _ _)) (below_alloc2 (Below.refl _ _)).size A cap rfl (HR.out.below (below_alloc2 hbA.out)) HA.out (by simp; omega) ?_; intro v2 w2 ho2 hb2 _; obtain ⟨A2, c2, rfl, g1, g2, HH2⟩ := Me.Own.held ho2 (by simpa using HR.out.1); have HO2 := Lib.hid ho2; have HB2 := Lib.hid hb2; have HR2 := Lib.hid HH2.rd; have HA2 := Lib.hid HH2.2.2; clear ho2 hb2 HH2)
    | (go_at_call 17; refine (Each_any _ _ _ _ _ HR2 HA2 (Nat.le_refl _) (by simp; omega)).mono ?_; rintro e w3 ⟨bk, A3, c3, rfl, HX3, HH3, HB3, g3, g4, g5⟩))
  have hsz2 : w.heap.size + 1 + 1 ≤ w2.heap.size := by rw [← hszA.out]; exact HB2.out.size
  have HOw : Hid (Me.Own w2 (w.heap.size + 1 + 1) (.slice A2 l.length c2) l) := by rw [← hszA.out]; exact HO2
  have hbA2 : Below (w.heap.size + 1 + 1) ((w.alloc (.cells #[.int .i64 stop] 3)).alloc (.cells #[.bool false] 4)) w2 := by rw [← hszA.out]; exact HB2.out
  have bS2 : Boxed w3 w.heap.size 3 (.int .i64 stop) := (HB3.out.block _ (by omega)).trans ((hbA2.block _ (by omega)).trans bS0.out)
  have bR2 : Boxed w3 (w.heap.size + 1) 4 (.bool false) := (HB3.out.block _ (by omega)).trans ((hbA2.block _ (by omega)).trans bR0.out)
  have bel3 : Below w.heap.size w w3 := hbA.out.trans ((hbA2.mono (by omega)).trans (HB3.out.mono (by omega)))
  have own3 : Giv w3 (.slice A2 l.length c2) l.length := ⟨l, rfl, HR.out.1, own_base (own_same HOw.out fun k _ hk => HB3.out.block k hk) fun _ _ => Nat.zero_le _⟩
  have hS : ∀ b, (Value.slice A2 l.length c2).ownBlock = some b → w.heap.size + 1 + 1 ≤ b ∧ b < w2.heap.size := fun b e => HOw.out.lt b e
  have HS := Lib.hid hS
  have HG3 := Lib.hid own3
  have BS2 := Lib.hid bS2
  have BR2 := Lib.hid bR2
  have BEL3 := Lib.hid bel3
  clear bS0 bR0 hbA hszA HB2 HO2 HR2 HA2 HOw hbA2 bS2 bR2 bel3 own3 hS
  go_loopw [7] (fun i wr => ∃ k : Nat, k ≤ l.length ∧ i = .int .i64 k ∧ Giv wr (.slice A2 l.length c2) l.length ∧ But (fun b => (Value.slice A2 l.length c2).ownBlock = some b) w3 wr) (fun i _ => l.length - (intOf i).toNat)
  case atStart => exact ⟨0, Nat.zero_le _, rfl, HG3.out, But.refl _ _⟩
  case round =>
    obtain ⟨k, hk, rfl, hgiv, hbut⟩ := hrel
    by_cases hlt : k < l.length
    · have HGV := Lib.hid hgiv
      have HBT := Lib.hid hbut
      clear hgiv hbut
      obtain ⟨g, y, rfl, hy, hc1, hf1, hob⟩ := HGV.out.cell hlt
      have HOB := Lib.hid hob
      have ht := turn8 hy
      have HY : Hid (255 - y < 256) := by show _ < _; omega
      have HT := Lib.hid ht
      clear hob
      go_wp2
      go_roundw
      case rel =>
        refine ⟨k + 1, by omega, by go_num, ?_⟩
        have e : (255 : Int) - (y : Int) = ((255 - y : Nat) : Int) := by omega
        first
          | exact ⟨by rw [e]; exact HGV.out.put HY.out, HBT.out.set (.inl HOB.out) _⟩
          | exact ⟨by rw [HT.out]; exact HGV.out.put HY.out, HBT.out.set (.inl HOB.out) _⟩
          | exact ⟨HGV.out.put HY.out, HBT.out.set (.inl HOB.out) _⟩
      case measure => simp [intOf]; omega
    · have bW4 : Below w.heap.size w wr := BEL3.out.trans (hbut.below (by have := BEL3.out.size; omega) fun b hb => by have := HS.out b hb; omega)
      have BW4 := Lib.hid bW4
      have bS4 := Lib.hid (But.boxed hbut BS2.out (fun hb => by have := HS.out _ hb; omega))
      have bR4 := Lib.hid (But.boxed hbut BR2.out (fun hb => by have := HS.out _ hb; omega))
      have bK4 := Lib.hid (But.boxed hbut HX3.out (fun hb => by have := HS.out _ hb; omega))
      have HK4 : Hid (Held wr w2.heap.size A3 c3 l) := ⟨HH3.out.1, fun hp => by
        obtain ⟨b, e, h4, h5, hc⟩ := HH3.out.2.1 hp
        refine ⟨b, e, h4, Nat.lt_of_lt_of_le h5 hbut.size, fun i hi => ?_⟩
        exact (World.cell?_of_block (w := w3) (a := ⟨b, i, none⟩) (hbut.same b h5 fun hb => by have := HS.out b hb; omega)).trans (hc i hi), HH3.out.2.2⟩
      clear hgiv hbut BS2 BR2 BEL3 HX3 HH3 HG3 bW4
      have HZB := Lib.hid HR.out.1
      have D5 := Lib.hid ((RScan_any A cap l wr ((HR.out.below BW4.out).more BW4.out.size) h1 h2 (by omega)).mono fun _ _ h => h.q HZB.out)
      have hrb := recs_bytes HR.out.1
      have hmany := recs_many l
      obtain ⟨zsz, hzs⟩ : ∃ z, siz (recs l) = z := ⟨_, rfl⟩
      rw [hzs] at D5
      go_wp2_with (go_at_call 15; refine D5.out.mono ?_; rintro e w5 ⟨A5, c5, rfl, HO5, HB5⟩)
      have hq5 := row_all HO5.out hrb
      have HQ5 := Lib.hid hq5
      clear hq5 hzs
      have hzb := HR.out.1
      have hall := fun k (hk : k < (recs l).length) => piece_at hk
      have b5 := HB5.out
      have hs5 : w.heap.size + 1 + 1 ≤ wr.heap.size := by have := bK4.out.lt; omega
      have hbk : bk < wr.heap.size := bK4.out.lt
      have bW0 := (Boxed.new w5 30 (.slice A5 (recs l).length c5)).alloc (.cells #[.int .i64 0] 3)
      have bN0 := Boxed.new (w5.alloc (.cells #[.slice A5 (recs l).length c5] 30)) 3 (.int .i64 0)
      rw [World.size_alloc] at bN0
      have bel0 : Below w5.heap.size w5 ((w5.alloc (.cells #[.slice A5 (recs l).length c5] 30)).alloc (.cells #[.int .i64 0] 3)) := below_alloc2 (below_alloc2 (Below.refl _ _))
      have hsz0 : ((w5.alloc (.cells #[.slice A5 (recs l).length c5] 30)).alloc (.cells #[.int .i64 0] 3)).heap.size = w5.heap.size + 1 + 1 := by simp
      obtain ⟨W0, hW0⟩ : ∃ W0, (w5.alloc (.cells #[.slice A5 (recs l).length c5] 30)).alloc (.cells #[.int .i64 0] 3) = W0 := ⟨_, rfl⟩
      rw [hW0] at bW0 bN0 bel0 hsz0 ⊢
      clear hW0
      have b50 : Below wr.heap.size wr W0 := b5.trans (bel0.mono b5.size)
      have bS0 : Boxed W0 w.heap.size 3 (.int .i64 stop) := (b50.block _ (by omega)).trans bS4.out
      have bR0 : Boxed W0 (w.heap.size + 1) 4 (.bool false) := (b50.block _ (by omega)).trans bR4.out
      have bK0 : Boxed W0 bk 22 (.slice A3 l.length c3) := (b50.block _ hbk).trans bK4.out
      have hK0 : Held W0 w2.heap.size A3 c3 l := HK4.out.below b50
      have hw5 : wr.heap.size ≤ w5.heap.size := b5.size
      have bel : Below w.heap.size w W0 := BW4.out.trans (b50.mono BW4.out.size)
      have from5 : ∀ X, But (fun b => b = w5.heap.size + 1) W0 X → Below w5.heap.size w5 X := fun X hX => bel0.trans (hX.below (by omega) fun b e => by omega)
      have rows : ∀ X, But (fun b => b = w5.heap.size + 1) W0 X → X.cell? ⟨w5.heap.size, 0, none⟩ = some (.slice A5 (recs l).length c5) ∧ ∀ j, j < (recs l).length → ∃ g A' c', A5 = some ⟨g, 0, none⟩ ∧ X.cell? ⟨g, j, none⟩ = some (.slice A' (lsAt (recs l) j).length c') ∧ (convert 22 9 (.slice A' (lsAt (recs l) j).length c')).run Try.prog X = .ok (.string (strOf (lsAt (recs l) j))) X := by
        intro X hX
        refine ⟨(But.boxed hX bW0 (by omega)).cell, fun j hj => ?_⟩
        obtain ⟨g, A', c', e, hg, hc, hh, hn⟩ := HQ5.out j hj
        exact ⟨g, A', c', e, ((from5 X hX).cell (p := ⟨g, j, none⟩) hg).trans hc, conv_rd X _ A' _ c' (hh.below (from5 X hX)) hn⟩
      have kept : ∀ X, But (fun b => b = w5.heap.size + 1) W0 X → KeptB bk A3 c3 l X := fun X hX =>
        ⟨(But.boxed hX bK0 (by omega)).cell, ((HK4.out.below b5).below (from5 X hX)).rd⟩
      have HROWS := Lib.hid rows
      have HKEPT := Lib.hid kept
      clear rows kept
      refine range2_block (gf := 28) (lb := #[.pointer (some ⟨bk, 0, none⟩)]) rfl (enters_of Try.func28 (by kernel_rfl) rfl) (each_iter bk A3 c3 l hzb HK4.out.2.2 g4 g5)
        (fun k X => But (fun b => b = w5.heap.size + 1) W0 X ∧ Boxed X (w5.heap.size + 1) 3 (.int .i64 (k : Int)))
        (fun X => But (fun b => b = w5.heap.size + 1) W0 X ∧ Boxed X (w5.heap.size + 1) 3 (.int .i64 stop))
        (fun X => But (fun b => b = w5.heap.size + 1) W0 X ∧ (Boxed X (w5.heap.size + 1) 3 (.int .i64 ((recs l).length : Int)) ∨ Boxed X (w5.heap.size + 1) 3 (.int .i64 stop)))
        (fun k => Abid.and But.abid (Abid.boxed (.inl (by omega)))) (Abid.and But.abid (Abid.boxed (.inl (by omega))))
        (fun k X h => HKEPT.out X h.1) (fun k X hk hc' h => absurd trivial hc')
        (fun B k v u X Y r h hg hr => ⟨h.1, own_grown h.2 hg hr⟩) (fun _ _ _ _ _ _ h hb => ⟨h.1, own_base h.2 fun j hj => Nat.le_trans hb (h.2.lt j hj).1⟩)
        ⟨But.refl _ _, bN0⟩ (fun X h => ⟨h.1, .inl h.2⟩) (fun X h => ⟨h.1, .inr h.2⟩) ?_ ?_
      · rintro l' k v u X0 hk hcut hi0 ⟨rfl, hv0⟩
        have hpb : ∀ z ∈ lsAt (recs l) k, z < 256 := hrb _ (by simp [lsAt, hk])
        obtain ⟨A6, c6, rfl, q6, q7, _⟩ := Me.Own.held hv0 hpb
        clear hi0 hv0
        obtain ⟨hp1, _, hp3, hp4⟩ := hall k hk
        have h8k : 8 * k ≤ offs (recs l) k := (offs_mono (ps := recs l) (k := k)).resolve_right (by omega)
        simp only [List.setIfInBounds_toArray, List.set_cons_zero, List.set_cons_succ]
        gi_wp2
        refine ⟨trivial, ?_⟩
        rintro X ⟨hX, hn⟩ ⟨_, hv⟩ hsX
        obtain ⟨_, _, e6, _, _, hh6⟩ := Me.Own.held hv hpb
        cases e6
        obtain ⟨hw5c, hrows⟩ := HROWS.out X hX
        obtain ⟨g, A', c', rfl, hgc, _⟩ := hrows _ hk
        have hcv : ∀ m, (convert 22 9 (.slice A' (lsAt (recs l) k).length c')).run Try.prog (X.drewN m) = .ok (.string (strOf (lsAt (recs l) k))) (X.drewN m) := fun m => by
          have hXm : But (fun b => b = w5.heap.size + 1) W0 (X.drewN m) := hX.grown (grown_of_below (below_drewN (Below.refl _ X) m)) (fun r e => by cases e)
          obtain ⟨_, hr⟩ := HROWS.out _ hXm
          obtain ⟨g2, A2', c2', e2, hc2, hv2⟩ := hr _ hk
          cases e2
          have hc3 : (X.drewN m).cell? ⟨g, k, none⟩ = X.cell? ⟨g, k, none⟩ := rfl
          rw [hc3, hgc] at hc2
          simp only [Option.some.injEq, Value.slice.injEq] at hc2
          obtain ⟨rfl, _, rfl⟩ := hc2
          exact hv2
        have hcx : ∀ m, (convert 22 9 (.slice A6 (lsAt (recs l) k).length c6)).run Try.prog (X.drewN m) = .ok (.string (strOf (lsAt (recs l) k))) (X.drewN m) := fun m =>
          conv_rd (X.drewN m) _ A6 _ c6 (hh6.rd.below (below_drewN (Below.refl _ X) m)) hh6.2.2
        have hnc := hn.cell
        have hnf := hn.frozen
        have hsc := (But.boxed hX bS0 (by omega)).cell
        have HX := Lib.hid hX
        have HN := Lib.hid hn
        obtain ⟨r, hrd⟩ : ∃ r, lsAt (recs l) k = r := ⟨_, rfl⟩
        obtain ⟨f, hfd⟩ : ∃ f, offs (recs l) k = f := ⟨_, rfl⟩
        obtain ⟨N, hNd⟩ : ∃ N, (recs l).length = N := ⟨_, rfl⟩
        rw [hrd] at hgc hcv hcx hp1 ⊢
        rw [hfd] at h8k hp1 ⊢
        rw [hNd] at hw5c hk hmany
        clear hrows hX hv hn hh6 hrd hfd hNd
        by_cases hst : (k : Int) = stop
        · subst hst
          gi_wp2
          exact ⟨KeepR.refl _ _ _, rfl, HX.out, HN.out⟩
        · have e1 : ((k : Int) == stop) = false := by simpa using hst
          have d1 : decide (N ≤ k) = false := decide_eq_false (by omega)
          have d2 : decide ((f : Int) < 8 * (k : Int)) = false := decide_eq_false (by omega)
          have hwr : IntKind.i64.wrap (8 * (k : Int)) = 8 * (k : Int) := IntWalk.i64_in _ (by omega)
          gi_wp2
          refine region_round (by decide) (by kernel_rfl) (by kernel_rfl) ?_
          repeat (gi_big_quiet_step (fail))
          refine wpQuietIn_nil ?_
          rintro _ ⟨nq, rfl⟩
          gi_wp2
          have hXd : X.grownBy (X.drewN nq) none := grown_of_below (below_drewN (Below.refl _ X) nq)
          have hXs := grownBy_setCell' (X.drewN nq) (w5.heap.size + 1) (.int .i64 ((k : Int) + 1))
          exact ⟨(KeepR.of_grown hXd (fun r e => by cases e)).trans (KeepR.of_grown hXs fun r e => by cases e; omega), (HX.out.grown hXd (fun r e => by cases e)).grown hXs (fun r e => by cases e; exact .inl rfl), Boxed.set _ (show Boxed (X.drewN nq) _ _ _ from HN.out)⟩
      · rintro X ⟨hX, hn⟩ hD
        obtain ⟨nn, hnn, hnv⟩ : ∃ nn : Int, Boxed X (w5.heap.size + 1) 3 (.int .i64 nn) ∧ (nn = ((recs l).length : Int) ∨ nn = stop) := by
          rcases hn with h | h
          · exact ⟨_, h, .inl rfl⟩
          · exact ⟨_, h, .inr rfl⟩
        have f5 := from5 X hX
        have gW := But.boxed hX bW0 (by omega)
        have gS := But.boxed hX bS0 (by omega)
        have gR := But.boxed hX bR0 (by omega)
        have gK := But.boxed hX bK0 (by omega)
        have gB : Below w.heap.size w X := bel.trans (hX.below bel.size fun b e => by omega)
        have hszX : W0.heap.size ≤ X.heap.size := hX.size
        have hDX : W0.heap.size < X.heap.size := (Array.getElem?_eq_some_iff.1 hD).1
        clear HROWS HKEPT from5 bW0 bN0 bel0 b50 bS0 bR0 bK0 hK0 bel hn hX bS4 bR4 bK4 BW4 D5
        go_wp2
        have bM := (Boxed.new X 3 (.int .i64 0)).alloc (.cells #[.int .i64 0] 3)
        have bP := Boxed.new (X.alloc (.cells #[.int .i64 0] 3)) 3 (.int .i64 0)
        rw [World.size_alloc] at bP
        have belX : Below X.heap.size X ((X.alloc (.cells #[.int .i64 0] 3)).alloc (.cells #[.int .i64 0] 3)) := below_alloc2 (below_alloc2 (Below.refl _ _))
        have hszM : ((X.alloc (.cells #[.int .i64 0] 3)).alloc (.cells #[.int .i64 0] 3)).heap.size = X.heap.size + 1 + 1 := by simp
        obtain ⟨X1, hX1⟩ : ∃ X1, (X.alloc (.cells #[.int .i64 0] 3)).alloc (.cells #[.int .i64 0] 3) = X1 := ⟨_, rfl⟩
        rw [hX1] at bM bP belX hszM ⊢
        clear hX1
        have from6 : ∀ Y, But (fun b => b = X.heap.size ∨ b = X.heap.size + 1) X1 Y → Below X.heap.size X Y := fun Y hY => belX.trans (hY.below (by omega) fun b e => by omega)
        have rows : ∀ Y, But (fun b => b = X.heap.size ∨ b = X.heap.size + 1) X1 Y → Y.cell? ⟨w5.heap.size, 0, none⟩ = some (.slice A5 (recs l).length c5) ∧ ∀ j, j < (recs l).length → ∃ g A' c', A5 = some ⟨g, 0, none⟩ ∧ Y.cell? ⟨g, j, none⟩ = some (.slice A' (lsAt (recs l) j).length c') ∧ (convert 22 9 (.slice A' (lsAt (recs l) j).length c')).run Try.prog Y = .ok (.string (strOf (lsAt (recs l) j))) Y := by
          intro Y hY
          refine ⟨((from6 Y hY).cell (p := ⟨w5.heap.size, 0, none⟩) gW.lt).trans gW.cell, fun j hj => ?_⟩
          obtain ⟨g, A', c', e, hg, hc, hh, hn⟩ := HQ5.out j hj
          have f56 : Below w5.heap.size w5 Y := f5.trans ((from6 Y hY).mono f5.size)
          exact ⟨g, A', c', e, (f56.cell (p := ⟨g, j, none⟩) hg).trans hc, conv_rd Y _ A' _ c' (hh.below f56) hn⟩
        have kept : ∀ Y, But (fun b => b = X.heap.size ∨ b = X.heap.size + 1) X1 Y → KeptB bk A3 c3 l Y := fun Y hY =>
          ⟨((from6 Y hY).cell (p := ⟨bk, 0, none⟩) gK.lt).trans gK.cell, (((HK4.out.below b5).below f5).below (by have := f5.size; exact from6 Y hY)).rd⟩
        have HROWS := Lib.hid rows
        have HKEPT := Lib.hid kept
        clear rows kept
        refine range2_block (gf := 28) (lb := #[.pointer (some ⟨bk, 0, none⟩)]) rfl (enters_of Try.func28 (by kernel_rfl) rfl) (each_iter bk A3 c3 l hzb HK4.out.2.2 g4 g5)
          (fun k Y => But (fun b => b = X.heap.size ∨ b = X.heap.size + 1) X1 Y ∧ Boxed Y X.heap.size 3 (.int .i64 (k : Int)) ∧ Boxed Y (X.heap.size + 1) 3 (.int .i64 (offs (recs l) k : Int)))
          (fun Y => False)
          (fun Y => But (fun b => b = X.heap.size ∨ b = X.heap.size + 1) X1 Y ∧ Boxed Y X.heap.size 3 (.int .i64 ((recs l).length : Int)))
          (fun k => Abid.and But.abid (Abid.and (Abid.boxed (.inl (by omega))) (Abid.boxed (.inl (by omega))))) (fun _ _ _ h _ _ => h)
          (fun k Y h => HKEPT.out Y h.1) (fun k Y hk hc' h => absurd trivial hc')
          (fun B k v u X Y r h hg hr => ⟨h.1, own_grown h.2 hg hr⟩) (fun _ _ _ _ _ _ h hb => ⟨h.1, own_base h.2 fun j hj => Nat.le_trans hb (h.2.lt j hj).1⟩)
          ⟨But.refl _ _, bM, by rw [offs_zero]; exact bP⟩ (fun Y h => ⟨h.1, h.2.1⟩) (fun Y h => h.elim) ?_ ?_
        · rintro l' k v u Y0 hk hcut hi0 ⟨rfl, hv0⟩
          have hpb : ∀ z ∈ lsAt (recs l) k, z < 256 := hrb _ (by simp [lsAt, hk])
          obtain ⟨A6, c6, rfl, q6, q7, _⟩ := Me.Own.held hv0 hpb
          clear hi0 hv0
          obtain ⟨hp1, _, hp3, hp4⟩ := hall k hk
          have hos := offs_step hk
          simp only [List.setIfInBounds_toArray, List.set_cons_zero, List.set_cons_succ]
          gi_wp2
          refine ⟨trivial, ?_⟩
          rintro Y ⟨hY, hm, hpl⟩ ⟨_, hv⟩ hsY
          obtain ⟨_, _, e6, _, _, hh6⟩ := Me.Own.held hv hpb
          cases e6
          obtain ⟨hw5c, hrows⟩ := HROWS.out Y hY
          obtain ⟨g, A', c', rfl, hgc, _⟩ := hrows _ hk
          have hcv : ∀ m, (convert 22 9 (.slice A' (lsAt (recs l) k).length c')).run Try.prog (Y.drewN m) = .ok (.string (strOf (lsAt (recs l) k))) (Y.drewN m) := fun m => by
            have hYm : But (fun b => b = X.heap.size ∨ b = X.heap.size + 1) X1 (Y.drewN m) := hY.grown (grown_of_below (below_drewN (Below.refl _ Y) m)) (fun r e => by cases e)
            obtain ⟨_, hr⟩ := HROWS.out _ hYm
            obtain ⟨g2, A2', c2', e2, hc2, hv2⟩ := hr _ hk
            cases e2
            have hc3 : (Y.drewN m).cell? ⟨g, k, none⟩ = Y.cell? ⟨g, k, none⟩ := rfl
            rw [hc3, hgc] at hc2
            simp only [Option.some.injEq, Value.slice.injEq] at hc2
            obtain ⟨rfl, _, rfl⟩ := hc2
            exact hv2
          have hcx : ∀ m, (convert 22 9 (.slice A6 (lsAt (recs l) k).length c6)).run Try.prog (Y.drewN m) = .ok (.string (strOf (lsAt (recs l) k))) (Y.drewN m) := fun m =>
            conv_rd (Y.drewN m) _ A6 _ c6 (hh6.rd.below (below_drewN (Below.refl _ Y) m)) hh6.2.2
          have hmc := hm.cell
          have hmf := hm.frozen
          have hpc := hpl.cell
          have hpf := hpl.frozen
          have HY := Lib.hid hY
          have HM := Lib.hid hm
          have HP := Lib.hid hpl
          have HOS := Lib.hid hos
          obtain ⟨r, hrd⟩ : ∃ r, lsAt (recs l) k = r := ⟨_, rfl⟩
          obtain ⟨f, hfd⟩ : ∃ f, offs (recs l) k = f := ⟨_, rfl⟩
          obtain ⟨N, hNd⟩ : ∃ N, (recs l).length = N := ⟨_, rfl⟩
          rw [hrd] at hgc hcv hcx hp1 HOS ⊢
          rw [hfd] at hp1 hpc HP HOS ⊢
          rw [hNd] at hw5c hk hmany
          have d1 : decide (N ≤ k) = false := decide_eq_false (by omega)
          have hwr : IntKind.i64.wrap ((f : Int) + 8) = (f : Int) + 8 := IntWalk.i64_in _ (by omega)
          have hwr2 : IntKind.i64.wrap ((f : Int) + 8 + (r.length : Int)) = (f : Int) + 8 + (r.length : Int) := IntWalk.i64_in _ (by omega)
          clear hrows hY hm hv hh6 hpl hos hrd hfd hNd
          gi_wp2
          refine region_round (by decide) (by kernel_rfl) (by kernel_rfl) ?_
          repeat (gi_big_quiet_step (fail))
          refine wpQuietIn_nil ?_
          rintro _ ⟨nq, rfl⟩
          gi_wp2
          have hYd : Y.grownBy (Y.drewN nq) none := grown_of_below (below_drewN (Below.refl _ Y) nq)
          have s1 := grownBy_setCell' (Y.drewN nq) (X.heap.size + 1) (.int .i64 ((f : Int) + 8 + (r.length : Int)))
          have s2 := grownBy_setCell' ((Y.drewN nq).setCell ⟨X.heap.size + 1, 0, none⟩ (.int .i64 ((f : Int) + 8 + (r.length : Int)))) X.heap.size (.int .i64 ((k : Int) + 1))
          refine ⟨((KeepR.of_grown hYd (fun r e => by cases e)).trans (KeepR.of_grown s1 fun r e => by cases e; omega)).trans (KeepR.of_grown s2 fun r e => by cases e; omega), ((HY.out.grown hYd (fun r e => by cases e)).grown s1 (fun r e => by cases e; exact .inl (.inr rfl))).grown s2 (fun r e => by cases e; exact .inl (.inl rfl)), ?_, ?_⟩
          · have e1 : ((k + 1 : Nat) : Int) = (k : Int) + 1 := rfl
            rw [e1]
            have m0 : Boxed (Y.drewN nq) X.heap.size 3 (.int .i64 (k : Int)) := HM.out
            exact (m0.other (by omega) _).set _
          · have e1 : ((offs (recs l) (k + 1) : Nat) : Int) = (f : Int) + 8 + (r.length : Int) := by rw [HOS.out]; omega
            rw [e1]
            have m0 : Boxed (Y.drewN nq) (X.heap.size + 1) 3 (.int .i64 (f : Int)) := HP.out
            exact (m0.set _).other (by omega) _
        · rintro Y ⟨hY, hm⟩ hD2
          have f6 := from6 Y hY
          have e1 := hm.cell
          have e2 := ((f6.cell (p := ⟨w5.heap.size, 0, none⟩) gW.lt).trans gW.cell)
          have e3 := ((f6.cell (p := ⟨w5.heap.size + 1, 0, none⟩) hnn.lt).trans hnn.cell)
          have e4 := ((f6.cell (p := ⟨w.heap.size, 0, none⟩) gS.lt).trans gS.cell)
          have yR : Boxed Y (w.heap.size + 1) 4 (.bool false) := (f6.block _ gR.lt).trans gR
          have yD : Y.heap[W0.heap.size]? = some (.deferred (some [])) := (f6.block _ hDX).trans hD
          have yB : Below w.heap.size w Y := gB.trans (f6.mono gB.size)
          have hszY := hY.size
          have YR := Lib.hid yR
          have YD := Lib.hid yD
          have YB := Lib.hid yB
          have HD2 := Lib.hid hD2
          have AW := Lib.hid (awake_any Y)
          obtain ⟨N, hNd⟩ : ∃ N, (recs l).length = N := ⟨_, rfl⟩
          rw [hNd] at e1 e2 hnv
          clear HROWS HKEPT from6 hm hY f6 f5 gW gS gR gK gB hnn hD bM bP belX yR yD yB hD2 hNd
          rw [hszM] at HD2
          rw [hsz0] at YD
          have hlt1 : w.heap.size + 1 < Y.heap.size := YR.out.lt
          have hlt2 : X.heap.size + 1 + 1 < Y.heap.size := (Array.getElem?_eq_some_iff.1 HD2.out).1
          have hlt3 : w5.heap.size + 1 + 1 < Y.heap.size := (Array.getElem?_eq_some_iff.1 YD.out).1
          have hne1 : w.heap.size + 1 < w5.heap.size + 1 + 1 := by omega
          have hne2 : w5.heap.size + 1 + 1 < X.heap.size + 1 + 1 := by omega
          have fin : ∀ Z, Below Y.heap.size Y Z → (Z.setCell ⟨w.heap.size + 1, 0, none⟩ (.bool true)).heap[X.heap.size + 1 + 1]? = some (.deferred (some [])) ∧
              ((Z.setCell ⟨w.heap.size + 1, 0, none⟩ (.bool true)).putObj (X.heap.size + 1 + 1) (.deferred none)).heap[w5.heap.size + 1 + 1]? = some (.deferred (some [])) ∧
              Boxed (((Z.setCell ⟨w.heap.size + 1, 0, none⟩ (.bool true)).putObj (X.heap.size + 1 + 1) (.deferred none)).putObj (w5.heap.size + 1 + 1) (.deferred none)) (w.heap.size + 1) 4 (.bool true) ∧
              Below w.heap.size w (((Z.setCell ⟨w.heap.size + 1, 0, none⟩ (.bool true)).putObj (X.heap.size + 1 + 1) (.deferred none)).putObj (w5.heap.size + 1 + 1) (.deferred none)) := by
            intro Z hZ
            have z1 : Boxed Z (w.heap.size + 1) 4 (.bool false) := (hZ.block _ hlt1).trans YR.out
            have z2 : (Z.setCell ⟨w.heap.size + 1, 0, none⟩ (.bool true)).heap[X.heap.size + 1 + 1]? = some (.deferred (some [])) := (Below.heap_setCell _ _ _ _ (by show _ ≠ w.heap.size + 1; omega)).trans ((hZ.block _ hlt2).trans HD2.out)
            have z3 : (Z.setCell ⟨w.heap.size + 1, 0, none⟩ (.bool true)).heap[w5.heap.size + 1 + 1]? = some (.deferred (some [])) := (Below.heap_setCell _ _ _ _ (by show _ ≠ w.heap.size + 1; omega)).trans ((hZ.block _ hlt3).trans YD.out)
            refine ⟨z2, (World.putObj_heap_other (by omega)).trans z3, ?_, ?_⟩
            · exact ((z1.set (.bool true)).kept (grownBy_putObj' _ _ _) (fun e => by simp at e; omega)).kept (grownBy_putObj' _ _ _) (fun e => by simp at e; omega)
            · have k1 : Below w.heap.size w (Z.setCell ⟨w.heap.size + 1, 0, none⟩ (.bool true)) := (YB.out.trans (hZ.mono YB.out.size)).setCell (p := ⟨w.heap.size + 1, 0, none⟩) (by show _ ≤ w.heap.size + 1; omega) _
              refine (k1.grown (grownBy_putObj' _ (X.heap.size + 1 + 1) (.deferred none)) k1.size (fun k e => by cases e; omega)).grown (grownBy_putObj' _ (w5.heap.size + 1 + 1) (.deferred none)) ?_ (fun k e => by cases e; omega)
              exact (k1.grown (grownBy_putObj' _ (X.heap.size + 1 + 1) (.deferred none)) k1.size (fun k e => by cases e; omega)).size
          have FIN := Lib.hid fin
          clear fin
          rcases hnv with rfl | rfl
          all_goals
            go_wp2_with (go_at_call 11; refine AW.out.mono ?_; rintro e Z ⟨rfl, hZ⟩; have z1 : Boxed Z (w.heap.size + 1) 4 (.bool false) := (hZ.block _ YR.out.lt).trans YR.out; have z2 := z1.cell; have z3 := z1.frozen; have hFZ := Lib.hid hZ)
          all_goals
            obtain ⟨q1, q2, q3, q4⟩ := FIN.out _ hFZ.out
            refine ⟨by simp, .inl ⟨_, _, rfl, run_takeDeferred q1, ?_⟩⟩
            refine ⟨by simp, .inl ⟨_, _, rfl, run_takeDeferred q2, ?_⟩⟩
            have q5 := q3.cell
            refine ⟨.bool true, ?_, rfl, q4⟩
            simp [results, Try.f5, go_sem, q5]
end Go.Proofs.Ytcdijhenfddmcaa.Rc
