/- The walk of the law StuffParts. -/
import Derived.Test.YtpnmigfgeieggaaStRParts
import Derived.Test.YtpnmigfgeieggaaStLaws
import Derived.Test.YtpnmigfgeieggaaRangeB
import Derived.Test.YtpnmigfgeieggaaQuietR
namespace Go.Proofs.Ytpnmigfgeieggaa.St
open Go.RowKit
open Go.Proofs.Ytpnmigfgeieggaa.Me Go.Proofs.Ytpnmigfgeieggaa.It
set_option linter.unusedVariables false
attribute [local go_sem] Oper.semAt_some

/-- All lies as it lay in w, but for what lies in the blocks S, and for new ones. -/
structure But (S : Nat → Prop) (w X : World) : Prop where
  os : X.os = w.os
  tape : X.tape = w.tape
  output : X.output = w.output
  size : w.heap.size ≤ X.heap.size
  same : ∀ k, k < w.heap.size → ¬ S k → X.heap[k]? = w.heap[k]?
theorem But.refl (S : Nat → Prop) (w : World) : But S w w := ⟨rfl, rfl, rfl, Nat.le_refl _, fun _ _ _ => rfl⟩
theorem But.grown {S : Nat → Prop} {w X Y : World} {row : Option Nat} (h : But S w X) (hg : X.grownBy Y row) (hr : ∀ r, row = some r → S r ∨ w.heap.size ≤ r) : But S w Y :=
  ⟨hg.os.trans h.os, hg.tape.trans h.tape, hg.output.trans h.output, Nat.le_trans h.size hg.size, fun k hk hS => (hg.block k (Nat.lt_of_lt_of_le hk h.size) (fun e => by
    rcases hr k e.symm with h1 | h1
    · exact hS h1
    · omega)).trans (h.same k hk hS)⟩
theorem But.boxed {S : Nat → Prop} {w X : World} {b : Nat} {t : TypeId} {v : Value} (h : But S w X) (hb : Boxed w b t v) (hS : ¬ S b) : Boxed X b t v := (h.same b hb.lt hS).trans hb
theorem But.at_ {S : Nat → Prop} {w X : World} {b : Nat} {o : Obj} (h : But S w X) (hb : w.heap[b]? = some o) (hS : ¬ S b) : X.heap[b]? = some o := (h.same b (Array.getElem?_eq_some_iff.1 hb).1 hS).trans hb
theorem But.below {S : Nat → Prop} {w X : World} {B : Nat} (h : But S w X) (hB : B ≤ w.heap.size) (hS : ∀ k, S k → B ≤ k) : Below B w X :=
  ⟨h.os, h.tape, h.output, h.size, fun k hk => h.same k (by omega) (fun hs => by have := hS k hs; omega)⟩
theorem But.abid {S : Nat → Prop} {w : World} {M : Nat} : Abid w.heap.size M (But S w) := fun X Y row hi hg hr => hi.grown hg fun r e => .inr (hr r e).1
/-- Bytes lie on where their block is none of S. -/
theorem But.held {S : Nat → Prop} {w X : World} {B c : Nat} {A : Option Addr} {l : List Nat} (h : But S w X) (hh : Held w B A c l) (hS : ∀ b, A = some ⟨b, 0, none⟩ → ¬ S b) : Held X B A c l :=
  ⟨hh.1, fun hl => by
    obtain ⟨b, e, h1, h2, hc⟩ := hh.2.1 hl
    refine ⟨b, e, h1, Nat.lt_of_lt_of_le h2 h.size, fun i hi => ?_⟩
    exact (World.cell?_of_block (w := w) (a := ⟨b, i, none⟩) (h.same b h2 (hS b e))).trans (hc i hi), hh.2.2⟩

theorem lit2 {w0 w : World} {g : Nat} (hb : Below w0.heap.size w0 w) (hg : g = w.heap.size) : Me.Own (w.alloc (.cells #[] 5)) w0.heap.size (.slice (some ⟨g, 0, none⟩) 0 0) [] := by
  subst hg; exact Me.Own.lit hb
theorem below_alloc2 {w0 w : World} {o : Obj} (h : Below w0.heap.size w0 w) : Below w0.heap.size w0 (w.alloc o) := h.alloc h.size o
theorem func_nil_in (w : World) (d : Nat) (f : Fn) (lb : Array Value) : (Op.equalIn (d + 1) 31 (.func f #[] lb) .nilFunc).run Try.prog w = .ok false w := by
  simp [Op.equalIn, run_underlying Try.underlying31]
theorem func_nil (w : World) (f : Fn) (lb : Array Value) : (binOp .eql 31 (.func f #[] lb) .nilFunc).run Try.prog w = .ok (.bool false) w := by
  simp only [binOp]
  simp [Op.equal, Op.maxDepth, func_nil_in w 9999 f lb]
theorem grownBy_setCell'' (W : World) (p : Addr) (v : Value) : W.grownBy (W.setCell p v) (some p.block) :=
  ⟨rfl, rfl, rfl, (KeepsWalks.setCell W _ v).size, fun k _ hk => Below.heap_setCell _ _ _ k (fun e => hk (by rw [e]))⟩
theorem Giv.put {w : World} {B g n c k y : Nat} (h : Giv w B (.slice (some ⟨g, 0, none⟩) n c) n) (hy : y < 256) : Giv (w.setCell ⟨g, k, none⟩ (.int .u8 (y : Int))) B (.slice (some ⟨g, 0, none⟩) n c) n := by
  obtain ⟨ys, h1, h2, h3⟩ := h
  refine ⟨ys.set k y, by simpa using h1, ?_, h3.store k y⟩
  intro z hz
  rcases List.mem_or_eq_of_mem_set hz with h | h
  · exact h2 z h
  · omega
theorem done_pre (zs : List Nat) (k : Nat) : ∀ m, ∃ t, done zs (k + m) = done zs k ++ t
  | 0 => ⟨[], by simp⟩
  | m + 1 => by
    obtain ⟨t, ht⟩ := done_pre zs k m
    by_cases h : isCut zs (k + m) = true
    · exact ⟨t ++ [seg zs (k + m)], by rw [← Nat.add_assoc, done_cut h, ht, List.append_assoc]⟩
    · exact ⟨t, by rw [← Nat.add_assoc, done_skip h, ht]⟩
/-- The part that ends at a cut is the next one of all. -/
theorem done_at {zs : List Nat} {k N : Nat} (hk : k < N) (h : isCut zs k = true) : (done zs k).length < (done zs N).length ∧ lsAt (done zs N) (done zs k).length = seg zs k := by
  obtain ⟨t, ht⟩ := done_pre zs (k + 1) (N - (k + 1))
  rw [show k + 1 + (N - (k + 1)) = N by omega, done_cut h] at ht
  rw [ht]
  constructor
  · simp
  · simp [lsAt]
theorem RowsOf.form {w : World} {B : Nat} {v : Value} {ps : List (List Nat)} (h : RowsOf w B v ps) (hps : ∀ r ∈ ps, ∀ z ∈ r, z < 256) : ∃ A c, v = .slice A ps.length c ∧ ps.length ≤ c ∧ ∀ j, j < ps.length → ∃ g A' c', A = some ⟨g, 0, none⟩ ∧ g < w.heap.size ∧ w.cell? ⟨g, j, none⟩ = some (.slice A' (lsAt ps j).length c') ∧ Held w B A' c' (lsAt ps j) := by
  obtain ⟨vs, h1, h2, h3⟩ := h
  rcases h1.2 with ⟨rfl, h0⟩ | ⟨g, cap, cur, rfl, q1, q2, q3, q4, q5, q6⟩
  · rw [h0]
    exact ⟨none, 0, rfl, Nat.le_refl _, fun j hj => absurd hj (by omega)⟩
  · refine ⟨some ⟨g, 0, none⟩, cap, rfl, q3, fun j hj => ?_⟩
    obtain ⟨A', c', e, h4⟩ := h3 j hj
    have hb' : ∀ z ∈ lsAt ps j, z < 256 := fun z hz => hps (lsAt ps j) (by simp only [lsAt, List.getD, List.getElem?_eq_getElem hj]; exact List.getElem_mem hj) z hz
    have hlt : g < w.heap.size := (Array.getElem?_eq_some_iff.1 q2).1
    refine ⟨g, A', c', rfl, hlt, ?_, ?_⟩
    · rw [h1.cellAt j (by omega)]
      exact e
    · obtain ⟨A'', c'', e2, _, _, hh⟩ := h4.held hb'
      cases e2
      exact hh
theorem seg_lt {zs : List Nat} (h : ∀ z ∈ zs, z < 256) (k : Nat) : ∀ z ∈ seg zs k, z < 256 := fun z hz => h z (List.mem_of_mem_take (List.mem_of_mem_drop hz))
theorem done_lt {zs : List Nat} (h : ∀ z ∈ zs, z < 256) : ∀ k, ∀ r ∈ done zs k, ∀ z ∈ r, z < 256
  | 0 => fun r hr => by cases hr
  | k + 1 => fun r hr => by
    by_cases hc : isCut zs k = true
    · rw [done_cut hc] at hr
      rcases List.mem_append.mp hr with hr | hr
      · exact done_lt h k r hr
      · simp at hr; subst hr; exact seg_lt h k
    · rw [done_skip hc] at hr
      exact done_lt h k r hr
set_option maxRecDepth 100000 in
set_option maxHeartbeats 4000000 in
theorem parts (A : Option Addr) (len cap : Nat) (l : List Nat) (stop : Int) (w : World) (w0 : BySlice w A len cap l) (c0 : cap ≤ 1048576) (ws : (Lit.int .i64 stop).wf = true) :
    Calls Try.prog 5 #[.slice A len cap, .int .i64 stop] w fun e w' => e = .returned (.bool true) ∧ Below w.heap.size w w' := by
  obtain ⟨rfl, h1, h2, h3, hA⟩ := w0
  have HA := Lib.hid hA
  have HR := Lib.hid h3
  have hlb : l.length ≤ 1048576 := by omega
  have kf := func_nil
  have hbA : Hid (Below w.heap.size w ((w.alloc (.cells #[.int .i64 stop] 3)).alloc (.cells #[.bool false] 4))) := below_alloc2 (below_alloc2 (Below.refl _ _))
  have bS0 : Hid (Boxed ((w.alloc (.cells #[.int .i64 stop] 3)).alloc (.cells #[.bool false] 4)) w.heap.size 3 (.int .i64 stop)) := (Boxed.new w _ _).alloc _
  have bR0 : Hid (Boxed ((w.alloc (.cells #[.int .i64 stop] 3)).alloc (.cells #[.bool false] 4)) (w.heap.size + 1) 4 (.bool false)) := by
    have := Boxed.new (w.alloc (.cells #[.int .i64 stop] 3)) 4 (.bool false)
    rwa [World.size_alloc] at this
  have hszA : Hid (((w.alloc (.cells #[.int .i64 stop] 3)).alloc (.cells #[.bool false] 4)).heap.size = w.heap.size + 1 + 1) := by show _ = _; simp
  clear h3 hA
  refine (callsIn_wide (n := 0)).1 (callsIn_of_wp_marks Try.func5 rfl trivial ?_ rfl)
  simp only [Try.ntmps5, List.size_toArray, List.length_cons, List.length_nil, Nat.reduceAdd, Nat.reduceSub, Array.replicate_succ, Array.replicate_zero, List.push_toArray, List.append_toArray, List.nil_append, List.cons_append]
  refine wpIn_wide.2 ?_
  go_wp2_with (first
    | (at_builtin; refine app8 (w0 := (w.alloc (.cells #[.int .i64 stop] 3)).alloc (.cells #[.bool false] 4)) rfl (.tmp 14) (.tmp 15) rfl _ w.heap.size _ [] l rfl (lit2 (Below.refl _ _) hszA.out.symm) (below_alloc2 (Below.refl _ _)) (below_alloc2 (Below.refl _ _)).size A cap rfl (HR.out.below (below_alloc2 hbA.out)) HA.out (by simp; omega) ?_; intro v2 w2 ho2 hb2 _; obtain ⟨A2, c2, rfl, g1, g2, HH2⟩ := Me.Own.held ho2 (by simpa using HR.out.1); have HO2 := Lib.hid ho2; have HB2 := Lib.hid hb2; have HR2 := Lib.hid HH2.rd; have HA2 := Lib.hid HH2.2.2; clear ho2 hb2 HH2)
    | (go_at_call 16; refine (Parts_any _ _ _ _ _ HR2 HA2 (Nat.le_refl _) (by simp; omega)).mono ?_; rintro e w3 ⟨bk, A3, c3, rfl, HX3, HH3, HB3, g3, g4, g5⟩))
  have hsz2 : w.heap.size + 1 + 1 ≤ w2.heap.size := by rw [← hszA.out]; exact HB2.out.size
  have HOw : Hid (Me.Own w2 (w.heap.size + 1 + 1) (.slice A2 l.length c2) l) := by rw [← hszA.out]; exact HO2
  have hbA2 : Below (w.heap.size + 1 + 1) ((w.alloc (.cells #[.int .i64 stop] 3)).alloc (.cells #[.bool false] 4)) w2 := by rw [← hszA.out]; exact HB2.out
  have bS2 : Boxed w3 w.heap.size 3 (.int .i64 stop) := (HB3.out.block _ (by omega)).trans ((hbA2.block _ (by omega)).trans bS0.out)
  have bR2 : Boxed w3 (w.heap.size + 1) 4 (.bool false) := (HB3.out.block _ (by omega)).trans ((hbA2.block _ (by omega)).trans bR0.out)
  have bel3 : Below w.heap.size w w3 := hbA.out.trans ((hbA2.mono (by omega)).trans (HB3.out.mono (by omega)))
  have own3 : Giv w3 (w.heap.size + 1 + 1) (.slice A2 l.length c2) l.length := ⟨l, rfl, HR.out.1, own_below_any HOw.out HB3.out⟩
  have hA2 : 0 < l.length → ∃ g, A2 = some ⟨g, 0, none⟩ ∧ w.heap.size + 1 + 1 ≤ g ∧ g < w2.heap.size := fun hp => by
    obtain ⟨g, c, e, h4, h5⟩ := HOw.out.form hp
    simp only [Value.slice.injEq] at e
    exact ⟨g, e.1, h4, h5⟩
  have hS : ∀ b, A2 = some ⟨b, 0, none⟩ ∧ 0 < l.length → w.heap.size + 1 + 1 ≤ b ∧ b < w2.heap.size := fun b ⟨e, hp⟩ => by
    obtain ⟨g, e', h4, h5⟩ := hA2 hp
    rw [e] at e'; cases e'
    exact ⟨h4, h5⟩
  have HS := Lib.hid hS
  have HA2f := Lib.hid hA2
  have HG3 := Lib.hid own3
  have BS2 := Lib.hid bS2
  have BR2 := Lib.hid bR2
  have BEL3 := Lib.hid bel3
  clear bS0 bR0 hbA hszA HB2 HO2 HR2 HA2 HOw hbA2 bS2 bR2 bel3 own3 hA2 hS
  go_loopw [7] (fun i wr => ∃ k : Nat, k ≤ l.length ∧ i = .int .i64 k ∧ Giv wr (w.heap.size + 1 + 1) (.slice A2 l.length c2) l.length ∧ But (fun b => A2 = some ⟨b, 0, none⟩ ∧ 0 < l.length) w3 wr) (fun i _ => l.length - (intOf i).toNat)
  case atStart => exact ⟨0, Nat.zero_le _, rfl, HG3.out, But.refl _ _⟩
  case round =>
    obtain ⟨k, hk, rfl, hgiv, hbut⟩ := hrel
    by_cases hlt : k < l.length
    · obtain ⟨g, rfl, q1, q2⟩ := HA2f.out (by omega)
      obtain ⟨y, hy, hcell, hfree⟩ := hgiv.cell hlt
      have HGI := Lib.hid hgiv
      have HBU := Lib.hid hbut
      clear hgiv hbut
      go_wp2
      go_roundw
      case rel => exact ⟨k + 1, by omega, by go_num, HGI.out.put (y := 126) (by decide), HBU.out.grown (grownBy_setCell'' _ _ _) fun r e => by cases e; exact .inl ⟨rfl, by omega⟩⟩
      case measure => simp [intOf]; omega
    · have HGI := Lib.hid hgiv
      have HBU := Lib.hid hbut
      have bW4 : Below w.heap.size w wr := BEL3.out.trans (hbut.below (by have := BEL3.out.size; omega) fun b hb => by have := HS.out b hb; omega)
      have BW4 := Lib.hid bW4
      have bS4 := Lib.hid (hbut.boxed BS2.out (fun hb => by have := HS.out _ hb; omega))
      have bR4 := Lib.hid (hbut.boxed BR2.out (fun hb => by have := HS.out _ hb; omega))
      have bK4 := Lib.hid (hbut.boxed HX3.out (fun hb => by have := HS.out _ hb; omega))
      have HK4 : Hid (Held wr w2.heap.size A3 c3 l) := hbut.held HH3.out (fun b e hb => by
        obtain ⟨b', e', q1, _⟩ := HH3.out.2.1 hb.2
        rw [e] at e'; cases e'
        have := HS.out b hb
        omega)
      clear hgiv hbut HGI HBU BS2 BR2 BEL3 HX3 HH3 HG3 HA2f bW4
      have D5 := Lib.hid (RParts_any A cap w.heap.size l wr (HR.out.below BW4.out) HA BW4.out.size h1 c0)
      go_wp2_with (go_at_call 17; refine D5.out.mono ?_; rintro e w5 ⟨v5, rfl, HO5, HB5⟩; obtain ⟨A5, c5, rfl, q5, hq5⟩ := HO5.out.form (done_lt HR.out.1 _); have HQ5 := Lib.hid hq5; clear hq5)
      have hzb := HR.out.1
      have hps := done_lt hzb (l.length + 1)
      have hpl := done_le l (l.length + 1)
      obtain ⟨ps, hpsd⟩ : ∃ ps, done l (l.length + 1) = ps := ⟨_, rfl⟩
      rw [hpsd] at HO5 HQ5 hps hpl q5 ⊢
      have b5 := HB5.out
      have hs5 : w.heap.size + 1 + 1 ≤ wr.heap.size := by have := bK4.out.lt; omega
      have hbk : bk < wr.heap.size := bK4.out.lt
      have bW0 := (Boxed.new w5 33 (.slice A5 ps.length c5)).alloc (.cells #[.int .i64 0] 3)
      have bN0 := Boxed.new (w5.alloc (.cells #[.slice A5 ps.length c5] 33)) 3 (.int .i64 0)
      rw [World.size_alloc] at bN0
      have bel0 : Below w5.heap.size w5 ((w5.alloc (.cells #[.slice A5 ps.length c5] 33)).alloc (.cells #[.int .i64 0] 3)) := below_alloc2 (below_alloc2 (Below.refl _ _))
      have hsz0 : ((w5.alloc (.cells #[.slice A5 ps.length c5] 33)).alloc (.cells #[.int .i64 0] 3)).heap.size = w5.heap.size + 1 + 1 := by simp
      obtain ⟨W0, hW0⟩ : ∃ W0, (w5.alloc (.cells #[.slice A5 ps.length c5] 33)).alloc (.cells #[.int .i64 0] 3) = W0 := ⟨_, rfl⟩
      rw [hW0] at bW0 bN0 bel0 hsz0 ⊢
      clear hW0
      have b50 : Below wr.heap.size wr W0 := b5.trans (bel0.mono b5.size)
      have bS0 : Boxed W0 w.heap.size 3 (.int .i64 stop) := (b50.block _ (by omega)).trans bS4.out
      have bR0 : Boxed W0 (w.heap.size + 1) 4 (.bool false) := (b50.block _ (by omega)).trans bR4.out
      have bK0 : Boxed W0 bk 22 (.slice A3 l.length c3) := (b50.block _ hbk).trans bK4.out
      have hK0 : Held W0 w2.heap.size A3 c3 l := HK4.out.below b50
      have hw5 : wr.heap.size ≤ w5.heap.size := b5.size
      have bel : Below w.heap.size w W0 := BW4.out.trans (b50.mono BW4.out.size)
      have from5 : ∀ X, But (fun b => b = w5.heap.size + 1) W0 X → Below w5.heap.size w5 X := fun X hX => bel0.trans (hX.below (by omega) fun b e => by omega)
      have rows : ∀ X, But (fun b => b = w5.heap.size + 1) W0 X → X.cell? ⟨w5.heap.size, 0, none⟩ = some (.slice A5 ps.length c5) ∧ ∀ j, j < ps.length → ∃ g A' c', A5 = some ⟨g, 0, none⟩ ∧ X.cell? ⟨g, j, none⟩ = some (.slice A' (lsAt ps j).length c') ∧ (convert 22 9 (.slice A' (lsAt ps j).length c')).run Try.prog X = .ok (.string (strOf (lsAt ps j))) X := by
        intro X hX
        refine ⟨(hX.boxed bW0 (by omega)).cell, fun j hj => ?_⟩
        obtain ⟨g, A', c', e, hg, hc, hh⟩ := HQ5.out j hj
        have hhX := hh.below (from5 X hX)
        exact ⟨g, A', c', e, ((from5 X hX).cell (p := ⟨g, j, none⟩) hg).trans hc, conv_rd X _ A' _ c' hhX.rd hhX.2.2⟩
      have kept : ∀ X, But (fun b => b = w5.heap.size + 1) W0 X → KeptB bk A3 c3 l X := fun X hX =>
        ⟨(hX.boxed bK0 (by omega)).cell, ((HK4.out.below b5).below (from5 X hX)).rd⟩
      have HROWS := Lib.hid rows
      have HKEPT := Lib.hid kept
      clear rows kept
      refine range_block (gf := 21) (lb := #[.pointer (some ⟨bk, 0, none⟩)]) rfl (enters_of Try.func21 (by kernel_rfl) rfl) (parts_iter bk A3 c3 l (by omega) hzb HK4.out.2.2 g4)
        (fun k X => But (fun b => b = w5.heap.size + 1) W0 X ∧ Boxed X (w5.heap.size + 1) 3 (.int .i64 ((done l k).length : Int)))
        (fun X => But (fun b => b = w5.heap.size + 1) W0 X ∧ Boxed X (w5.heap.size + 1) 3 (.int .i64 stop))
        (fun X => But (fun b => b = w5.heap.size + 1) W0 X ∧ (Boxed X (w5.heap.size + 1) 3 (.int .i64 (ps.length : Int)) ∨ Boxed X (w5.heap.size + 1) 3 (.int .i64 stop)))
        (fun k => Abid.and But.abid (Abid.boxed (.inl (by omega)))) (Abid.and But.abid (Abid.boxed (.inl (by omega))))
        (fun k X h => HKEPT.out X h.1) (fun k X hk hc' h => ⟨h.1, by rw [done_skip hc']; exact h.2⟩)
        (fun B k v X Y r h hg hr => h.kept hg (by
          cases hv : v.ownBlock with
          | none => exact .inl rfl
          | some b => exact .inr (fun e => by cases e; have := (h.lt _ hv).1; omega))) (fun _ _ _ _ _ h hb => own_more h hb)
        ⟨But.refl _ _, bN0⟩ (fun X h => ⟨h.1, .inl (by rw [← hpsd]; exact h.2)⟩) (fun X h => ⟨h.1, .inr h.2⟩) ?_ ?_
      · intro l' k v X0 hk hcut hi0 hv0
        obtain ⟨A6, c6, rfl, q6, q7, _⟩ := Me.Own.held hv0 (seg_lt hzb k)
        clear hi0 hv0
        obtain ⟨hnl, hat⟩ := done_at hk hcut
        rw [hpsd] at hnl hat
        have hdc := done_cut hcut
        have hsl : (done l (k + 1)).length = (done l k).length + 1 := by rw [hdc]; simp
        have hsb := seg_lt hzb k
        have hrl : (seg l k).length ≤ 1048576 := by rw [seg_length (by omega)]; omega
        gi_wp2
        refine ⟨trivial, ?_⟩
        rintro X ⟨hX, hn⟩ hv hsX
        obtain ⟨_, _, e6, _, _, hh6⟩ := Me.Own.held hv hsb
        cases e6
        obtain ⟨hw5c, hrows⟩ := HROWS.out X hX
        obtain ⟨g, A', c', rfl, hgc, _⟩ := hrows _ hnl
        have hcv : ∀ m, (convert 22 9 (.slice A' (seg l k).length c')).run Try.prog (X.drewN m) = .ok (.string (strOf (seg l k))) (X.drewN m) := fun m => by
          have hXm : But (fun b => b = w5.heap.size + 1) W0 (X.drewN m) := hX.grown (grown_of_below (below_drewN (Below.refl _ X) m)) (fun r e => by cases e)
          obtain ⟨_, hr⟩ := HROWS.out _ hXm
          obtain ⟨g2, A2', c2', e2, hc2, hv2⟩ := hr _ hnl
          cases e2
          have hc3 : (X.drewN m).cell? ⟨g, (done l k).length, none⟩ = X.cell? ⟨g, (done l k).length, none⟩ := rfl
          rw [hc3, hgc] at hc2
          simp only [Option.some.injEq, Value.slice.injEq] at hc2
          obtain ⟨rfl, _, rfl⟩ := hc2
          rw [hat] at hv2
          exact hv2
        have hcx : ∀ m, (convert 22 9 (.slice A6 (seg l k).length c6)).run Try.prog (X.drewN m) = .ok (.string (strOf (seg l k))) (X.drewN m) := fun m =>
          conv_rd (X.drewN m) _ A6 _ c6 (hh6.rd.below (below_drewN (Below.refl _ X) m)) hh6.2.2
        rw [hat] at hgc
        have hnc := hn.cell
        have hnf := hn.frozen
        have hsc := (hX.boxed bS0 (by omega)).cell
        have HX := Lib.hid hX
        have HV := Lib.hid hv
        have HN := Lib.hid hn
        have HSL := Lib.hid hsl
        have HWI : Hid (∀ v, Boxed (X.setCell ⟨w5.heap.size + 1, 0, none⟩ v) (w5.heap.size + 1) 3 v) := fun v => hn.set v
        obtain ⟨n, hnd⟩ : ∃ n, (done l k).length = n := ⟨_, rfl⟩
        obtain ⟨r, hrd⟩ : ∃ r, seg l k = r := ⟨_, rfl⟩
        rw [hnd] at hnl hgc hnc HSL
        rw [hrd] at hgc hcv hcx HV hrl ⊢
        clear hrows hX hv hn hh6 hat hdc hsl
        by_cases hst : (n : Int) = stop
        · have hst' := hst
          subst hst'
          gi_wp2
          exact ⟨KeepR.refl _ _ _, rfl, HX.out, by rw [← hnd]; exact HN.out⟩
        · have e1 : ((n : Int) == stop) = false := by simpa using hst
          have d1 : decide (ps.length ≤ n) = false := decide_eq_false (by omega)
          gi_wp2
          refine region_round (by decide) (by kernel_rfl) (by kernel_rfl) ?_
          repeat (gi_big_quiet_step (fail))
          refine wpQuietIn_nil ?_
          rintro _ ⟨nq, rfl⟩
          gi_wp2
          have hXd : X.grownBy (X.drewN nq) none := grown_of_below (below_drewN (Below.refl _ X) nq)
          have hXs := grownBy_setCell' (X.drewN nq) (w5.heap.size + 1) (.int .i64 ((n : Int) + 1))
          have hX1 := (HX.out.grown hXd (fun r e => by cases e)).grown hXs (fun r e => by cases e; exact .inl rfl)
          have hn1 : Boxed ((X.drewN nq).setCell ⟨w5.heap.size + 1, 0, none⟩ (.int .i64 ((n : Int) + 1))) (w5.heap.size + 1) 3 (.int .i64 ((n : Int) + 1)) := Boxed.set _ (show Boxed (X.drewN nq) _ _ _ from HN.out)
          have hv1 : Me.Own ((X.drewN nq).setCell ⟨w5.heap.size + 1, 0, none⟩ (.int .i64 ((n : Int) + 1))) (W0.heap.size + 2 + 5) (.slice A6 r.length c6) r := by
            refine (own_below_any HV.out (below_drewN (Below.refl _ X) nq)).kept hXs ?_
            cases hv : (Value.slice A6 r.length c6).ownBlock with
            | none => exact .inl rfl
            | some b => exact .inr (fun e => by cases e; have := (HV.out.lt _ hv).1; omega)
          have hk1 : KeepR W0.heap.size (2 + 5) X ((X.drewN nq).setCell ⟨w5.heap.size + 1, 0, none⟩ (.int .i64 ((n : Int) + 1))) := (KeepR.of_grown hXd (fun r e => by cases e)).trans (KeepR.of_grown hXs fun r e => by cases e; omega)
          have hg1 : Giv ((X.drewN nq).setCell ⟨w5.heap.size + 1, 0, none⟩ (.int .i64 ((n : Int) + 1))) (W0.heap.size + 2 + 5) (.slice A6 r.length c6) r.length := ⟨r, rfl, by rw [← hrd]; exact hsb, hv1⟩
          obtain ⟨X1, hX1d⟩ : ∃ X1, (X.drewN nq).setCell ⟨w5.heap.size + 1, 0, none⟩ (.int .i64 ((n : Int) + 1)) = X1 := ⟨_, rfl⟩
          rw [hX1d] at hX1 hn1 hk1 hg1 ⊢
          have HX1 := Lib.hid hX1
          have HN1 := Lib.hid hn1
          have HK1 := Lib.hid hk1
          have HG1 := Lib.hid hg1
          clear hX1d hXd hXs hv1 HV HWI hcv hcx HN HX hX1 hn1 hk1 hg1
          gi_loopw [11] (fun i wr' => ∃ j : Nat, j ≤ r.length ∧ i = .int .i64 j ∧ But (fun b => b = w5.heap.size + 1) W0 wr' ∧ Boxed wr' (w5.heap.size + 1) 3 (.int .i64 ((n : Int) + 1)) ∧ Giv wr' (W0.heap.size + 2 + 5) (.slice A6 r.length c6) r.length ∧ KeepR W0.heap.size (2 + 5) X wr') (fun i _ => r.length - (intOf i).toNat)
          case atStart => exact ⟨0, Nat.zero_le _, rfl, HX1.out, HN1.out, HG1.out, HK1.out⟩
          case round =>
            obtain ⟨j, hj, rfl, rX, rN, rG, rK⟩ := hrel
            by_cases hlt : j < r.length
            · obtain ⟨g7, rfl, q8, q9⟩ := rG.form (by omega)
              obtain ⟨y, hy, hcell, hfree⟩ := rG.cell hlt
              have RX := Lib.hid rX
              have RN := Lib.hid rN
              have RG := Lib.hid rG
              have RK := Lib.hid rK
              clear rX rN rG rK
              gi_wp2
              go_roundw
              case rel => exact ⟨j + 1, by omega, by go_num, RX.out.grown (grownBy_setCell'' _ _ _) (fun r e => by cases e; exact .inr (by show _ ≤ g7; omega)), (RN.out.kept (grownBy_setCell'' _ _ _) (fun e => by simp at e; omega)), RG.out.put (y := 0) (by decide), RK.out.trans (KeepR.of_grown (grownBy_setCell'' _ _ _) fun r e => by cases e; exact .inr (by show _ ≤ g7; omega))⟩
              case measure => simp [intOf]; omega
            · have RX := Lib.hid rX
              have RN := Lib.hid rN
              have RK := Lib.hid rK
              clear rX rN rG rK
              gi_wp2
              refine ⟨RK.out, RX.out, ?_⟩
              have hnn : ((done l (k + 1)).length : Int) = (n : Int) + 1 := by rw [HSL.out]; rfl
              rw [hnn]; exact RN.out
      · rintro X ⟨hX, hn⟩ hD
        obtain ⟨nn, hnn, hnv⟩ : ∃ nn : Int, Boxed X (w5.heap.size + 1) 3 (.int .i64 nn) ∧ (nn = (ps.length : Int) ∨ nn = stop) := by
          rcases hn with h | h
          · exact ⟨_, h, .inl rfl⟩
          · exact ⟨_, h, .inr rfl⟩
        have f5 := from5 X hX
        have gW := hX.boxed bW0 (by omega)
        have gS := hX.boxed bS0 (by omega)
        have gR := hX.boxed bR0 (by omega)
        have gK := hX.boxed bK0 (by omega)
        have gB : Below w.heap.size w X := bel.trans (hX.below bel.size fun b e => by omega)
        have hszX : W0.heap.size ≤ X.heap.size := hX.size
        have hDX : W0.heap.size < X.heap.size := (Array.getElem?_eq_some_iff.1 hD).1
        clear HROWS HKEPT from5 bW0 bN0 bel0 b50 bS0 bR0 bK0 hK0 bel hn hX bS4 bR4 bK4 BW4 D5
        go_wp2
        have bM := Boxed.new X 3 (.int .i64 0)
        have belX : Below X.heap.size X (X.alloc (.cells #[.int .i64 0] 3)) := (Below.refl _ _).alloc (Nat.le_refl _) _
        have hszM : (X.alloc (.cells #[.int .i64 0] 3)).heap.size = X.heap.size + 1 := by simp
        obtain ⟨X1, hX1⟩ : ∃ X1, X.alloc (.cells #[.int .i64 0] 3) = X1 := ⟨_, rfl⟩
        rw [hX1] at bM belX hszM ⊢
        clear hX1
        have from6 : ∀ Y, But (fun b => b = X.heap.size) X1 Y → Below X.heap.size X Y := fun Y hY => belX.trans (hY.below (by omega) fun b e => by omega)
        have rows : ∀ Y, But (fun b => b = X.heap.size) X1 Y → Y.cell? ⟨w5.heap.size, 0, none⟩ = some (.slice A5 ps.length c5) ∧ ∀ j, j < ps.length → ∃ g A' c', A5 = some ⟨g, 0, none⟩ ∧ Y.cell? ⟨g, j, none⟩ = some (.slice A' (lsAt ps j).length c') ∧ (convert 22 9 (.slice A' (lsAt ps j).length c')).run Try.prog Y = .ok (.string (strOf (lsAt ps j))) Y := by
          intro Y hY
          refine ⟨((from6 Y hY).cell (p := ⟨w5.heap.size, 0, none⟩) gW.lt).trans gW.cell, fun j hj => ?_⟩
          obtain ⟨g, A', c', e, hg, hc, hh⟩ := HQ5.out j hj
          have f56 : Below w5.heap.size w5 Y := f5.trans ((from6 Y hY).mono f5.size)
          have hhX := hh.below f56
          exact ⟨g, A', c', e, (f56.cell (p := ⟨g, j, none⟩) hg).trans hc, conv_rd Y _ A' _ c' hhX.rd hhX.2.2⟩
        have kept : ∀ Y, But (fun b => b = X.heap.size) X1 Y → KeptB bk A3 c3 l Y := fun Y hY =>
          ⟨((from6 Y hY).cell (p := ⟨bk, 0, none⟩) gK.lt).trans gK.cell, (((HK4.out.below b5).below f5).below (by have := f5.size; exact from6 Y hY)).rd⟩
        have HROWS := Lib.hid rows
        have HKEPT := Lib.hid kept
        clear rows kept
        refine range_block (gf := 21) (lb := #[.pointer (some ⟨bk, 0, none⟩)]) rfl (enters_of Try.func21 (by kernel_rfl) rfl) (parts_iter bk A3 c3 l (by omega) hzb HK4.out.2.2 g4)
          (fun k Y => But (fun b => b = X.heap.size) X1 Y ∧ Boxed Y X.heap.size 3 (.int .i64 ((done l k).length : Int)))
          (fun Y => False)
          (fun Y => But (fun b => b = X.heap.size) X1 Y ∧ Boxed Y X.heap.size 3 (.int .i64 (ps.length : Int)))
          (fun k => Abid.and But.abid (Abid.boxed (.inl (by omega)))) (fun _ _ _ h _ _ => h)
          (fun k Y h => HKEPT.out Y h.1) (fun k Y hk hc' h => ⟨h.1, by rw [done_skip hc']; exact h.2⟩)
          (fun B k v X Y r h hg hr => h.kept hg (by
            cases hv : v.ownBlock with
            | none => exact .inl rfl
            | some b => exact .inr (fun e => by cases e; have := (h.lt _ hv).1; omega))) (fun _ _ _ _ _ h hb => own_more h hb)
          ⟨But.refl _ _, bM⟩ (fun Y h => ⟨h.1, by rw [← hpsd]; exact h.2⟩) (fun Y h => h.elim) ?_ ?_
        · intro l' k v Y0 hk hcut hi0 hv0
          obtain ⟨A6, c6, rfl, q6, q7, _⟩ := Me.Own.held hv0 (seg_lt hzb k)
          clear hi0 hv0
          obtain ⟨hnl, hat⟩ := done_at hk hcut
          rw [hpsd] at hnl hat
          have hdc := done_cut hcut
          have hsl : (done l (k + 1)).length = (done l k).length + 1 := by rw [hdc]; simp
          have hsb := seg_lt hzb k
          gi_wp2
          refine ⟨trivial, ?_⟩
          rintro Y ⟨hY, hm⟩ hv hsY
          obtain ⟨_, _, e6, _, _, hh6⟩ := Me.Own.held hv hsb
          cases e6
          obtain ⟨hw5c, hrows⟩ := HROWS.out Y hY
          obtain ⟨g, A', c', rfl, hgc, _⟩ := hrows _ hnl
          have hcv : ∀ m, (convert 22 9 (.slice A' (seg l k).length c')).run Try.prog (Y.drewN m) = .ok (.string (strOf (seg l k))) (Y.drewN m) := fun m => by
            have hYm : But (fun b => b = X.heap.size) X1 (Y.drewN m) := hY.grown (grown_of_below (below_drewN (Below.refl _ Y) m)) (fun r e => by cases e)
            obtain ⟨_, hr⟩ := HROWS.out _ hYm
            obtain ⟨g2, A2', c2', e2, hc2, hv2⟩ := hr _ hnl
            cases e2
            have hc3 : (Y.drewN m).cell? ⟨g, (done l k).length, none⟩ = Y.cell? ⟨g, (done l k).length, none⟩ := rfl
            rw [hc3, hgc] at hc2
            simp only [Option.some.injEq, Value.slice.injEq] at hc2
            obtain ⟨rfl, _, rfl⟩ := hc2
            rw [hat] at hv2
            exact hv2
          have hcx : ∀ m, (convert 22 9 (.slice A6 (seg l k).length c6)).run Try.prog (Y.drewN m) = .ok (.string (strOf (seg l k))) (Y.drewN m) := fun m =>
            conv_rd (Y.drewN m) _ A6 _ c6 (hh6.rd.below (below_drewN (Below.refl _ Y) m)) hh6.2.2
          rw [hat] at hgc
          have hmc := hm.cell
          have hmf := hm.frozen
          have HY := Lib.hid hY
          have HM := Lib.hid hm
          have HSL := Lib.hid hsl
          obtain ⟨n, hnd⟩ : ∃ n, (done l k).length = n := ⟨_, rfl⟩
          obtain ⟨r, hrd⟩ : ∃ r, seg l k = r := ⟨_, rfl⟩
          rw [hnd] at hnl hgc hmc HSL
          rw [hrd] at hgc hcv hcx ⊢
          have d1 : decide (ps.length ≤ n) = false := decide_eq_false (by omega)
          clear hrows hY hm hv hh6 hat hdc hsl
          gi_wp2
          refine region_round (by decide) (by kernel_rfl) (by kernel_rfl) ?_
          repeat (gi_big_quiet_step (fail))
          refine wpQuietIn_nil ?_
          rintro _ ⟨nq, rfl⟩
          gi_wp2
          have hYd : Y.grownBy (Y.drewN nq) none := grown_of_below (below_drewN (Below.refl _ Y) nq)
          refine ⟨(KeepR.of_grown hYd (fun r e => by cases e)).trans (KeepR.of_grown (grownBy_setCell' _ _ _) fun r e => by cases e; omega), (HY.out.grown hYd (fun r e => by cases e)).grown (grownBy_setCell' _ _ _) (fun r e => by cases e; exact .inl rfl), ?_⟩
          have hnn2 : ((done l (k + 1)).length : Int) = (n : Int) + 1 := by rw [HSL.out]; rfl
          rw [hnn2]
          exact Boxed.set _ (show Boxed (Y.drewN nq) _ _ _ from HM.out)
        · rintro Y ⟨hY, hm⟩ hD2
          have f6 := from6 Y hY
          have e1 := hm.cell
          have e2 := ((f6.cell (p := ⟨w5.heap.size, 0, none⟩) gW.lt).trans gW.cell)
          have e3 := ((f6.cell (p := ⟨w5.heap.size + 1, 0, none⟩) hnn.lt).trans hnn.cell)
          have e4 := ((f6.cell (p := ⟨w.heap.size, 0, none⟩) gS.lt).trans gS.cell)
          have yR : Boxed Y (w.heap.size + 1) 4 (.bool false) := (f6.block _ gR.lt).trans gR
          have yD : Y.heap[W0.heap.size]? = some (.deferred (some [])) := (f6.block _ hDX).trans hD
          have yB : Below w.heap.size w Y := gB.trans (f6.mono gB.size)
          have hszY := hY.size
          have fin : ∀ (Z : World) (v : Value), Below Y.heap.size Y Z → v = .bool true → Z.cell? ⟨w.heap.size + 1, 0, none⟩ = some (.bool false) := fun Z v hb _ => (hb.cell (p := ⟨w.heap.size + 1, 0, none⟩) yR.lt).trans yR.cell
          have YR := Lib.hid yR
          have YD := Lib.hid yD
          have YB := Lib.hid yB
          have HD2 := Lib.hid hD2
          have AW := Lib.hid (awake_any Y)
          clear HROWS HKEPT from6 hm hY f6 f5 gW gS gR gK gB hnn hD bM belX yR yD yB hD2 fin
          rw [hszM] at HD2
          rw [hsz0] at YD
          have hlt1 : w.heap.size + 1 < Y.heap.size := YR.out.lt
          have hlt2 : X.heap.size + 1 < Y.heap.size := (Array.getElem?_eq_some_iff.1 HD2.out).1
          have hlt3 : w5.heap.size + 1 + 1 < Y.heap.size := (Array.getElem?_eq_some_iff.1 YD.out).1
          have hne1 : w.heap.size + 1 < w5.heap.size + 1 + 1 := by omega
          have hne2 : w5.heap.size + 1 + 1 < X.heap.size + 1 := by omega
          have fin : ∀ Z, Below Y.heap.size Y Z → (Z.setCell ⟨w.heap.size + 1, 0, none⟩ (.bool true)).heap[X.heap.size + 1]? = some (.deferred (some [])) ∧
              ((Z.setCell ⟨w.heap.size + 1, 0, none⟩ (.bool true)).putObj (X.heap.size + 1) (.deferred none)).heap[w5.heap.size + 1 + 1]? = some (.deferred (some [])) ∧
              Boxed (((Z.setCell ⟨w.heap.size + 1, 0, none⟩ (.bool true)).putObj (X.heap.size + 1) (.deferred none)).putObj (w5.heap.size + 1 + 1) (.deferred none)) (w.heap.size + 1) 4 (.bool true) ∧
              Below w.heap.size w (((Z.setCell ⟨w.heap.size + 1, 0, none⟩ (.bool true)).putObj (X.heap.size + 1) (.deferred none)).putObj (w5.heap.size + 1 + 1) (.deferred none)) := by
            intro Z hZ
            have z1 : Boxed Z (w.heap.size + 1) 4 (.bool false) := (hZ.block _ hlt1).trans YR.out
            have z2 : (Z.setCell ⟨w.heap.size + 1, 0, none⟩ (.bool true)).heap[X.heap.size + 1]? = some (.deferred (some [])) := (Below.heap_setCell _ _ _ _ (by show _ ≠ w.heap.size + 1; omega)).trans ((hZ.block _ hlt2).trans HD2.out)
            have z3 : (Z.setCell ⟨w.heap.size + 1, 0, none⟩ (.bool true)).heap[w5.heap.size + 1 + 1]? = some (.deferred (some [])) := (Below.heap_setCell _ _ _ _ (by show _ ≠ w.heap.size + 1; omega)).trans ((hZ.block _ hlt3).trans YD.out)
            refine ⟨z2, (World.putObj_heap_other (by omega)).trans z3, ?_, ?_⟩
            · exact ((z1.set (.bool true)).kept (grownBy_putObj' _ _ _) (fun e => by simp at e; omega)).kept (grownBy_putObj' _ _ _) (fun e => by simp at e; omega)
            · have k1 : Below w.heap.size w (Z.setCell ⟨w.heap.size + 1, 0, none⟩ (.bool true)) := (YB.out.trans (hZ.mono YB.out.size)).setCell (p := ⟨w.heap.size + 1, 0, none⟩) (by show _ ≤ w.heap.size + 1; omega) _
              refine (k1.grown (grownBy_putObj' _ (X.heap.size + 1) (.deferred none)) k1.size (fun k e => by cases e; omega)).grown (grownBy_putObj' _ (w5.heap.size + 1 + 1) (.deferred none)) ?_ (fun k e => by cases e; omega)
              exact (k1.grown (grownBy_putObj' _ (X.heap.size + 1) (.deferred none)) k1.size (fun k e => by cases e; omega)).size
          have FIN := Lib.hid fin
          clear fin
          rcases hnv with rfl | rfl
          all_goals
            go_wp2_with (go_at_call 13; refine AW.out.mono ?_; rintro e Z ⟨rfl, hZ⟩; have z1 : Boxed Z (w.heap.size + 1) 4 (.bool false) := (hZ.block _ YR.out.lt).trans YR.out; have z2 := z1.cell; have z3 := z1.frozen; have hFZ := Lib.hid hZ)
          all_goals
            obtain ⟨q1, q2, q3, q4⟩ := FIN.out _ hFZ.out
            refine ⟨by simp, .inl ⟨_, _, rfl, run_takeDeferred q1, ?_⟩⟩
            refine ⟨by simp, .inl ⟨_, _, rfl, run_takeDeferred q2, ?_⟩⟩
            have q5 := q3.cell
            refine ⟨.bool true, ?_, rfl, q4⟩
            simp [results, Try.f5, go_sem, q5]
end Go.Proofs.Ytpnmigfgeieggaa.St
