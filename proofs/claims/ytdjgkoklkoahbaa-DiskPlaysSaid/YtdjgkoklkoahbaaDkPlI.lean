/- The walk of the law DiskPlays. -/
import Derived.Test.YtdjgkoklkoahbaaDkStepB
import Derived.Test.YtdjgkoklkoahbaaDkStepC
import Derived.Test.YtdjgkoklkoahbaaDkStepD
import Derived.Test.YtdjgkoklkoahbaaDkAs
import Derived.Test.YtdjgkoklkoahbaaDkRooms
namespace Go.Proofs.Ytdjgkoklkoahbaa.Dk
open Go.RowKit
open Go.Proofs.Ytdjgkoklkoahbaa.Me Go.Proofs.Ytdjgkoklkoahbaa.Hd
set_option linter.unusedVariables false
set_option linter.unusedSimpArgs false

theorem AcIn.below {w W : World} {a : DAc} {r sl : Option Addr × Nat} (h : AcIn w a r sl) (hb : Below w.heap.size w W) : AcIn W a r sl :=
  ⟨h.pl, h.pc, (h.pr.below hb).more hb.size, h.pn, h.kl, h.kc, (h.kr.below hb).more hb.size, h.kn, h.ki, h.hk, h.hn, h.nm, h.tm⟩
/-- Any step of the law. -/
theorem step_all {G : Nat → Prop} (w : World) (D mb : Nat) (st : St) (A : Option Addr) (n c : Nat) (h : Hid (Pz G w D mb st (.slice A n c))) (kd : Int) (nm to : Nm) (p : List Nat) (an : Int) (kp : List Int) (r sl : Option Addr × Nat) (hi : Hid (AcIn w ⟨kd, nm, to, p, an, kp⟩ r sl)) :
    Calls Try.prog 15 #[.pointer (some ⟨D, 0, none⟩), .agg (rcs st (.slice A n c)), .agg #[.int .i64 kd, nmV nm, nmV to, .slice r.1 p.length r.2, .int .i64 an, .slice sl.1 kp.length sl.2]] w (StepP G w D mb) := by
  have hi' := hi.out
  by_cases e0 : kd = 0
  · subst e0
    exact step0 w D mb st A n c h nm to r.1 r.2 p an _ hi'.pr hi'.pn (Nat.le_trans hi'.pl hi'.pc)
  by_cases e1 : kd = 1
  · subst e1; exact step1 w D mb st A n c h nm to _ an _
  by_cases e2 : kd = 2
  · subst e2; exact step2 w D mb st A n c h nm to _ an _
  by_cases e3 : kd = 3
  · subst e3; exact step3 w D mb st A n c h nm to _ an _
  by_cases e4 : kd = 4
  · subst e4; exact step4 w D mb st A n c h nm to _ an _
  by_cases e5 : kd = 5
  · subst e5; exact step5 w D mb st A n c h nm to _ an _
  by_cases e6 : kd = 6
  · subst e6; exact step6 w D mb st A n c h nm to _ an _
  by_cases e7 : kd = 7
  · subst e7; exact step7 w D mb st A n c h nm to _ an _ (by have := hi'.hn; exact this.2)
  by_cases e8 : kd = 8
  · subst e8
    exact step8 w D mb st A n c h nm to sl.1 sl.2 kp an _ hi'.kr hi'.kn hi'.kl hi'.kc
  exact step_other w D mb st A n c h kd (by simpa using e0) (by simpa using e1) (by simpa using e2) (by simpa using e3) (by simpa using e4) (by simpa using e5) (by simpa using e6) (by simpa using e7) (by simpa using e8) nm to _ an _
/-- What the law holds behind each round. -/
structure PlI (s gw : Nat) (w : World) (G : Nat → Prop) (D mb : Nat) (st : St) (v : Value) (W : World) : Prop where
  p : Pz G W D mb st v
  x : W.heap[gw]? = some (.cells (rcs st v) 29 (0, 0))
  ng : ¬ G gw
  gs : ∀ k, G k → s ≤ k
  b : Below s w W
  sg : s ≤ gw
section
variable {s gw : Nat} {w W W' : World} {G : Nat → Prop} {D mb : Nat} {st : St} {v : Value}
theorem PlI.lt (h : PlI s gw w G D mb st v W) : gw < W.heap.size := (Array.getElem?_eq_some_iff.1 h.x).1
theorem PlI.le (h : PlI s gw w G D mb st v W) : s ≤ W.heap.size := Nat.le_trans h.sg (Nat.le_of_lt h.lt)
theorem Pz.below (h : Pz G W D mb st v) (hb : Below W.heap.size W W') : Pz G W' D mb st v := ⟨h.dq.below hb, h.ok, h.fv.below hb, fun k hk => Nat.lt_of_lt_of_le (h.lt k hk) hb.size⟩
theorem PlI.below (h : PlI s gw w G D mb st v W) (hb : Below W.heap.size W W') : PlI s gw w G D mb st v W' := ⟨h.p.below hb, (hb.block _ h.lt).trans h.x, h.ng, h.gs, h.b.trans (hb.mono h.le), h.sg⟩
/-- A fork goes on: the elder disk is nothing to it. -/
theorem PlI.fork {D2 mb2 : Nat} {w2 w3 w4 w5 : World} (h : PlI s gw w G D mb st v W) (h2 : Dq (fun k => W.heap.size ≤ k) w2 D2 mb2 st) (hb2 : Below W.heap.size W w2) (hb3 : But G w2 w3) (hb4 : Below w3.heap.size w3 w4) (hb5 : But (Gn G w2.heap.size) w4 w5) :
    PlI s gw w (fun k => W.heap.size ≤ k ∧ k < w2.heap.size) D2 mb2 st v w5 := by
  have hlt := h.p.lt
  have hle := hb2.size
  have B4 : But G w2 w4 := hb3.trans (But.of_below (S := G) hb4) fun _ _ h => h
  have B5 : But (Gn G w2.heap.size) w2 w5 := (B4.mono fun _ _ h => .inl h).trans hb5 fun _ _ h => h
  have BW : But (Gn G w2.heap.size) W w5 := (But.of_below (S := Gn G w2.heap.size) hb2).trans B5 fun _ _ h => h
  refine ⟨⟨?_, h.p.ok, ?_, fun k hk => Nat.lt_of_lt_of_le hk.2 B5.size⟩, BW.at_ h.x fun hg => ?_, fun hg => ?_, fun k hk => Nat.le_trans h.le hk.1, ?_, h.sg⟩
  · exact (h2.mono fun k hk hg => ⟨hg, hk⟩ : Dq (fun k => W.heap.size ≤ k ∧ k < w2.heap.size) w2 D2 mb2 st).but B5 fun k hk hg => by
      rcases hg with hg | hg
      · have := hlt k hg; omega
      · omega
  · have f1 : Fv (fun k => ¬ G k ∧ k < W.heap.size) W v st.files := h.p.fv.mono fun k hk hq => ⟨hq, hk⟩
    refine (f1.but BW fun k hk hg => ?_).mono fun k _ hk hg => by omega
    rcases hg with hg | hg
    · exact hk.1 hg
    · omega
  · rcases hg with hg | hg
    · exact h.ng hg
    · have := h.lt; omega
  · have := h.lt; omega
  · have b1 : Below s W w5 := ⟨BW.os, BW.tape, BW.output, BW.size, fun k hk => BW.same k (Nat.lt_of_lt_of_le hk h.le) fun hg => by
      rcases hg with hg | hg
      · have := h.gs k hg; omega
      · have := h.le; omega⟩
    exact h.b.trans b1
end
/-- Behind the law's step, a box for what it answered beside. -/
structure PV (s gw g1 : Nat) (w : World) (G : Nat → Prop) (D mb : Nat) (st : St) (v : Value) (st' : St) (v' : Value) (z : Array Value) (V : World) : Prop where
  p : Pz G V D mb st' v'
  x : V.heap[gw]? = some (.cells (rcs st v) 29 (0, 0))
  y : V.heap[g1]? = some (.cells z 29 (0, 0))
  nx : ¬ G gw
  ny : ¬ G g1
  gs : ∀ k, G k → s ≤ k
  b : Below s w V
  sg : s ≤ gw
  sy : s ≤ g1
  ne : gw ≠ g1
section
variable {s gw g1 : Nat} {w W V : World} {G G' : Nat → Prop} {D mb : Nat} {st st' : St} {v v' : Value} {z : Array Value}
theorem below_row {B g : Nat} {w W : World} (hb : Below B w W) (hg : B ≤ g) (cs : Array Value) : Below B w (W.setRow g cs) := hb.trans ⟨rfl, rfl, rfl, by simp [World.setRow], fun k hk => setRow_other _ _ k _ (by omega)⟩
theorem Pz.row (h : Pz G V D mb st v) {g : Nat} (hg : ¬ G g) (hv : Fv (fun k => ¬ G k ∧ k ≠ g) V v st.files) (cs : Array Value) : Pz G (V.setRow g cs) D mb st v := by
  have bs : But (fun k => k = g) V (V.setRow g cs) := ⟨rfl, rfl, rfl, by simp [World.setRow], fun k _ hk => setRow_other _ _ k _ hk⟩
  exact ⟨h.dq.but bs fun k hk e => hg (e ▸ hk), h.ok, (hv.but bs fun k hk e => hk.2 e).mono fun k _ hk => hk.1, fun k hk => Nat.lt_of_lt_of_le (h.lt k hk) bs.size⟩
/-- A slice of files lies in no disk's box. -/
theorem Fv.ne {Q : Nat → Prop} {w : World} {v : Value} {L : Fs} {g : Nat} {cs : Array Value} (h : Fv Q w v L) (hg : w.heap[g]? = some (.cells cs 29 (0, 0))) (h0 : ∀ u, cs[0]? = some u → ∃ k z, u = .int k z) : Fv (fun k => Q k ∧ k ≠ g) w v L := by
  obtain ⟨A, c, e, h1, h2, h3⟩ := h
  refine ⟨A, c, e, h1, h2, fun j hj => ?_⟩
  obtain ⟨b, e1, e2, e3, e4⟩ := h3 j hj
  refine ⟨b, e1, e2, ⟨e3, fun hb => ?_⟩, e4⟩
  subst hb
  obtain ⟨b', e1', _, _, e4'⟩ := h3 0 (by omega)
  rw [e1] at e1'
  cases e1'
  have q1 := e4' 0 _ rfl
  rw [cell_of_row w b _ _ _ (0, 0) hg] at q1
  obtain ⟨k, z, q2⟩ := h0 _ q1
  cases q2
end
theorem RNew_bad (n : Int) (h : n < 1 ∨ 1048576 < n) (w : World) : Calls Try.prog 10 #[.int .i64 n] w fun e w' => e = .returned (.tuple #[.agg #[.int .i64 0, .slice none 0 0, .int .i64 0, .bool false], .int .i64 1]) ∧ Hid (Below w.heap.size w w') := by
  by_cases h1 : n < 1
  · clear h
    go_enter Try.func10, Try.ntmps10
    go_wp2
    go_returns
    exact ⟨rfl, Me.below_alloc (Below.refl _ _)⟩
  · have h2 : 1048576 < n := by omega
    clear h
    go_enter Try.func10, Try.ntmps10
    go_wp2
    go_returns
    exact ⟨rfl, Me.below_alloc (Below.refl _ _)⟩
theorem plays_bad (n : Int) (h : n < 1 ∨ 1048576 < n) (v : Value) (w : World) : Calls Try.prog 3 #[.int .i64 n, v] w fun e w' => e = .returned (.bool true) ∧ Below w.heap.size w w' := by
  have N := Lib.hid (New_bad n h w)
  have M := Lib.hid (fun W => RNew_bad n h W)
  have HW := Lib.hid awake_any
  clear h
  go_enter Try.func3, Try.ntmps3
  go_wp2_with (first
    | (go_at_call 9; refine N.out.mono ?_; rintro e w' ⟨rfl, rfl⟩)
    | (go_at_call 10; refine (M.out _).mono ?_; rintro e w1 ⟨rfl, hb1⟩)
    | (go_at_call 11; refine (HW.out _).mono ?_; rintro e w2 ⟨rfl, hb2⟩))
  go_ret
  have b1 : Below w.heap.size w (w1.alloc (.cells #[.int .i64 0, .slice none 0 0, .int .i64 0, .bool false] 29)) := hb1.out.alloc hb1.out.size _
  exact ⟨rfl, b1.trans (hb2.out.mono b1.size)⟩
end Go.Proofs.Ytdjgkoklkoahbaa.Dk
