/- The contract of Same of stuff's reference: are two lists of bytes the same? -/
import Derived.Test.YtbacgljeadalbaaGreatDoorZ4
import Derived.Test.YtbacgljeadalbaaGreatDoorZ18
import Derived.Test.YtbacgljeadalbaaGreatDoorWnt
import Derived.Test.YtbacgljeadalbaaGreatDoorZ17
namespace Go.Proofs.YtbacgljeadalbaaGreatDoor.Hd
open Go.RowKit
open Go.Proofs.YtbacgljeadalbaaGreatDoor.Me
set_option linter.unusedVariables false
set_option linter.unusedSimpArgs false

theorem bytes_list (l : List Nat) : (Me.strOf l).toList = l.map fun b => UInt8.ofNat b := by simp [Me.strOf]
theorem same_at {ps qs : List (List Nat)} (h : ps.length = qs.length) (hk : ∀ j, j < ps.length → lsAt ps j = lsAt qs j) : ps = qs := by
  refine List.ext_getElem h fun i h1 h2 => ?_
  have := hk i h1
  simpa [lsAt, h1, h2] using this
set_option maxHeartbeats 1000000 in
theorem Same_any (w : World) (A A' : Option Addr) (c c' : Nat) (ps qs : List (List Nat)) (h1 : Hid (Lst w w.heap.size A ps)) (n1 : Hid (Nils w A ps)) (h2 : Hid (Lst w w.heap.size A' qs)) (n2 : Hid (Nils w A' qs)) (hl : ps.length ≤ 9223372036854775806) :
    Calls Tryz.prog 18 #[.slice A ps.length c, .slice A' qs.length c'] w fun e w' => e = .returned (.bool (decide (ps = qs))) ∧ Hid (Below w.heap.size w w') := by
  by_cases hlen : ps.length = qs.length
  · obtain ⟨n, hn⟩ : ∃ n, ps.length = n := ⟨_, rfl⟩
    have HL1 : Hid (ps.length = n) := hn
    have HL2 : Hid (qs.length = n) := by rw [← hlen]; exact hn
    rw [← hlen, hn]
    rw [hn] at hl
    clear hlen hn
    have HEQ : Hid ((∀ j, j < n → lsAt ps j = lsAt qs j) → decide (ps = qs) = true) := fun h => decide_eq_true (same_at (HL1.out.trans HL2.out.symm) fun j hj => h j (by rw [← HL1.out]; exact hj))
    go_enter Tryz.func18, Tryz.ntmps18
    go_wp2
    go_loopw [5] (fun i wr => ∃ k : Nat, k ≤ n ∧ i = .int .i64 k ∧ (∀ j, j < k → lsAt ps j = lsAt qs j) ∧ Below w.heap.size w wr) (fun i _ => n - (intOf i).toNat)
    case atStart => exact ⟨0, Nat.zero_le _, rfl, fun j hj => absurd hj (by omega), Below.refl _ _⟩
    case round =>
      obtain ⟨k, hk, rfl, hsm, hbr⟩ := hrel
      have HSM := Lib.hid hsm
      have HBR := Lib.hid hbr
      clear hsm hbr
      by_cases hlt : k < n
      · obtain ⟨b, off, rfl, hbB, hcs⟩ := h1.out (by rw [HL1.out]; omega)
        obtain ⟨b', off', rfl, hbB', hcs'⟩ := h2.out (by rw [HL2.out]; omega)
        obtain ⟨R, cr, g1, g2, g3, g4⟩ := hcs k (by rw [HL1.out]; exact hlt)
        obtain ⟨R', cr', g1', g2', g3', g4'⟩ := hcs' k (by rw [HL2.out]; exact hlt)
        have hc1 := (HBR.out.cell (p := ⟨b, off + k, none⟩) hbB).trans g1
        have hc2 := (HBR.out.cell (p := ⟨b', off' + k, none⟩) hbB').trans g1'
        have hv1 : ∀ m, (convert 32 9 (.slice R (lsAt ps k).length cr)).run Tryz.prog (wr.drewN m) = .ok (.string (Me.strOf (lsAt ps k))) (wr.drewN m) := fun m =>
          conv_rd (wr.drewN m) w.heap.size R _ cr (g4.below (Me.below_drewN HBR.out m)) (by rintro rfl; exact n1.out b off rfl k (by rw [HL1.out]; exact hlt) _ _ g1)
        have hv2 : ∀ m, (convert 32 9 (.slice R' (lsAt qs k).length cr')).run Tryz.prog (wr.drewN m) = .ok (.string (Me.strOf (lsAt qs k))) (wr.drewN m) := fun m =>
          conv_rd (wr.drewN m) w.heap.size R' _ cr' (g4'.below (Me.below_drewN HBR.out m)) (by rintro rfl; exact n2.out b' off' rfl k (by rw [HL2.out]; exact hlt) _ _ g1')
        have hb1 := g4.1
        have hb2 := g4'.1
        by_cases hr : lsAt ps k = lsAt qs k
        · have HSM2 : Hid (∀ j, j < k + 1 → lsAt ps j = lsAt qs j) := fun j hj => by
            by_cases hjk : j < k
            · exact HSM.out j hjk
            · obtain rfl : j = k := by omega
              exact hr
          rw [hr] at hc1 hv1
          obtain ⟨r, hrr⟩ : ∃ r, lsAt qs k = r := ⟨_, rfl⟩
          rw [hrr] at hc1 hc2 hv1 hv2
          clear g1 g1' g2 g2' g3 g3' g4 g4' hb1 hb2 hr hrr hcs hcs'
          go_wp2
          go_quiet (fail)
          go_wp2
          go_roundw
          case rel => exact ⟨k + 1, by omega, by go_num, HSM2.out, Me.below_drewN HBR.out _⟩
          case measure => simp [intOf]; omega
        · have HNE : Hid (decide (ps = qs) = false) := by
            show decide (ps = qs) = false
            exact decide_eq_false fun e => hr (by rw [e])
          have hs : ¬ Me.strOf (lsAt ps k) = Me.strOf (lsAt qs k) := fun e => hr (strOf_inj hb1 hb2 e)
          obtain ⟨r, hrr⟩ : ∃ r, lsAt ps k = r := ⟨_, rfl⟩
          obtain ⟨r', hrr'⟩ : ∃ r, lsAt qs k = r := ⟨_, rfl⟩
          rw [hrr] at hc1 hv1 hs
          rw [hrr'] at hc2 hv2 hs
          have hs2 : ¬ (Me.strOf r).toList = (Me.strOf r').toList := fun e => hs (by rw [bytes_list, bytes_list] at e; unfold Me.strOf; rw [e])
          have hs3 : ((Me.strOf r).toList == (Me.strOf r').toList) = false := by simpa using hs2
          clear g1 g1' g2 g2' g3 g3' g4 g4' hb1 hb2 hr hrr hrr' hcs hcs'
          go_wp2
          go_quiet (fail)
          go_wp2
          go_ret
          exact ⟨ret_b HNE.out.symm, Me.below_drewN HBR.out _⟩
      · have HT : Hid (decide (ps = qs) = true) := HEQ.out fun j hj => HSM.out j (by omega)
        go_wp2
        go_ret
        exact ⟨ret_b HT.out.symm, HBR.out⟩
  · have HNE : Hid (decide (ps = qs) = false) := by
      show decide (ps = qs) = false
      exact decide_eq_false fun e => hlen (by rw [e])
    have e1 : ((ps.length : Int) == (qs.length : Int)) = false := by simp; omega
    obtain ⟨n, hn⟩ : ∃ n, ps.length = n := ⟨_, rfl⟩
    obtain ⟨n', hn'⟩ : ∃ n, qs.length = n := ⟨_, rfl⟩
    rw [hn, hn'] at e1 hlen
    rw [hn, hn']
    go_enter Tryz.func18, Tryz.ntmps18
    go_wp2
    go_ret
    exact ⟨ret_b HNE.out.symm, Below.refl _ _⟩
end Go.Proofs.YtbacgljeadalbaaGreatDoor.Hd
/- A log on a disk with room: begin, may; a log's calls on its disk; payloads that were put. -/
namespace Go.Proofs.YtbacgljeadalbaaGreatDoor.Wl
open Go.RowKit
open Go.Proofs.YtbacgljeadalbaaGreatDoor.Me Go.Proofs.YtbacgljeadalbaaGreatDoor.Hd Go.Proofs.YtbacgljeadalbaaGreatDoor.Dk Go.Proofs.YtbacgljeadalbaaGreatDoor.Rc
set_option linter.unusedVariables false
set_option linter.unusedSimpArgs false

theorem may_any (n : Int) (w : World) : Calls Tryz.prog 11 #[.int .i64 n] w fun e w' => e = .returned (.bool (decide (16 ≤ n ∧ n ≤ 1048576))) ∧ w = w' := by
  by_cases a : 16 ≤ n
  · by_cases b : n ≤ 1048576
    · have HE : Hid (decide (16 ≤ n ∧ n ≤ 1048576) = true) := decide_eq_true ⟨a, b⟩
      rw [HE.out]
      go_enter Tryz.func11, Tryz.ntmps11
      go_wp2
      go_ret
      exact ⟨rfl, rfl⟩
    · have HE : Hid (decide (16 ≤ n ∧ n ≤ 1048576) = false) := decide_eq_false fun h => b h.2
      rw [HE.out]
      go_enter Tryz.func11, Tryz.ntmps11
      go_wp2
      go_ret
      exact ⟨rfl, rfl⟩
  · have HE : Hid (decide (16 ≤ n ∧ n ≤ 1048576) = false) := decide_eq_false fun h => a h.1
    rw [HE.out]
    go_enter Tryz.func11, Tryz.ntmps11
    go_wp2
    go_ret
    exact ⟨rfl, rfl⟩
theorem Open_bad (D : Nat) (n : Int) (hn : n < 16 ∨ 1048576 < n) (w : World) : Calls Tryz.prog 17 #[.pointer (some ⟨D, 0, none⟩), .int .i64 1, .int .i64 n] w fun e w' => e = .returned (.tuple #[.pointer none, .slice none 0 0, .int .i64 1]) ∧ Hid (Below w.heap.size w w') := by
  have HNm : Hid (∀ W, Calls Tryz.prog 28 #[.int .i64 1] W fun e w' => e = .returned (.bool true) ∧ W = w') := fun W => isNumber_any 1 W
  by_cases h : n < 16
  · clear hn
    go_enter Tryz.func17, Tryz.ntmps17
    go_wp2_with (go_at_call 28; refine (HNm.out _).mono ?_; rintro e w' ⟨rfl, rfl⟩)
    go_returns
    exact ⟨rfl, by show Below _ _ _; repeat (first | exact Below.refl _ _ | apply Me.below_alloc)⟩
  · have h2 : 1048576 < n := hn.resolve_left h
    clear hn
    go_enter Tryz.func17, Tryz.ntmps17
    go_wp2_with (go_at_call 28; refine (HNm.out _).mono ?_; rintro e w' ⟨rfl, rfl⟩)
    go_returns
    exact ⟨rfl, by show Below _ _ _; repeat (first | exact Below.refl _ _ | apply Me.below_alloc)⟩
theorem begin_bad (n : Int) (hn : n < 16 ∨ 1048576 < n) (w : World) : Calls Tryz.prog 10 #[.int .i64 n] w fun e w' => e = .returned (.tuple #[.pointer none, .pointer none]) ∧ Hid (Below w.heap.size w w') := by
  have N := Lib.hid (New_f 1048576 (by decide) (by decide) w)
  rw [show ((1048576 : Nat) : Int) = 1048576 from rfl] at N
  have HO := Lib.hid (fun W => Open_bad (w.heap.size + 1) n hn W)
  clear hn
  go_enter Tryz.func10, Tryz.ntmps10
  go_wp2_with (first
    | (go_at_call 29; refine N.out.mono ?_; rintro e w1 ⟨rfl, H1, B1⟩)
    | (go_at_call 17; refine (HO.out w1).mono ?_; rintro e w2 ⟨rfl, B2⟩))
  go_returns
  exact ⟨rfl, B1.out.trans (B2.out.mono B1.out.size)⟩
theorem begin_any (size : Nat) (h1 : 16 ≤ size) (h2 : size ≤ 1048576) (w : World) : Calls Tryz.prog 10 #[.int .i64 (size : Int)] w fun e w' => ∃ X, e = .returned (.tuple #[.pointer (some ⟨w.heap.size + 1, 0, none⟩), .pointer (some ⟨X, 0, none⟩)]) ∧ Hid (Lq (From w.heap.size) w' X (w.heap.size + 1) w.heap.size (newS 1048576) ⟨1, false⟩ size) ∧ Hid (Below w.heap.size w w') := by
  have N := Lib.hid (New_f 1048576 (by decide) (by decide) w)
  rw [show ((1048576 : Nat) : Int) = 1048576 from rfl] at N
  obtain ⟨s, hs⟩ : ∃ s, w.heap.size = s := ⟨_, rfl⟩
  rw [hs] at N ⊢
  have O1 : Hid (∀ W : World, Hid (Df s W (s + 1) s (newS 1048576)) → Calls Tryz.prog 17 #[.pointer (some ⟨s + 1, 0, none⟩), .int .i64 1, .int .i64 (size : Int)] W fun e w' => ∃ v X, e = .returned (.tuple #[.pointer (some ⟨X, 0, none⟩), v, .int .i64 0]) ∧ Hid (Lq (From s) w' X (s + 1) s (newS 1048576) ⟨1, false⟩ size) ∧ Hid (Below s W w')) :=
    fun W h => (Open_from (size := size) W h.out.dq h.out.ok Seg.nil (new_calm 1048576) h1 h2 h.out.lt).mono fun e w' ⟨s', last, ps, v, X, G', q1, q2, q3, q4, q5, q6⟩ => by
      obtain ⟨rfl, rfl, rfl⟩ := opens_none rfl q2.out
      exact ⟨v, X, q1, lq_from q4.out q5.out, q6⟩
  clear hs h1 h2
  go_enter Tryz.func10, Tryz.ntmps10
  go_wp2_with (first
    | (go_at_call 29; refine N.out.mono ?_; rintro e w1 ⟨rfl, H1, B1⟩)
    | (go_at_call 17; refine (O1.out w1 H1).mono ?_; rintro e w2 ⟨v, X, rfl, H2, B2⟩))
  go_returns
  exact ⟨X, rfl, H2, B1.out.trans B2.out⟩

/-! ### Payloads that were put -/
/-- One slice that came in appended; where the new row lies. -/
theorem appW2 {w0 wl w : World} {ops : Array Oper} {rest : List Oper} {o : Oper} {a : Act} {Q : Exit → Act → World → Prop} (hgd : o.guard = none) (s x : Operand)
    (ho : o.op = .call { callee := .builtin .append, args := #[s, x], argTypes := #[31, 31] })
    (v : Value) (ps : List (List Nat)) (r : List Nat) (A : Option Addr) (n c : Nat) (hn : n = r.length) (hs : a.eval s = v) (hw : w = wl.alloc (.cells #[.slice A n c] 32)) (hrows : Wnt w0 wl v ps) (hb : Below w0.heap.size w0 wl)
    (h1 : r.length ≤ c) (h2 : c ≤ 9223372036854775807) (h3 : Rd w0 w0.heap.size A r) (h4 : A = none → r.length = 0 ∧ c = 0) (g : Nat) (hgs : g = wl.heap.size) (hx : a.eval x = .slice (some ⟨g, 0, none⟩) 1 1) (hlen : (ps.length + 1) * 24 ≤ 140737488355328)
    (h : ∀ v' w', Wnt w0 w' v' (ps ++ [r]) → wl.grownBy w' v.ownBlock → (∀ k, v'.ownBlock = some k → v.ownBlock = some k ∨ wl.heap.size ≤ k) → wpList Tryz.prog ops Q rest (a.put o.dst v') w') : wpList Tryz.prog ops Q (o :: rest) a w := by
  obtain ⟨i0, hi, hz0, hz1, hz2⟩ := info_parts info24
  subst hn hgs
  have hba : Below wl.heap.size wl w := by rw [hw]; exact (Below.refl _ _).alloc (Nat.le_refl _) _
  have hown := hrows.own
  obtain ⟨vs, k1, k2, k3⟩ := hrows.same fun k _ hk => hba.block k hk
  refine wpList_append_own2 hgd s x 31 ho 32 i0 (.slice none 0 0) 24 Tryz.underlying31 hi hz0 hz1 hz2 rfl v ps.length vs hs (own_base k1 fun _ _ => Nat.zero_le _) ⟨wl.heap.size, 0, none⟩ 1 1 [.slice A r.length c] hx rfl
    (by
      intro j u hj
      rw [hw]
      have : j = 0 := by
        apply Classical.byContradiction
        intro hn
        rw [List.getElem?_eq_none (by simp; omega)] at hj; cases hj
      subst this
      have e : (⟨wl.heap.size, 0, none⟩ : Addr).add 0 = ⟨wl.heap.size, 0, none⟩ := by unfold Addr.add; split <;> simp_all
      rw [e, cell_of_row _ wl.heap.size 0 _ 32 (0, 0) (heap_alloc_new wl _)]
      simpa using hj)
    (by simp [Value.oneCell']) (by unfold maxLen; omega) hlen ?_
  intro v' w' q1 q2 q3
  have hg2 : wl.grownBy w' v.ownBlock := ⟨q2.os.trans hba.os, q2.tape.trans hba.tape, q2.output.trans hba.output, Nat.le_trans hba.size q2.size, fun b hb' hne => (q2.block b (Nat.lt_of_lt_of_le hb' hba.size) hne).trans (hba.block b hb')⟩
  have hq3 : ∀ k, v'.ownBlock = some k → v.ownBlock = some k ∨ wl.heap.size ≤ k := fun k e => (q3 k e).imp id fun h => Nat.le_trans hba.size h
  refine h v' w' ⟨vs ++ [.slice A r.length c], own_base (by simpa using q1) fun k e => ?_, by simp [k2], fun j hj => ?_⟩ hg2 hq3
  · rcases hq3 k e with e | e
    · exact (hown k e).1
    · exact Nat.le_trans hb.size e
  simp only [List.length_append, List.length_singleton] at hj
  by_cases hlt : j < ps.length
  · obtain ⟨A', c', e, h8⟩ := k3 j hlt
    rw [lsAt_append_left hlt]
    exact ⟨A', c', by rw [List.getElem?_append_left (by omega)]; exact e, h8⟩
  · obtain rfl : j = ps.length := by omega
    rw [lsAt_append_right hlt]
    exact ⟨A, c, by rw [← k2]; simp [lsAt], by simpa [lsAt] using h1, h2, by simpa [lsAt] using h3, by simpa [lsAt] using h4⟩
/-- The log in the midst of a law: what was put, in a row of its own; so many are safe. -/
structure Wi (w wr : World) (X D mb size : Nat) (v : Value) (put : List (List Nat)) (sf : Nat) (s : St) (g : Lg) (G : Nat → Prop) : Prop where
  lq : Lq G wr X D mb s g size
  gl : ∀ k, G k → w.heap.size ≤ k ∧ k < wr.heap.size
  row : Wnt w wr v put
  out : ∀ j, v.ownBlock = some j → ¬ G j
  kp : Kp s g put sf
  bel : Below w.heap.size w wr
section
variable {w wr w' : World} {X D mb size sf : Nat} {v : Value} {put : List (List Nat)} {s : St} {g : Lg} {G : Nat → Prop}
theorem Wi.call (h : Wi w wr X D mb size v put sf s g G) {r : Rs} {e : Ending} (hp : WlP G wr X D mb size r e w') {put' : List (List Nat)} {sf' : Nat} : Lq (Lo (Gn G wr.heap.size) w'.heap.size) w' X D mb r.s r.g size ∧ (∀ k, Lo (Gn G wr.heap.size) w'.heap.size k → w.heap.size ≤ k ∧ k < w'.heap.size) ∧ Wnt w w' v put ∧ (∀ j, v.ownBlock = some j → ¬ Lo (Gn G wr.heap.size) w'.heap.size j) ∧ Below w.heap.size w w' := by
  have hz := h.bel.size
  refine ⟨hp.2.1.out.low, fun k e => ⟨?_, e.2⟩, h.row.same fun k e hk => hp.2.2.out.same k hk (h.out k e), fun j e e2 => ?_, h.bel.trans (hp.2.2.out.below hz fun k e => (h.gl k e).1)⟩
  · rcases e.1 with e | e
    · exact (h.gl k e).1
    · omega
  · rcases e2.1 with e2 | e2
    · exact h.out j e e2
    · have := (h.row.own j e).2; omega
theorem Wi.step (h : Wi w wr X D mb size v put sf s g G) {r : Rs} {e : Ending} (hp : WlP G wr X D mb size r e w') {sf' : Nat} (hk : Kp r.s r.g put sf') : Wi w w' X D mb size v put sf' r.s r.g (Lo (Gn G wr.heap.size) w'.heap.size) := by
  obtain ⟨q1, q2, q3, q4, q5⟩ := h.call hp (put' := put) (sf' := sf')
  exact ⟨q1, q2, q3, q4, hk, q5⟩
/-- A payload more. -/
theorem Wi.more (h : Wi w wr X D mb size v put sf s g G) {r : Rs} {e : Ending} (hp : WlP G wr X D mb size r e w') {p : List Nat} {sf' : Nat} (hk : Kp r.s r.g (put ++ [p]) sf') {v' : Value} {w'' : World} (hv : Wnt w w'' v' (put ++ [p])) (hg : w'.grownBy w'' v.ownBlock) (hn : ∀ k, v'.ownBlock = some k → v.ownBlock = some k ∨ w'.heap.size ≤ k) :
    Wi w w'' X D mb size v' (put ++ [p]) sf' r.s r.g (Lo (Gn G wr.heap.size) w'.heap.size) := by
  obtain ⟨q1, q2, q3, q4, q5⟩ := h.call hp (put' := put) (sf' := sf')
  have hb : But (fun k => v.ownBlock = some k) w' w'' := (But.refl _ w').grown hg fun r e => .inl e
  refine ⟨q1.but hb fun k e e2 => q4 k e2 e, fun k e => ⟨(q2 k e).1, Nat.lt_of_lt_of_le (q2 k e).2 hb.size⟩, hv, fun j e e2 => ?_, hk, q5.trans (hb.below q5.size fun k e => (h.row.own k e).1)⟩
  rcases hn j e with e | e
  · exact q4 j e e2
  · have := (q2 j e2).2; omega
/-- A call of its disk's that leaves the files. -/
theorem Wi.disk (h : Wi w wr X D mb size v put sf s g G) {s' : St} (hd : Dq (Bx G X) w' D mb s') (hb : But (Bx G X) wr w') (hf : s'.files = s.files) (ok : s'.Ok) : Wi w w' X D mb size v put sf s' g (Lo (Gn G wr.heap.size) w'.heap.size) := by
  obtain ⟨q1, q2⟩ := h.lq.disk (hd.mono fun k _ e => .inl e) hb ⟨ok, by rw [hf]; exact h.lq.good.seg, h.lq.good.num⟩
  exact h.step (r := ⟨s', g, 0⟩) ⟨rfl, q1, q2⟩ (h.kp.same hf rfl ok)
end
end Go.Proofs.YtbacgljeadalbaaGreatDoor.Wl
/- The walk of the law WalLasts. -/
namespace Go.Proofs.YtbacgljeadalbaaGreatDoor.Wl
open Go.RowKit
open Go.Proofs.YtbacgljeadalbaaGreatDoor.Me Go.Proofs.YtbacgljeadalbaaGreatDoor.Hd Go.Proofs.YtbacgljeadalbaaGreatDoor.Dk Go.Proofs.YtbacgljeadalbaaGreatDoor.Rc
set_option linter.unusedVariables false
set_option linter.unusedSimpArgs false

theorem cut_lst {w : World} {B : Nat} {a : Option Addr} {ls : List (List Nat)} (h : Me.Lst w B a ls) (k : Nat) : Me.Lst w B a (ls.take k) := by
  intro hp
  simp only [List.length_take] at hp
  obtain ⟨b, off, e, hb, hc⟩ := h (by omega)
  refine ⟨b, off, e, hb, fun j hj => ?_⟩
  simp only [List.length_take] at hj
  obtain ⟨A, c, h1, h2, h3, h4⟩ := hc j (by omega)
  have e2 : lsAt (ls.take k) j = lsAt ls j := by
    have : j < k := by omega
    simp [lsAt, this]
  rw [e2]
  exact ⟨A, c, h1, h2, h3, h4⟩
theorem cut_nils {w : World} {a : Option Addr} {ls : List (List Nat)} (h : Me.Nils w a ls) (k : Nat) : Me.Nils w a (ls.take k) := fun b off e j hj n c hc => by
  simp only [List.length_take] at hj
  exact h b off e j (by omega) n c hc
theorem wnt_form {w0 W : World} {v : Value} {ps : List (List Nat)} (h : Wnt w0 W v ps) : ∃ A c, v = .slice A ps.length c ∧ ps.length ≤ c ∧ c ≤ 9223372036854775807 := by
  obtain ⟨vs, h1, h2, h3⟩ := h
  rcases h1.2 with ⟨rfl, e0⟩ | ⟨g, cap, cur, rfl, q2, q3, q4, q5, q6, q7⟩
  · exact ⟨none, 0, by rw [e0], by omega, by omega⟩
  · exact ⟨some ⟨g, 0, none⟩, cap, rfl, q4, by unfold maxLen at q5; omega⟩
section
variable {w wr : World} {X D mb size sf : Nat} {put : List (List Nat)} {s : St} {g : Lg} {G : Nat → Prop} {Ap : Option Addr} {cp : Nat}
/-- The blocks of the disk behind the crash. -/
def G2 (G : Nat → Prop) (X : Nat) (wr w3 : World) : Nat → Prop := Lo (Gn (Bx G X) wr.heap.size) w3.heap.size
theorem wi_crash {v : Value} (h : Wi w wr X D mb size v put sf s g G) {ak : Option Addr} {ck : Nat} {ks : List Int} (hr : Mi.Rd w w.heap.size ak ks) (hc : ks.length ≤ ck) (hc2 : ck ≤ 9223372036854775807) :
    Calls Tryz.prog 16 #[.pointer (some ⟨D, 0, none⟩), .slice ak ks.length ck] wr fun e w3 => e = .returned (.int .i64 0) ∧ Hid (Dq (G2 G X wr w3) w3 D mb (crashS s ks)) ∧ Hid (But (Bx G X) wr w3) :=
  (Crash_any2 wr D mb s h.lq.dq h.lq.good.ok ak ck ks ((hr.below h.bel).more h.bel.size) hc hc2 fun h0 a e e2 => by
    obtain ⟨b, off, e3, hb, _⟩ := hr h0
    rw [e] at e3
    injection e3 with e3
    have := (h.gl _ e2.1).1
    rw [e3] at this
    simp only at this
    omega).mono fun e w3 ⟨q1, q2, q3⟩ => ⟨q1, q2.out.mono fun k hk e => ⟨e, hk⟩, q3⟩
theorem wi_open (h : Wi w wr X D mb size (.slice Ap put.length cp) put sf s g G) {w3 : World} {ks : List Int} (hd : Dq (G2 G X wr w3) w3 D mb (crashS s ks)) (hb : But (Bx G X) wr w3) (h1 : 16 ≤ size) (h2 : size ≤ 1048576) :
    Calls Tryz.prog 17 #[.pointer (some ⟨D, 0, none⟩), .int .i64 1, .int .i64 (size : Int)] w3 fun e w4 => ∃ n A c X2, e = .returned (.tuple #[.pointer (some ⟨X2, 0, none⟩), .slice A n c, .int .i64 0]) ∧ sf ≤ n ∧ n ≤ put.length ∧ n = (put.take n).length ∧ Hid (Me.Lst w4 w4.heap.size A (put.take n)) ∧ Hid (Me.Nils w4 A (put.take n)) ∧ Hid (Me.Lst w4 w4.heap.size Ap (put.take n)) ∧ Hid (Me.Nils w4 Ap (put.take n)) ∧ Hid (Below w.heap.size w w4) := by
  have hz := h.bel.size
  have hz3 := hb.size
  have hG2 : ∀ k, G2 G X wr w3 k → w.heap.size ≤ k := fun k e => by
    rcases e.1 with e | e
    · exact (h.gl k e.1).1
    · omega
  refine (Open_any (G := G2 G X wr w3) w3 D mb (crashS s ks) size hd (h.lq.good.ok.crash ks) (h.lq.good.seg.crash ks) ⟨rfl, rfl⟩ h1 h2 fun k e => e.2).mono fun e w4 ⟨s', last, ps, v2, X2, G', q1, q2, q3, q4, q5, q6⟩ => ?_
  obtain ⟨n, n1, n2, rfl⟩ := opens_K h.kp q2.out
  have hlen : (put.take n).length = n := by simp; omega
  obtain ⟨A, c, rfl, r1, r2, r3, r4, r5⟩ := q3.out.lst fun l hl z hz => (h.kp.fine l (List.mem_of_mem_take hl)).2 z hz
  rw [hlen] at q1
  have b3 : Below w.heap.size w w3 := h.bel.trans (hb.below hz fun k e => (h.gl k e.1).1)
  have b4 : Below w.heap.size w w4 := b3.trans (q6.out.below b3.size fun k e => hG2 k e)
  have hrow : Wnt w w4 (.slice Ap put.length cp) put := (h.row.same fun k e hk => hb.same k hk fun e2 => h.out k e e2.1).same fun k e hk => q6.out.same k hk fun e2 => by
    rcases e2.1 with e3 | e3
    · exact h.out k e e3.1
    · have := (h.row.own k e).2; omega
  obtain ⟨A', c', e', l1, l2⟩ := hrow.form b4
  injection e' with e1 _ _
  subst e1
  exact ⟨n, A, c, X2, q1, n1, n2, hlen.symm, r3, r4, cut_lst l1 n, cut_nils l2 n, b4⟩
end
set_option maxRecDepth 100000 in
set_option maxHeartbeats 8000000 in
theorem wlasts (n : Int) (al : Option Addr) (ll cl : Nat) (ls : List Ac) (ak : Option Addr) (lk ck : Nat) (ks : List Int) (w : World) (hn : (Lit.int .i64 n).wf = true) (hl : ll = ls.length ∧ ll ≤ cl ∧ cl ≤ 9223372036854775807 ∧ Acts w al ls) (hk : Mi.BySlice w ak lk ck ks) (hck : ck * 8 ≤ 140737488351232) :
    Calls Tryz.prog 4 #[.int .i64 n, .slice al ll cl, .slice ak lk ck] w fun e w' => e = .returned (.bool true) ∧ Below w.heap.size w w' := by
  by_cases hs : 16 ≤ n ∧ n ≤ 1048576
  · obtain ⟨size, rfl⟩ : ∃ size : Nat, n = (size : Int) := ⟨n.toNat, by omega⟩
    have hs1 : 16 ≤ size := by omega
    have hs2 : size ≤ 1048576 := by omega
    obtain ⟨rfl, hl1, hl2, hact⟩ := hl
    obtain ⟨rfl, hk1, hk2, hk3, hk4, hk5⟩ := hk
    have HBg := Lib.hid (begin_any size hs1 hs2 w)
    have HACT := Lib.hid hact
    have HKR := Lib.hid hk3
    have HK1 := Lib.hid hk1
    have HK2 := Lib.hid hk2
    have HS1 := Lib.hid hs1
    have HS2 := Lib.hid hs2
    obtain ⟨mb, hmb⟩ : ∃ mb, w.heap.size = mb := ⟨_, rfl⟩
    have H0 : Hid (∀ w1 X, Lq (From w.heap.size) w1 X (mb + 1) mb (newS 1048576) ⟨1, false⟩ size → Below w.heap.size w w1 → Wi w (w1.alloc (.cells #[] 32)) X (mb + 1) mb size (.slice (some ⟨w1.heap.size, 0, none⟩) 0 0) [] 0 (newS 1048576) ⟨1, false⟩ (Lo (From w.heap.size) w1.heap.size)) := fun w1 X h1 h2 => by
      have hb : Below w1.heap.size w1 (w1.alloc (.cells #[] 32)) := Me.below_alloc (Below.refl _ _)
      exact ⟨h1.low.below hb, fun k e => ⟨e.1, Nat.lt_of_lt_of_le e.2 hb.size⟩, Wnt.lit h2, fun j e e2 => by
        have e3 : w1.heap.size = j := by simpa [Value.ownBlock] using e
        have := e2.2; omega, Kp.new (St.Ok.new (by decide)) rfl rfl, h2.trans (hb.mono h2.size)⟩
    obtain ⟨D, hD⟩ : ∃ D, mb + 1 = D := ⟨_, rfl⟩
    rw [hmb, hD] at HBg
    rw [hD] at H0
    obtain ⟨L, hL⟩ : ∃ L, ls.length = L := ⟨_, rfl⟩
    have HL := Lib.hid hL
    rw [hL] at hl1 ⊢
    obtain ⟨K, hK⟩ : ∃ K, ks.length = K := ⟨_, rfl⟩
    have HKK := Lib.hid hK
    rw [hK] at ⊢
    have HMB := Lib.hid hmb
    have g1 : (size : Int) ≤ 1048576 := by omega
    have hL63 : (L : Int) ≤ 9223372036854775807 := by omega
    clear hs hs1 hs2 hn hact hk1 hk2 hk3 hk4 hk5 hL hK hmb hD hck
    go_enter Tryz.func4, Tryz.ntmps4
    go_wp2_with (go_at_call 10; refine HBg.out.mono ?_; rintro e w1 ⟨X, rfl, h1, b1⟩; have I0 := Lib.hid (H0.out w1 X (HMB.out.symm ▸ h1.out) (HMB.out.symm ▸ b1.out)))
    obtain ⟨W0, hW0⟩ : ∃ W0, w1.alloc (.cells #[] 32) = W0 := ⟨_, rfl⟩
    rw [hW0] at I0 ⊢
    clear hW0 H0 HBg
    go_loopw [9, 10, 11] (fun v sv iv wr => ∃ (i sf : Nat) (put : List (List Nat)) (s : St) (g : Lg) (G : Nat → Prop), i ≤ L ∧ i ≤ 60 ∧ sv = .int .i64 sf ∧ iv = .int .i64 i ∧ put.length ≤ i ∧ Hid (Wi w wr X D mb size v put sf s g G)) (fun _ _ iv _ => 60 - (intOf iv).toNat)
    case atStart => exact ⟨0, 0, [], _, _, _, Nat.zero_le _, Nat.zero_le _, rfl, rfl, Nat.le_refl _, I0⟩
    case round =>
      obtain ⟨i, sf, put, s, g, G, hiL, hi60, rfl, rfl, hpl, HI⟩ := hrel
      obtain ⟨Ap, cp, rfl, hp1, hp2⟩ := wnt_form HI.out.row
      by_cases hgo : i < L ∧ i < 60
      · have hi1 : (i : Int) < (L : Int) := by omega
        have hi2 : (i : Int) < 60 := by omega
        have hj1 := hgo.1
        obtain ⟨b, off, R, cr, rfl, hb, c0, c1, c2, p1, p2, p3, p4, p5⟩ := HACT.out i (by have := HL.out; omega)
        obtain ⟨a, ha⟩ : ∃ a, acAt ls i = a := ⟨_, rfl⟩
        rw [ha] at c0 c1 c2 p1 p3 p4 p5
        obtain ⟨k, m, p⟩ := a
        simp only at c0 c1 c2 p1 p3 p4 p5
        have bw := HI.out.bel
        have d0 : wr.cell? ⟨b, off + i * 4, none⟩ = some (.int .i64 k) := by rw [bw.cell (p := ⟨b, off + i * 4, none⟩) hb]; exact c0
        have d1 : wr.cell? ⟨b, off + i * 4 + 1, none⟩ = some (.int .i64 m) := by rw [bw.cell (p := ⟨b, off + i * 4 + 1, none⟩) hb]; exact c1
        have d2 : wr.cell? ⟨b, off + i * 4 + 2, none⟩ = some (.slice R p.length cr) := by rw [bw.cell (p := ⟨b, off + i * 4 + 2, none⟩) hb]; exact c2
        have HR : Hid (Me.Rd wr wr.heap.size R p) := (p3.below bw).more bw.size
        have HP2 : Hid (∀ w3, Below w.heap.size w w3 → w3.cell? ⟨b, off + i * 4 + 2, none⟩ = some (.slice R p.length cr)) := fun w3 h => by rw [h.cell (p := ⟨b, off + i * 4 + 2, none⟩) hb]; exact c2
        have HP3 : Hid (Me.Rd w w.heap.size R p ∧ p.length ≤ cr ∧ cr ≤ 9223372036854775807 ∧ (R = none → p.length = 0 ∧ cr = 0)) := ⟨p3, p1, by omega, p4⟩
        have HLen : Hid ((put.length + 1) * 24 ≤ 140737488355328) := by show _ ≤ _; omega
        have HI5 := Lib.hid p5
        by_cases k0 : k = 0
        · subst k0
          have HA := Lib.hid (Append_any wr X D mb s g size (Lib.hid HI.out.lq) R cr p HR (Lib.hid p4) p1 (by omega))
          have hK := app_K HI.out.kp (p := p) p3.1 size (peN p) pe_fit.1
          obtain ⟨r, hr⟩ : ∃ r, appR s g p size (peN p) = r := ⟨_, rfl⟩
          rw [hr] at HA hK
          by_cases he : r.e = 0
          · rw [if_pos he] at hK
            have HK := Lib.hid hK
            have HA2 : Hid (Calls Tryz.prog 12 #[.pointer (some ⟨X, 0, none⟩), .slice R p.length cr] wr fun e w' => e = .returned (.int .i64 0) ∧ Hid (WlP G wr X D mb size r (.returned (.int .i64 (r.e : Int))) w')) := HA.out.mono fun e w' hp => by
              have h1 := hp.1
              subst h1
              exact ⟨by rw [he]; rfl, hp⟩
            obtain ⟨N, hN⟩ : ∃ N, p.length = N := ⟨_, rfl⟩
            have HN := Lib.hid hN
            rw [hN] at HA2 d2 HP2
            clear hN hK hr HA he c0 c1 c2 p1 p2 p3 p4 p5 ha hgo HI5
            go_wp2_with (first
              | (go_at_call 12; refine HA2.out.mono ?_; rintro e w3 ⟨rfl, hp⟩; obtain ⟨_, _, q3, _, q5⟩ := HI.out.call hp.out (put' := put) (sf' := sf); have Q3 := Lib.hid q3; have Q5 := Lib.hid q5; have k2 := HP2.out w3 q5; clear q3 q5)
              | (at_builtin; refine appW2 (w0 := w) (wl := w3) rfl (.tmp 58) (.tmp 64) rfl (.slice Ap put.length cp) put p R N cr HN.out.symm rfl rfl Q3.out Q5.out HP3.out.2.1 HP3.out.2.2.1 HP3.out.1 HP3.out.2.2.2 w3.heap.size rfl rfl HLen.out ?_; intro v' w4 z1 z2 z3; have HW := Lib.hid (HI.out.more hp.out HK.out z1 z2 z3); clear z1 z2 z3))
            go_roundw
            case rel => exact ⟨i + 1, sf, put ++ [p], _, _, _, by omega, by omega, rfl, by go_num, by rw [List.length_append]; simp; omega, HW⟩
            case measure => simp [intOf]; omega
          · rw [if_neg he] at hK
            have HK := Lib.hid hK
            have hz := nz he
            have HA2 : Hid (Calls Tryz.prog 12 #[.pointer (some ⟨X, 0, none⟩), .slice R p.length cr] wr fun e w' => e = .returned (.int .i64 (r.e : Int)) ∧ Hid (Wi w w' X D mb size (.slice Ap put.length cp) put sf r.s r.g (Lo (Gn G wr.heap.size) w'.heap.size))) := HA.out.mono fun e w' hp => ⟨hp.1, HI.out.step hp HK.out⟩
            obtain ⟨c, hc⟩ : ∃ c, r.e = c := ⟨_, rfl⟩
            obtain ⟨N, hN⟩ : ∃ N, p.length = N := ⟨_, rfl⟩
            rw [hc] at HA2 hz
            rw [hN] at HA2 d2
            clear hN hc hK hr HA he c0 c1 c2 p1 p2 p3 p4 p5 ha hgo HI5 HP2 HP3
            go_wp2_with (go_at_call 12; refine HA2.out.mono ?_; rintro e w3 ⟨rfl, HW⟩)
            go_roundw
            case rel => exact ⟨i + 1, sf, put, _, _, _, by omega, by omega, rfl, by go_num, by omega, HW⟩
            case measure => simp [intOf]; omega
        by_cases k1 : k = 1
        · subst k1
          have HA := Lib.hid (Sync_any wr X D mb s g size (Lib.hid HI.out.lq))
          obtain ⟨hK1, hK2⟩ := sync_K HI.out.kp
          obtain ⟨r, hr⟩ : ∃ r, syncR s g = r := ⟨_, rfl⟩
          rw [hr] at HA hK1 hK2
          by_cases he : r.e = 0
          · have HK := Lib.hid ((hK1 he).kp (safe := put.length) (Nat.le_refl _))
            have HA2 : Hid (Calls Tryz.prog 13 #[.pointer (some ⟨X, 0, none⟩)] wr fun e w' => e = .returned (.int .i64 0) ∧ Hid (Wi w w' X D mb size (.slice Ap put.length cp) put put.length r.s r.g (Lo (Gn G wr.heap.size) w'.heap.size))) := HA.out.mono fun e w' hp => ⟨by rw [hp.1, he]; rfl, HI.out.step hp HK.out⟩
            clear hK1 hK2 hr HA he c0 c1 c2 p1 p2 p3 p4 p5 ha hgo HI5 HP2 HP3 d2
            go_wp2_with (go_at_call 13; refine HA2.out.mono ?_; rintro e w3 ⟨rfl, HW⟩)
            go_roundw
            case rel => exact ⟨i + 1, put.length, put, _, _, _, by omega, by omega, rfl, by go_num, by omega, HW⟩
            case measure => simp [intOf]; omega
          · have HK := Lib.hid hK2
            have hz := nz he
            have HA2 : Hid (Calls Tryz.prog 13 #[.pointer (some ⟨X, 0, none⟩)] wr fun e w' => e = .returned (.int .i64 (r.e : Int)) ∧ Hid (Wi w w' X D mb size (.slice Ap put.length cp) put sf r.s r.g (Lo (Gn G wr.heap.size) w'.heap.size))) := HA.out.mono fun e w' hp => ⟨hp.1, HI.out.step hp HK.out⟩
            obtain ⟨c, hc⟩ : ∃ c, r.e = c := ⟨_, rfl⟩
            rw [hc] at HA2 hz
            clear hc hK1 hK2 hr HA he c0 c1 c2 p1 p2 p3 p4 p5 ha hgo HI5 HP2 HP3 d2
            go_wp2_with (go_at_call 13; refine HA2.out.mono ?_; rintro e w3 ⟨rfl, HW⟩)
            go_roundw
            case rel => exact ⟨i + 1, sf, put, _, _, _, by omega, by omega, rfl, by go_num, by omega, HW⟩
            case measure => simp [intOf]; omega
        by_cases k2 : k = 2
        · subst k2
          have HA := Lib.hid (Begin_any wr X D mb s g size (Lib.hid HI.out.lq))
          obtain ⟨hK1, hK2⟩ := begin_K HI.out.kp
          obtain ⟨r, hr⟩ : ∃ r, beginR s g = r := ⟨_, rfl⟩
          rw [hr] at HA hK1 hK2
          obtain ⟨z, hzz⟩ : ∃ z : Int, (((if r.e = 0 then r.g.last else 0 : Nat) : Int)) = z := ⟨_, rfl⟩
          by_cases he : r.e = 0
          · have HK := Lib.hid ((hK1 he).kp (safe := put.length) (Nat.le_refl _))
            have HA2 : Hid (Calls Tryz.prog 14 #[.pointer (some ⟨X, 0, none⟩)] wr fun e w' => e = .returned (.tuple #[.int .i64 z, .int .i64 0]) ∧ Hid (Wi w w' X D mb size (.slice Ap put.length cp) put put.length r.s r.g (Lo (Gn G wr.heap.size) w'.heap.size))) := HA.out.mono fun e w' hp => ⟨by rw [hp.1, hzz, he]; rfl, HI.out.step (e := .returned (.int .i64 (r.e : Int))) ⟨rfl, hp.2⟩ HK.out⟩
            clear hK1 hK2 hr HA he hzz c0 c1 c2 p1 p2 p3 p4 p5 ha hgo HI5 HP2 HP3 d2
            go_wp2_with (go_at_call 14; refine HA2.out.mono ?_; rintro e w3 ⟨rfl, HW⟩)
            go_roundw
            case rel => exact ⟨i + 1, put.length, put, _, _, _, by omega, by omega, rfl, by go_num, by omega, HW⟩
            case measure => simp [intOf]; omega
          · have HK := Lib.hid hK2
            have hz := nz he
            have HA2 : Hid (Calls Tryz.prog 14 #[.pointer (some ⟨X, 0, none⟩)] wr fun e w' => e = .returned (.tuple #[.int .i64 z, .int .i64 (r.e : Int)]) ∧ Hid (Wi w w' X D mb size (.slice Ap put.length cp) put sf r.s r.g (Lo (Gn G wr.heap.size) w'.heap.size))) := HA.out.mono fun e w' hp => ⟨by rw [hp.1, hzz], HI.out.step (e := .returned (.int .i64 (r.e : Int))) ⟨rfl, hp.2⟩ HK.out⟩
            obtain ⟨c, hc⟩ : ∃ c, r.e = c := ⟨_, rfl⟩
            rw [hc] at HA2 hz
            clear hc hK1 hK2 hr HA he hzz c0 c1 c2 p1 p2 p3 p4 p5 ha hgo HI5 HP2 HP3 d2
            go_wp2_with (go_at_call 14; refine HA2.out.mono ?_; rintro e w3 ⟨rfl, HW⟩)
            go_roundw
            case rel => exact ⟨i + 1, sf, put, _, _, _, by omega, by omega, rfl, by go_num, by omega, HW⟩
            case measure => simp [intOf]; omega
        by_cases k4 : k = 4
        · subst k4
          have HA2 : Hid (Calls Tryz.prog 15 #[.pointer (some ⟨D, 0, none⟩), .int .i64 m] wr fun e w' => e = .returned (.int .i64 (armE s : Int)) ∧ Hid (Wi w w' X D mb size (.slice Ap put.length cp) put sf (armS s m) g (Lo (Gn G wr.heap.size) w'.heap.size))) := (Arm_any wr D mb s (Lib.hid HI.out.lq.dq) m).mono fun e w' ⟨q1, q2, q3⟩ => ⟨q1, HI.out.disk q2.out q3.out (by unfold armS; split <;> rfl) (HI.out.lq.good.ok.arm HI5.out.2)⟩
          obtain ⟨c, hc⟩ : ∃ c, armE s = c := ⟨_, rfl⟩
          rw [hc] at HA2
          clear hc c0 c1 c2 p1 p2 p3 p4 p5 ha hgo HI5 HP2 HP3 d2
          go_wp2_with (go_at_call 15; refine HA2.out.mono ?_; rintro e w3 ⟨rfl, HW⟩)
          go_roundw
          case rel => exact ⟨i + 1, sf, put, _, _, _, by omega, by omega, rfl, by go_num, by omega, HW⟩
          case measure => simp [intOf]; omega
        · have n0 : (k == 0) = false := by simpa using k0
          have n1 : (k == 1) = false := by simpa using k1
          have n2 : (k == 2) = false := by simpa using k2
          have n4 : (k == 4) = false := by simpa using k4
          clear k0 k1 k2 k4 c0 c1 c2 p1 p2 p3 p4 p5 ha hgo HI5 HP2 HP3 d1 d2
          go_wp2
          go_roundw
          case rel => exact ⟨i + 1, sf, put, _, _, _, by omega, by omega, rfl, by go_num, by omega, HI⟩
          case measure => simp [intOf]; omega
      · have HCr : Hid (Calls Tryz.prog 16 #[.pointer (some ⟨D, 0, none⟩), .slice ak K ck] wr fun e w3 => e = .returned (.int .i64 0) ∧ Hid (Dq (G2 G X wr w3) w3 D mb (crashS s ks)) ∧ Hid (But (Bx G X) wr w3)) := by
          have := wi_crash HI.out HKR.out HK1.out HK2.out
          rw [HKK.out] at this
          exact this
        have HOp := Lib.hid (fun w3 hd hb => wi_open (w3 := w3) (ks := ks) HI.out hd hb HS1.out HS2.out)
        have HSm : Hid (∀ w4 (A : Option Addr) (c nn : Nat), nn = (put.take nn).length → Hid (Me.Lst w4 w4.heap.size A (put.take nn)) → Hid (Me.Nils w4 A (put.take nn)) → Hid (Me.Lst w4 w4.heap.size Ap (put.take nn)) → Hid (Me.Nils w4 Ap (put.take nn)) → Calls Tryz.prog 18 #[.slice A nn c, .slice Ap nn cp] w4 fun e w' => e = .returned (.bool true) ∧ Hid (Below w4.heap.size w4 w')) := fun w4 A c nn e1 h1 h2 h3 h4 => by
          have := Same_any w4 A Ap c cp (put.take nn) (put.take nn) h1 h2 h3 h4 (by simp; omega)
          rw [← e1, decide_eq_true rfl] at this
          exact this
        have HPl := Lib.hid hpl
        have hlt : (¬ (i : Int) < (L : Int)) ∨ ((i : Int) < (L : Int) ∧ ¬ (i : Int) < 60) := by omega
        have hp3 : (put.length : Int) ≤ 60 := by omega
        clear hgo
        obtain ⟨P, hP⟩ : ∃ P, put.length = P := ⟨_, rfl⟩
        have HPP := Lib.hid hP
        rw [hP] at hp1 hp3 hpl ⊢
        clear hP
        rcases hlt with hlt | hlt
        case' inr => obtain ⟨hlt1, hlt2⟩ := hlt
        all_goals
          go_wp2_with (first
            | (go_at_call 16; refine HCr.out.mono ?_; rintro e w3 ⟨rfl, d3, b3⟩)
            | (go_at_call 17; refine (HOp.out w3 d3.out b3.out).mono ?_; rintro e w4 ⟨nn, A4, c4, X4, rfl, n1, n2, n3, l1, l2, l3, l4, b4⟩; rw [HPP.out] at n2; have f1 : (sf : Int) ≤ (nn : Int) := (by omega); have f2 : (nn : Int) ≤ (P : Int) := (by omega); have f3 : nn ≤ cp := (by omega); have f4 : (nn : Int) ≤ (cp : Int) := (by omega); have f5 : (0 : Int) ≤ (nn : Int) := (by omega); have N3 := Lib.hid n3; clear n3)
            | (go_at_call 18; refine (HSm.out w4 A4 c4 nn N3.out l1 l2 l3 l4).mono ?_; rintro e w5 ⟨rfl, b5⟩; have B5 : Hid (Below w.heap.size w w5) := b4.out.trans (b5.out.mono b4.out.size))
            | (go_at_call 9; refine (awake_below B5).mono ?_; rintro e w6 ⟨rfl, b6⟩))
          go_ret
          exact ⟨rfl, b6.out⟩
  · have HBg := Lib.hid (begin_bad n (by omega) w)
    have HMy : Hid (∀ W, Calls Tryz.prog 11 #[.int .i64 n] W fun e w' => e = .returned (.bool false) ∧ W = w') := fun W => by
      have := may_any n W
      rw [decide_eq_false hs] at this
      exact this
    clear hs hl hk hck
    go_enter Tryz.func4, Tryz.ntmps4
    go_wp2_with (first
      | (go_at_call 10; refine HBg.out.mono ?_; rintro e w1 ⟨rfl, b1⟩)
      | (go_at_call 11; refine (HMy.out _).mono ?_; rintro e w' ⟨rfl, rfl⟩)
      | (go_at_call 9; refine (awake_below b1).mono ?_; rintro e w2 ⟨rfl, b2⟩))
    go_ret
    exact ⟨rfl, b2.out⟩
end Go.Proofs.YtbacgljeadalbaaGreatDoor.Wl
