/- The document's May. -/
import Derived.Test.YtfnlhfelpdkieaaGreatZ21
import Derived.Test.YtfnlhfelpdkieaaGreatSoRForm
import Derived.Test.YtfnlhfelpdkieaaGreatZ3
import Derived.Test.YtfnlhfelpdkieaaGreatZ23
import Derived.Test.YtfnlhfelpdkieaaGreatZ25
namespace Go.Proofs.YtfnlhfelpdkieaaGreat.So
open Go.RowKit Go.Deep
open Go.Proofs.YtfnlhfelpdkieaaGreat.Me Go.Proofs.YtfnlhfelpdkieaaGreat.Sb
set_option linter.unusedVariables false
set_option linter.unusedSimpArgs false

/-- The document's store: its counters, messages and keys, in blocks that bear Q. -/
structure Rf (Q : Nat → Prop) (w : World) (s : Sto) (K : Se.Ks) (vU vL vK : Value) (P : List Pq) : Prop where
  un : Kn w 0 vU (usedTo s.last 64)
  unQ : ∀ k, vU.ownBlock = some k → Q k
  ml : Rl Q w 0 vL P
  mlQ : ∀ k, vL.ownBlock = some k → Q k
  mp : P.map Pq.x = s.held
  kv : Se.Kv Q w vK K
  rel : Se.Rel s.seen K
  ok : Ok s
def rsv (s : Sto) (vU vL vK : Value) : Array Value := rsc s.self s.qh s.qb s.qg s.epoch vU vL s.qg vK
theorem Rf.below {Q : Nat → Prop} {w w' : World} {s : Sto} {K : Se.Ks} {vU vL vK : Value} {P : List Pq} (h : Rf Q w s K vU vL vK P) (hb : Below w.heap.size w w') : Rf Q w' s K vU vL vK P :=
  ⟨h.un.below hb, h.unQ, h.ml.below hb, h.mlQ, h.mp, h.kv.below hb, h.rel, h.ok⟩
theorem Rf.len {Q : Nat → Prop} {w : World} {s : Sto} {K : Se.Ks} {vU vL vK : Value} {P : List Pq} (h : Rf Q w s K vU vL vK P) : P.length = s.held.length ∧ P.length ≤ 256 ∧ bytesOf (P.map Pq.x) ≤ 1048576 := by
  have h1 := h.ok.len
  have h2 := h.ok.h1
  have h3 := h.ok.byt
  have h4 := h.ok.b1
  have h5 : P.length = s.held.length := by rw [← h.mp, List.length_map]
  rw [h.mp]
  exact ⟨h5, by omega, by omega⟩
theorem ex2 {p q : Prop} (hp : p) (hq : q) : p ∧ q := ⟨hp, hq⟩
set_option maxRecDepth 100000 in
set_option maxHeartbeats 16000000 in
theorem may_no (me qh qb qg ep k o d ee cc : Int) (vU vK : Value) (aL A : Option Addr) (nL cL n c : Nat) (w : World)
    (z : Nat) (hz : ((z : Int) != 0) = true)
    (HF : Hid (∀ W, Calls Tryz.prog 62 #[.agg #[.int .i64 k, .int .i64 o, .int .i64 d, .int .i64 ee, .int .i64 cc, .slice A n c]] W fun e w' => e = .returned (.int .i64 (z : Int)) ∧ Hid (Below W.heap.size W w'))) : Calls Tryz.prog 29 #[.agg #[.int .i64 me, .int .i64 qh, .int .i64 qb, .int .i64 qg, .int .i64 ep, vU, .slice aL nL cL, .int .i64 qg, vK], .agg #[.int .i64 k, .int .i64 o, .int .i64 d, .int .i64 ee, .int .i64 cc, .slice A n c]] w fun e w' => e = .returned (.int .i64 (z : Int)) ∧ Hid (Below w.heap.size w w') := by
  obtain ⟨hB, hY, hX⟩ := two_new w #[.int .i64 me, .int .i64 qh, .int .i64 qb, .int .i64 qg, .int .i64 ep, vU, .slice aL nL cL, .int .i64 qg, vK] #[.int .i64 k, .int .i64 o, .int .i64 d, .int .i64 ee, .int .i64 cc, .slice A n c] 37 48
  have HB := Lib.hid hB
  have hlx := (Array.getElem?_eq_some_iff.1 hX).1
  have hly := (Array.getElem?_eq_some_iff.1 hY).1
  obtain ⟨V0, hV0⟩ : ∃ V, (w.alloc (.cells #[.int .i64 me, .int .i64 qh, .int .i64 qb, .int .i64 qg, .int .i64 ep, vU, .slice aL nL cL, .int .i64 qg, vK] 37)).alloc (.cells #[.int .i64 k, .int .i64 o, .int .i64 d, .int .i64 ee, .int .i64 cc, .slice A n c] 48) = V := ⟨_, rfl⟩
  rw [hV0] at HB hX hY hlx hly
  have HX : Hid (∀ W, Below V0.heap.size V0 W → W.heap[w.heap.size]? = some (.cells #[.int .i64 me, .int .i64 qh, .int .i64 qb, .int .i64 qg, .int .i64 ep, vU, .slice aL nL cL, .int .i64 qg, vK] 37 (0, 0))) := fun W hW => (hW.block _ hlx).trans hX
  have HY : Hid (∀ W, Below V0.heap.size V0 W → W.heap[w.heap.size + 1]? = some (.cells #[.int .i64 k, .int .i64 o, .int .i64 d, .int .i64 ee, .int .i64 cc, .slice A n c] 48 (0, 0))) := fun W hW => (hW.block _ hly).trans hY
  have HV0 := Lib.hid hV0
  obtain ⟨y0, y1, y2, y3, y4, y5⟩ := ev_cells hY
  clear hB hX hY hlx hly hV0
  go_enter Tryz.func29, Tryz.ntmps29
  go_wp2_with (go_at_call 62; (try rw [HV0.out]); refine (HF.out _).mono ?_; rintro e w1 ⟨rfl, b1⟩; first
    | (have K2 := Lib.hid (go_on K1.out b1.out))
    | (have K1 := Lib.hid b1.out; obtain ⟨x0, x1, x2, x3, x4, x5⟩ := ev_cells (HY.out w1 b1.out)))
  go_ret
  exact ⟨rfl, go_on HB.out K2.out⟩
set_option maxRecDepth 100000 in
set_option maxHeartbeats 16000000 in
theorem may_boot (me qh qb qg ep o d ee cc : Int) (vU vK : Value) (aL A : Option Addr) (nL cL n c : Nat) (w : World)
    (hep : ep ≤ 65535)
    (HF : Hid (∀ W, Calls Tryz.prog 62 #[.agg #[.int .i64 1, .int .i64 o, .int .i64 d, .int .i64 ee, .int .i64 cc, .slice A n c]] W fun e w' => e = .returned (.int .i64 (0 : Int)) ∧ Hid (Below W.heap.size W w'))) : Calls Tryz.prog 29 #[.agg #[.int .i64 me, .int .i64 qh, .int .i64 qb, .int .i64 qg, .int .i64 ep, vU, .slice aL nL cL, .int .i64 qg, vK], .agg #[.int .i64 1, .int .i64 o, .int .i64 d, .int .i64 ee, .int .i64 cc, .slice A n c]] w fun e w' => e = .returned (.int .i64 ((if ep = 65535 then 10 else 0 : Nat) : Int)) ∧ Hid (Below w.heap.size w w') := by
  obtain ⟨hB, hY, hX⟩ := two_new w #[.int .i64 me, .int .i64 qh, .int .i64 qb, .int .i64 qg, .int .i64 ep, vU, .slice aL nL cL, .int .i64 qg, vK] #[.int .i64 1, .int .i64 o, .int .i64 d, .int .i64 ee, .int .i64 cc, .slice A n c] 37 48
  have HB := Lib.hid hB
  have hlx := (Array.getElem?_eq_some_iff.1 hX).1
  have hly := (Array.getElem?_eq_some_iff.1 hY).1
  obtain ⟨V0, hV0⟩ : ∃ V, (w.alloc (.cells #[.int .i64 me, .int .i64 qh, .int .i64 qb, .int .i64 qg, .int .i64 ep, vU, .slice aL nL cL, .int .i64 qg, vK] 37)).alloc (.cells #[.int .i64 1, .int .i64 o, .int .i64 d, .int .i64 ee, .int .i64 cc, .slice A n c] 48) = V := ⟨_, rfl⟩
  rw [hV0] at HB hX hY hlx hly
  have HX : Hid (∀ W, Below V0.heap.size V0 W → W.heap[w.heap.size]? = some (.cells #[.int .i64 me, .int .i64 qh, .int .i64 qb, .int .i64 qg, .int .i64 ep, vU, .slice aL nL cL, .int .i64 qg, vK] 37 (0, 0))) := fun W hW => (hW.block _ hlx).trans hX
  have HY : Hid (∀ W, Below V0.heap.size V0 W → W.heap[w.heap.size + 1]? = some (.cells #[.int .i64 1, .int .i64 o, .int .i64 d, .int .i64 ee, .int .i64 cc, .slice A n c] 48 (0, 0))) := fun W hW => (hW.block _ hly).trans hY
  have HV0 := Lib.hid hV0
  obtain ⟨y0, y1, y2, y3, y4, y5⟩ := ev_cells hY
  clear hB hX hY hlx hly hV0
  by_cases h : ep = 65535
  · subst h
    go_enter Tryz.func29, Tryz.ntmps29
    go_wp2_with (go_at_call 62; rw [HV0.out]; refine (HF.out _).mono ?_; rintro e w1 ⟨rfl, b1⟩; have hn1 : Below w1.heap.size w1 (w1.alloc (.cells #[.int .i64 o, .int .i64 d, .int .i64 ee, .int .i64 cc] 43)) := Me.below_alloc (Below.refl _ _); have K1 := Lib.hid (go_on b1.out hn1); obtain ⟨x0, x1, x2, x3, x4, x5⟩ := ev_cells (HY.out w1 b1.out); obtain ⟨r0, r1, r2, r3, r4, r5, r6, r7, r8⟩ := rs_cells (HX.out _ K1.out); obtain ⟨u0, u1, u2, u3, u4, u5⟩ := ev_cells (HY.out _ K1.out); obtain ⟨i0, i1, i2, i3⟩ := id_cells (heap_alloc_new w1 (.cells #[.int .i64 o, .int .i64 d, .int .i64 ee, .int .i64 cc] 43)); clear hn1)
    go_ret
    exact ⟨rfl, go_on HB.out K1.out⟩
  · rw [if_neg h]
    have g1 : ¬ (65535 : Int) ≤ ep := by omega
    go_enter Tryz.func29, Tryz.ntmps29
    go_wp2_with (go_at_call 62; rw [HV0.out]; refine (HF.out _).mono ?_; rintro e w1 ⟨rfl, b1⟩; have hn1 : Below w1.heap.size w1 (w1.alloc (.cells #[.int .i64 o, .int .i64 d, .int .i64 ee, .int .i64 cc] 43)) := Me.below_alloc (Below.refl _ _); have K1 := Lib.hid (go_on b1.out hn1); obtain ⟨x0, x1, x2, x3, x4, x5⟩ := ev_cells (HY.out w1 b1.out); obtain ⟨r0, r1, r2, r3, r4, r5, r6, r7, r8⟩ := rs_cells (HX.out _ K1.out); obtain ⟨u0, u1, u2, u3, u4, u5⟩ := ev_cells (HY.out _ K1.out); obtain ⟨i0, i1, i2, i3⟩ := id_cells (heap_alloc_new w1 (.cells #[.int .i64 o, .int .i64 d, .int .i64 ee, .int .i64 cc] 43)); clear hn1)
    go_ret
    exact ⟨rfl, go_on HB.out K1.out⟩
set_option maxRecDepth 100000 in
set_option maxHeartbeats 16000000 in
theorem may_rel (me qh qb qg ep o d ee cc : Int) (vU vK : Value) (aL A : Option Addr) (nL cL n c : Nat) (w : World)
    (hb : Bool)
    (HF : Hid (∀ W, Calls Tryz.prog 62 #[.agg #[.int .i64 3, .int .i64 o, .int .i64 d, .int .i64 ee, .int .i64 cc, .slice A n c]] W fun e w' => e = .returned (.int .i64 (0 : Int)) ∧ Hid (Below W.heap.size W w')))
    (HH : Hid (∀ W, Below w.heap.size w W → Calls Tryz.prog 63 #[.slice aL nL cL, .agg #[.int .i64 o, .int .i64 d, .int .i64 ee, .int .i64 cc]] W fun e w' => e = .returned (.bool hb) ∧ Hid (Below W.heap.size W w'))) : Calls Tryz.prog 29 #[.agg #[.int .i64 me, .int .i64 qh, .int .i64 qb, .int .i64 qg, .int .i64 ep, vU, .slice aL nL cL, .int .i64 qg, vK], .agg #[.int .i64 3, .int .i64 o, .int .i64 d, .int .i64 ee, .int .i64 cc, .slice A n c]] w fun e w' => e = .returned (.int .i64 ((if hb = true then 0 else 4 : Nat) : Int)) ∧ Hid (Below w.heap.size w w') := by
  obtain ⟨hB, hY, hX⟩ := two_new w #[.int .i64 me, .int .i64 qh, .int .i64 qb, .int .i64 qg, .int .i64 ep, vU, .slice aL nL cL, .int .i64 qg, vK] #[.int .i64 3, .int .i64 o, .int .i64 d, .int .i64 ee, .int .i64 cc, .slice A n c] 37 48
  have HB := Lib.hid hB
  have hlx := (Array.getElem?_eq_some_iff.1 hX).1
  have hly := (Array.getElem?_eq_some_iff.1 hY).1
  obtain ⟨V0, hV0⟩ : ∃ V, (w.alloc (.cells #[.int .i64 me, .int .i64 qh, .int .i64 qb, .int .i64 qg, .int .i64 ep, vU, .slice aL nL cL, .int .i64 qg, vK] 37)).alloc (.cells #[.int .i64 3, .int .i64 o, .int .i64 d, .int .i64 ee, .int .i64 cc, .slice A n c] 48) = V := ⟨_, rfl⟩
  rw [hV0] at HB hX hY hlx hly
  have HX : Hid (∀ W, Below V0.heap.size V0 W → W.heap[w.heap.size]? = some (.cells #[.int .i64 me, .int .i64 qh, .int .i64 qb, .int .i64 qg, .int .i64 ep, vU, .slice aL nL cL, .int .i64 qg, vK] 37 (0, 0))) := fun W hW => (hW.block _ hlx).trans hX
  have HY : Hid (∀ W, Below V0.heap.size V0 W → W.heap[w.heap.size + 1]? = some (.cells #[.int .i64 3, .int .i64 o, .int .i64 d, .int .i64 ee, .int .i64 cc, .slice A n c] 48 (0, 0))) := fun W hW => (hW.block _ hly).trans hY
  have HV0 := Lib.hid hV0
  obtain ⟨y0, y1, y2, y3, y4, y5⟩ := ev_cells hY
  clear hB hX hY hlx hly hV0
  cases hb
  all_goals
    go_enter Tryz.func29, Tryz.ntmps29
    go_wp2_with (first
      | (go_at_call 62; rw [HV0.out]; refine (HF.out _).mono ?_; rintro e w1 ⟨rfl, b1⟩; have hn1 : Below w1.heap.size w1 (w1.alloc (.cells #[.int .i64 o, .int .i64 d, .int .i64 ee, .int .i64 cc] 43)) := Me.below_alloc (Below.refl _ _); have K1 := Lib.hid (go_on b1.out hn1); obtain ⟨x0, x1, x2, x3, x4, x5⟩ := ev_cells (HY.out w1 b1.out); obtain ⟨r0, r1, r2, r3, r4, r5, r6, r7, r8⟩ := rs_cells (HX.out _ K1.out); obtain ⟨u0, u1, u2, u3, u4, u5⟩ := ev_cells (HY.out _ K1.out); obtain ⟨i0, i1, i2, i3⟩ := id_cells (heap_alloc_new w1 (.cells #[.int .i64 o, .int .i64 d, .int .i64 ee, .int .i64 cc] 43)); clear hn1)
      | (go_at_call 63; refine (HH.out _ (go_on HB.out K1.out)).mono ?_; rintro e w2 ⟨rfl, b2⟩))
    go_ret
    exact ⟨rfl, go_on (go_on HB.out K1.out) b2.out⟩
set_option maxRecDepth 100000 in
set_option maxHeartbeats 16000000 in
theorem may_del (me qh qb qg ep o d ee cc : Int) (vU vK : Value) (aL A : Option Addr) (nL cL n c : Nat) (w : World)
    (z : Nat)
    (HF : Hid (∀ W, Calls Tryz.prog 62 #[.agg #[.int .i64 4, .int .i64 o, .int .i64 d, .int .i64 ee, .int .i64 cc, .slice A n c]] W fun e w' => e = .returned (.int .i64 (0 : Int)) ∧ Hid (Below W.heap.size W w')))
    (HM : Hid (∀ W, Below w.heap.size w W → Calls Tryz.prog 64 #[.agg #[.int .i64 qg, vK], .agg #[.int .i64 o, .int .i64 d, .int .i64 ee, .int .i64 cc]] W fun e w' => e = .returned (.int .i64 (z : Int)) ∧ Hid (Below W.heap.size W w'))) : Calls Tryz.prog 29 #[.agg #[.int .i64 me, .int .i64 qh, .int .i64 qb, .int .i64 qg, .int .i64 ep, vU, .slice aL nL cL, .int .i64 qg, vK], .agg #[.int .i64 4, .int .i64 o, .int .i64 d, .int .i64 ee, .int .i64 cc, .slice A n c]] w fun e w' => e = .returned (.int .i64 ((if d ≠ me then 2 else z : Nat) : Int)) ∧ Hid (Below w.heap.size w w') := by
  obtain ⟨hB, hY, hX⟩ := two_new w #[.int .i64 me, .int .i64 qh, .int .i64 qb, .int .i64 qg, .int .i64 ep, vU, .slice aL nL cL, .int .i64 qg, vK] #[.int .i64 4, .int .i64 o, .int .i64 d, .int .i64 ee, .int .i64 cc, .slice A n c] 37 48
  have HB := Lib.hid hB
  have hlx := (Array.getElem?_eq_some_iff.1 hX).1
  have hly := (Array.getElem?_eq_some_iff.1 hY).1
  obtain ⟨V0, hV0⟩ : ∃ V, (w.alloc (.cells #[.int .i64 me, .int .i64 qh, .int .i64 qb, .int .i64 qg, .int .i64 ep, vU, .slice aL nL cL, .int .i64 qg, vK] 37)).alloc (.cells #[.int .i64 4, .int .i64 o, .int .i64 d, .int .i64 ee, .int .i64 cc, .slice A n c] 48) = V := ⟨_, rfl⟩
  rw [hV0] at HB hX hY hlx hly
  have HX : Hid (∀ W, Below V0.heap.size V0 W → W.heap[w.heap.size]? = some (.cells #[.int .i64 me, .int .i64 qh, .int .i64 qb, .int .i64 qg, .int .i64 ep, vU, .slice aL nL cL, .int .i64 qg, vK] 37 (0, 0))) := fun W hW => (hW.block _ hlx).trans hX
  have HY : Hid (∀ W, Below V0.heap.size V0 W → W.heap[w.heap.size + 1]? = some (.cells #[.int .i64 4, .int .i64 o, .int .i64 d, .int .i64 ee, .int .i64 cc, .slice A n c] 48 (0, 0))) := fun W hW => (hW.block _ hly).trans hY
  have HV0 := Lib.hid hV0
  obtain ⟨y0, y1, y2, y3, y4, y5⟩ := ev_cells hY
  clear hB hX hY hlx hly hV0
  by_cases h : d = me
  · rw [if_neg (fun e => e h)]
    have g1 : (d != me) = false := by simpa using h
    clear h
    go_enter Tryz.func29, Tryz.ntmps29
    go_wp2_with (first
      | (go_at_call 62; rw [HV0.out]; refine (HF.out _).mono ?_; rintro e w1 ⟨rfl, b1⟩; have hn1 : Below w1.heap.size w1 (w1.alloc (.cells #[.int .i64 o, .int .i64 d, .int .i64 ee, .int .i64 cc] 43)) := Me.below_alloc (Below.refl _ _); have K1 := Lib.hid (go_on b1.out hn1); obtain ⟨x0, x1, x2, x3, x4, x5⟩ := ev_cells (HY.out w1 b1.out); obtain ⟨r0, r1, r2, r3, r4, r5, r6, r7, r8⟩ := rs_cells (HX.out _ K1.out); obtain ⟨u0, u1, u2, u3, u4, u5⟩ := ev_cells (HY.out _ K1.out); obtain ⟨i0, i1, i2, i3⟩ := id_cells (heap_alloc_new w1 (.cells #[.int .i64 o, .int .i64 d, .int .i64 ee, .int .i64 cc] 43)); clear hn1)
      | (go_at_call 64; refine (HM.out _ (go_on HB.out K1.out)).mono ?_; rintro e w2 ⟨rfl, b2⟩))
    go_ret
    exact ⟨rfl, go_on (go_on HB.out K1.out) b2.out⟩
  · rw [if_pos h]
    have g1 : (d != me) = true := by simpa using h
    clear h
    go_enter Tryz.func29, Tryz.ntmps29
    go_wp2_with (go_at_call 62; rw [HV0.out]; refine (HF.out _).mono ?_; rintro e w1 ⟨rfl, b1⟩; have hn1 : Below w1.heap.size w1 (w1.alloc (.cells #[.int .i64 o, .int .i64 d, .int .i64 ee, .int .i64 cc] 43)) := Me.below_alloc (Below.refl _ _); have K1 := Lib.hid (go_on b1.out hn1); obtain ⟨x0, x1, x2, x3, x4, x5⟩ := ev_cells (HY.out w1 b1.out); obtain ⟨r0, r1, r2, r3, r4, r5, r6, r7, r8⟩ := rs_cells (HX.out _ K1.out); obtain ⟨u0, u1, u2, u3, u4, u5⟩ := ev_cells (HY.out _ K1.out); obtain ⟨i0, i1, i2, i3⟩ := id_cells (heap_alloc_new w1 (.cells #[.int .i64 o, .int .i64 d, .int .i64 ee, .int .i64 cc] 43)); clear hn1)
    go_ret
    exact ⟨rfl, go_on HB.out K1.out⟩
set_option maxRecDepth 100000 in
set_option maxHeartbeats 16000000 in
theorem may_hold (me qh qb qg ep o d ee cc : Int) (vU vK : Value) (aL A : Option Addr) (nL cL n c : Nat) (w : World)
    (hb fb : Bool) (bt : Int) (hfb : fb = decide (d ≠ me ∧ (o ≠ me ∨ ee ≤ ep))) (hbt : 0 ≤ bt ∧ bt ≤ 1048576) (hn : n ≤ 48)
    (HF : Hid (∀ W, Calls Tryz.prog 62 #[.agg #[.int .i64 2, .int .i64 o, .int .i64 d, .int .i64 ee, .int .i64 cc, .slice A n c]] W fun e w' => e = .returned (.int .i64 (0 : Int)) ∧ Hid (Below W.heap.size W w')))
    (HH : Hid (∀ W, Below w.heap.size w W → Calls Tryz.prog 63 #[.slice aL nL cL, .agg #[.int .i64 o, .int .i64 d, .int .i64 ee, .int .i64 cc]] W fun e w' => e = .returned (.bool hb) ∧ Hid (Below W.heap.size W w')))
    (HBy : Hid (∀ W, Below w.heap.size w W → Calls Tryz.prog 41 #[.agg #[.int .i64 me, .int .i64 qh, .int .i64 qb, .int .i64 qg, .int .i64 ep, vU, .slice aL nL cL, .int .i64 qg, vK]] W fun e w' => e = .returned (.int .i64 bt) ∧ Hid (Below W.heap.size W w'))) : Calls Tryz.prog 29 #[.agg #[.int .i64 me, .int .i64 qh, .int .i64 qb, .int .i64 qg, .int .i64 ep, vU, .slice aL nL cL, .int .i64 qg, vK], .agg #[.int .i64 2, .int .i64 o, .int .i64 d, .int .i64 ee, .int .i64 cc, .slice A n c]] w fun e w' => e = .returned (.int .i64 ((if fb = false then 2 else if hb = true then 5 else if qh ≤ nL ∨ qb < bt + n then 6 else 0 : Nat) : Int)) ∧ Hid (Below w.heap.size w w') := by
  obtain ⟨hB, hY, hX⟩ := two_new w #[.int .i64 me, .int .i64 qh, .int .i64 qb, .int .i64 qg, .int .i64 ep, vU, .slice aL nL cL, .int .i64 qg, vK] #[.int .i64 2, .int .i64 o, .int .i64 d, .int .i64 ee, .int .i64 cc, .slice A n c] 37 48
  have HB := Lib.hid hB
  have hlx := (Array.getElem?_eq_some_iff.1 hX).1
  have hly := (Array.getElem?_eq_some_iff.1 hY).1
  obtain ⟨V0, hV0⟩ : ∃ V, (w.alloc (.cells #[.int .i64 me, .int .i64 qh, .int .i64 qb, .int .i64 qg, .int .i64 ep, vU, .slice aL nL cL, .int .i64 qg, vK] 37)).alloc (.cells #[.int .i64 2, .int .i64 o, .int .i64 d, .int .i64 ee, .int .i64 cc, .slice A n c] 48) = V := ⟨_, rfl⟩
  rw [hV0] at HB hX hY hlx hly
  have HX : Hid (∀ W, Below V0.heap.size V0 W → W.heap[w.heap.size]? = some (.cells #[.int .i64 me, .int .i64 qh, .int .i64 qb, .int .i64 qg, .int .i64 ep, vU, .slice aL nL cL, .int .i64 qg, vK] 37 (0, 0))) := fun W hW => (hW.block _ hlx).trans hX
  have HY : Hid (∀ W, Below V0.heap.size V0 W → W.heap[w.heap.size + 1]? = some (.cells #[.int .i64 2, .int .i64 o, .int .i64 d, .int .i64 ee, .int .i64 cc, .slice A n c] 48 (0, 0))) := fun W hW => (hW.block _ hly).trans hY
  have HV0 := Lib.hid hV0
  obtain ⟨y0, y1, y2, y3, y4, y5⟩ := ev_cells hY
  clear hB hX hY hlx hly hV0
  cases fb
  case false =>
    have hc : (d == me) = true ∨ ((d == me) = false ∧ (o == me) = true ∧ ep < ee) := by
      have h := hfb.symm
      simp only [decide_eq_false_iff_not] at h
      by_cases a : d = me
      · exact .inl (by simpa using a)
      · refine .inr ⟨by simpa using a, ?_, ?_⟩
        · simp only [beq_iff_eq]
          exact Classical.byContradiction fun q => h ⟨a, .inl q⟩
        · exact Classical.byContradiction fun q => h ⟨a, .inr (by omega)⟩
    clear hfb
    rcases hc with g1 | ⟨g1, g2, g3⟩
    · go_enter Tryz.func29, Tryz.ntmps29
      go_wp2_with (go_at_call 62; rw [HV0.out]; refine (HF.out _).mono ?_; rintro e w1 ⟨rfl, b1⟩; have hn1 : Below w1.heap.size w1 (w1.alloc (.cells #[.int .i64 o, .int .i64 d, .int .i64 ee, .int .i64 cc] 43)) := Me.below_alloc (Below.refl _ _); have K1 := Lib.hid (go_on b1.out hn1); obtain ⟨x0, x1, x2, x3, x4, x5⟩ := ev_cells (HY.out w1 b1.out); obtain ⟨r0, r1, r2, r3, r4, r5, r6, r7, r8⟩ := rs_cells (HX.out _ K1.out); obtain ⟨u0, u1, u2, u3, u4, u5⟩ := ev_cells (HY.out _ K1.out); obtain ⟨i0, i1, i2, i3⟩ := id_cells (heap_alloc_new w1 (.cells #[.int .i64 o, .int .i64 d, .int .i64 ee, .int .i64 cc] 43)); clear hn1)
      go_ret
      exact ⟨rfl, go_on HB.out K1.out⟩
    · go_enter Tryz.func29, Tryz.ntmps29
      go_wp2_with (go_at_call 62; rw [HV0.out]; refine (HF.out _).mono ?_; rintro e w1 ⟨rfl, b1⟩; have hn1 : Below w1.heap.size w1 (w1.alloc (.cells #[.int .i64 o, .int .i64 d, .int .i64 ee, .int .i64 cc] 43)) := Me.below_alloc (Below.refl _ _); have K1 := Lib.hid (go_on b1.out hn1); obtain ⟨x0, x1, x2, x3, x4, x5⟩ := ev_cells (HY.out w1 b1.out); obtain ⟨r0, r1, r2, r3, r4, r5, r6, r7, r8⟩ := rs_cells (HX.out _ K1.out); obtain ⟨u0, u1, u2, u3, u4, u5⟩ := ev_cells (HY.out _ K1.out); obtain ⟨i0, i1, i2, i3⟩ := id_cells (heap_alloc_new w1 (.cells #[.int .i64 o, .int .i64 d, .int .i64 ee, .int .i64 cc] 43)); clear hn1)
      go_ret
      exact ⟨rfl, go_on HB.out K1.out⟩
  case true =>
    have hc : (d == me) = false ∧ ((o == me) = false ∨ ((o == me) = true ∧ ¬ ep < ee)) := by
      have h := hfb.symm
      simp only [decide_eq_true_eq] at h
      refine ⟨by simpa using h.1, ?_⟩
      by_cases a : o = me
      · rcases h.2 with q | q
        · exact absurd a q
        · exact .inr ⟨by simpa using a, by omega⟩
      · exact .inl (by simpa using a)
    obtain ⟨g1, hc⟩ := hc
    have HC := Lib.hid hc
    clear hfb hc
    cases hb
    case true =>
      rcases HC.out with g2 | ⟨g2, g3⟩
      all_goals
        go_enter Tryz.func29, Tryz.ntmps29
        go_wp2_with (first
          | (go_at_call 62; rw [HV0.out]; refine (HF.out _).mono ?_; rintro e w1 ⟨rfl, b1⟩; have hn1 : Below w1.heap.size w1 (w1.alloc (.cells #[.int .i64 o, .int .i64 d, .int .i64 ee, .int .i64 cc] 43)) := Me.below_alloc (Below.refl _ _); have K1 := Lib.hid (go_on b1.out hn1); obtain ⟨x0, x1, x2, x3, x4, x5⟩ := ev_cells (HY.out w1 b1.out); obtain ⟨r0, r1, r2, r3, r4, r5, r6, r7, r8⟩ := rs_cells (HX.out _ K1.out); obtain ⟨u0, u1, u2, u3, u4, u5⟩ := ev_cells (HY.out _ K1.out); obtain ⟨i0, i1, i2, i3⟩ := id_cells (heap_alloc_new w1 (.cells #[.int .i64 o, .int .i64 d, .int .i64 ee, .int .i64 cc] 43)); clear hn1)
          | (go_at_call 63; refine (HH.out _ (go_on HB.out K1.out)).mono ?_; rintro e w2 ⟨rfl, b2⟩))
        go_ret
        exact ⟨rfl, go_on (go_on HB.out K1.out) b2.out⟩
    case false =>
      have hsw : ∃ z : Nat, z = (if (true : Bool) = false then 2 else if (false : Bool) = true then 5 else if qh ≤ nL ∨ qb < bt + n then 6 else 0) := ⟨_, rfl⟩
      rw [if_neg (by simp), if_neg (by simp)]
      by_cases hq : qh ≤ (nL : Int)
      · rw [if_pos (.inl hq)]
        rcases HC.out with g2 | ⟨g2, g3⟩
        all_goals
          go_enter Tryz.func29, Tryz.ntmps29
          go_wp2_with (first
            | (go_at_call 62; rw [HV0.out]; refine (HF.out _).mono ?_; rintro e w1 ⟨rfl, b1⟩; have hn1 : Below w1.heap.size w1 (w1.alloc (.cells #[.int .i64 o, .int .i64 d, .int .i64 ee, .int .i64 cc] 43)) := Me.below_alloc (Below.refl _ _); have K1 := Lib.hid (go_on b1.out hn1); obtain ⟨x0, x1, x2, x3, x4, x5⟩ := ev_cells (HY.out w1 b1.out); obtain ⟨r0, r1, r2, r3, r4, r5, r6, r7, r8⟩ := rs_cells (HX.out _ K1.out); obtain ⟨u0, u1, u2, u3, u4, u5⟩ := ev_cells (HY.out _ K1.out); obtain ⟨i0, i1, i2, i3⟩ := id_cells (heap_alloc_new w1 (.cells #[.int .i64 o, .int .i64 d, .int .i64 ee, .int .i64 cc] 43)); clear hn1)
            | (go_at_call 63; refine (HH.out _ (go_on HB.out K1.out)).mono ?_; rintro e w2 ⟨rfl, b2⟩))
          have k2 := go_on K1.out b2.out
          have S0 : Below V0.heap.size V0 w2.drew := k2.drew
          clear x0 x1 x2 x3 x4 x5 r0 r1 r2 r3 r4 r5 r6 r7 r8 u0 u1 u2 u3 u4 u5 i0 i1 i2 i3
          refine wp_region_held_drew (S := fun W => Below V0.heap.size V0 W) (by kernel_rfl) S0 (fun hHeld => ?_)
          refine wpAnyH_take (i := 0) (v := .pointer (some ⟨w.heap.size, 6, none⟩)) rfl (by kernel_rfl) (by kernel_rfl) (by kernel_rfl) (fun _ _ _ h => h) (Or.inl ⟨by rfl, ?_⟩) (by first | assumption | exact trivial) ?_
          · intro W hSW; go_simp; try (with_reducible rfl)
          simp only [Act.put, List.getElem_toArray, List.getElem_cons_succ, List.getElem_cons_zero, List.setIfInBounds_toArray, List.set_cons_zero, List.set_cons_succ]
          refine wpAnyH_take (i := 1) (v := .slice aL nL cL) rfl (by kernel_rfl) (by kernel_rfl) (by kernel_rfl) (fun _ _ _ h => h) (Or.inl ⟨by rfl, ?_⟩) (by first | assumption | exact trivial) ?_
          · intro W hSW; obtain ⟨r0, r1, r2, r3, r4, r5, r6, r7, r8⟩ := rs_cells (HX.out W hSW); go_simp; try (with_reducible rfl)
          simp only [Act.put, List.getElem_toArray, List.getElem_cons_succ, List.getElem_cons_zero, List.setIfInBounds_toArray, List.set_cons_zero, List.set_cons_succ]
          refine wpAnyH_take (i := 2) (v := .int .i64 (nL : Int)) rfl (by kernel_rfl) (by kernel_rfl) (by kernel_rfl) (fun _ _ _ h => h) (Or.inl ⟨by rfl, ?_⟩) (by first | assumption | exact trivial) ?_
          · intro W hSW; go_simp; try (with_reducible rfl)
          simp only [Act.put, List.getElem_toArray, List.getElem_cons_succ, List.getElem_cons_zero, List.setIfInBounds_toArray, List.set_cons_zero, List.set_cons_succ]
          refine wpAnyH_take (i := 3) (v := .pointer (some ⟨w.heap.size, 1, none⟩)) rfl (by kernel_rfl) (by kernel_rfl) (by kernel_rfl) (fun _ _ _ h => h) (Or.inl ⟨by rfl, ?_⟩) (by first | assumption | exact trivial) ?_
          · intro W hSW; go_simp; try (with_reducible rfl)
          simp only [Act.put, List.getElem_toArray, List.getElem_cons_succ, List.getElem_cons_zero, List.setIfInBounds_toArray, List.set_cons_zero, List.set_cons_succ]
          refine wpAnyH_take (i := 4) (v := .pointer (some ⟨w.heap.size, 1, none⟩)) rfl (by kernel_rfl) (by kernel_rfl) (by kernel_rfl) (fun _ _ _ h => h) (Or.inl ⟨by rfl, ?_⟩) (by first | assumption | exact trivial) ?_
          · intro W hSW; go_simp; try (with_reducible rfl)
          simp only [Act.put, List.getElem_toArray, List.getElem_cons_succ, List.getElem_cons_zero, List.setIfInBounds_toArray, List.set_cons_zero, List.set_cons_succ]
          refine wpAnyH_take (i := 5) (v := .int .i64 qh) rfl (by kernel_rfl) (by kernel_rfl) (by kernel_rfl) (fun _ _ _ h => h) (Or.inl ⟨by rfl, ?_⟩) (by first | assumption | exact trivial) ?_
          · intro W hSW; obtain ⟨r0, r1, r2, r3, r4, r5, r6, r7, r8⟩ := rs_cells (HX.out W hSW); go_simp; try (with_reducible rfl)
          simp only [Act.put, List.getElem_toArray, List.getElem_cons_succ, List.getElem_cons_zero, List.setIfInBounds_toArray, List.set_cons_zero, List.set_cons_succ]
          refine wpAnyH_take (i := 6) (v := .bool true) rfl (by kernel_rfl) (by kernel_rfl) (by kernel_rfl) (fun _ _ _ h => h) (Or.inl ⟨by rfl, ?_⟩) (by first | assumption | exact trivial) ?_
          · intro W hSW; go_simp; try (with_reducible rfl)
          simp only [Act.put, List.getElem_toArray, List.getElem_cons_succ, List.getElem_cons_zero, List.setIfInBounds_toArray, List.set_cons_zero, List.set_cons_succ]
          refine wpAnyH_take (i := 7) (v := .bool true) rfl (by kernel_rfl) (by kernel_rfl) (by kernel_rfl) (fun _ _ _ h => h) (Or.inl ⟨by rfl, ?_⟩) (by first | assumption | exact trivial) ?_
          · intro W hSW; go_simp; try (with_reducible rfl)
          simp only [Act.put, List.getElem_toArray, List.getElem_cons_succ, List.getElem_cons_zero, List.setIfInBounds_toArray, List.set_cons_zero, List.set_cons_succ]
          refine wpAnyH_take (i := 8) (v := undef) rfl (by kernel_rfl) (by kernel_rfl) (by kernel_rfl) (fun _ _ _ h => h) (Or.inr ⟨by rfl, rfl⟩) (by first | assumption | exact trivial) ?_
          simp only [Act.put, List.getElem_toArray, List.getElem_cons_succ, List.getElem_cons_zero, List.setIfInBounds_toArray, List.set_cons_zero, List.set_cons_succ]
          refine wpAnyH_take (i := 9) (v := undef) rfl (by kernel_rfl) (by kernel_rfl) (by kernel_rfl) (fun _ _ _ h => h) (Or.inr ⟨by rfl, rfl⟩) (by first | assumption | exact trivial) ?_
          simp only [Act.put, List.getElem_toArray, List.getElem_cons_succ, List.getElem_cons_zero, List.setIfInBounds_toArray, List.set_cons_zero, List.set_cons_succ]
          refine wpAnyH_take (i := 10) (v := undef) rfl (by kernel_rfl) (by kernel_rfl) (by kernel_rfl) (fun _ _ _ h => h) (Or.inr ⟨by rfl, rfl⟩) (by first | assumption | exact trivial) ?_
          simp only [Act.put, List.getElem_toArray, List.getElem_cons_succ, List.getElem_cons_zero, List.setIfInBounds_toArray, List.set_cons_zero, List.set_cons_succ]
          refine wpAnyH_take (i := 11) (v := undef) rfl (by kernel_rfl) (by kernel_rfl) (by kernel_rfl) (fun _ _ _ h => h) (Or.inr ⟨by rfl, rfl⟩) (by first | assumption | exact trivial) ?_
          simp only [Act.put, List.getElem_toArray, List.getElem_cons_succ, List.getElem_cons_zero, List.setIfInBounds_toArray, List.set_cons_zero, List.set_cons_succ]
          refine wpAnyH_take (i := 12) (v := undef) rfl (by kernel_rfl) (by kernel_rfl) (by kernel_rfl) (fun _ _ _ h => h) (Or.inr ⟨by rfl, rfl⟩) (by first | assumption | exact trivial) ?_
          simp only [Act.put, List.getElem_toArray, List.getElem_cons_succ, List.getElem_cons_zero, List.setIfInBounds_toArray, List.set_cons_zero, List.set_cons_succ]
          refine wpAnyH_take (i := 13) (v := undef) rfl (by kernel_rfl) (by kernel_rfl) (by kernel_rfl) (fun _ _ _ h => h) (Or.inr ⟨by rfl, rfl⟩) (by first | assumption | exact trivial) ?_
          simp only [Act.put, List.getElem_toArray, List.getElem_cons_succ, List.getElem_cons_zero, List.setIfInBounds_toArray, List.set_cons_zero, List.set_cons_succ]
          refine wpAnyH_take (i := 14) (v := undef) rfl (by kernel_rfl) (by kernel_rfl) (by kernel_rfl) (fun _ _ _ h => h) (Or.inr ⟨by rfl, rfl⟩) (by first | assumption | exact trivial) ?_
          simp only [Act.put, List.getElem_toArray, List.getElem_cons_succ, List.getElem_cons_zero, List.setIfInBounds_toArray, List.set_cons_zero, List.set_cons_succ]
          refine wpAnyH_take (i := 15) (v := undef) rfl (by kernel_rfl) (by kernel_rfl) (by kernel_rfl) (fun _ _ _ h => h) (Or.inr ⟨by rfl, rfl⟩) (by first | assumption | exact trivial) ?_
          simp only [Act.put, List.getElem_toArray, List.getElem_cons_succ, List.getElem_cons_zero, List.setIfInBounds_toArray, List.set_cons_zero, List.set_cons_succ]
          refine wpAnyH_take (i := 16) (v := undef) rfl (by kernel_rfl) (by kernel_rfl) (by kernel_rfl) (fun _ _ _ h => h) (Or.inr ⟨by rfl, rfl⟩) (by first | assumption | exact trivial) ?_
          simp only [Act.put, List.getElem_toArray, List.getElem_cons_succ, List.getElem_cons_zero, List.setIfInBounds_toArray, List.set_cons_zero, List.set_cons_succ]
          refine wpAnyH_take (i := 17) (v := undef) rfl (by kernel_rfl) (by kernel_rfl) (by kernel_rfl) (fun _ _ _ h => h) (Or.inr ⟨by rfl, rfl⟩) (by first | assumption | exact trivial) ?_
          simp only [Act.put, List.getElem_toArray, List.getElem_cons_succ, List.getElem_cons_zero, List.setIfInBounds_toArray, List.set_cons_zero, List.set_cons_succ]
          refine wpAnyH_take (i := 18) (v := undef) rfl (by kernel_rfl) (by kernel_rfl) (by kernel_rfl) (fun _ _ _ h => h) (Or.inr ⟨by rfl, rfl⟩) (by first | assumption | exact trivial) ?_
          simp only [Act.put, List.getElem_toArray, List.getElem_cons_succ, List.getElem_cons_zero, List.setIfInBounds_toArray, List.set_cons_zero, List.set_cons_succ]
          refine wpAnyH_take (i := 19) (v := .bool true) rfl (by kernel_rfl) (by kernel_rfl) (by kernel_rfl) (fun _ _ _ h => h) (Or.inl ⟨by rfl, ?_⟩) (by first | assumption | exact trivial) ?_
          · intro W hSW; go_simp; try (with_reducible rfl)
          simp only [Act.put, List.getElem_toArray, List.getElem_cons_succ, List.getElem_cons_zero, List.setIfInBounds_toArray, List.set_cons_zero, List.set_cons_succ]
          refine wpAnyH_done (by kernel_rfl) ?_ _
          go_wp2
          go_ret
          exact ⟨rfl, go_on HB.out S0⟩
      · have hq2 : ¬ (qh ≤ (nL : Int)) := hq
        have hb2 : (if qh ≤ (nL : Int) ∨ qb < bt + n then (6 : Nat) else 0) = if qb < bt + n then 6 else 0 := by
          by_cases h : qb < bt + n
          · rw [if_pos (.inr h), if_pos h]
          · rw [if_neg (fun e => e.elim hq h), if_neg h]
        rw [hb2]
        obtain ⟨B, hB⟩ : ∃ B, decide (qb < bt + (n : Int)) = B := ⟨_, rfl⟩
        have hz : (if qb < bt + n then 6 else 0) = (if B = true then 6 else 0 : Nat) := by
          rw [← hB]
          by_cases h : qb < bt + n
          · rw [if_pos h, if_pos (by simpa using h)]
          · rw [if_neg h, if_neg (by simpa using h)]
        rw [hz]
        have HWr : Hid (IntKind.i64.wrap (bt + (n : Int)) = bt + (n : Int)) := Mi.fits' (by unfold Mi.I64; omega)
        have HBd := Lib.hid hB
        clear hz hb2 hq hB hsw hbt hn
        rcases HC.out with g2 | ⟨g2, g3⟩
        all_goals
          go_enter Tryz.func29, Tryz.ntmps29
          go_wp2_with (first
            | (go_at_call 62; rw [HV0.out]; refine (HF.out _).mono ?_; rintro e w1 ⟨rfl, b1⟩; have hn1 : Below w1.heap.size w1 (w1.alloc (.cells #[.int .i64 o, .int .i64 d, .int .i64 ee, .int .i64 cc] 43)) := Me.below_alloc (Below.refl _ _); have K1 := Lib.hid (go_on b1.out hn1); obtain ⟨x0, x1, x2, x3, x4, x5⟩ := ev_cells (HY.out w1 b1.out); obtain ⟨r0, r1, r2, r3, r4, r5, r6, r7, r8⟩ := rs_cells (HX.out _ K1.out); obtain ⟨u0, u1, u2, u3, u4, u5⟩ := ev_cells (HY.out _ K1.out); obtain ⟨i0, i1, i2, i3⟩ := id_cells (heap_alloc_new w1 (.cells #[.int .i64 o, .int .i64 d, .int .i64 ee, .int .i64 cc] 43)); clear hn1)
            | (go_at_call 63; refine (HH.out _ (go_on HB.out K1.out)).mono ?_; rintro e w2 ⟨rfl, b2⟩))
          have k2 := go_on K1.out b2.out
          have S0 : Below V0.heap.size V0 w2.drew := k2.drew
          clear x0 x1 x2 x3 x4 x5 r0 r1 r2 r3 r4 r5 r6 r7 r8 u0 u1 u2 u3 u4 u5 i0 i1 i2 i3
          refine wp_region_held_drew (S := fun W => Below V0.heap.size V0 W) (by kernel_rfl) S0 (fun hHeld => ?_)
          refine wpAnyH_take (i := 0) (v := .pointer (some ⟨w.heap.size, 6, none⟩)) rfl (by kernel_rfl) (by kernel_rfl) (by kernel_rfl) (fun _ _ _ h => h) (Or.inl ⟨by rfl, ?_⟩) (by first | assumption | exact trivial) ?_
          · intro W hSW; go_simp; try (with_reducible rfl)
          simp only [Act.put, List.getElem_toArray, List.getElem_cons_succ, List.getElem_cons_zero, List.setIfInBounds_toArray, List.set_cons_zero, List.set_cons_succ]
          refine wpAnyH_take (i := 1) (v := .slice aL nL cL) rfl (by kernel_rfl) (by kernel_rfl) (by kernel_rfl) (fun _ _ _ h => h) (Or.inl ⟨by rfl, ?_⟩) (by first | assumption | exact trivial) ?_
          · intro W hSW; obtain ⟨r0, r1, r2, r3, r4, r5, r6, r7, r8⟩ := rs_cells (HX.out W hSW); go_simp; try (with_reducible rfl)
          simp only [Act.put, List.getElem_toArray, List.getElem_cons_succ, List.getElem_cons_zero, List.setIfInBounds_toArray, List.set_cons_zero, List.set_cons_succ]
          refine wpAnyH_take (i := 2) (v := .int .i64 (nL : Int)) rfl (by kernel_rfl) (by kernel_rfl) (by kernel_rfl) (fun _ _ _ h => h) (Or.inl ⟨by rfl, ?_⟩) (by first | assumption | exact trivial) ?_
          · intro W hSW; go_simp; try (with_reducible rfl)
          simp only [Act.put, List.getElem_toArray, List.getElem_cons_succ, List.getElem_cons_zero, List.setIfInBounds_toArray, List.set_cons_zero, List.set_cons_succ]
          refine wpAnyH_take (i := 3) (v := .pointer (some ⟨w.heap.size, 1, none⟩)) rfl (by kernel_rfl) (by kernel_rfl) (by kernel_rfl) (fun _ _ _ h => h) (Or.inl ⟨by rfl, ?_⟩) (by first | assumption | exact trivial) ?_
          · intro W hSW; go_simp; try (with_reducible rfl)
          simp only [Act.put, List.getElem_toArray, List.getElem_cons_succ, List.getElem_cons_zero, List.setIfInBounds_toArray, List.set_cons_zero, List.set_cons_succ]
          refine wpAnyH_take (i := 4) (v := .pointer (some ⟨w.heap.size, 1, none⟩)) rfl (by kernel_rfl) (by kernel_rfl) (by kernel_rfl) (fun _ _ _ h => h) (Or.inl ⟨by rfl, ?_⟩) (by first | assumption | exact trivial) ?_
          · intro W hSW; go_simp; try (with_reducible rfl)
          simp only [Act.put, List.getElem_toArray, List.getElem_cons_succ, List.getElem_cons_zero, List.setIfInBounds_toArray, List.set_cons_zero, List.set_cons_succ]
          refine wpAnyH_take (i := 5) (v := .int .i64 qh) rfl (by kernel_rfl) (by kernel_rfl) (by kernel_rfl) (fun _ _ _ h => h) (Or.inl ⟨by rfl, ?_⟩) (by first | assumption | exact trivial) ?_
          · intro W hSW; obtain ⟨r0, r1, r2, r3, r4, r5, r6, r7, r8⟩ := rs_cells (HX.out W hSW); go_simp; try (with_reducible rfl)
          simp only [Act.put, List.getElem_toArray, List.getElem_cons_succ, List.getElem_cons_zero, List.setIfInBounds_toArray, List.set_cons_zero, List.set_cons_succ]
          refine wpAnyH_take (i := 6) (v := .bool false) rfl (by kernel_rfl) (by kernel_rfl) (by kernel_rfl) (fun _ _ _ h => h) (Or.inl ⟨by rfl, ?_⟩) (by first | assumption | exact trivial) ?_
          · intro W hSW; go_simp; try (with_reducible rfl)
          simp only [Act.put, List.getElem_toArray, List.getElem_cons_succ, List.getElem_cons_zero, List.setIfInBounds_toArray, List.set_cons_zero, List.set_cons_succ]
          refine wpAnyH_take (i := 7) (v := .bool false) rfl (by kernel_rfl) (by kernel_rfl) (by kernel_rfl) (fun _ _ _ h => h) (Or.inl ⟨by rfl, ?_⟩) (by first | assumption | exact trivial) ?_
          · intro W hSW; go_simp; try (with_reducible rfl)
          simp only [Act.put, List.getElem_toArray, List.getElem_cons_succ, List.getElem_cons_zero, List.setIfInBounds_toArray, List.set_cons_zero, List.set_cons_succ]
          refine wpAnyH_take (i := 8) (v := .agg #[.int .i64 me, .int .i64 qh, .int .i64 qb, .int .i64 qg, .int .i64 ep, vU, .slice aL nL cL, .int .i64 qg, vK]) rfl (by kernel_rfl) (by kernel_rfl) (by kernel_rfl) (fun _ _ _ h => h) (Or.inl ⟨by rfl, ?_⟩) (by first | assumption | exact trivial) ?_
          · intro W hSW; obtain ⟨r0, r1, r2, r3, r4, r5, r6, r7, r8⟩ := rs_cells (HX.out W hSW); go_simp; try (with_reducible rfl)
          simp only [Act.put, List.getElem_toArray, List.getElem_cons_succ, List.getElem_cons_zero, List.setIfInBounds_toArray, List.set_cons_zero, List.set_cons_succ]
          refine wpAnyH_take (i := 10) (v := .pointer (some ⟨w.heap.size + 1, 1, none⟩)) rfl (by kernel_rfl) (by kernel_rfl) (by kernel_rfl) (fun _ _ _ h => h) (Or.inl ⟨by rfl, ?_⟩) (by first | assumption | exact trivial) ?_
          · intro W hSW; go_simp; try (with_reducible rfl)
          simp only [Act.put, List.getElem_toArray, List.getElem_cons_succ, List.getElem_cons_zero, List.setIfInBounds_toArray, List.set_cons_zero, List.set_cons_succ]
          refine wpAnyH_take (i := 11) (v := .pointer (some ⟨w.heap.size + 1, 5, none⟩)) rfl (by kernel_rfl) (by kernel_rfl) (by kernel_rfl) (fun _ _ _ h => h) (Or.inl ⟨by rfl, ?_⟩) (by first | assumption | exact trivial) ?_
          · intro W hSW; go_simp; try (with_reducible rfl)
          simp only [Act.put, List.getElem_toArray, List.getElem_cons_succ, List.getElem_cons_zero, List.setIfInBounds_toArray, List.set_cons_zero, List.set_cons_succ]
          refine wpAnyH_take (i := 12) (v := .slice A n c) rfl (by kernel_rfl) (by kernel_rfl) (by kernel_rfl) (fun _ _ _ h => h) (Or.inl ⟨by rfl, ?_⟩) (by first | assumption | exact trivial) ?_
          · intro W hSW; obtain ⟨u0, u1, u2, u3, u4, u5⟩ := ev_cells (HY.out W hSW); go_simp; try (with_reducible rfl)
          simp only [Act.put, List.getElem_toArray, List.getElem_cons_succ, List.getElem_cons_zero, List.setIfInBounds_toArray, List.set_cons_zero, List.set_cons_succ]
          refine wpAnyH_take (i := 13) (v := .int .i64 (n : Int)) rfl (by kernel_rfl) (by kernel_rfl) (by kernel_rfl) (fun _ _ _ h => h) (Or.inl ⟨by rfl, ?_⟩) (by first | assumption | exact trivial) ?_
          · intro W hSW; go_simp; try (with_reducible rfl)
          simp only [Act.put, List.getElem_toArray, List.getElem_cons_succ, List.getElem_cons_zero, List.setIfInBounds_toArray, List.set_cons_zero, List.set_cons_succ]
          refine wpAnyH_take (i := 15) (v := .pointer (some ⟨w.heap.size, 1, none⟩)) rfl (by kernel_rfl) (by kernel_rfl) (by kernel_rfl) (fun _ _ _ h => h) (Or.inl ⟨by rfl, ?_⟩) (by first | assumption | exact trivial) ?_
          · intro W hSW; go_simp; try (with_reducible rfl)
          simp only [Act.put, List.getElem_toArray, List.getElem_cons_succ, List.getElem_cons_zero, List.setIfInBounds_toArray, List.set_cons_zero, List.set_cons_succ]
          refine wpAnyH_take (i := 16) (v := .pointer (some ⟨w.heap.size, 2, none⟩)) rfl (by kernel_rfl) (by kernel_rfl) (by kernel_rfl) (fun _ _ _ h => h) (Or.inl ⟨by rfl, ?_⟩) (by first | assumption | exact trivial) ?_
          · intro W hSW; go_simp; try (with_reducible rfl)
          simp only [Act.put, List.getElem_toArray, List.getElem_cons_succ, List.getElem_cons_zero, List.setIfInBounds_toArray, List.set_cons_zero, List.set_cons_succ]
          refine wpAnyH_take (i := 17) (v := .int .i64 qb) rfl (by kernel_rfl) (by kernel_rfl) (by kernel_rfl) (fun _ _ _ h => h) (Or.inl ⟨by rfl, ?_⟩) (by first | assumption | exact trivial) ?_
          · intro W hSW; obtain ⟨r0, r1, r2, r3, r4, r5, r6, r7, r8⟩ := rs_cells (HX.out W hSW); go_simp; try (with_reducible rfl)
          simp only [Act.put, List.getElem_toArray, List.getElem_cons_succ, List.getElem_cons_zero, List.setIfInBounds_toArray, List.set_cons_zero, List.set_cons_succ]
          refine wpAnyH_ready (rs := [9]) (by kernel_rfl) (by simp) ?_
          refine AllReadyH.cons rfl (fun K hK => ?_) AllReadyH.nil
          go_simp
          go_wp2_with (go_at_call 41; refine (HBy.out _ (go_on HB.out S0)).mono ?_; rintro e w3 ⟨rfl, b3⟩)
          have k3 := go_on S0 b3.out
          refine hK.out _ _ (k3) (fun hHeld => ?_)
          clear hK K
          refine wpAnyH_take (i := 14) (v := .int .i64 (bt + (n : Int))) rfl (by kernel_rfl) (by kernel_rfl) (by kernel_rfl) (fun _ _ _ h => h) (Or.inl ⟨by rfl, ?_⟩) (by first | assumption | exact trivial) ?_
          · intro W hSW; have q := HWr.out; go_simp; try (with_reducible rfl)
          simp only [Act.put, List.getElem_toArray, List.getElem_cons_succ, List.getElem_cons_zero, List.setIfInBounds_toArray, List.set_cons_zero, List.set_cons_succ]
          refine wpAnyH_take (i := 18) (v := .bool B) rfl (by kernel_rfl) (by kernel_rfl) (by kernel_rfl) (fun _ _ _ h => h) (Or.inl ⟨by rfl, ?_⟩) (by first | assumption | exact trivial) ?_
          · intro W hSW; have q := HBd.out; go_simp; try (with_reducible rfl)
          simp only [Act.put, List.getElem_toArray, List.getElem_cons_succ, List.getElem_cons_zero, List.setIfInBounds_toArray, List.set_cons_zero, List.set_cons_succ]
          refine wpAnyH_take (i := 19) (v := .bool B) rfl (by kernel_rfl) (by kernel_rfl) (by kernel_rfl) (fun _ _ _ h => h) (Or.inl ⟨by rfl, ?_⟩) (by first | assumption | exact trivial) ?_
          · intro W hSW; go_simp; try (with_reducible rfl)
          simp only [Act.put, List.getElem_toArray, List.getElem_cons_succ, List.getElem_cons_zero, List.setIfInBounds_toArray, List.set_cons_zero, List.set_cons_succ]
          refine wpAnyH_done (by kernel_rfl) ?_ _
          cases B
          all_goals
            go_wp2
            go_ret
            exact ⟨rfl, go_on HB.out k3⟩
end Go.Proofs.YtfnlhfelpdkieaaGreat.So
