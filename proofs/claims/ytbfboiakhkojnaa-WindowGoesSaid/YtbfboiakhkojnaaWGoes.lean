/- The walk of the law WindowGoes. -/
import Derived.Test.YtbfboiakhkojnaaWWoke
namespace Go.Proofs.Ytbfboiakhkojnaa.Wn
open Go.RowKit
open Go.Proofs.Ytbfboiakhkojnaa.Mi Go.Proofs.Ytbfboiakhkojnaa.It
set_option linter.unusedVariables false
set_option linter.unusedSimpArgs false
attribute [local go_sem] Oper.semAt_some

/-- All lies as it lay in w, but for what lies in the blocks S, and for new ones. -/
structure But (S : Nat → Prop) (w X : World) : Prop where
  os : X.os = w.os
  tape : X.tape = w.tape
  output : X.output = w.output
  size : w.heap.size ≤ X.heap.size
  same : ∀ k, k < w.heap.size → ¬ S k → X.heap[k]? = w.heap[k]?
theorem But.refl (S : Nat → Prop) (w : World) : But S w w := ⟨rfl, rfl, rfl, Nat.le_refl _, fun _ _ _ => rfl⟩
theorem But.grown {S : Nat → Prop} {w X Y : World} {row : Option Nat} (h : But S w X) (hg : X.grownBy Y row) (hr : ∀ r, row = some r → S r ∨ w.heap.size ≤ r) : But S w Y :=
  ⟨hg.os.trans h.os, hg.tape.trans h.tape, hg.output.trans h.output, Nat.le_trans h.size hg.size, fun k hk hS => (hg.block k (Nat.lt_of_lt_of_le hk h.size) (fun e => by
    rcases hr k e.symm with h1 | h1
    · exact hS h1
    · omega)).trans (h.same k hk hS)⟩
theorem But.boxed {S : Nat → Prop} {w X : World} {b : Nat} {t : TypeId} {v : Value} (h : But S w X) (hb : Boxed w b t v) (hS : ¬ S b) : Boxed X b t v := (h.same b hb.lt hS).trans hb
theorem But.below {S : Nat → Prop} {w X : World} {B : Nat} (h : But S w X) (hB : B ≤ w.heap.size) (hS : ∀ k, S k → B ≤ k) : Below B w X :=
  ⟨h.os, h.tape, h.output, h.size, fun k hk => h.same k (by omega) (fun hs => by have := hS k hs; omega)⟩
theorem But.abid {S : Nat → Prop} {w : World} {M : Nat} : Abid w.heap.size M (But S w) := fun X Y row hi hg hr => hi.grown hg fun r e => .inr (hr r e).1
theorem But.rd {S : Nat → Prop} {w X : World} {B : Nat} {A : Option Addr} {l : List Int} (h : But S w X) (hr : Mi.Rd w B A l) (hB : B ≤ w.heap.size) (hS : ∀ b, b < B → ¬ S b) : Mi.Rd X B A l :=
  hr.block fun b _ _ hb => h.same b (by omega) (hS b hb)
theorem func_nil_in (w : World) (d : Nat) (f : Fn) (lb : Array Value) : (Op.equalIn (d + 1) 29 (.func f #[] lb) .nilFunc).run Try.prog w = .ok false w := by
  simp [Op.equalIn, run_underlying Try.underlying29]
theorem func_nil (w : World) (f : Fn) (lb : Array Value) : (binOp .eql 29 (.func f #[] lb) .nilFunc).run Try.prog w = .ok (.bool false) w := by
  simp only [binOp]
  simp [Op.equal, Op.maxDepth, func_nil_in w 9999 f lb]
theorem grown_set (W : World) (p : Addr) (v : Value) : W.grownBy (W.setCell p v) (some p.block) :=
  ⟨rfl, rfl, rfl, by simp, fun k _ hk => Below.heap_setCell _ _ _ k (fun e => hk (by rw [e]))⟩
set_option maxRecDepth 100000 in
set_option maxHeartbeats 4000000 in
theorem goesW (base size stop : Int) (w : World) (w0 : (Lit.int .i64 base).wf = true) (w1 : (Lit.int .i64 size).wf = true) (w2 : (Lit.int .i64 stop).wf = true) :
    Calls Try.prog 6 #[.int .i64 base, .int .i64 size, .int .i64 stop] w fun e w' => e = .returned (.bool true) ∧ Below w.heap.size w w' := by
  have kf := func_nil
  obtain ⟨W1, hW1⟩ : ∃ W1, (w.alloc (.cells #[.int .i64 stop] 3)).alloc (.cells #[.bool false] 4) = W1 := ⟨_, rfl⟩
  have hE0 := Each_any base size W1
  unfold eachV at hE0
  have hE := Lib.hid hE0
  clear hE0
  have p1 : Boxed W1 w.heap.size 3 (.int .i64 stop) := by rw [← hW1]; exact (Boxed.new w _ _).alloc _
  have p2 : Boxed W1 (w.heap.size + 1) 4 (.bool false) := by
    rw [← hW1]
    have := Boxed.new (w.alloc (.cells #[.int .i64 stop] 3)) 4 (.bool false)
    rwa [World.size_alloc] at this
  have pb : Below w.heap.size w W1 := by rw [← hW1]; exact below_alloc (below_alloc (Below.refl _ _))
  have ps : W1.heap.size = w.heap.size + 2 := by rw [← hW1]; simp
  have P1 := Lib.hid p1
  have P2 := Lib.hid p2
  have PB := Lib.hid pb
  have PS := Lib.hid ps
  have HW1 := Lib.hid hW1
  have hRE := Lib.hid (fun (w' : World) => REach_any base size w' (I64.of w1))
  have hmc := cut_le size
  obtain ⟨m, hm⟩ : ∃ m, cut size = m := ⟨_, rfl⟩
  have hIt := Each_iter (W1.heap.size + 1) W1.heap.size size base
  rw [hm] at hRE hIt
  have HIT := Lib.hid hIt
  rw [hm] at hmc
  clear p1 p2 pb ps hW1 hm hIt w0 w1 w2
  refine (callsIn_wide (n := 0)).1 (callsIn_of_wp_marks Try.func6 rfl trivial ?_ rfl)
  simp only [Try.ntmps6, List.size_toArray, List.length_cons, List.length_nil, Nat.reduceAdd, Nat.reduceSub, Array.replicate_succ, Array.replicate_zero, List.push_toArray, List.append_toArray, List.nil_append, List.cons_append]
  refine wpIn_wide.2 ?_
  go_wp2_with (first
    | (go_at_call 20; rw [HW1.out]; refine hE.out.mono ?_; rintro e w2 ⟨rfl, rfl⟩)
    | (go_at_call 21; refine (hRE.out _).mono ?_; rintro e w5 ⟨v5, rfl, ho5, hb5⟩; obtain ⟨A5, c5, rfl, g1, g2, g3, g4, g5⟩ := Mi.Own.form ho5.out; rw [goes_length] at g1 ⊢; have R5 := Lib.hid g3; have B5 := Lib.hid hb5.out; clear ho5 hb5 g3 g4 g5))
  have q0 : Below W1.heap.size W1 w5 := (below_alloc (below_alloc (Below.refl _ W1))).trans (B5.out.mono (by simp; omega))
  have q3 : Boxed w5 W1.heap.size 3 (.int .i64 base) := (B5.out.block _ (by simp; omega)).trans ((Boxed.new W1 _ _).alloc _)
  have q4 : Boxed w5 (W1.heap.size + 1) 3 (.int .i64 size) := (B5.out.block _ (by simp)).trans (by
    have := Boxed.new (W1.alloc (.cells #[.int .i64 base] 3)) 3 (.int .i64 size)
    rwa [World.size_alloc] at this)
  have s5 : W1.heap.size + 2 ≤ w5.heap.size := by have := B5.out.size; simpa using this
  have q5 := (Boxed.new w5 31 (.slice A5 m c5)).alloc (.cells #[.int .i64 0] 3)
  have q6 := Boxed.new (w5.alloc (.cells #[.slice A5 m c5] 31)) 3 (.int .i64 0)
  rw [World.size_alloc] at q6
  have qb : Below w5.heap.size w5 ((w5.alloc (.cells #[.slice A5 m c5] 31)).alloc (.cells #[.int .i64 0] 3)) := below_alloc (below_alloc (Below.refl _ _))
  have qs : ((w5.alloc (.cells #[.slice A5 m c5] 31)).alloc (.cells #[.int .i64 0] 3)).heap.size = w5.heap.size + 1 + 1 := by simp
  obtain ⟨W0, hW0⟩ : ∃ W0, (w5.alloc (.cells #[.slice A5 m c5] 31)).alloc (.cells #[.int .i64 0] 3) = W0 := ⟨_, rfl⟩
  rw [hW0] at q5 q6 qb qs ⊢
  clear hW0
  have sS := PS.out
  have bS : Boxed W0 w.heap.size 3 (.int .i64 stop) := (qb.block _ (by omega)).trans ((q0.block _ (by omega)).trans P1.out)
  have bR : Boxed W0 (w.heap.size + 1) 4 (.bool false) := (qb.block _ (by omega)).trans ((q0.block _ (by omega)).trans P2.out)
  have bA : Boxed W0 W1.heap.size 3 (.int .i64 base) := (qb.block _ (by omega)).trans q3
  have bB : Boxed W0 (W1.heap.size + 1) 3 (.int .i64 size) := (qb.block _ (by omega)).trans q4
  have rW : Mi.Rd W0 w5.heap.size A5 (goes base m) := R5.out.below qb
  have bel : Below w.heap.size w W0 := PB.out.trans ((q0.mono (by omega)).trans (qb.mono (by omega)))
  obtain ⟨b, hb⟩ : ∃ b, w5.heap.size = b := ⟨_, rfl⟩
  obtain ⟨n1, hn1⟩ : ∃ n1, W1.heap.size = n1 := ⟨_, rfl⟩
  rw [hb] at q5 q6 qs s5 rW ⊢
  rw [hn1] at bA bB sS s5 HIT ⊢
  have BS := Lib.hid bS
  have BR := Lib.hid bR
  have BA := Lib.hid bA
  have BB := Lib.hid bB
  have RW := Lib.hid rW
  have BEL := Lib.hid bel
  have BW := Lib.hid q5
  have BN := Lib.hid q6
  clear q0 q3 q4 q5 q6 qb bS bR bA bB rW bel hE hRE P1 P2 PB PS HW1 R5 B5 hb hn1
  have hH := fun (X : World) (hX : But (fun r => r = b + 1) W0 X) =>
    (show X.cell? ⟨b, 0, none⟩ = some (.slice A5 m c5) ∧ X.cell? ⟨w.heap.size, 0, none⟩ = some (.int .i64 stop) ∧ EachB (n1 + 1) n1 size base X ∧ Mi.Rd X b A5 (goes base m) from
      ⟨(hX.boxed BW.out (by omega)).cell, (hX.boxed BS.out (by omega)).cell, ⟨(hX.boxed BB.out (by omega)).cell, (hX.boxed BA.out (by omega)).cell⟩, hX.rd RW.out (by omega) (fun r hr => by omega)⟩)
  have HH := Lib.hid hH
  clear hH
  refine range_block (gf := 27) (lb := #[.pointer (some ⟨n1 + 1, 0, none⟩), .pointer (some ⟨n1, 0, none⟩)]) rfl (enters_of Try.func27 (by kernel_rfl) rfl) HIT.out
    (fun k X => But (fun r => r = b + 1) W0 X ∧ Boxed X (b + 1) 3 (.int .i64 k))
    (fun X => But (fun r => r = b + 1) W0 X ∧ Boxed X (b + 1) 3 (.int .i64 stop))
    (fun X => But (fun r => r = b + 1) W0 X ∧ (Boxed X (b + 1) 3 (.int .i64 m) ∨ Boxed X (b + 1) 3 (.int .i64 stop)))
    (fun k => Abid.and But.abid (Abid.boxed (.inl (by omega)))) (Abid.and But.abid (Abid.boxed (.inl (by omega))))
    (fun k X h => (HH.out X h.1).2.2.1) (fun k X hk hc' h => (hc' trivial).elim) (fun _ _ _ _ _ _ h _ _ => h) (fun _ _ _ _ _ h _ => h)
    ⟨But.refl _ _, BN.out⟩ (fun X h => ⟨h.1, .inl h.2⟩) (fun X h => ⟨h.1, .inr h.2⟩) ?_ ?_
  · intro l' k v X0 hk _ _ rfl
    have hat : at_ (goes base m) k = (base + (k : Int)) % 128 := goes_at hk
    obtain ⟨x, hx⟩ : ∃ x, (base + (k : Int)) % 128 = x := ⟨_, rfl⟩
    rw [hx] at hat ⊢
    gi_wp2
    refine ⟨trivial, ?_⟩
    rintro X ⟨hX, hn⟩ _ hsX
    obtain ⟨c1, c2, _, c4⟩ := HH.out X hX
    obtain ⟨g, off, rfl, _, hcs⟩ := c4 (by rw [goes_length]; omega)
    have c3 := hcs k (by rw [goes_length]; exact hk)
    rw [hat] at c3
    have d1 := hn.cell
    have d2 := hn.frozen
    have HX := Lib.hid hX
    have HN := Lib.hid hn
    clear hcs c4 hX hn hx hat
    by_cases hst : (k : Int) = stop
    · subst hst
      gi_wp2
      exact ⟨KeepR.refl _ _ _, rfl, HX.out, HN.out⟩
    · have e1 : ((k : Int) == stop) = false := by simpa using hst
      have e2 : ¬ (m : Int) ≤ (k : Int) := by omega
      gi_wp2
      refine ⟨KeepR.of_grown (grown_set _ _ _) fun r e => by cases e; exact .inl (by show b + 1 < _; omega), HX.out.grown (grown_set _ _ _) (fun r e => by cases e; exact .inl rfl), ?_⟩
      exact HN.out.set _
  · rintro X ⟨hX, hn⟩ hD
    have hbk : ∃ j : Int, Boxed X (b + 1) 3 (.int .i64 j) ∧ (j = m ∨ j = stop) := by
      rcases hn with h | h
      · exact ⟨_, h, .inl rfl⟩
      · exact ⟨_, h, .inr rfl⟩
    obtain ⟨j, hj, hjm⟩ := hbk
    have HSS := Lib.hid sS
    clear hn
    have hsX := hX.size
    have xD : X.heap[b + 1 + 1]? = some (.deferred (some [])) := by rw [← qs]; exact hD
    have hXl : b + 1 + 1 < X.heap.size := (Array.getElem?_eq_some_iff.1 xD).1
    rw [qs]
    have u1 := Boxed.new X 3 (.int .i64 0)
    have ub : Below X.heap.size X (X.alloc (.cells #[.int .i64 0] 3)) := below_alloc (Below.refl _ _)
    have us : (X.alloc (.cells #[.int .i64 0] 3)).heap.size = X.heap.size + 1 := by simp
    have uX : Below w.heap.size w X := BEL.out.trans (hX.below (by have := BEL.out.size; omega) fun r e => by omega)
    have uH := HH.out X hX
    have uS := hX.boxed BS.out (by omega)
    have uR := hX.boxed BR.out (by omega)
    have uA := hX.boxed BA.out (by omega)
    have uB := hX.boxed BB.out (by omega)
    have uW := hX.boxed BW.out (by omega)
    have u4 := uH.2.2.2
    clear uH BS BR BA BB BW BN RW BEL HH hX hD sS
    go_wp2
    have sS := HSS.out
    obtain ⟨Y0, hY0⟩ : ∃ Y0, X.alloc (.cells #[.int .i64 0] 3) = Y0 := ⟨_, rfl⟩
    rw [hY0] at u1 ub us ⊢
    clear hY0
    obtain ⟨c, hc⟩ : ∃ c, X.heap.size = c := ⟨_, rfl⟩
    have vS : Boxed Y0 w.heap.size 3 (.int .i64 stop) := (ub.block _ uS.lt).trans uS
    have vR : Boxed Y0 (w.heap.size + 1) 4 (.bool false) := (ub.block _ uR.lt).trans uR
    have vA : Boxed Y0 n1 3 (.int .i64 base) := (ub.block _ uA.lt).trans uA
    have vB : Boxed Y0 (n1 + 1) 3 (.int .i64 size) := (ub.block _ uB.lt).trans uB
    have vW : Boxed Y0 b 31 (.slice A5 m c5) := (ub.block _ uW.lt).trans uW
    have vN : Boxed Y0 (b + 1) 3 (.int .i64 j) := (ub.block _ hj.lt).trans hj
    have vD : Y0.heap[b + 1 + 1]? = some (.deferred (some [])) := (ub.block _ hXl).trans xD
    have vL : Mi.Rd Y0 b A5 (goes base m) := u4.below (ub.mono (by omega))
    have bel2 : Below w.heap.size w Y0 := uX.trans (ub.mono uX.size)
    rw [hc] at u1 us hXl ⊢
    have VS := Lib.hid vS
    have VR := Lib.hid vR
    have VA := Lib.hid vA
    have VB := Lib.hid vB
    have VW := Lib.hid vW
    have VN := Lib.hid vN
    have VD := Lib.hid vD
    have VL := Lib.hid vL
    have BEL2 := Lib.hid bel2
    clear vS vR vA vB vW vN vD vL bel2 uS uR uA uB uW hj xD u4 ub uX hsX hc
    have hH := fun (Z : World) (hZ : But (fun r => r = c) Y0 Z) =>
      (show Z.cell? ⟨b, 0, none⟩ = some (.slice A5 m c5) ∧ EachB (n1 + 1) n1 size base Z ∧ Mi.Rd Z b A5 (goes base m) from
        ⟨(hZ.boxed VW.out (by omega)).cell, ⟨(hZ.boxed VB.out (by omega)).cell, (hZ.boxed VA.out (by omega)).cell⟩, hZ.rd VL.out (by omega) (fun r hr => by omega)⟩)
    have HH := Lib.hid hH
    clear hH
    refine range_block (gf := 27) (lb := #[.pointer (some ⟨n1 + 1, 0, none⟩), .pointer (some ⟨n1, 0, none⟩)]) rfl (enters_of Try.func27 (by kernel_rfl) rfl) HIT.out
      (fun k Z => But (fun r => r = c) Y0 Z ∧ Boxed Z c 3 (.int .i64 k))
      (fun Z => False)
      (fun Z => But (fun r => r = c) Y0 Z ∧ Boxed Z c 3 (.int .i64 m))
      (fun k => Abid.and But.abid (Abid.boxed (.inl (by omega)))) (fun _ _ _ h _ _ => h)
      (fun k Z h => (HH.out Z h.1).2.1) (fun k Z hk hc' h => (hc' trivial).elim) (fun _ _ _ _ _ _ h _ _ => h) (fun _ _ _ _ _ h _ => h)
      ⟨But.refl _ _, u1⟩ (fun Z h => h) (fun Z h => h.elim) ?_ ?_
    · intro l' k v Z0 hk _ _ rfl
      have hat : at_ (goes base m) k = (base + (k : Int)) % 128 := goes_at hk
      obtain ⟨x, hx⟩ : ∃ x, (base + (k : Int)) % 128 = x := ⟨_, rfl⟩
      rw [hx] at hat ⊢
      clear sS
      gi_wp2
      refine ⟨trivial, ?_⟩
      rintro Z ⟨hZ, hn⟩ _ hsZ
      have sS := HSS.out
      obtain ⟨c1, _, c4⟩ := HH.out Z hZ
      obtain ⟨g, off, rfl, _, hcs⟩ := c4 (by rw [goes_length]; omega)
      have c3 := hcs k (by rw [goes_length]; exact hk)
      rw [hat] at c3
      have d1 := hn.cell
      have d2 := hn.frozen
      have HZ := Lib.hid hZ
      have HN := Lib.hid hn
      have e2 : ¬ (m : Int) ≤ (k : Int) := by omega
      clear hcs c4 hZ hn hx hat u1 sS
      gi_wp2
      have sS := HSS.out
      refine ⟨KeepR.of_grown (grown_set _ _ _) fun r e => by cases e; exact .inl (by show c < _; omega), HZ.out.grown (grown_set _ _ _) (fun r e => by cases e; exact .inl rfl), ?_⟩
      exact HN.out.set _
    · rintro Z ⟨hZ, hn⟩ hD2
      have hsZ := hZ.size
      have zS := (hZ.boxed VS.out (by omega)).cell
      have zW := (hZ.boxed VW.out (by omega)).cell
      have zN := (hZ.boxed VN.out (by omega)).cell
      have zK := hn.cell
      have zR := hZ.boxed VR.out (by omega)
      have zB : Below w.heap.size w Z := BEL2.out.trans (hZ.below (by have := BEL2.out.size; omega) fun r e => by have := BEL2.out.size; have := VN.out.lt; omega)
      have zD : Z.heap[b + 1 + 1]? = some (.deferred (some [])) := (hZ.same _ (by omega) (by omega)).trans VD.out
      rw [us] at hD2
      have ZR := Lib.hid zR
      have ZB := Lib.hid zB
      have ZD := Lib.hid zD
      have ZD2 := Lib.hid hD2
      have AW := Lib.hid (awake_any Z)
      clear zR zB zD hD2 hZ hn HH VS VR VA VB VW VN VD VL BEL2 u1
      rw [us]
      have fin : ∀ V, Below Z.heap.size Z V → (V.setCell ⟨w.heap.size + 1, 0, none⟩ (.bool true)).heap[c + 1]? = some (.deferred (some [])) ∧
          ((V.setCell ⟨w.heap.size + 1, 0, none⟩ (.bool true)).putObj (c + 1) (.deferred none)).heap[b + 1 + 1]? = some (.deferred (some [])) ∧
          Boxed (((V.setCell ⟨w.heap.size + 1, 0, none⟩ (.bool true)).putObj (c + 1) (.deferred none)).putObj (b + 1 + 1) (.deferred none)) (w.heap.size + 1) 4 (.bool true) ∧
          Below w.heap.size w (((V.setCell ⟨w.heap.size + 1, 0, none⟩ (.bool true)).putObj (c + 1) (.deferred none)).putObj (b + 1 + 1) (.deferred none)) := by
        intro V hV
        have hlt1 := ZR.out.lt
        have hlt2 : c + 1 < Z.heap.size := (Array.getElem?_eq_some_iff.1 ZD2.out).1
        have z1 : Boxed V (w.heap.size + 1) 4 (.bool false) := (hV.block _ hlt1).trans ZR.out
        have z2 : (V.setCell ⟨w.heap.size + 1, 0, none⟩ (.bool true)).heap[c + 1]? = some (.deferred (some [])) := (Below.heap_setCell _ _ _ _ (by show _ ≠ w.heap.size + 1; omega)).trans ((hV.block _ hlt2).trans ZD2.out)
        have z3 : (V.setCell ⟨w.heap.size + 1, 0, none⟩ (.bool true)).heap[b + 1 + 1]? = some (.deferred (some [])) := (Below.heap_setCell _ _ _ _ (by show _ ≠ w.heap.size + 1; omega)).trans ((hV.block _ (by omega)).trans ZD.out)
        refine ⟨z2, (World.putObj_heap_other (by omega)).trans z3, ?_, ?_⟩
        · exact ((z1.set (.bool true)).kept (grownBy_putObj' _ _ _) (fun e => by simp at e; omega)).kept (grownBy_putObj' _ _ _) (fun e => by simp at e; omega)
        · have k1 : Below w.heap.size w (V.setCell ⟨w.heap.size + 1, 0, none⟩ (.bool true)) := (ZB.out.trans (hV.mono ZB.out.size)).setCell (p := ⟨w.heap.size + 1, 0, none⟩) (by show _ ≤ w.heap.size + 1; omega) _
          refine (k1.grown (grownBy_putObj' _ (c + 1) (.deferred none)) k1.size (fun k e => by cases e; omega)).grown (grownBy_putObj' _ (b + 1 + 1) (.deferred none)) ?_ (fun k e => by cases e; omega)
          exact (k1.grown (grownBy_putObj' _ (c + 1) (.deferred none)) k1.size (fun k e => by cases e; omega)).size
      have FIN := Lib.hid fin
      clear fin sS
      rcases hjm with rfl | rfl
      case' inl => skip
      case' inr => by_cases hjm2 : j = (m : Int)
      case' pos => subst hjm2
      case' neg => have e1 : (j == (m : Int)) = false := by simpa using hjm2
      all_goals
        go_wp2_with (go_at_call 15; refine AW.out.mono ?_; rintro e V ⟨rfl, hV⟩; have z1 : Boxed V (w.heap.size + 1) 4 (.bool false) := (hV.block _ ZR.out.lt).trans ZR.out; have z2 := z1.cell; have z3 := z1.frozen; have hFV := Lib.hid hV)
      all_goals
        obtain ⟨r1, r2, r3, r4⟩ := FIN.out _ hFV.out
        refine ⟨by simp, .inl ⟨_, _, rfl, run_takeDeferred r1, ?_⟩⟩
        refine ⟨by simp, .inl ⟨_, _, rfl, run_takeDeferred r2, ?_⟩⟩
        have r5 := r3.cell
        refine ⟨.bool true, ?_, rfl, r4⟩
        simp [results, Try.f6, go_sem, r5]
end Go.Proofs.Ytbfboiakhkojnaa.Wn
