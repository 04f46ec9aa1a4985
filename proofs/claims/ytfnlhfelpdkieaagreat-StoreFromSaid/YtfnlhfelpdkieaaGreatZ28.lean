/- The document's list of messages: Has, Bytes, without. -/
import Derived.Test.YtfnlhfelpdkieaaGreatZ5
import Derived.Test.YtfnlhfelpdkieaaGreatZ13
import Derived.Test.YtfnlhfelpdkieaaGreatZ21
import Derived.Test.YtfnlhfelpdkieaaGreatZ22
import Derived.Test.YtfnlhfelpdkieaaGreatSoRCnt
namespace Go.Proofs.YtfnlhfelpdkieaaGreat.So
open Go.RowKit Go.Deep
open Go.ChangeShapes Go.WideShapes Go.Joins
open Go.Proofs.YtfnlhfelpdkieaaGreat.Me Go.Proofs.YtfnlhfelpdkieaaGreat.Sb
set_option linter.unusedVariables false
set_option linter.unusedSimpArgs false

/-- A slice of messages: its row from block B on, the data in blocks that bear Q. -/
structure Rl (Q : Nat → Prop) (w : World) (B : Nat) (v : Value) (P : List Pq) : Prop where
  own : w.ownsRow B 46 5 v P.length (qsV P)
  each : ∀ p ∈ P, Me.Own w 0 p.v p.x.p ∧ ∀ k, p.v.ownBlock = some k → Q k
theorem Rl.nil (Q : Nat → Prop) (w : World) (B : Nat) : Rl Q w B (.slice none 0 0) [] := ⟨⟨rfl, .inl ⟨rfl, rfl⟩⟩, fun p hp => by simp at hp⟩
theorem Rl.lit {Q : Nat → Prop} {B : Nat} {w : World} (hb : B ≤ w.heap.size) : Rl Q (w.alloc (.cells #[] 46)) B (.slice (some ⟨w.heap.size, 0, none⟩) 0 0) [] :=
  ⟨World.ownsRow_made w #[] 0 hb (by unfold maxLen; omega) rfl, fun p h => by simp at h⟩
theorem Rl.below {Q : Nat → Prop} {w w' : World} {B : Nat} {v : Value} {P : List Pq} (h : Rl Q w B v P) (hb : Below w.heap.size w w') : Rl Q w' B v P :=
  ⟨own_same h.own fun k _ hk => hb.block k hk, fun p hp => ⟨own_same (h.each p hp).1 fun k _ hk => hb.block k hk, (h.each p hp).2⟩⟩
theorem Rl.base {Q : Nat → Prop} {w : World} {B B' : Nat} {v : Value} {P : List Pq} (h : Rl Q w B v P) (hB : B' ≤ B) : Rl Q w B' v P :=
  ⟨own_base h.own fun k hk => Nat.le_trans hB (h.own.lt k hk).1, h.each⟩
theorem Rl.mono {Q Q' : Nat → Prop} {w : World} {B : Nat} {v : Value} {P : List Pq} (h : Rl Q w B v P) (hQ : ∀ k, k < w.heap.size → Q k → Q' k) : Rl Q' w B v P :=
  ⟨h.own, fun p hp => ⟨(h.each p hp).1, fun k e => hQ k (World.ownsRow.lt (h.each p hp).1 k e).2 ((h.each p hp).2 k e)⟩⟩
theorem Rl.form {Q : Nat → Prop} {w : World} {B : Nat} {v : Value} {P : List Pq} (h : Rl Q w B v P) : ∃ A c, v = .slice A P.length c ∧ P.length ≤ c ∧ c ≤ 9223372036854775807 ∧ (A = none → c = 0) := by
  rcases h.own.2 with ⟨h1, h2⟩ | ⟨g, cap, cur, h1, h2, h3, h4, h5, h6, h7⟩
  · have : P = [] := by simpa using h2
    subst this
    exact ⟨none, 0, h1, Nat.le_refl _, Nat.zero_le _, fun _ => rfl⟩
  · exact ⟨_, cap, h1, h4, by unfold maxLen at h5; omega, fun e => by cases e⟩
/-- The row of message j. -/
theorem Rl.at_ {Q : Nat → Prop} {w : World} {B : Nat} {A : Option Addr} {n c : Nat} {P : List Pq} (h : Rl Q w B (.slice A n c) P) {j : Nat} {p : Pq} (hj : P[j]? = some p) :
    ∃ g, A = some ⟨g, 0, none⟩ ∧ g < w.heap.size ∧ (∀ W : World, W.heap[g]? = w.heap[g]? → W.cell? ⟨g, j * 5, none⟩ = some (.int .i64 p.x.i.o) ∧ W.cell? ⟨g, j * 5 + 1, none⟩ = some (.int .i64 p.x.i.d) ∧ W.cell? ⟨g, j * 5 + 2, none⟩ = some (.int .i64 p.x.i.e) ∧ W.cell? ⟨g, j * 5 + 3, none⟩ = some (.int .i64 p.x.i.c) ∧ W.cell? ⟨g, j * 5 + 4, none⟩ = some p.v) := by
  have h0 := h.own
  have hlt := (List.getElem?_eq_some_iff.1 hj).1
  rcases h0.2 with ⟨h1, h2⟩ | ⟨g, cap, cur, h1, h2, h3, h4, h5, h6, h7⟩
  · have : P = [] := by simpa using h2
    subst this; simp at hlt
  · cases h1
    have hl := h0.lt g rfl
    refine ⟨g, rfl, hl.2, fun W hW => ?_⟩
    have hx : ∀ i u, i < 5 → (qV p)[i]? = some u → W.cell? ⟨g, j * 5 + i, none⟩ = some u := fun i u hi hu => by
      have := h0.cells (g := g) rfl (j * 5 + i) u (by rw [qsV_get hj hi]; exact hu)
      rw [add_mk, Nat.zero_add] at this
      exact (World.cell?_of_block (w := w) (a := ⟨g, j * 5 + i, none⟩) hW).trans this
    exact ⟨hx 0 _ (by omega) rfl, hx 1 _ (by omega) rfl, hx 2 _ (by omega) rfl, hx 3 _ (by omega) rfl, hx 4 _ (by omega) rfl⟩
/-- One message appended, as one operation. -/
theorem appRl {Q : Nat → Prop} {w : World} {o : Oper} {a : Act} {K : Act → World → Prop} {Qx : Exit → Act → World → Prop} (s x : Operand)
    (ho : o.op = .call { callee := .builtin .append, args := #[s, x], argTypes := #[32, 32] })
    (B : Nat) (v : Value) (P : List Pq) (p : Pq) (gx : Nat) (hs : a.eval s = v) (hown : Rl Q w B v P) (hp : Me.Own w 0 p.v p.x.p ∧ ∀ k, p.v.ownBlock = some k → Q k) (hx : a.eval x = .slice (some ⟨gx, 0, none⟩) 1 1) (hz : ∀ j u, (qV p)[j]? = some u → w.cell? ⟨gx, j, none⟩ = some u) (hlen : P.length ≤ 100000) (hB : B ≤ w.heap.size)
    (h : ∀ v' w', Rl Q w' B v' (P ++ [p]) → w.grownBy w' v.ownBlock → (∀ k, v.ownBlock = some k → B ≤ k) → K (a.put o.dst v') w') : o.wp Tryz.prog a w K Qx := by
  obtain ⟨i0, hi, hz0, hz1, hz2⟩ := info_parts infoMsg
  have hnews : ∀ j u, (qV p)[j]? = some u → w.cell? ((⟨gx, 0, none⟩ : Addr).add j) = some u := by
    intro j u hj
    rw [add_mk, Nat.zero_add]
    exact hz j u hj
  obtain ⟨v', w', hr, h2, h3, h4⟩ := run_append_own_at (P := Tryz.prog) w B 32 o.type 46 i0 (.agg #[.int .i64 0, .int .i64 0, .int .i64 0, .int .i64 0, .slice none 0 0]) 5 56 Tryz.underlying32 hi hz0 hz1 hz2 rfl (by decide) v P.length (qsV P) hown.own ⟨gx, 0, none⟩ 1 1 (qV p) rfl hnews (by simp [qV, Pq.v, Value.oneCell']) (by unfold maxLen; omega) (by omega) hB
  unfold Oper.wp execOp
  simp only [ho, resolve, invoke, builtin, Sem.run_bind, Sem.run_pure, Result.andThen_ok, List.map_toArray, List.map_cons, List.map_nil, hs, hx, hr]
  have hk : ∀ q : Pq, Me.Own w 0 q.v q.x.p → Me.Own w' 0 q.v q.x.p := fun q hq => own_same hq fun k e hk => h3.block k hk fun e' => two_ty hq hown.own (by decide) k e e'.symm
  refine h v' w' ⟨?_, fun q hq => ?_⟩ h3 fun k hk => (hown.own.lt k hk).1
  · rw [List.length_append, qsV_snoc]; exact h2
  · rcases List.mem_append.1 hq with hq | hq
    · exact ⟨hk q (hown.each q hq).1, (hown.each q hq).2⟩
    · obtain rfl : q = p := by simpa using hq
      exact ⟨hk q hp.1, hp.2⟩
theorem idne_cases {o d e c o' d' e' c' : Int} (h : ¬ (⟨o, d, e, c⟩ : Mg.Id4) = ⟨o', d', e', c'⟩) : (o == o') = false ∨ (o = o' ∧ (d == d') = false) ∨ (o = o' ∧ d = d' ∧ (e == e') = false) ∨ (o = o' ∧ d = d' ∧ e = e' ∧ (c == c') = false) := by
  by_cases a0 : o = o'
  · by_cases a1 : d = d'
    · by_cases a2 : e = e'
      · exact .inr (.inr (.inr ⟨a0, a1, a2, by simpa using fun q : c = c' => h (by rw [a0, a1, a2, q])⟩))
      · exact .inr (.inr (.inl ⟨a0, a1, by simpa using a2⟩))
    · exact .inr (.inl ⟨a0, by simpa using a1⟩)
  · exact .inl (by simpa using a0)
theorem rl_cells {Q : Nat → Prop} {w : World} {A : Option Addr} {n c : Nat} {P : List Pq} (h : Rl Q w 0 (.slice A n c) P) : ∀ j, j < P.length → ∃ (g : Nat) (q : Pq), A = some ⟨g, 0, none⟩ ∧ P[j]? = some q ∧ ∀ W, Below w.heap.size w W → W.cell? ⟨g, j * 5, none⟩ = some (.int .i64 q.x.i.o) ∧ W.cell? ⟨g, j * 5 + 1, none⟩ = some (.int .i64 q.x.i.d) ∧ W.cell? ⟨g, j * 5 + 2, none⟩ = some (.int .i64 q.x.i.e) ∧ W.cell? ⟨g, j * 5 + 3, none⟩ = some (.int .i64 q.x.i.c) ∧ W.cell? ⟨g, j * 5 + 4, none⟩ = some q.v := fun j hj => by
  have hx : P[j]? = some (P[j]'hj) := List.getElem?_eq_getElem hj
  obtain ⟨g, e1, e3, e4⟩ := h.at_ hx
  exact ⟨g, _, e1, hx, fun W hW => e4 W (hW.block g e3)⟩
/-- Is an id among the first j? -/
theorem has_take {P : List Pq} {i : Mg.Id4} {j : Nat} (h : ∀ (k : Nat) (q : Pq), k < j → P[k]? = some q → q.x.i ≠ i) (hj : P.length ≤ j) : hasH (P.map Pq.x) i = false := by
  have hn : findH (P.map Pq.x) i = none := by
    rw [findH_none]
    intro hm
    rw [List.map_map] at hm
    obtain ⟨q, hq, e⟩ := List.mem_map.1 hm
    obtain ⟨k, hk⟩ := List.getElem?_of_mem hq
    have hl := (List.getElem?_eq_some_iff.1 hk).1
    exact h k q (by omega) hk e
  unfold hasH
  rw [hn]; rfl
theorem has_at {P : List Pq} {i : Mg.Id4} {j : Nat} {q : Pq} (h : P[j]? = some q) (e : q.x.i = i) : hasH (P.map Pq.x) i = true := by
  rw [hasH_iff, List.map_map]
  exact List.mem_map.2 ⟨q, List.mem_of_getElem? h, e⟩
set_option maxRecDepth 100000 in
set_option maxHeartbeats 16000000 in
theorem RHasM_any (Q : Nat → Prop) (v : Value) (P : List Pq) (i : Mg.Id4) (w : World) (hv : Hid (Rl Q w 0 v P)) (hL : P.length ≤ 1000) : Calls Tryz.prog 63 #[v, .agg (Mg.idC i)] w fun e w' => e = .returned (.bool (hasH (P.map Pq.x) i)) ∧ Hid (Below w.heap.size w w') := by
  obtain ⟨A, c, rfl, _, _, _⟩ := hv.out.form
  have HA := Lib.hid (rl_cells hv.out)
  have HX : Hid ((w.alloc (.cells (Mg.idC i) 43)).heap[w.heap.size]? = some (.cells (Mg.idC i) 43 (0, 0))) := heap_alloc_new w _
  have HB : Hid (Below w.heap.size w (w.alloc (.cells (Mg.idC i) 43))) := Me.below_alloc (Below.refl _ _)
  obtain ⟨B, hB⟩ : ∃ b, hasH (P.map Pq.x) i = b := ⟨_, rfl⟩
  have HYes : Hid (∀ (j : Nat) (q : Pq), P[j]? = some q → q.x.i = i → B = true) := fun j q h e => by rw [← hB]; exact has_at h e
  have HNo : Hid (∀ j, P.length ≤ j → (∀ (k : Nat) (q : Pq), k < j → P[k]? = some q → q.x.i ≠ i) → B = false) := fun j hj h => by rw [← hB]; exact has_take h hj
  rw [hB]
  obtain ⟨N, hN⟩ : ∃ N, P.length = N := ⟨_, rfl⟩
  rw [hN] at HA HNo hL ⊢
  obtain ⟨o, d, ee, cc⟩ := i
  simp only [Mg.idC] at HX HB ⊢
  clear hv hB hN
  obtain ⟨W0, hW0⟩ : ∃ W, w.alloc (.cells #[.int .i64 o, .int .i64 d, .int .i64 ee, .int .i64 cc] 43) = W := ⟨_, rfl⟩
  rw [hW0] at HX HB
  have HW0 := Lib.hid hW0
  clear hW0
  go_enter Tryz.func63, Tryz.ntmps63
  go_wp2
  rw [HW0.out]
  go_loopw [5] (fun v5 wr => ∃ j : Nat, v5 = .int .i64 (j : Int) ∧ j ≤ N ∧ Hid (∀ (k : Nat) (q : Pq), k < j → P[k]? = some q → q.x.i ≠ ⟨o, d, ee, cc⟩) ∧ Hid (Below W0.heap.size W0 wr)) (fun v5 _ => N - (intOf v5).toNat)
  case atStart => exact ⟨0, rfl, Nat.zero_le _, fun k q hk => absurd hk (by omega), Below.refl _ _⟩
  case round =>
    obtain ⟨j, rfl, hj, HNe, HBr⟩ := hrel
    obtain ⟨y0, y1, y2, y3⟩ := id_cells ((HBr.out.block _ (Array.getElem?_eq_some_iff.1 HX.out).1).trans HX.out)
    by_cases hlt : j < N
    · obtain ⟨g, q, rfl, hq, hc⟩ := HA.out j hlt
      obtain ⟨z0, z1, z2, z3, _⟩ := hc wr (go_on HB.out HBr.out)
      have g1 : (j : Int) < (N : Int) := by omega
      have g2 : (j : Int) < 1000 := by omega
      have HQ := Lib.hid hq
      clear hc hq
      by_cases he : q.x.i = ⟨o, d, ee, cc⟩
      · have hBt := HYes.out j q HQ.out he
        rw [he] at z0 z1 z2 z3
        simp only at z0 z1 z2 z3
        subst hBt
        clear he
        go_wp2
        go_quiet (fail)
        go_wp2
        go_ret
        exact ⟨rfl, HB.out.trans ((Me.below_drewN HBr.out _).mono HB.out.size)⟩
      · have HN2 : Hid (∀ (k : Nat) (q : Pq), k < j + 1 → P[k]? = some q → q.x.i ≠ ⟨o, d, ee, cc⟩) := fun k q' hk hq' => by
          by_cases h : k = j
          · subst h
            rw [HQ.out] at hq'
            cases hq'
            exact he
          · exact HNe.out k q' (by omega) hq'
        obtain ⟨⟨xo, xd, xe, xc⟩, hx⟩ : ∃ x, q.x.i = x := ⟨_, rfl⟩
        rw [hx] at z0 z1 z2 z3 he
        simp only at z0 z1 z2 z3
        clear hx
        rcases idne_cases he with g3 | ⟨rfl, g3⟩ | ⟨rfl, rfl, g3⟩ | ⟨rfl, rfl, rfl, g3⟩
        all_goals
          clear he
          go_wp2
          go_quiet (fail)
          go_wp2
          go_roundw
          case rel => exact ⟨j + 1, by go_num, by omega, HN2, Me.below_drewN HBr.out _⟩
          case measure => simp [intOf]; omega
    · have hBf := HNo.out j (by omega) HNe.out
      subst hBf
      have g1 : ¬ (j : Int) < (N : Int) := by omega
      go_wp2
      go_ret
      exact ⟨rfl, HB.out.trans (HBr.out.mono HB.out.size)⟩
end Go.Proofs.YtfnlhfelpdkieaaGreat.So
/- The document's list of messages: Bytes, without. -/
namespace Go.Proofs.YtfnlhfelpdkieaaGreat.So
open Go.RowKit Go.Deep
open Go.Proofs.YtfnlhfelpdkieaaGreat.Me Go.Proofs.YtfnlhfelpdkieaaGreat.Sb
set_option linter.unusedVariables false
set_option linter.unusedSimpArgs false

set_option maxRecDepth 100000 in
set_option maxHeartbeats 16000000 in
theorem RBytes_any (Q : Nat → Prop) (a b c d e r : Int) (vU vK v : Value) (P : List Pq) (w : World) (hv : Hid (Rl Q w 0 v P)) (hL : P.length ≤ 1000) (hb : bytesOf (P.map Pq.x) ≤ 1048576) : Calls Tryz.prog 41 #[.agg (rsc a b c d e vU v r vK)] w fun e w' => e = .returned (.int .i64 (bytesOf (P.map Pq.x))) ∧ Hid (Below w.heap.size w w') := by
  obtain ⟨A, cc, rfl, _, _, _⟩ := hv.out.form
  have HA := Lib.hid (rl_cells hv.out)
  unfold rsc
  have HX : Hid ((w.alloc (.cells #[.int .i64 a, .int .i64 b, .int .i64 c, .int .i64 d, .int .i64 e, vU, .slice A P.length cc, .int .i64 r, vK] 37)).heap[w.heap.size]? = some (.cells #[.int .i64 a, .int .i64 b, .int .i64 c, .int .i64 d, .int .i64 e, vU, .slice A P.length cc, .int .i64 r, vK] 37 (0, 0))) := heap_alloc_new w _
  have HB : Hid (Below w.heap.size w (w.alloc (.cells #[.int .i64 a, .int .i64 b, .int .i64 c, .int .i64 d, .int .i64 e, vU, .slice A P.length cc, .int .i64 r, vK] 37))) := Me.below_alloc (Below.refl _ _)
  have hs := bytes_sum P
  rw [hs]
  rw [hs] at hb
  obtain ⟨BT, hBT⟩ : ∃ x, (P.map fun q => q.x.p.length).sum = x := ⟨_, rfl⟩
  have HBN : Hid (∀ k, natS (fun q : Pq => q.x.p.length) P k ≤ BT) := fun k => by rw [← hBT]; exact natS_le _ P k
  have HBA : Hid (natS (fun q : Pq => q.x.p.length) P P.length = BT) := by show _ = _; rw [← hBT]; exact natS_all _ P
  rw [hBT] at hb ⊢
  have HB1 := Lib.hid hb
  obtain ⟨N, hN⟩ : ∃ N, P.length = N := ⟨_, rfl⟩
  rw [hN] at HA HBA hL HX HB ⊢
  obtain ⟨W0, hW0⟩ : ∃ W, w.alloc (.cells #[.int .i64 a, .int .i64 b, .int .i64 c, .int .i64 d, .int .i64 e, vU, .slice A N cc, .int .i64 r, vK] 37) = W := ⟨_, rfl⟩
  rw [hW0] at HX HB
  have HW0 := Lib.hid hW0
  clear hW0 hv hN hs hBT hb
  go_enter Tryz.func41, Tryz.ntmps41
  go_wp2
  rw [HW0.out]
  obtain ⟨y0, y1, y2, y3, y4, y5, y6, y7, y8⟩ := rs_cells HX.out
  go_loopw [3, 4] (fun v3 v4 wr => ∃ k : Nat, v4 = .int .i64 (k : Int) ∧ k ≤ N ∧ v3 = .int .i64 ((natS (fun q : Pq => q.x.p.length) P k : Nat) : Int) ∧ W0 = wr) (fun _ v4 _ => N - (intOf v4).toNat)
  case atStart => exact ⟨0, rfl, Nat.zero_le _, by rw [natS_zero]; rfl, rfl⟩
  case round =>
    obtain ⟨k, rfl, hk, rfl, rfl⟩ := hrel
    by_cases hlt : k < N
    · obtain ⟨g, q, rfl, hq, hc⟩ := HA.out k hlt
      obtain ⟨_, _, _, _, q0⟩ := hc W0 HB.out
      have hsu := natS_succ (f := fun q : Pq => q.x.p.length) hq
      have hle := HBN.out (k + 1)
      have hg256 := HB1.out
      rw [hsu] at hle
      unfold Pq.v at q0
      try simp only at hsu hle
      obtain ⟨y, hy⟩ : ∃ y, q.x.p.length = y := ⟨_, rfl⟩
      rw [hy] at q0 hsu hle
      obtain ⟨G0, hG0⟩ : ∃ y, natS (fun q : Pq => q.x.p.length) P k = y := ⟨_, rfl⟩
      rw [hG0] at hsu hle ⊢
      have HSU := Lib.hid hsu
      have g1 : (k : Int) < (N : Int) := by omega
      have g2 : (k : Int) < 1000 := by omega
      have hwr : wrap64 ((G0 : Int) + (y : Int)) = ((G0 + y : Nat) : Int) := by unfold wrap64; omega
      clear hc hq hsu hle hg256 hy hG0
      go_wp2
      go_roundw
      case rel => exact ⟨k + 1, by go_num, by omega, by rw [HSU.out, hwr], trivial⟩
      case measure => simp [intOf]; omega
    · obtain rfl : k = N := by omega
      rw [HBA.out]
      clear HA
      have g1 : ¬ (k : Int) < (k : Int) := by omega
      go_wp2
      go_ret
      exact ⟨rfl, HB.out⟩
theorem idne_b {o d e c o' d' e' c' : Int} (h : ¬ (⟨o, d, e, c⟩ : Mg.Id4) = ⟨o', d', e', c'⟩) : (o == o') = false ∨ ((o == o') = true ∧ (d == d') = false) ∨ ((o == o') = true ∧ (d == d') = true ∧ (e == e') = false) ∨ ((o == o') = true ∧ (d == d') = true ∧ (e == e') = true ∧ (c == c') = false) := by
  rcases idne_cases h with q | ⟨rfl, q⟩ | ⟨rfl, rfl, q⟩ | ⟨rfl, rfl, rfl, q⟩
  · exact .inl q
  · exact .inr (.inl ⟨by simp, q⟩)
  · exact .inr (.inr (.inl ⟨by simp, by simp, q⟩))
  · exact .inr (.inr (.inr ⟨by simp, by simp, by simp, q⟩))
theorem without_take {P : List Pq} {i : Mg.Id4} {j : Nat} {q : Pq} (h : P[j]? = some q) : (P.take (j + 1)).filter (fun z => decide (z.x.i ≠ i)) = if q.x.i = i then (P.take j).filter (fun z => decide (z.x.i ≠ i)) else (P.take j).filter (fun z => decide (z.x.i ≠ i)) ++ [q] := by
  rw [List.take_add_one, h, List.filter_append]
  by_cases e : q.x.i = i
  · rw [if_pos e]; simp [e]
  · rw [if_neg e]; simp [e]
theorem without_map (P : List Pq) (i : Mg.Id4) : (P.filter (fun z => decide (z.x.i ≠ i))).map Pq.x = without (P.map Pq.x) i := by
  unfold without
  induction P with
  | nil => rfl
  | cons x r ih =>
    simp only [List.map_cons, List.filter_cons]
    by_cases e : x.x.i = i
    · simp [e]; simpa using ih
    · simp [e]; simpa using ih
set_option maxRecDepth 100000 in
set_option maxHeartbeats 16000000 in
theorem Rwithout_any (Q : Nat → Prop) (v : Value) (P : List Pq) (i : Mg.Id4) (w : World) (hv : Hid (Rl Q w 0 v P)) (hL : P.length ≤ 1000) : Calls Tryz.prog 32 #[v, .agg (Mg.idC i)] w fun e w' => ∃ v', e = .returned v' ∧ Hid (Rl Q w' w.heap.size v' (P.filter fun z => decide (z.x.i ≠ i))) ∧ Hid (Below w.heap.size w w') := by
  obtain ⟨A, c, rfl, _, _, _⟩ := hv.out.form
  have HA := Lib.hid (rl_cells hv.out)
  have HEa : Hid (∀ j (q : Pq), P[j]? = some q → ∀ W, Below w.heap.size w W → Me.Own W 0 q.v q.x.p ∧ ∀ k, q.v.ownBlock = some k → Q k) := fun j q hq W hW => by
    obtain ⟨e1, e2⟩ := hv.out.each q (List.mem_of_getElem? hq)
    exact ⟨own_same e1 fun k _ hk => hW.block k hk, e2⟩
  have HX : Hid ((w.alloc (.cells (Mg.idC i) 43)).heap[w.heap.size]? = some (.cells (Mg.idC i) 43 (0, 0))) := heap_alloc_new w _
  have HB : Hid (Below w.heap.size w (w.alloc (.cells (Mg.idC i) 43))) := Me.below_alloc (Below.refl _ _)
  have HT : Hid (∀ j (q : Pq), P[j]? = some q → (P.take (j + 1)).filter (fun z => decide (z.x.i ≠ i)) = if q.x.i = i then (P.take j).filter (fun z => decide (z.x.i ≠ i)) else (P.take j).filter (fun z => decide (z.x.i ≠ i)) ++ [q]) := fun j q h => without_take h
  have HAll : Hid (P.take P.length = P) := List.take_length
  obtain ⟨F, hF⟩ : ∃ F : List Pq → List Pq, F = fun l => l.filter fun z => decide (z.x.i ≠ i) := ⟨_, rfl⟩
  have hFl : ∀ l, (F l).length ≤ l.length := fun l => by rw [hF]; exact List.length_filter_le _ _
  have hF0 : F [] = [] := by rw [hF]; rfl
  have HT2 : Hid (∀ j (q : Pq), P[j]? = some q → F (P.take (j + 1)) = if q.x.i = i then F (P.take j) else F (P.take j) ++ [q]) := by rw [hF]; exact HT
  have hFP : (P.filter fun z => decide (z.x.i ≠ i)) = F P := by rw [hF]
  rw [hFP]
  have HFl := Lib.hid hFl
  have HF0 := Lib.hid hF0
  obtain ⟨N, hN⟩ : ∃ N, P.length = N := ⟨_, rfl⟩
  rw [hN] at HA HAll hL ⊢
  have HN := Lib.hid hN
  obtain ⟨o, d, ee, cc⟩ := i
  simp only [Mg.idC] at HX HB ⊢
  clear hv hN HT hF hFl hF0 hFP
  obtain ⟨W0, hW0⟩ : ∃ W, w.alloc (.cells #[.int .i64 o, .int .i64 d, .int .i64 ee, .int .i64 cc] 43) = W := ⟨_, rfl⟩
  rw [hW0] at HX HB
  have HW0 := Lib.hid hW0
  clear hW0
  go_enter Tryz.func32, Tryz.ntmps32
  go_wp2
  rw [HW0.out]
  have hz0 : W0.heap.size = w.heap.size + 1 := by rw [← HW0.out, World.size_alloc]
  have hR0 : Rl Q (W0.alloc (.cells #[] 46)) w.heap.size (.slice (some ⟨w.heap.size + 1, 0, none⟩) 0 0) [] := by rw [← hz0]; exact Rl.lit HB.out.size
  have hB0 : Below W0.heap.size W0 (W0.alloc (.cells #[] 46)) := Me.below_alloc (Below.refl _ _)
  obtain ⟨W1, hW1⟩ : ∃ W, W0.alloc (.cells #[] 46) = W := ⟨_, rfl⟩
  rw [hW1] at hR0 hB0 ⊢
  have HR0 := Lib.hid hR0
  have HB0 := Lib.hid hB0
  have HBw := Lib.hid (go_on HB.out hB0)
  have HX1 : Hid (W1.heap[w.heap.size]? = some (.cells #[.int .i64 o, .int .i64 d, .int .i64 ee, .int .i64 cc] 43 (0, 0))) := (hB0.block _ (Array.getElem?_eq_some_iff.1 HX.out).1).trans HX.out
  have HIx : Hid (∀ k, (Value.slice (some ⟨w.heap.size + 1, 0, none⟩) 0 0).ownBlock = some k → k ≠ w.heap.size) := fun k e => by
    have e' : w.heap.size + 1 = k := by simpa [Value.ownBlock] using e
    omega
  clear hz0 hR0 hB0 hW1
  go_loopw [5, 6] (fun v5 v6 wr => ∃ j : Nat, v6 = .int .i64 (j : Int) ∧ j ≤ N ∧ Hid (Rl Q wr w.heap.size v5 (F (P.take j))) ∧ Hid (wr.heap[w.heap.size]? = some (.cells #[.int .i64 o, .int .i64 d, .int .i64 ee, .int .i64 cc] 43 (0, 0))) ∧ Hid (Below w.heap.size w wr)) (fun _ v6 _ => N - (intOf v6).toNat)
  case atStart => exact ⟨0, rfl, Nat.zero_le _, (by show Rl _ _ _ _ _; rw [List.take_zero, HF0.out]; exact HR0), HX1, HBw⟩
  case round =>
    obtain ⟨j, rfl, hj, HR, HXr, HBr⟩ := hrel
    obtain ⟨y0, y1, y2, y3⟩ := id_cells HXr.out
    by_cases hlt : j < N
    · obtain ⟨g, q, rfl, hq, hc⟩ := HA.out j hlt
      obtain ⟨z0, z1, z2, z3, z4⟩ := hc wr HBr.out
      have hEa := HEa.out j q hq
      have HTq := Lib.hid (HT2.out j q hq)
      have g1 : (j : Int) < (N : Int) := by omega
      have g2 : (j : Int) < 1000 := by omega
      have HC := Lib.hid hc
      have HEq := Lib.hid hEa
      clear hc hq hEa
      by_cases he : q.x.i = ⟨o, d, ee, cc⟩
      · have HFe : Hid (F (P.take (j + 1)) = F (P.take j)) := by show _ = _; rw [HTq.out, if_pos he]
        rw [he] at z0 z1 z2 z3
        simp only at z0 z1 z2 z3
        clear he z4
        go_wp2
        go_quiet (fail)
        go_wp2
        go_roundw
        case rel => exact ⟨j + 1, by go_num, by omega, (by show Rl _ _ _ _ _; rw [HFe.out]; exact HR.out.below (Me.below_drewN (Below.refl _ _) _)), HXr.out, Me.below_drewN HBr.out _⟩
        case measure => simp [intOf]; omega
      · have HFe : Hid (F (P.take (j + 1)) = F (P.take j) ++ [q]) := by show _ = _; rw [HTq.out, if_neg he]
        have hlen : (F (P.take j)).length ≤ 100000 := by
          have h1 := HFl.out (P.take j)
          rw [List.length_take] at h1
          omega
        have HLe := Lib.hid hlen
        obtain ⟨⟨xo, xd, xe, xc⟩, hxi⟩ : ∃ x, q.x.i = x := ⟨_, rfl⟩
        obtain ⟨qa, hqa⟩ : ∃ x, q.A = x := ⟨_, rfl⟩
        obtain ⟨qn, hqn⟩ : ∃ x, q.x.p.length = x := ⟨_, rfl⟩
        obtain ⟨qc, hqc⟩ : ∃ x, q.c = x := ⟨_, rfl⟩
        have hqv : q.v = .slice qa qn qc := by unfold Pq.v; rw [hqa, hqn, hqc]
        have HQv : Hid (qV q = [.int .i64 xo, .int .i64 xd, .int .i64 xe, .int .i64 xc, .slice qa qn qc]) := by show _ = _; unfold qV; rw [hxi, hqv]
        rw [hxi, hqv] at HC
        rw [hxi] at z0 z1 z2 z3 he
        simp only at HC z0 z1 z2 z3
        clear hlen z4 hxi hqa hqn hqc hqv
        rcases idne_b he with g3 | ⟨g3, g4⟩ | ⟨g3, g4, g5⟩ | ⟨g3, g4, g5, g6⟩
        all_goals
          clear he
          go_wp2
          go_quiet (fail)
          have hbx : Below wr.heap.size wr (wr.drewN nq) := Me.below_drewN (Below.refl _ _) nq
          obtain ⟨wx, hwx⟩ : ∃ x, wr.drewN nq = x := ⟨_, rfl⟩
          rw [hwx] at hbx ⊢
          have hBx := go_on HBr.out hbx
          have HXx := Lib.hid ((hbx.block _ (Array.getElem?_eq_some_iff.1 HXr.out).1).trans HXr.out)
          obtain ⟨u0, u1, u2, u3, u4⟩ := HC.out wx hBx
          have Rx := Lib.hid (HR.out.below hbx)
          have BX := Lib.hid hBx
          have hEa := HEq.out wx hBx
          have HEa2 : Hid (∀ o, Me.Own (wx.alloc o) 0 q.v q.x.p ∧ ∀ k, q.v.ownBlock = some k → Q k) := fun o => ⟨own_same hEa.1 fun k _ hk => (Me.below_alloc (o := o) (Below.refl wx.heap.size wx)).block k hk, hEa.2⟩
          obtain ⟨V6, hV6⟩ : ∃ x, wx.alloc (.cells #[.int .i64 xo, .int .i64 xd, .int .i64 xe, .int .i64 xc, .slice qa qn qc] 46) = x := ⟨_, rfl⟩
          have hb6 : Below wx.heap.size wx V6 := by rw [← hV6]; exact Me.below_alloc (Below.refl _ _)
          have hx6 : V6.heap[wx.heap.size]? = some (.cells #[.int .i64 xo, .int .i64 xd, .int .i64 xe, .int .i64 xc, .slice qa qn qc] 46 (0, 0)) := by rw [← hV6]; exact heap_alloc_new wx _
          have HZ6 : Hid (∀ i u, (qV q)[i]? = some u → V6.cell? ⟨wx.heap.size, i, none⟩ = some u) := fun i u hu => by
            rw [HQv.out] at hu
            rw [cell_of_row V6 wx.heap.size i _ _ (0, 0) hx6]
            simpa using hu
          have R6 := Lib.hid (Rx.out.below hb6)
          have B6 := Lib.hid (go_on BX.out hb6)
          have X6 := Lib.hid ((hb6.block _ (Array.getElem?_eq_some_iff.1 HXx.out).1).trans HXx.out)
          have E6 := HEa2.out (.cells #[.int .i64 xo, .int .i64 xd, .int .i64 xe, .int .i64 xc, .slice qa qn qc] 46)
          rw [hV6] at E6
          have HE6 := Lib.hid E6
          have HV6 := Lib.hid hV6
          clear hV6 hb6 hx6 E6 hwx hbx hBx hEa z0 z1 z2 z3 y0 y1 y2 y3 HC
          go_wp2_with (rw [HV6.out]; refine wpList_plain rfl fun _ hK => ?_; refine appRl (.tmp 21) (.tmp 26) rfl w.heap.size u5 (F (P.take j)) q wx.heap.size rfl R6.out HE6.out rfl HZ6.out HLe.out B6.out.size ?_; intro v' w7 ho7 hg7 hlt7; refine hK _ _ ?_; have HO7 := Lib.hid ho7; have HB7 : Hid (Below w.heap.size w w7) := (B6.out.trans (((But.refl (fun k => u5.ownBlock = some k) V6).grown hg7 fun r e => .inl e).below B6.out.size hlt7)); have HX7 := Lib.hid ((hg7.block _ (Array.getElem?_eq_some_iff.1 X6.out).1 (own_ne_tyH R6.out.own X6.out (by decide))).trans X6.out); clear ho7 hg7 hlt7)
          go_roundw
          case rel => exact ⟨j + 1, by go_num, by omega, (by show Rl _ _ _ _ _; rw [HFe.out]; exact HO7), HX7, HB7⟩
          case measure => simp [intOf]; omega
    · obtain rfl : j = N := by omega
      have HFN : Hid (F (P.take j) = F P) := by show _ = _; rw [HAll.out]
      rw [HFN.out] at HR
      have g1 : ¬ (j : Int) < (j : Int) := by omega
      go_wp2
      go_ret
      exact ⟨_, rfl, HR, HBr⟩
end Go.Proofs.YtfnlhfelpdkieaaGreat.So
/- What the document asks of a state that came in: Last, Has, Bytes. -/
namespace Go.Proofs.YtfnlhfelpdkieaaGreat.So
open Go.RowKit Go.Deep
open Go.Proofs.YtfnlhfelpdkieaaGreat.Me Go.Proofs.YtfnlhfelpdkieaaGreat.Sb
set_option linter.unusedVariables false
set_option linter.unusedSimpArgs false

theorem nq_cells {w : World} {A : Option Addr} {U : Ns} (h : Nq w A U) : ∀ j, j < U.length → ∃ (g off : Nat) (a b : Int), A = some ⟨g, off, none⟩ ∧ U[j]? = some (a, b) ∧ ∀ W, Below w.heap.size w W → W.cell? ⟨g, off + j * 2, none⟩ = some (.int .i64 a) ∧ W.cell? ⟨g, off + j * 2 + 1, none⟩ = some (.int .i64 b) := fun j hj => by
  have hx : U[j]? = some (U[j]'hj) := List.getElem?_eq_getElem hj
  obtain ⟨g, off, e1, e2, c0, c1⟩ := h j _ hx
  exact ⟨g, off, _, _, e1, hx, fun W hW => ⟨(hW.cell (p := ⟨g, off + j * 2, none⟩) e2).trans c0, (hW.cell (p := ⟨g, off + j * 2 + 1, none⟩) e2).trans c1⟩⟩
theorem mq_cells {w : World} {A : Option Addr} {P : List It} (h : Mq w A P) : ∀ j, j < P.length → ∃ (g off : Nat) (q : It), A = some ⟨g, off, none⟩ ∧ P[j]? = some q ∧ ∀ W, Below w.heap.size w W → W.cell? ⟨g, off + j * 5, none⟩ = some (.int .i64 q.i.o) ∧ W.cell? ⟨g, off + j * 5 + 1, none⟩ = some (.int .i64 q.i.d) ∧ W.cell? ⟨g, off + j * 5 + 2, none⟩ = some (.int .i64 q.i.e) ∧ W.cell? ⟨g, off + j * 5 + 3, none⟩ = some (.int .i64 q.i.c) ∧ True := fun j hj => by
  have hx : P[j]? = some (P[j]'hj) := List.getElem?_eq_getElem hj
  obtain ⟨g, off, R, cr, e1, e2, ⟨c0, c1, c2, c3, c4⟩, _⟩ := h j _ hx
  exact ⟨g, off, _, e1, hx, fun W hW => ⟨(hW.cell (p := ⟨g, off + j * 5, none⟩) e2).trans c0, (hW.cell (p := ⟨g, off + j * 5 + 1, none⟩) e2).trans c1, (hW.cell (p := ⟨g, off + j * 5 + 2, none⟩) e2).trans c2, (hW.cell (p := ⟨g, off + j * 5 + 3, none⟩) e2).trans c3, trivial⟩⟩
theorem has_takeQ {P : List It} {i : Mg.Id4} {j : Nat} (h : ∀ (k : Nat) (q : It), k < j → P[k]? = some q → q.i ≠ i) (hj : P.length ≤ j) : hasH P i = false := by
  have hn : findH P i = none := by
    rw [findH_none]
    intro hm
    obtain ⟨q, hq, e⟩ := List.mem_map.1 hm
    obtain ⟨k, hk⟩ := List.getElem?_of_mem hq
    have hl := (List.getElem?_eq_some_iff.1 hk).1
    exact h k q (by omega) hk e
  unfold hasH
  rw [hn]; rfl
theorem has_atQ {P : List It} {i : Mg.Id4} {j : Nat} {q : It} (h : P[j]? = some q) (e : q.i = i) : hasH P i = true := by
  rw [hasH_iff]
  exact List.mem_map.2 ⟨q, List.mem_of_getElem? h, e⟩
set_option maxRecDepth 100000 in
set_option maxHeartbeats 16000000 in
theorem RLastQ_any (a b c d e r : Int) (A : Option Addr) (cc : Nat) (vL vK : Value) (U : Ns) (x : Int) (w : World) (hv : Hid (Nq w A U)) (hL : U.length ≤ 100000000000000) : Calls Tryz.prog 30 #[.agg (rsc a b c d e (.slice A U.length cc) vL r vK), .int .i64 x] w fun e w' => e = .returned (.int .i64 (lastU U x)) ∧ Hid (Below w.heap.size w w') := by
  have HA := Lib.hid (nq_cells hv.out)
  unfold rsc
  obtain ⟨lu, hlu⟩ : ∃ l, lastU U x = l := ⟨_, rfl⟩
  have HYes : Hid (∀ j (p : Int × Int), (∀ (k : Nat) (q : Int × Int), k < j → U[k]? = some q → q.1 ≠ x) → U[j]? = some p → p.1 = x → p.2 = lu) := fun j p h hj hp => by rw [← hlu]; exact (lastU_at h hj hp).symm
  have HNo : Hid (∀ j, U.length ≤ j → (∀ (k : Nat) (q : Int × Int), k < j → U[k]? = some q → q.1 ≠ x) → lu = 0) := fun j hj h => by
    rw [← hlu]
    exact lastU_none fun p hp => by
      obtain ⟨k, hk⟩ := List.getElem?_of_mem hp
      have hl := (List.getElem?_eq_some_iff.1 hk).1
      exact h k p (by omega) hk
  rw [hlu]
  obtain ⟨N, hN⟩ : ∃ N, U.length = N := ⟨_, rfl⟩
  rw [hN] at HA HNo hL ⊢
  obtain ⟨W0, hW0⟩ : ∃ W, w.alloc (.cells #[.int .i64 a, .int .i64 b, .int .i64 c, .int .i64 d, .int .i64 e, .slice A N cc, vL, .int .i64 r, vK] 37) = W := ⟨_, rfl⟩
  have hX : W0.heap[w.heap.size]? = some (.cells #[.int .i64 a, .int .i64 b, .int .i64 c, .int .i64 d, .int .i64 e, .slice A N cc, vL, .int .i64 r, vK] 37 (0, 0)) := by rw [← hW0]; exact heap_alloc_new w _
  have HB : Hid (Below w.heap.size w W0) := by rw [← hW0]; exact Me.below_alloc (Below.refl _ _)
  have HW0 := Lib.hid hW0
  clear hW0 hv hN hlu
  obtain ⟨y0, y1, y2, y3, y4, y5, y6, y7, y8⟩ := rs_cells hX
  clear hX
  go_enter Tryz.func30, Tryz.ntmps30
  go_wp2
  rw [HW0.out]
  go_loopw [5] (fun v5 wr => ∃ j : Nat, v5 = .int .i64 (j : Int) ∧ j ≤ N ∧ Hid (∀ (k : Nat) (q : Int × Int), k < j → U[k]? = some q → q.1 ≠ x) ∧ W0 = wr) (fun v5 _ => N - (intOf v5).toNat)
  case atStart => exact ⟨0, rfl, Nat.zero_le _, fun k q hk => absurd hk (by omega), rfl⟩
  case round =>
    obtain ⟨j, rfl, hj, HNe, rfl⟩ := hrel
    by_cases hlt : j < N
    · obtain ⟨g, off, p1, p2, rfl, hq, hc⟩ := HA.out j hlt
      obtain ⟨z0, z1⟩ := hc W0 HB.out
      have g1 : (j : Int) < (N : Int) := by omega
      have g2 : (j : Int) ≤ 9223372036854775806 := by omega
      by_cases he : p1 = x
      · have hBt := HYes.out j (p1, p2) HNe.out hq he
        simp only at hBt
        subst hBt he
        clear hc hq
        go_wp2
        go_ret
        exact ⟨rfl, HB.out⟩
      · have HN2 : Hid (∀ (k : Nat) (q : Int × Int), k < j + 1 → U[k]? = some q → q.1 ≠ x) := fun k q' hk hq' => by
          by_cases h : k = j
          · subst h
            rw [hq] at hq'
            cases hq'
            exact he
          · exact HNe.out k q' (by omega) hq'
        have g3 : (p1 == x) = false := by simpa using he
        clear he hc hq
        go_wp2
        go_roundw
        case rel => exact ⟨j + 1, by go_num, by omega, HN2, trivial⟩
        case measure => simp [intOf]; omega
    · have hBf := HNo.out j (by omega) HNe.out
      subst hBf
      have g1 : ¬ (j : Int) < (N : Int) := by omega
      go_wp2
      go_ret
      exact ⟨rfl, HB.out⟩
set_option maxRecDepth 100000 in
set_option maxHeartbeats 16000000 in
theorem RHasQ_any (A : Option Addr) (c : Nat) (P : List It) (i : Mg.Id4) (w : World) (hv : Hid (Mq w A P)) (hL : P.length ≤ 10000000000000) : Calls Tryz.prog 63 #[.slice A P.length c, .agg (Mg.idC i)] w fun e w' => e = .returned (.bool (hasH P i)) ∧ Hid (Below w.heap.size w w') := by
  have HA := Lib.hid (mq_cells hv.out)
  have HX : Hid ((w.alloc (.cells (Mg.idC i) 43)).heap[w.heap.size]? = some (.cells (Mg.idC i) 43 (0, 0))) := heap_alloc_new w _
  have HB : Hid (Below w.heap.size w (w.alloc (.cells (Mg.idC i) 43))) := Me.below_alloc (Below.refl _ _)
  obtain ⟨B, hB⟩ : ∃ b, hasH P i = b := ⟨_, rfl⟩
  have HYes : Hid (∀ (j : Nat) (q : It), P[j]? = some q → q.i = i → B = true) := fun j q h e => by rw [← hB]; exact has_atQ h e
  have HNo : Hid (∀ j, P.length ≤ j → (∀ (k : Nat) (q : It), k < j → P[k]? = some q → q.i ≠ i) → B = false) := fun j hj h => by rw [← hB]; exact has_takeQ h hj
  rw [hB]
  obtain ⟨N, hN⟩ : ∃ N, P.length = N := ⟨_, rfl⟩
  rw [hN] at HA HNo hL ⊢
  obtain ⟨o, d, ee, cc⟩ := i
  simp only [Mg.idC] at HX HB ⊢
  clear hv hB hN
  obtain ⟨W0, hW0⟩ : ∃ W, w.alloc (.cells #[.int .i64 o, .int .i64 d, .int .i64 ee, .int .i64 cc] 43) = W := ⟨_, rfl⟩
  rw [hW0] at HX HB
  have HW0 := Lib.hid hW0
  clear hW0
  go_enter Tryz.func63, Tryz.ntmps63
  go_wp2
  rw [HW0.out]
  go_loopw [5] (fun v5 wr => ∃ j : Nat, v5 = .int .i64 (j : Int) ∧ j ≤ N ∧ Hid (∀ (k : Nat) (q : It), k < j → P[k]? = some q → q.i ≠ ⟨o, d, ee, cc⟩) ∧ Hid (Below W0.heap.size W0 wr)) (fun v5 _ => N - (intOf v5).toNat)
  case atStart => exact ⟨0, rfl, Nat.zero_le _, fun k q hk => absurd hk (by omega), Below.refl _ _⟩
  case round =>
    obtain ⟨j, rfl, hj, HNe, HBr⟩ := hrel
    obtain ⟨y0, y1, y2, y3⟩ := id_cells ((HBr.out.block _ (Array.getElem?_eq_some_iff.1 HX.out).1).trans HX.out)
    by_cases hlt : j < N
    · obtain ⟨g, off, q, rfl, hq, hc⟩ := HA.out j hlt
      obtain ⟨z0, z1, z2, z3, _⟩ := hc wr (go_on HB.out HBr.out)
      have g1 : (j : Int) < (N : Int) := by omega
      have g2 : (j : Int) ≤ 9223372036854775806 := by omega
      have HQ := Lib.hid hq
      clear hc hq
      by_cases he : q.i = ⟨o, d, ee, cc⟩
      · have hBt := HYes.out j q HQ.out he
        rw [he] at z0 z1 z2 z3
        simp only at z0 z1 z2 z3
        subst hBt
        clear he
        go_wp2
        go_quiet (fail)
        go_wp2
        go_ret
        exact ⟨rfl, HB.out.trans ((Me.below_drewN HBr.out _).mono HB.out.size)⟩
      · have HN2 : Hid (∀ (k : Nat) (q : It), k < j + 1 → P[k]? = some q → q.i ≠ ⟨o, d, ee, cc⟩) := fun k q' hk hq' => by
          by_cases h : k = j
          · subst h
            rw [HQ.out] at hq'
            cases hq'
            exact he
          · exact HNe.out k q' (by omega) hq'
        obtain ⟨⟨xo, xd, xe, xc⟩, hx⟩ : ∃ x, q.i = x := ⟨_, rfl⟩
        rw [hx] at z0 z1 z2 z3 he
        simp only at z0 z1 z2 z3
        clear hx
        rcases idne_cases he with g3 | ⟨rfl, g3⟩ | ⟨rfl, rfl, g3⟩ | ⟨rfl, rfl, rfl, g3⟩
        all_goals
          clear he
          go_wp2
          go_quiet (fail)
          go_wp2
          go_roundw
          case rel => exact ⟨j + 1, by go_num, by omega, HN2, Me.below_drewN HBr.out _⟩
          case measure => simp [intOf]; omega
    · have hBf := HNo.out j (by omega) HNe.out
      subst hBf
      have g1 : ¬ (j : Int) < (N : Int) := by omega
      go_wp2
      go_ret
      exact ⟨rfl, HB.out.trans (HBr.out.mono HB.out.size)⟩
set_option maxRecDepth 100000 in
set_option maxHeartbeats 4000000 in
theorem RBytesQ_any (a b cA d e r : Int) (vU vK : Value) (A : Option Addr) (c : Nat) (H : List It) (w : World) (hr : Hid (Mq w A H)) (h48 : Hid (∀ x ∈ H, x.p.length ≤ 48)) (hN : H.length ≤ 256) : Calls Tryz.prog 41 #[.agg (rsc a b cA d e vU (.slice A H.length c) r vK)] w fun e w' => e = .returned (.int .i64 (bytesOf H)) ∧ Hid (Below w.heap.size w w') := by
  have HLe : Hid (∀ j, bytesOf (H.take j) ≤ 20000 ∧ 0 ≤ bytesOf (H.take j)) := fun j => by
    have h1 := bytesOf_le (H := H.take j) fun x hx => h48.out x (List.mem_of_mem_take hx)
    have h2 : (H.take j).length ≤ H.length := by rw [List.length_take]; omega
    have h3 := bytesOf_nonneg (H.take j)
    omega
  obtain ⟨L, hL⟩ : ∃ L, H.length = L := ⟨_, rfl⟩
  have HL := Lib.hid hL
  rw [hL] at hN ⊢
  clear hL
  unfold rsc
  obtain ⟨W0, hW0⟩ : ∃ W, w.alloc (.cells #[.int .i64 a, .int .i64 b, .int .i64 cA, .int .i64 d, .int .i64 e, vU, .slice A L c, .int .i64 r, vK] 37) = W := ⟨_, rfl⟩
  have hX : W0.heap[w.heap.size]? = some (.cells #[.int .i64 a, .int .i64 b, .int .i64 cA, .int .i64 d, .int .i64 e, vU, .slice A L c, .int .i64 r, vK] 37 (0, 0)) := by rw [← hW0]; exact heap_alloc_new w _
  have HB : Hid (Below w.heap.size w W0) := by rw [← hW0]; exact Me.below_alloc (Below.refl _ _)
  have HW0 := Lib.hid hW0
  obtain ⟨y0, y1, y2, y3, y4, y5, y6, y7, y8⟩ := rs_cells hX
  clear hW0 hX
  go_enter Tryz.func41, Tryz.ntmps41
  go_wp2
  rw [HW0.out]
  go_loopw [3, 4] (fun v3 v4 wr => ∃ i : Nat, i ≤ L ∧ v4 = .int .i64 i ∧ v3 = .int .i64 (bytesOf (H.take i)) ∧ W0 = wr) (fun _ k _ => L - (intOf k).toNat)
  case atStart => exact ⟨0, Nat.zero_le _, rfl, rfl, rfl⟩
  case round =>
    obtain ⟨i, hi, rfl, rfl, rfl⟩ := hrel
    by_cases hlt : i < L
    · obtain ⟨x, hx⟩ : ∃ x, H[i]? = some x := ⟨_, List.getElem?_eq_getElem (by have := HL.out; omega)⟩
      obtain ⟨g, off, R, cr, rfl, hg, ⟨c0, c1, c2, c3, c4⟩, _⟩ := hr.out i x hx
      have z0 := (HB.out.cell (p := ⟨g, off + i * 5, none⟩) hg).trans c0
      have z1 := (HB.out.cell (p := ⟨g, off + i * 5 + 1, none⟩) hg).trans c1
      have z2 := (HB.out.cell (p := ⟨g, off + i * 5 + 2, none⟩) hg).trans c2
      have z3 := (HB.out.cell (p := ⟨g, off + i * 5 + 3, none⟩) hg).trans c3
      have z4 := (HB.out.cell (p := ⟨g, off + i * 5 + 4, none⟩) hg).trans c4
      have ht : H.take (i + 1) = H.take i ++ [x] := by rw [List.take_add_one, hx]; rfl
      obtain ⟨n, hn⟩ : ∃ n, x.p.length = n := ⟨_, rfl⟩
      have hn48 : n ≤ 48 := by rw [← hn]; exact h48.out x (List.mem_of_getElem? hx)
      have HS : Hid (bytesOf (H.take (i + 1)) = bytesOf (H.take i) + (n : Int)) := by
        show _ = _
        rw [ht, bytesOf_app]
        simp [bytesOf, hn]
      rw [hn] at z4
      obtain ⟨h1, h2⟩ := HLe.out i
      obtain ⟨S, hS⟩ : ∃ S, bytesOf (H.take i) = S := ⟨_, rfl⟩
      rw [hS] at HS h1 h2 ⊢
      have g1 : (i : Int) < (L : Int) := by omega
      have g2 : ¬ ((L : Int) ≤ (i : Int)) := by omega
      have g3 : (i : Int) < 1000 := by omega
      clear c0 c1 c2 c3 c4 hg ht hx hn hS
      go_wp2
      go_roundw
      case rel => exact ⟨i + 1, by omega, by go_num, by rw [HS.out], trivial⟩
      case measure => simp [intOf]; omega
    · obtain rfl : i = L := by omega
      have hall : H.take i = H := List.take_of_length_le (by have := HL.out; omega)
      have g1 : ¬ (i : Int) < (i : Int) := by omega
      rw [hall]
      clear hall
      go_wp2
      go_ret
      exact ⟨rfl, HB⟩
end Go.Proofs.YtfnlhfelpdkieaaGreat.So
