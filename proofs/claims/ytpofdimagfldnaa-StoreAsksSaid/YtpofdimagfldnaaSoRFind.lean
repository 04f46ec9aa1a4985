/- The document's Find, of a store. -/
import Derived.Test.YtpofdimagfldnaaZ30
namespace Go.Proofs.Ytpofdimagfldnaa.So
open Go.RowKit Go.Deep
open Go.Proofs.Ytpofdimagfldnaa.Me Go.Proofs.Ytpofdimagfldnaa.Sb
set_option linter.unusedVariables false
set_option linter.unusedSimpArgs false

theorem find_at {P : List Pq} {i : Mg.Id4} : ∀ {j : Nat} {q : Pq}, (∀ (k : Nat) (q : Pq), k < j → P[k]? = some q → q.x.i ≠ i) → P[j]? = some q → q.x.i = i → findH (P.map Pq.x) i = some q.x.p := by
  induction P with
  | nil => intro j q _ h; simp at h
  | cons x r ih =>
    intro j q hn h hq
    show findH (x.x :: r.map Pq.x) i = _
    unfold findH
    cases j with
    | zero =>
      obtain rfl : x = q := by simpa using h
      rw [if_pos hq]
    | succ j =>
      rw [if_neg (hn 0 x (by omega) (by simp))]
      exact ih (j := j) (q := q) (fun k q' hk hq' => hn (k + 1) q' (Nat.succ_lt_succ hk) (by simpa using hq')) (by simpa using h) hq
theorem find_no {P : List Pq} {i : Mg.Id4} {j : Nat} (h : ∀ (k : Nat) (q : Pq), k < j → P[k]? = some q → q.x.i ≠ i) (hj : P.length ≤ j) : findH (P.map Pq.x) i = none := by
  rw [findH_none]
  intro hm
  rw [List.map_map] at hm
  obtain ⟨q, hq, e⟩ := List.mem_map.1 hm
  obtain ⟨k, hk⟩ := List.getElem?_of_mem hq
  have := (List.getElem?_eq_some_iff.1 hk).1
  exact h k q (by omega) hk e
/-- What holds over Find: the world below, the copies of what was given. -/
structure An (w : World) (C I : Array Value) (W : World) : Prop where
  below : Below w.heap.size w W
  st : W.heap[w.heap.size]? = some (.cells C 36 (0, 0))
  id : W.heap[w.heap.size + 1]? = some (.cells I 28 (0, 0))
  res : W.heap[w.heap.size + 1 + 1]? = some (.cells #[.int .i64 0, .int .i64 0, .int .i64 0, .int .i64 0, .slice none 0 0] 46 (0, 0))
theorem An.go {w : World} {C I : Array Value} {W W' : World} (h : An w C I W) (hb : Below W.heap.size W W') : An w C I W' :=
  ⟨go_on h.below hb, (hb.block _ (Array.getElem?_eq_some_iff.1 h.st).1).trans h.st, (hb.block _ (Array.getElem?_eq_some_iff.1 h.id).1).trans h.id, (hb.block _ (Array.getElem?_eq_some_iff.1 h.res).1).trans h.res⟩
theorem An.start (w : World) (C I : Array Value) : ∃ W3, ((w.alloc (.cells C 36)).alloc (.cells I 28)).alloc (.cells #[.int .i64 0, .int .i64 0, .int .i64 0, .int .i64 0, .slice none 0 0] 46) = W3 ∧ An w C I W3 := by
  obtain ⟨hB, hY, hX⟩ := two_new w C I 36 28
  obtain ⟨W2, hW2⟩ : ∃ W, (w.alloc (.cells C 36)).alloc (.cells I 28) = W := ⟨_, rfl⟩
  have z2 : W2.heap.size = w.heap.size + 1 + 1 := by rw [← hW2]; simp
  rw [hW2] at hB hY hX
  rw [hW2]
  have hb : Below W2.heap.size W2 (W2.alloc (.cells #[.int .i64 0, .int .i64 0, .int .i64 0, .int .i64 0, .slice none 0 0] 46)) := Me.below_alloc (Below.refl _ _)
  refine ⟨_, rfl, ⟨go_on hB hb, (hb.block _ (Array.getElem?_eq_some_iff.1 hX).1).trans hX, (hb.block _ (Array.getElem?_eq_some_iff.1 hY).1).trans hY, ?_⟩⟩
  rw [← z2]
  exact heap_alloc_new W2 _
theorem An.drewN {w : World} {C I : Array Value} {W : World} (h : An w C I W) (n : Nat) : An w C I (W.drewN n) := h.go (Me.below_drewN (Below.refl _ _) n)
theorem An.end {w : World} {C I : Array Value} {W : World} (h : An w C I W) (cs : Array Value) : Below w.heap.size w (W.setRow (w.heap.size + 1 + 1) cs) := Sb.below_setRow _ h.below (by omega)
theorem msg_one5' (o d e c : Int) (A : Option Addr) (n k : Nat) : (#[.int .i64 o, .int .i64 d, .int .i64 e, .int .i64 c, .slice A n k] : Array Value).all (·.oneCell') = true := by simp [Value.oneCell']
def RfndP (w : World) (held : List It) (i : Mg.Id4) (e : Ending) (w' : World) : Prop :=
  Hid (Below w.heap.size w w') ∧ ((findH held i = none ∧ e = .returned (.tuple #[.agg (Mg.msgC zeroI none 0 0), .bool false])) ∨ ∃ q : Pq, findH held i = some q.x.p ∧ e = .returned (.tuple #[.agg (Mg.msgC i q.A q.x.p.length q.c), .bool true]) ∧ Hid (Me.Own w' 0 q.v q.x.p))
set_option maxRecDepth 100000 in
set_option maxHeartbeats 16000000 in
theorem rfind_any (Q : Nat → Prop) (me qh qb qg ep : Int) (o d ee cc : Int) (vU vL vK : Value) (P : List Pq) (w : World) (hv : Hid (Rl (fun k => Q k ∧ k < w.heap.size) w 0 vL P)) (hL : P.length ≤ 256) : Calls Try.prog 13 #[.agg #[.int .i64 me, .int .i64 qh, .int .i64 qb, .int .i64 qg, .int .i64 ep, vU, vL, .int .i64 qg, vK], .agg #[.int .i64 o, .int .i64 d, .int .i64 ee, .int .i64 cc]] w (RfndP w (P.map Pq.x) ⟨o, d, ee, cc⟩) := by
  obtain ⟨A, c, rfl, _, _, _⟩ := hv.out.form
  have HA := Lib.hid (rl_cells hv.out)
  have HOwn : Hid (∀ (j : Nat) (q : Pq), P[j]? = some q → ∀ W, Below w.heap.size w W → ∀ cs, Me.Own (W.setRow (w.heap.size + 1 + 1) cs) 0 q.v q.x.p) := fun j q hq W hW cs => by
    obtain ⟨e1, e2⟩ := hv.out.each q (List.mem_of_getElem? hq)
    refine own_same e1 fun k e hk => ?_
    have := (e2 k e).2
    rw [setRow_other _ _ _ _ (by omega)]
    exact hW.block k hk
  have HYes : Hid (∀ (j : Nat) (q : Pq), (∀ (k : Nat) (q : Pq), k < j → P[k]? = some q → q.x.i ≠ ⟨o, d, ee, cc⟩) → P[j]? = some q → q.x.i = ⟨o, d, ee, cc⟩ → findH (P.map Pq.x) ⟨o, d, ee, cc⟩ = some q.x.p) := fun j q h1 h2 h3 => find_at h1 h2 h3
  have HNo : Hid (∀ j, P.length ≤ j → (∀ (k : Nat) (q : Pq), k < j → P[k]? = some q → q.x.i ≠ ⟨o, d, ee, cc⟩) → findH (P.map Pq.x) ⟨o, d, ee, cc⟩ = none) := fun j hj h => find_no h hj
  obtain ⟨N, hN⟩ : ∃ N, P.length = N := ⟨_, rfl⟩
  rw [hN] at HA HNo hL ⊢
  clear hv hN
  obtain ⟨W0, hW0, s0⟩ := An.start w #[.int .i64 me, .int .i64 qh, .int .i64 qb, .int .i64 qg, .int .i64 ep, vU, .slice A N c, .int .i64 qg, vK] #[.int .i64 o, .int .i64 d, .int .i64 ee, .int .i64 cc]
  have HW0 := Lib.hid hW0
  have S0 := Lib.hid s0
  clear hW0 s0
  obtain ⟨HH, hHH⟩ : ∃ l, P.map Pq.x = l := ⟨_, rfl⟩
  rw [hHH] at HYes HNo ⊢
  clear hHH
  go_enter Try.func13, Try.ntmps13
  go_wp2
  rw [HW0.out]
  go_loopw [6] (fun v6 wr => ∃ j : Nat, v6 = .int .i64 (j : Int) ∧ j ≤ N ∧ Hid (∀ (k : Nat) (q : Pq), k < j → P[k]? = some q → q.x.i ≠ ⟨o, d, ee, cc⟩) ∧ Hid (An w #[.int .i64 me, .int .i64 qh, .int .i64 qb, .int .i64 qg, .int .i64 ep, vU, .slice A N c, .int .i64 qg, vK] #[.int .i64 o, .int .i64 d, .int .i64 ee, .int .i64 cc] wr)) (fun v6 wr => N - (intOf v6).toNat)
  case atStart => exact ⟨0, rfl, Nat.zero_le _, fun k q hk => absurd hk (by omega), S0.out⟩
  case round =>
    obtain ⟨j, rfl, hj, HNe, HSr⟩ := hrel
    obtain ⟨x0, x1, x2, x3, x4, x5, x6, x7, x8⟩ := rs_cells HSr.out.st
    obtain ⟨y0, y1, y2, y3⟩ := id_cells HSr.out.id
    by_cases hlt : j < N
    · obtain ⟨g, q, rfl, hq, hc⟩ := HA.out j hlt
      obtain ⟨z0, z1, z2, z3, z4⟩ := hc wr HSr.out.below
      have g1 : (j : Int) < (N : Int) := by omega
      have g2 : (j : Int) < 1000 := by omega
      have HQ := Lib.hid hq
      have HC := Lib.hid hc
      clear hc hq
      by_cases he : q.x.i = ⟨o, d, ee, cc⟩
      · have hF := Lib.hid (HYes.out j q HNe.out HQ.out he)
        have HOw := Lib.hid (HOwn.out j q HQ.out)
        obtain ⟨⟨⟨xo, xd, xe, xc⟩, p⟩, qA, qc⟩ := q
        simp only at he
        cases he
        simp only [Pq.v] at z0 z1 z2 z3 z4 HOw HC hF
        obtain ⟨n, hn⟩ : ∃ n, p.length = n := ⟨_, rfl⟩
        rw [hn] at z4 HC
        have HNn := Lib.hid hn
        clear hn
        go_wp2
        go_quiet (fail)
        have S1 := Lib.hid (HSr.out.drewN nq)
        obtain ⟨V1, hV1⟩ : ∃ V, wr.drewN nq = V := ⟨_, rfl⟩
        rw [hV1] at S1 ⊢
        clear hV1 z0 z1 z2 z3 z4 x0 x1 x2 x3 x4 x5 x6 x7 x8 y0 y1 y2 y3
        obtain ⟨z0, z1, z2, z3, z4⟩ := HC.out V1 S1.out.below
        obtain ⟨x0, x1, x2, x3, x4, x5, x6, x7, x8⟩ := rs_cells S1.out.st
        go_wp2_with (refine wpList_store_row rfl 46 (.tmp 4) (.tmp 26) rfl (w.heap.size + 1 + 1) #[.int .i64 o, .int .i64 d, .int .i64 ee, .int .i64 cc, .slice qA n qc] rfl rfl 46 _ S1.out.res (by kernel_rfl) rfl (msg_one5' _ _ _ _ _ _ _) ?_)
        refine Sb.ret_box2 (g := w.heap.size + 1 + 1) rfl (by rfl) (setRow_heap _ _ _ _ _ _ S1.out.res) rfl Try.underlying46 (by kernel_rfl) rfl ⟨S1.out.end _, .inr ⟨⟨⟨⟨o, d, ee, cc⟩, p⟩, qA, qc⟩, hF.out, ?_, HOw.out V1 S1.out.below _⟩⟩
        rw [← HNn.out]
        rfl
      · have HN2 : Hid (∀ (k : Nat) (q : Pq), k < j + 1 → P[k]? = some q → q.x.i ≠ ⟨o, d, ee, cc⟩) := fun k q' hk hq' => by
          by_cases h : k = j
          · subst h
            rw [HQ.out] at hq'
            cases hq'
            exact he
          · exact HNe.out k q' (by omega) hq'
        obtain ⟨⟨xo, xd, xe, xc⟩, hx⟩ : ∃ x, q.x.i = x := ⟨_, rfl⟩
        rw [hx] at z0 z1 z2 z3 he
        simp only at z0 z1 z2 z3
        clear hx
        rcases idne_b he with g3 | ⟨g3, g4⟩ | ⟨g3, g4, g5⟩ | ⟨g3, g4, g5, g6⟩
        all_goals
          clear he
          go_wp2
          go_quiet (fail)
          go_wp2
          go_roundw
          case rel => exact ⟨j + 1, by go_num, by omega, HN2, HSr.out.drewN _⟩
          case measure => simp [intOf]; omega
    · have hF := Lib.hid (HNo.out j (by omega) HNe.out)
      have g1 : ¬ (j : Int) < (N : Int) := by omega
      go_wp2_with (refine wpList_store_row rfl 46 (.tmp 4) (.tmp 27) rfl (w.heap.size + 1 + 1) #[.int .i64 0, .int .i64 0, .int .i64 0, .int .i64 0, .slice none 0 0] rfl rfl 46 _ HSr.out.res (by kernel_rfl) rfl (msg_one5' _ _ _ _ _ _ _) ?_)
      exact Sb.ret_box2 (g := w.heap.size + 1 + 1) rfl (by rfl) (setRow_heap _ _ _ _ _ _ HSr.out.res) rfl Try.underlying46 (by kernel_rfl) rfl ⟨HSr.out.end _, .inl ⟨hF.out, rfl⟩⟩
theorem RFind_s (Q : Nat → Prop) (w : World) (s : Sto) (K : Se.Ks) (vU vL vK : Value) (P : List Pq) (i : Mg.Id4) (h : Hid (Rf Q w s K vU vL vK P)) : Calls Try.prog 13 #[.agg (rsv s vU vL vK), .agg (Mg.idC i)] w (RfndP w s.held i) := by
  obtain ⟨l1, l2, l3⟩ := h.out.len
  have hml : Rl (fun g => Q g ∧ g < w.heap.size) w 0 vL P := h.out.ml.mono fun _ hk q => ⟨q, hk⟩
  rw [← h.out.mp]
  obtain ⟨o, d, ee, cc⟩ := i
  exact rfind_any Q s.self s.qh s.qb s.qg s.epoch o d ee cc vU vL vK P w hml l2
end Go.Proofs.Ytpofdimagfldnaa.So
