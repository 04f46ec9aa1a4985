/- A new table; what keeps a table right. -/
import Derived.Test.YtkanebolfmpnfaaRtTick
namespace Go.Proofs.Ytkanebolfmpnfaa.Rt
open Go.RowKit Go.Maps
open Go.Proofs.Ytkanebolfmpnfaa.Sb
set_option linter.unusedVariables false
set_option linter.unusedSimpArgs false

/-- The neighbour ahead. -/
def prv (l : List Int) (j : Nat) : Int := if j = 0 then -1 else Mi.at_ l (j - 1)
def okB (self : Int) (l : List Int) (j : Nat) : Bool := isN (Mi.at_ l j) && !(Mi.at_ l j == self) && decide (prv l j < Mi.at_ l j)
/-- What New answers. -/
def newE (self : Int) (l : List Int) (age : Int) : Nat := if isN self = false ∨ age < 1 ∨ 64 < age then 1 else if ∀ j, j < l.length → okB self l j = true then 0 else 2
theorem okB_of {self : Int} {l : List Int} {j : Nat} (h : okB self l j = true) : isN (Mi.at_ l j) = true ∧ Mi.at_ l j ≠ self ∧ prv l j < Mi.at_ l j := by
  simp only [okB, Bool.and_eq_true, Bool.not_eq_true', beq_eq_false_iff_ne, decide_eq_true_eq] at h
  exact ⟨h.1.1, h.1.2, h.2⟩
theorem at_ge {self : Int} {l : List Int} (h : ∀ j, j < l.length → okB self l j = true) : ∀ j, j < l.length → (j : Int) ≤ Mi.at_ l j
  | 0, hj => by
    obtain ⟨m, h1, _⟩ := isN_of (okB_of (h 0 hj)).1
    omega
  | j + 1, hj => by
    have ih := at_ge h j (by omega)
    have h1 := (okB_of (h (j + 1) hj)).2.2
    have e : prv l (j + 1) = Mi.at_ l j := by simp [prv]
    rw [e] at h1
    omega
theorem good_len {self : Int} {l : List Int} (h : ∀ j, j < l.length → okB self l j = true) : l.length ≤ 64 := by
  apply Classical.byContradiction
  intro hc
  have h1 := at_ge h 64 (by omega)
  obtain ⟨m, h2, h3⟩ := isN_of (okB_of (h 64 (by omega))).1
  omega
theorem good_lt {self : Int} {l : List Int} (h : ∀ j, j < l.length → okB self l j = true) : ∀ k j, j + k + 1 < l.length → Mi.at_ l j < Mi.at_ l (j + k + 1)
  | 0, j, hj => by
    have h1 := (okB_of (h (j + 1) hj)).2.2
    have e : prv l (j + 1) = Mi.at_ l j := by simp [prv]
    rw [e] at h1
    exact h1
  | k + 1, j, hj => by
    have ih := good_lt h k j (by omega)
    have h1 := (okB_of (h (j + k + 1 + 1) hj)).2.2
    have e : prv l (j + k + 1 + 1) = Mi.at_ l (j + k + 1) := by simp [prv]
    rw [e] at h1
    have e2 : j + (k + 1) + 1 = j + k + 1 + 1 := by omega
    rw [e2]
    omega
theorem good_ris {self : Int} {l : List Int} (h : ∀ j, j < l.length → okB self l j = true) : l.Pairwise (· < ·) := by
  rw [List.pairwise_iff_getElem]
  intro i j hi hj hij
  have := good_lt h (j - i - 1) i (by omega)
  rw [show i + (j - i - 1) + 1 = j by omega, Mi.at_get hi, Mi.at_get hj] at this
  exact this
/-- A new table. -/
def newT (self age : Nat) (l : List Int) : Tb := ⟨self, l, age, fun _ => -1, fun _ => none⟩
theorem newT_ok {self age : Nat} {l : List Int} (h : newE (self : Int) l (age : Int) = 0) : (newT self age l).Ok ∧ self < 64 ∧ l.length ≤ 64 ∧ (∀ j, j < l.length → okB (self : Int) l j = true) ∧ 1 ≤ age ∧ age ≤ 64 := by
  unfold newE at h
  split at h
  · cases h
  · rename_i h1
    split at h
    · rename_i h2
      have hs : isN (self : Int) = true := by
        cases hb : isN (self : Int) with
        | true => rfl
        | false => exact absurd (Or.inl hb) h1
      obtain ⟨m, hm, hm2⟩ := isN_of hs
      have ha1 : ¬ (age : Int) < 1 := fun e => h1 (Or.inr (Or.inl e))
      have ha2 : ¬ 64 < (age : Int) := fun e => h1 (Or.inr (Or.inr e))
      refine ⟨⟨by show self < 64; omega, ⟨by show 1 ≤ age; omega, by show age ≤ 64; omega⟩, fun x hx => ?_, good_ris h2, fun _ _ => .inl rfl, rfl, fun n p _ hk => by cases hk⟩, by omega, good_len h2, h2, by omega, by omega⟩
      obtain ⟨j, hj, rfl⟩ := List.mem_iff_getElem.1 (show x ∈ l from hx)
      obtain ⟨g1, g2, g3⟩ := okB_of (h2 j hj)
      rw [Mi.at_get hj] at g1 g2
      obtain ⟨q, hq, hq2⟩ := isN_of g1
      refine ⟨q, hq, hq2, fun e => g2 ?_⟩
      rw [hq, e]
      rfl
    · cases h
theorem build_new (self age mb : Nat) (A : Option Addr) (n c : Nat) (l : List Int) (w : World) : (Instr.build 78 #[(0, .int .i64 (self : Int)), (1, .slice A n c), (2, .int .i64 (age : Int)), (3, .agg (row fun _ => -1)), (4, .map (some mb))]).run Try.prog w = .ok (.agg (tcs (newT self age l) (.slice A n c) mb)) w := by kernel_rfl
theorem exec_build (ρ : Operand → Value) (o : Oper) (self age mb : Nat) (A : Option Addr) (n c : Nat) (l : List Int) (x0 x1 x2 x3 x4 : Operand) (ho : o.op = .build 78 #[(0, x0), (1, x1), (2, x2), (3, x3), (4, x4)]) (h0 : ρ x0 = .int .i64 (self : Int)) (h1 : ρ x1 = .slice A n c) (h2 : ρ x2 = .int .i64 (age : Int)) (h3 : ρ x3 = .agg (row fun _ => -1)) (h4 : ρ x4 = .map (some mb)) (w : World) :
    (execOp ρ o).run Try.prog w = .ok (.value (.agg (tcs (newT self age l) (.slice A n c) mb))) w := by
  unfold execOp
  rw [ho]
  simp [h0, h1, h2, h3, h4, build_new self age mb A n c l, Result.andThen]
theorem exec_box (ρ : Operand → Value) (o : Oper) (self age mb : Nat) (A : Option Addr) (n c : Nat) (l : List Int) (x : Operand) (ho : o.op = .box 78 x) (h0 : ρ x = .agg (tcs (newT self age l) (.slice A n c) mb)) (w : World) :
    (execOp ρ o).run Try.prog w = .ok (.value (.pointer (some ⟨w.heap.size, 0, none⟩))) (w.alloc (.cells (tcs (newT self age l) (.slice A n c) mb) 78 (0, 0))) := by
  unfold execOp
  rw [ho]
  simp only [h0]
  kernel_rfl
theorem valTo {ops : Array Oper} {rest : List Oper} {o : Oper} {a : Act} {w : World} {Q : Exit → Act → World → Prop} (hg : o.guard = none) (v : Value) (hrun : (execOp a.eval o).run Try.prog w = .ok (.value v) w)
    (h : wpList Try.prog ops Q rest (a.put o.dst v) w) : wpList Try.prog ops Q (o :: rest) a w := by
  refine wpList_plain hg fun K hK => ?_
  unfold Oper.wp
  rw [hrun, Oper.upon_value]
  exact hK _ _ h
theorem IClone_any (A : Option Addr) (cap B : Nat) (l : List Int) (w : World) (hr : Hid (Mi.Rd w B A l)) (hA : Hid (A = none → l.length = 0 ∧ cap = 0)) (hB : B ≤ w.heap.size) (hc : l.length ≤ 1000000) :
    Calls Try.prog 32 #[.slice A l.length cap] w fun e w' => ∃ v, e = .returned v ∧ Hid (Mi.Own w' w.heap.size v l) ∧ Hid (Below w.heap.size w w') := by
  have ke := fun (w : World) (a : Option Addr) (n c : Nat) => Lib.run_eql_slice_nil (P := Try.prog) w 22 3 a n c 0 0 Try.underlying22
  rcases A with _ | ad
  · obtain ⟨h1, rfl⟩ := hA.out rfl
    obtain rfl : l = [] := List.eq_nil_of_length_eq_zero h1
    go_enter Try.func32, Try.ntmps32
    go_wp2
    go_ret
    exact ⟨_, rfl, Mi.Own.nil _ _, Below.refl _ _⟩
  · go_enter Try.func32, Try.ntmps32
    go_wp2_with (at_builtin; refine Mi.app rfl (.tmp 5) (.tmp 6) rfl w.heap.size B _ [] l rfl (Mi.Own.lit (Below.refl _ _)) (Mi.below_alloc (Below.refl _ _)) (by simp) (some ad) l.length cap rfl rfl (hr.out.below ((Below.refl _ _).alloc hB _)) hA.out (by simp; omega) ?_; intro v2 w2 ho2 hb2 _; have HO2 := Lib.hid ho2; have HB2 := Lib.hid hb2; clear ho2 hb2)
    go_ret
    exact ⟨_, rfl, HO2, HB2⟩
/-- A number of New's list, as the walk meets it. -/
theorem rd_at {w : World} {B : Nat} {A : Option Addr} {l : List Int} (h : Mi.Rd w B A l) {i : Nat} (hi : i < l.length) : ∃ b off, A = some ⟨b, off, none⟩ ∧ w.cell? ⟨b, off + i, none⟩ = some (.int .i64 (Mi.at_ l i)) := by
  obtain ⟨b, off, e, _, hc⟩ := h (by omega)
  exact ⟨b, off, e, hc i hi⟩
set_option maxRecDepth 100000 in
set_option maxHeartbeats 4000000 in
theorem New_bad (self age : Int) (A : Option Addr) (c B : Nat) (l : List Int) (w : World) (hr : Hid (Mi.Rd w B A l)) (hc : l.length ≤ 9223372036854775806) (hE : newE self l age ≠ 0) :
    Calls Try.prog 9 #[.int .i64 self, .slice A l.length c, .int .i64 age] w fun e w' => e = .returned (.tuple #[.pointer none, .int .i64 (newE self l age : Int)]) ∧ w = w' := by
  have HI := Lib.hid isNode_any
  have HSF := Lib.hid (HI.out self)
  unfold newE at hE ⊢
  by_cases h1 : isN self = false ∨ age < 1 ∨ 64 < age
  · rw [if_pos h1]
    cases hs : isN self with
    | false =>
      rw [hs] at HSF
      go_enter Try.func9, Try.ntmps9
      go_wp2_with (go_at_call 31; refine (HSF.out _).mono ?_; rintro e w' ⟨rfl, rfl⟩)
      go_ret2
      exact ⟨rfl, rfl⟩
    | true =>
      rw [hs] at HSF h1
      by_cases h2 : age < 1
      · go_enter Try.func9, Try.ntmps9
        go_wp2_with (go_at_call 31; refine (HSF.out _).mono ?_; rintro e w' ⟨rfl, rfl⟩)
        go_ret2
        exact ⟨rfl, rfl⟩
      · have h3 : 64 < age := by
          rcases h1 with h1 | h1 | h1
          · cases h1
          · exact absurd h1 h2
          · exact h1
        have h4 : ¬ age ≤ 64 := by omega
        go_enter Try.func9, Try.ntmps9
        go_wp2_with (go_at_call 31; refine (HSF.out _).mono ?_; rintro e w' ⟨rfl, rfl⟩)
        go_ret2
        exact ⟨rfl, rfl⟩
  · rw [if_neg h1] at hE ⊢
    have hs : isN self = true := by
      cases hb : isN self with
      | true => rfl
      | false => exact absurd (Or.inl hb) h1
    have h2 : ¬ age < 1 := fun e => h1 (Or.inr (Or.inl e))
    have h3 : ¬ 64 < age := fun e => h1 (Or.inr (Or.inr e))
    have hng : ¬ ∀ j, j < l.length → okB self l j = true := fun e => by rw [if_pos e] at hE; exact hE rfl
    rw [if_neg hng]
    rw [hs] at HSF
    obtain ⟨N, hN⟩ : ∃ N, l.length = N := ⟨_, rfl⟩
    have HN : Hid (l.length = N) := hN
    have HNG := Lib.hid hng
    rw [hN] at hc ⊢
    clear hN hs h1 hE hng
    go_enter Try.func9, Try.ntmps9
    go_wp2_with (go_at_call 31; refine (HSF.out _).mono ?_; rintro e w' ⟨rfl, rfl⟩)
    go_loopw [8, 24] (fun p k wr => ∃ i : Nat, i ≤ N ∧ k = .int .i64 i ∧ p = .int .i64 (prv l i) ∧ Hid (∀ j, j < i → okB self l j = true) ∧ Hid (w = wr)) (fun _ k _ => N - (intOf k).toNat)
    case atStart => exact ⟨0, Nat.zero_le _, rfl, rfl, fun j hj => absurd hj (by omega), rfl⟩
    case round =>
      obtain ⟨i, hi, rfl, rfl, hok, HW⟩ := hrel
      by_cases hlt : i < N
      · obtain ⟨b, off, rfl, y0⟩ := rd_at hr.out (i := i) (by rw [HN.out]; exact hlt)
        rw [HW.out] at y0
        have hpn : Hid (prv l (i + 1) = Mi.at_ l i) := by show _ = _; simp [prv]
        have hob : okB self l i = (isN (Mi.at_ l i) && !(Mi.at_ l i == self) && decide (prv l i < Mi.at_ l i)) := rfl
        obtain ⟨x, hx⟩ : ∃ x, Mi.at_ l i = x := ⟨_, rfl⟩
        obtain ⟨pv, hpv⟩ : ∃ pv, prv l i = pv := ⟨_, rfl⟩
        rw [hx] at y0 hpn hob
        rw [hpv] at hob ⊢
        have HX := Lib.hid (HI.out x)
        clear hx hpv
        cases hxn : isN x with
        | false =>
          rw [hxn] at HX
          clear hob hpn hok
          go_wp2_with (go_at_call 31; refine (HX.out _).mono ?_; rintro e w' ⟨rfl, rfl⟩)
          go_ret2
          exact ⟨rfl, HW.out⟩
        | true =>
          rw [hxn] at HX hob
          cases hxs : (x == self) with
          | true =>
            clear hob hpn hok
            go_wp2_with (go_at_call 31; refine (HX.out _).mono ?_; rintro e w' ⟨rfl, rfl⟩)
            go_ret2
            exact ⟨rfl, HW.out⟩
          | false =>
            rw [hxs] at hob
            by_cases hlp : x ≤ pv
            · have hnl : ¬ pv < x := by omega
              clear hob hpn hok
              go_wp2_with (go_at_call 31; refine (HX.out _).mono ?_; rintro e w' ⟨rfl, rfl⟩)
              go_ret2
              exact ⟨rfl, HW.out⟩
            · have hnl : pv < x := by omega
              have HOK : Hid (∀ j, j < i + 1 → okB self l j = true) := fun j hj => by
                by_cases e : j = i
                · subst e; rw [hob]; simp [hnl]
                · exact hok.out j (by omega)
              clear hob hok
              go_wp2_with (go_at_call 31; refine (HX.out _).mono ?_; rintro e w' ⟨rfl, rfl⟩)
              go_roundw
              case rel => exact ⟨i + 1, by omega, by go_num, by rw [hpn.out], HOK, HW⟩
              case measure => simp [intOf]; omega
      · exact absurd (fun j hj => hok.out j (by rw [HN.out] at hj; omega)) HNG.out
/-- A table of the law's own: its blocks lie from s on. -/
structure Tn (s : Nat) (w : World) (D mb : Nat) (v : Value) (t : Tb) : Prop where
  tq : Tq w D mb v t
  ok : t.Ok
  nl : t.nbs.length ≤ 64
  gD : s ≤ D
  gm : s ≤ mb
  gv : ∀ k, v.ownBlock = some k → s ≤ k
set_option maxRecDepth 100000 in
set_option maxHeartbeats 4000000 in
theorem New_ok (self age : Nat) (A : Option Addr) (c B : Nat) (l : List Int) (w : World) (hr : Hid (Mi.Rd w B A l)) (hA : Hid (A = none → l.length = 0 ∧ c = 0)) (hB : B ≤ w.heap.size) (hE : newE (self : Int) l (age : Int) = 0) :
    Calls Try.prog 9 #[.int .i64 (self : Int), .slice A l.length c, .int .i64 (age : Int)] w fun e w' => ∃ D mb v, e = .returned (.tuple #[.pointer (some ⟨D, 0, none⟩), .int .i64 0]) ∧ Hid (Tn w.heap.size w' D mb v (newT self age l)) ∧ Hid (Below w.heap.size w w') := by
  obtain ⟨hok, hs, hlen, hgood, ha1, ha2⟩ := newT_ok hE
  have HG := Lib.hid hgood
  have HOKT := Lib.hid hok
  have HI := Lib.hid isNode_any
  have HSF := Lib.hid (HI.out (self : Int))
  rw [isN_nat hs] at HSF
  have HCL := Lib.hid (IClone_any A c B l w hr hA hB (by omega))
  have HAL := Lib.hid (all_any (-1))
  have hmm : ∀ W : World, (Instr.makeMap 76 none).run Try.prog W = .ok (.map (some W.heap.size)) (W.alloc (.map #[] 0)) := fun W => by kernel_rfl
  obtain ⟨N, hN⟩ : ∃ N, l.length = N := ⟨_, rfl⟩
  have HN : Hid (l.length = N) := hN
  rw [hN] at hlen HCL ⊢
  have g1 : ¬ (age : Int) < 1 := by omega
  have g2 : ¬ 64 < (age : Int) := by omega
  clear hN hgood hok hE
  go_enter Try.func9, Try.ntmps9
  go_wp2_with (go_at_call 31; refine (HSF.out _).mono ?_; rintro e w' ⟨rfl, rfl⟩)
  go_loopw [8, 24] (fun p k wr => ∃ i : Nat, i ≤ N ∧ k = .int .i64 i ∧ p = .int .i64 (prv l i) ∧ Hid (w = wr)) (fun _ k _ => N - (intOf k).toNat)
  case atStart => exact ⟨0, Nat.zero_le _, rfl, rfl, rfl⟩
  case round =>
    obtain ⟨i, hi, rfl, rfl, HW⟩ := hrel
    by_cases hlt : i < N
    · obtain ⟨b, off, rfl, y0⟩ := rd_at hr.out (i := i) (by rw [HN.out]; exact hlt)
      rw [HW.out] at y0
      have hpn : Hid (prv l (i + 1) = Mi.at_ l i) := by show _ = _; simp [prv]
      obtain ⟨q1, q2, q3⟩ := okB_of (HG.out i (by rw [HN.out]; exact hlt))
      obtain ⟨x, hx⟩ : ∃ x, Mi.at_ l i = x := ⟨_, rfl⟩
      obtain ⟨pv, hpv⟩ : ∃ pv, prv l i = pv := ⟨_, rfl⟩
      rw [hx] at y0 hpn q1 q2 q3
      rw [hpv] at q3 ⊢
      have HX := Lib.hid (HI.out x)
      rw [q1] at HX
      have q4 : (x == (self : Int)) = false := beq_eq_false_iff_ne.mpr q2
      have q5 : ¬ x ≤ pv := by omega
      clear hx hpv q1 q2
      go_wp2_with (go_at_call 31; refine (HX.out _).mono ?_; rintro e w' ⟨rfl, rfl⟩)
      go_roundw
      case rel => exact ⟨i + 1, by omega, by go_num, by rw [hpn.out], HW⟩
      case measure => simp [intOf]; omega
    · obtain rfl : i = N := by omega
      rw [HW.out] at HCL
      have HTF : Hid (∀ (w2 w3 : World) (A2 : Option Addr) (n2 c2 : Nat), Mi.Own w2 w.heap.size (.slice A2 n2 c2) l → Below w2.heap.size w2 w3 → Below w.heap.size w w2 →
          Tn w.heap.size ((w3.alloc (.map #[] 0)).alloc (.cells (tcs (newT self age l) (.slice A2 n2 c2) w3.heap.size) 78 (0, 0))) (w3.heap.size + 1) w3.heap.size (.slice A2 n2 c2) (newT self age l) ∧
          Below w.heap.size w ((w3.alloc (.map #[] 0)).alloc (.cells (tcs (newT self age l) (.slice A2 n2 c2) w3.heap.size) 78 (0, 0)))) := by
        intro w2 w3 A2 n2 c2 ho hb3 hb2
        have hb4 : Below w3.heap.size w3 ((w3.alloc (.map #[] 0)).alloc (.cells (tcs (newT self age l) (.slice A2 n2 c2) w3.heap.size) 78 (0, 0))) := Mi.below_alloc (Mi.below_alloc (Below.refl _ _))
        have hsz : w.heap.size ≤ w3.heap.size := Nat.le_trans hb2.size hb3.size
        refine ⟨⟨⟨?_, (Mp.made w3).same (Below.heap_alloc _ _ _ (by simp)), ((ho.below hb3).below hb4).zero⟩, HOKT.out, by show l.length ≤ 64; rw [HN.out]; exact hlen, by omega, hsz, fun k hk => (ho.lt k hk).1⟩, go_on (go_on hb2 hb3) hb4⟩
        have := heap_alloc_new (w3.alloc (.map #[] 0)) (.cells (tcs (newT self age l) (.slice A2 n2 c2) w3.heap.size) 78 (0, 0))
        rwa [World.size_alloc] at this
      rw [HW.out] at HTF
      go_wp2_with (first
        | (go_at_call 32; refine HCL.out.mono ?_; rintro e w2 ⟨v2, rfl, ho2, hb2⟩; obtain ⟨A2, c2, rfl, _⟩ := ho2.out.form)
        | (go_at_call 33; refine (HAL.out _).mono ?_; rintro e w3 ⟨rfl, hb3⟩)
        | (refine valTo rfl (.agg (tcs (newT self age l) (.slice A2 l.length c2) w3.heap.size)) (exec_build _ _ self age w3.heap.size A2 l.length c2 l (.tmp 43) (.tmp 45) (.tmp 46) (.tmp 47) (.tmp 48) rfl rfl rfl rfl rfl rfl _) ?_)
        | (refine Mi.allocTo rfl (.pointer (some ⟨_, 0, none⟩)) (.cells (tcs (newT self age l) (.slice A2 l.length c2) w3.heap.size) 78 (0, 0)) (exec_box _ _ self age w3.heap.size A2 l.length c2 l (.tmp 49) rfl rfl _) ?_))
      go_ret2
      obtain ⟨t1, t2⟩ := HTF.out w2 w3 A2 l.length c2 ho2.out hb3.out hb2.out
      rw [HW.out]
      exact ⟨_, _, _, rfl, t1, t2⟩
end Go.Proofs.Ytkanebolfmpnfaa.Rt
