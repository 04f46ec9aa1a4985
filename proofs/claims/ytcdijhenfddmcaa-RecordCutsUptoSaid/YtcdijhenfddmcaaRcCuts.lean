/- The walk of the law RecordCuts. -/
import Derived.Test.YtcdijhenfddmcaaRcAll
import Derived.Test.YtcdijhenfddmcaaRcFirsts
namespace Go.Proofs.Ytcdijhenfddmcaa.Rc
open Go.RowKit
open Go.Proofs.Ytcdijhenfddmcaa.Me Go.Proofs.Ytcdijhenfddmcaa.Ma Go.Proofs.Ytcdijhenfddmcaa.Hd
set_option linter.unusedVariables false
set_option linter.unusedSimpArgs false

theorem rem_upto (N : Int) (m : Nat) : ∃ a t : Nat, IntKind.u64.wrap N = (a : Int) ∧ ((a : Int).tmod ((m : Int) + 1)) = (t : Int) ∧ t ≤ m := by
  obtain ⟨a, ha⟩ : ∃ a : Nat, IntKind.u64.wrap N = (a : Int) := by
    refine ⟨(IntKind.u64.wrap N).toNat, ?_⟩
    simp [IntKind.wrap, IntKind.bits, IntKind.signed]
    omega
  have h2 := Nat.mod_lt a (show 0 < m + 1 by omega)
  exact ⟨a, a % (m + 1), ha, by rw [show ((m : Int) + 1) = ((m + 1 : Nat) : Int) from rfl, ← Int.ofNat_tmod], by omega⟩
theorem lst_take {w : World} {B : Nat} {a : Option Addr} {ls : List (List Nat)} (h : Me.Lst w B a ls) (k : Nat) : Me.Lst w B a (ls.take k) := by
  intro hp
  simp only [List.length_take] at hp
  obtain ⟨b, off, e, hb, hc⟩ := h (by omega)
  refine ⟨b, off, e, hb, fun j hj => ?_⟩
  simp only [List.length_take] at hj
  obtain ⟨A, c, h1, h2, h3, h4⟩ := hc j (by omega)
  have e2 : lsAt (ls.take k) j = lsAt ls j := by
    have : j < k := by omega
    simp [lsAt, this]
  rw [e2]
  exact ⟨A, c, h1, h2, h3, h4⟩
theorem lst_go {w w' : World} {a : Option Addr} {ls : List (List Nat)} (h : Me.Lst w w.heap.size a ls) (hb : Below w.heap.size w w') : Me.Lst w' w'.heap.size a ls := by
  intro hp
  obtain ⟨b, off, e, hlt, hc⟩ := (h.below hb (Nat.le_refl _)) hp
  refine ⟨b, off, e, hlt, fun j hj => ?_⟩
  obtain ⟨A, c, h1, h2, h3, h4⟩ := hc j hj
  exact ⟨A, c, h1, h2, h3, h4.more hb.size⟩
theorem nils_take {w : World} {a : Option Addr} {ls : List (List Nat)} (h : Me.Nils w a ls) (k : Nat) : Me.Nils w a (ls.take k) := fun b off e j hj n c hc => by
  simp only [List.length_take] at hj
  exact h b off e j (by omega) n c hc
theorem nils_below {w w' : World} {a : Option Addr} {ls : List (List Nat)} (h : Me.Nils w a ls) (hl : Me.Lst w w.heap.size a ls) (hb : Below w.heap.size w w') : Me.Nils w' a ls := fun b off e j hj n c hc => by
  obtain ⟨b', off', e', hlt, _⟩ := hl (by omega)
  rw [e] at e'
  simp only [Option.some.injEq, Addr.mk.injEq, and_true] at e'
  obtain ⟨rfl, rfl⟩ := e'
  rw [hb.cell (p := ⟨b, off + j, none⟩) hlt] at hc
  exact h b off e j hj n c hc
theorem wnt_all {w0 w : World} {A : Option Addr} {n c : Nat} {ps : List (List Nat)} (h : Wnt w0 w (.slice A n c) ps) : ∀ j, j < ps.length → ∃ g R cr, A = some ⟨g, 0, none⟩ ∧ g < w.heap.size ∧ w.cell? ⟨g, j, none⟩ = some (.slice R (lsAt ps j).length cr) := by
  intro j hj
  obtain ⟨vs, h1, h2, h3⟩ := h
  rcases h1.2 with ⟨e, h0⟩ | ⟨g, cp, cur, e, q1, q2, q3, q4, q5, q6⟩
  · omega
  · simp only [Value.slice.injEq] at e
    obtain ⟨rfl, rfl, rfl⟩ := e
    obtain ⟨R, cr, e3, _⟩ := h3 j hj
    refine ⟨g, R, cr, rfl, (Array.getElem?_eq_some_iff.1 q2).1, ?_⟩
    rw [h1.cellAt j (by omega)]
    exact e3
/-- What All answers, with its slices' shapes. -/
theorem All_q (a : Option Addr) (cap : Nat) (ls : List (List Nat)) (w : World) (hl : Hid (Me.Lst w w.heap.size a ls)) (hn : Hid (Me.Nils w a ls)) (hc : ls.length ≤ 9223372036854775807) (ht : ls.flatten.length + ls.length ≤ 1048576) :
    Calls Try.prog 18 #[.slice a ls.length cap] w fun e w' => ∃ A1 c1 A2 c2, e = .returned (.tuple #[.slice A1 (flatR (fitL ls)).length c1, .slice A2 (fitL ls).length c2]) ∧ (flatR (fitL ls)).length ≤ c1 ∧ c1 ≤ 9223372036854775807 ∧ (fitL ls).length ≤ c2 ∧ c2 ≤ 9223372036854775807 ∧
      Hid (Rd w' w'.heap.size A1 (flatR (fitL ls))) ∧ Hid (A1 = none → (flatR (fitL ls)).length = 0 ∧ c1 = 0) ∧ Hid (Me.Lst w' w'.heap.size A2 (fitL ls)) ∧ Hid (Me.Nils w' A2 (fitL ls)) ∧ Hid (∀ j, j < (fitL ls).length → ∃ g R cr, A2 = some ⟨g, 0, none⟩ ∧ g < w'.heap.size ∧ w'.cell? ⟨g, j, none⟩ = some (.slice R (lsAt (fitL ls) j).length cr)) ∧ Hid (Below w.heap.size w w') := by
  have hb := Me.Lst.bytes hl.out
  refine (All_any a cap ls w hl hn hc ht).mono ?_
  rintro e w' ⟨v, u, he, hO, hW, hB⟩
  obtain ⟨A1, c1, rfl, p1, p2, p3⟩ := hO.out.held (flat_bytes (fitL_fine hb))
  obtain ⟨A2, c2, rfl, q1, q2⟩ := hW.out.form hB.out
  have hc2 : (fitL ls).length ≤ c2 ∧ c2 ≤ 9223372036854775807 := by
    obtain ⟨vs, h1, _, _⟩ := hW.out
    rcases h1.2 with ⟨e1, h0⟩ | ⟨g, cp, cur, e1, _, _, k1, k2, _⟩
    · simp only [Value.slice.injEq] at e1
      omega
    · simp only [Value.slice.injEq] at e1
      unfold maxLen at k2
      omega
  exact ⟨A1, c1, A2, c2, he, p1, p2, hc2.1, hc2.2, p3.rd, p3.2.2, q1, q2, wnt_all hW.out, hB⟩
set_option maxRecDepth 100000 in
set_option maxHeartbeats 2000000 in
theorem cuts_law {H : Type} (a : Option Addr) (len cap : Nat) (ls : List (List Nat)) (cut : Int) (w : World) {d : DataW H} (w0 : len = ls.length ∧ len ≤ 9223372036854775807 ∧ Me.Lst w w.heap.size a ls ∧ Me.Nils w a ls ∧ ls.flatten.length + ls.length ≤ Rows.uptoBulk d) (c0 : Rows.uptoBulk d ≤ 1048576) (ws : (Lit.int .i64 cut).wf = true) :
    Calls Try.prog 7 #[.slice a len cap, .int .i64 cut] w fun e w' => e = .returned (.bool true) ∧ Below w.heap.size w w' := by
  obtain ⟨rfl, hll, hlst, hnil, hbk⟩ := w0
  have hb := Me.Lst.bytes hlst
  have hfine := fitL_fine hb
  have hsz := fitL_siz ls
  have hln := fitL_len ls
  have D1 := All_q a cap ls w hlst hnil hll (by omega)
  have hfl := flat_length (fitL ls)
  have hfb := flat_bytes hfine
  have hpb := fit_bytes hb
  obtain ⟨ps, hps⟩ : ∃ ps, fitL ls = ps := ⟨_, rfl⟩
  rw [hps] at D1 hfine hsz hln hfl hfb hpb
  have D2 := fun (W : World) (A1 : Option Addr) (c1 t : Nat) (ht : t ≤ (flatR ps).length) (hr : Hid (Rd W W.heap.size A1 (flatR ps))) (q1 : (flatR ps).length ≤ c1) (q2 : c1 ≤ 9223372036854775807) =>
    (Scan_any A1 c1 ((flatR ps).take t) W (hr.out.take t) (by simp; omega) q2 (by simp; omega)).mono fun _ _ h => h.q (bytes_take hfb t)
  have HC := Lib.hid (fun t => cuts ps t hfine)
  obtain ⟨all, hall⟩ : ∃ all, flatR ps = all := ⟨_, rfl⟩
  rw [hall] at D1 hfl hfb
  simp only [hall] at D2 HC
  obtain ⟨m, hm⟩ : ∃ m, all.length = m := ⟨_, rfl⟩
  obtain ⟨K, hK⟩ : ∃ K, ps.length = K := ⟨_, rfl⟩
  rw [hm, hK] at D1
  rw [hm] at hfl
  rw [hK] at hln
  have hmb : m ≤ 16777216 := by omega
  have hKb : K ≤ 1048576 := by omega
  obtain ⟨ca, t, hcu, hwt, htm⟩ := rem_upto cut m
  have htb : (t : Int) ≤ 16777216 := by omega
  obtain ⟨mm, c1, c2, c3, c4⟩ := HC.out t
  have hmm : (ps.take mm).length = mm := by simp; omega
  have D3 := fun (W : World) (A1 : Option Addr) (c1 : Nat) (hr : Hid (Rd W W.heap.size A1 all)) (q1 : m ≤ c1) (q2 : c1 ≤ 9223372036854775807) => D2 W A1 c1 t (by omega) hr (by omega) q2
  have htl : (all.take t).length = t := by simp; omega
  simp only [htl, c2, hmm] at D3
  have D4 := fun (W : World) (A A' : Option Addr) (c c' : Nat) (q1) (q2) (q3) (q4) => Same_any W A A' c c' (ps.take mm) (ps.take mm) q1 q2 q3 q4 (by omega)
  simp only [hmm, decide_true] at D4
  obtain ⟨z, hz⟩ : ∃ z, siz (ps.take mm) = z := ⟨_, rfl⟩
  simp only [hz] at D3
  rw [hz] at c3 c4
  have HD1 := Lib.hid D1
  have HD3 := Lib.hid D3
  have HD4 := Lib.hid D4
  have HPB : Hid (∀ r ∈ ps.take mm, ∀ z ∈ r, z < 256) := fun r hr => hpb r (List.mem_of_mem_take hr)
  have HPS := Lib.hid hmm
  rw [hK] at c1
  have hzt : z ≤ t := c3
  have e1 : decide (K < mm) = false := decide_eq_false (by omega)
  have e2 : decide ((t : Int) < (z : Int)) = false := decide_eq_false (by omega)
  clear D1 D2 D3 D4 hall hm hfl hps hsz hln hfb hpb hbk hb HC hlst hnil htl hz hmm c2 c3
  by_cases hmk : mm < K
  · have h5 := c4 (by rw [hK]; exact hmk)
    have HC4 : Hid (t < z + 8 + (lsAt ps mm).length) := h5
    obtain ⟨x, hx⟩ : ∃ x, (lsAt ps mm).length = x := ⟨_, rfl⟩
    have hxb : x ≤ 65536 := by
      have := (hfine (lsAt ps mm) (by simp [lsAt, hK, hmk])).1
      rw [fit_iff] at this
      omega
    rw [hx] at h5
    have HX := Lib.hid hx
    have hwr1 : IntKind.i64.wrap ((z : Int) + 8) = (z : Int) + 8 := IntWalk.i64_in _ (by omega)
    have hwr2 : IntKind.i64.wrap ((z : Int) + 8 + (x : Int)) = (z : Int) + 8 + (x : Int) := IntWalk.i64_in _ (by omega)
    have e3 : decide ((t : Int) < (z : Int) + 8 + (x : Int)) = true := decide_eq_true (by omega)
    have e4 : ((mm : Int) == (K : Int)) = false := by rw [beq_eq_false_iff_ne]; omega
    have HMK := Lib.hid hmk
    have HK := Lib.hid hK
    clear c4 hx h5 HC4 hK hfine
    go_enter Try.func7, Try.ntmps7
    go_wp2_with (first
      | (go_at_call 18; refine HD1.out.mono ?_; rintro e w1 ⟨A1, c1, A2, c2, rfl, g1, g2, g3, g4, HR1, HN1, HL1, HI1, HW1, HB1⟩; obtain ⟨g5, R5, cr5, rfl, hg5, hcell5⟩ := HW1.out mm HMK.out; rw [HX.out] at hcell5)
      | (go_at_call 14; ((with_reducible refine (HD3.out w1 A1 c1 HR1 g1 g2).mono ?_); rintro e w2 ⟨A3, c3, rfl, HR2, HB2⟩; obtain ⟨A4, c4, e4', _, _, q1, q2, _⟩ := HR2.out.lst HPB.out; simp only [Value.slice.injEq] at e4'; obtain ⟨rfl, hq0, rfl⟩ := e4'; clear hq0; have HL2 := Lib.hid q1; have HI2 := Lib.hid q2; have HL3 : Hid (Me.Lst w2 w2.heap.size (some ⟨g5, 0, none⟩) (ps.take mm)) := lst_take (lst_go HL1.out HB2.out) mm; have HI3 : Hid (Me.Nils w2 (some ⟨g5, 0, none⟩) (ps.take mm)) := nils_take (nils_below HI1.out HL1.out HB2.out) mm; have BW2 : Hid (Below w.heap.size w w2) := HB1.out.trans (HB2.out.mono HB1.out.size); clear q1 q2))
      | (go_at_call 16; ((with_reducible refine (HD4.out w2 _ _ _ _ HL2 HI2 HL3 HI3).mono ?_); rintro e w3 ⟨rfl, HB3⟩; have BW3 : Hid (Below w.heap.size w w3) := BW2.out.trans (HB3.out.mono BW2.out.size); have hcell6 : w3.cell? ⟨g5, mm, none⟩ = some (.slice R5 x cr5) := (((HB2.out.trans (HB3.out.mono HB2.out.size)).cell (p := ⟨g5, mm, none⟩) hg5).trans hcell5)))
      | (go_at_call 11; refine (awake_below BW3).mono ?_; rintro e w4 ⟨rfl, hb4⟩))
    go_ret
    exact ⟨rfl, hb4.out⟩
  · obtain rfl : mm = K := by omega
    have HK := Lib.hid hK
    clear hfine c4 hK e1 c1 hmk
    go_enter Try.func7, Try.ntmps7
    go_wp2_with (first
      | (go_at_call 18; refine HD1.out.mono ?_; rintro e w1 ⟨A1, c1, A2, c2, rfl, g1, g2, g3, g4, HR1, HN1, HL1, HI1, HW1, HB1⟩)
      | (go_at_call 14; ((with_reducible refine (HD3.out w1 A1 c1 HR1 g1 g2).mono ?_); rintro e w2 ⟨A3, c3, rfl, HR2, HB2⟩; obtain ⟨A4, c4, e4', _, _, q1, q2, _⟩ := HR2.out.lst HPB.out; simp only [Value.slice.injEq] at e4'; obtain ⟨rfl, hq0, rfl⟩ := e4'; clear hq0; have HL2 := Lib.hid q1; have HI2 := Lib.hid q2; have HL3 : Hid (Me.Lst w2 w2.heap.size A2 (ps.take mm)) := lst_take (lst_go HL1.out HB2.out) mm; have HI3 : Hid (Me.Nils w2 A2 (ps.take mm)) := nils_take (nils_below HI1.out HL1.out HB2.out) mm; have BW2 : Hid (Below w.heap.size w w2) := HB1.out.trans (HB2.out.mono HB1.out.size); clear q1 q2))
      | (go_at_call 16; ((with_reducible refine (HD4.out w2 _ _ _ _ HL2 HI2 HL3 HI3).mono ?_); rintro e w3 ⟨rfl, HB3⟩; have BW3 : Hid (Below w.heap.size w w3) := BW2.out.trans (HB3.out.mono BW2.out.size)))
      | (go_at_call 11; refine (awake_below BW3).mono ?_; rintro e w4 ⟨rfl, hb4⟩))
    go_ret
    exact ⟨rfl, hb4.out⟩
end Go.Proofs.Ytcdijhenfddmcaa.Rc
