/- A state that came in by value. -/
import Derived.Test.YtfnlhfelpdkieaaGreatZ31
import Derived.Test.YtfnlhfelpdkieaaGreatZ21
import Derived.Test.YtfnlhfelpdkieaaGreatZ8
namespace Go.Proofs.YtfnlhfelpdkieaaGreat.So
open Go.RowKit Go.Deep
open Go.ChangeShapes Go.WideShapes Go.Joins
open Go.Proofs.YtfnlhfelpdkieaaGreat.Me Go.Proofs.YtfnlhfelpdkieaaGreat.Sb
set_option linter.unusedVariables false
set_option linter.unusedSimpArgs false

theorem trod_struct5 {H : Type} {enc : TypeId × Value → H} {P : Program} {w : World} {base : Nat} {spare : TypeId → Bool} {held : Bool} {t : TypeId} {f0 f1 f2 f3 f4 : Field} {fuel : Nat} {cs : List Value} {x : DataW H × List MemPlace} (ht : P.underlying t = some (.struct #[f0, f1, f2, f3, f4])) (h : DataW.trod enc P w base spare held fuel t cs = some x) :
    ∃ y0 y1 y2 y3 y4 n, x = (.agg [y0.1, y1.1, y2.1, y3.1, y4.1], y0.2 ++ (y1.2 ++ (y2.2 ++ (y3.2 ++ y4.2)))) ∧ cs.length = P.cellsOf t ∧
      DataW.trod enc P w base spare held n f0.type ((cs.drop f0.offset).take (P.cellsOf f0.type)) = some y0 ∧ DataW.trod enc P w base spare held n f1.type ((cs.drop f1.offset).take (P.cellsOf f1.type)) = some y1 ∧
      DataW.trod enc P w base spare held n f2.type ((cs.drop f2.offset).take (P.cellsOf f2.type)) = some y2 ∧ DataW.trod enc P w base spare held n f3.type ((cs.drop f3.offset).take (P.cellsOf f3.type)) = some y3 ∧
      DataW.trod enc P w base spare held n f4.type ((cs.drop f4.offset).take (P.cellsOf f4.type)) = some y4 := by
  obtain ⟨xs, n, _, rfl, hl, hlen, hf⟩ := DataW.trod_struct ht h
  match xs, hlen with
  | [y0, y1, y2, y3, y4], _ => exact ⟨y0, y1, y2, y3, y4, n, by simp, hl, by simpa using hf 0 f0 rfl, by simpa using hf 1 f1 rfl, by simpa using hf 2 f2 rfl, by simpa using hf 3 f3 rfl, by simpa using hf 4 f4 rfl⟩
theorem two_nx : Tryz.prog.cellsOf 62 = 2 := by kernel_rfl
theorem five_st : Tryz.prog.cellsOf 59 = 5 := by kernel_rfl
theorem one_nx : Tryz.prog.cellsOf 31 = 1 := by kernel_rfl
theorem one_ms : Tryz.prog.cellsOf 32 = 1 := by kernel_rfl
theorem one_mk : Tryz.prog.cellsOf 57 = 1 := by kernel_rfl
theorem nx_b : Tryz.prog.bytesOf 62 = 16 := by kernel_rfl
theorem ms_b : Tryz.prog.bytesOf 46 = 56 := by kernel_rfl
set_option maxRecDepth 100000 in
theorem nexts_in {H : Type} {enc : TypeId × Value → H} {w : World} {base fuel : Nat} {held : Bool} {v : Value} {d : DataW H} {pl : List MemPlace}
    (h : DataW.trod enc Tryz.prog w base (fun _ => true) held fuel 31 [v] = some (d, pl)) (hw : ∀ x ∈ d.weights Tryz.prog 31, x ≤ reachBytes) :
    ∃ (A : Option Addr) (c : Nat) (N : Ns), v = .slice A N.length c ∧ Nq w A N ∧ (A = none → N.length = 0 ∧ c = 0) ∧ N.length ≤ c ∧ c * 16 ≤ 140737488351232 := by
  rcases open_slice Tryz.underlying31 h with ⟨hcs, _⟩ | ⟨ad, l, c, m, n, D, Pl, hcs, _, hl, hm, hmm, hx, hel⟩
  · simp at hcs
    exact ⟨none, 0, [], hcs, fun j p hj => by simp at hj, fun _ => ⟨rfl, rfl⟩, Nat.le_refl _, Nat.zero_le _⟩
  · simp at hcs
    simp only [if_true] at hmm
    subst hmm
    simp only [Prod.mk.injEq] at hx
    rw [two_nx] at hel
    have each : ∀ i, i < l → ∃ p : Int × Int, w.cell? (ad.add (i * 2)) = some (.int .i64 p.1) ∧ w.cell? ((ad.add (i * 2)).add 1) = some (.int .i64 p.2) := by
      intro i hi
      obtain ⟨cs', h1, h2⟩ := hel i (by omega)
      obtain ⟨_, _, hcell⟩ := World.cells?_some h1
      obtain ⟨y0, y1, m1, _, hlen, g0, g1⟩ := trod_struct2 Tryz.underlying62 h2
      rw [two_nx] at hlen
      match cs', hlen, hcell, g0, g1 with
      | [v0, v1], _, hcell, g0, g1 =>
        simp only [Mg.one_int] at g0 g1
        simp at g0 g1
        obtain ⟨k0, e0, _, _⟩ := DataW.trod_int Tryz.underlying3 g0
        obtain ⟨k1, e1, _, _⟩ := DataW.trod_int Tryz.underlying3 g1
        simp only [List.cons.injEq, and_true] at e0 e1
        subst e0 e1
        have q0 := hcell 0 (by omega)
        have q1 := hcell 1 (by omega)
        rw [show (ad.add (i * 2)).add 0 = ad.add (i * 2) by simp [Addr.add]] at q0
        exact ⟨(k0, k1), q0, q1⟩
    have hcap : m * 16 ≤ 140737488351232 := by
      have hmem : m * 16 ≤ reachBytes := by
        refine hw _ ?_
        rw [hx.1]
        simp only [DataW.weights, Tryz.underlying31]
        refine List.mem_cons.2 (.inl ?_)
        rw [nx_b]
        simp
        omega
      unfold reachBytes at hmem
      exact hmem
    obtain ⟨q, hq⟩ := choose_lt (α := Int × Int) each
    refine ⟨some ad, m, (List.range l).map q, by rw [hcs]; simp, fun j p hj => ?_, (fun e => by cases e), by simpa using hl, hcap⟩
    obtain ⟨hj1, hj2⟩ := List.getElem?_eq_some_iff.1 hj
    have hj' : j < l := by simpa using hj1
    have hat : q j = p := by simpa using hj2
    obtain ⟨c0, c1⟩ := hq j hj'
    rw [hat] at c0 c1
    obtain ⟨b, off, spot⟩ := ad
    have hspot : spot = none := by simpa [Addr.add] using World.cell?_spot (hq 0 (by omega)).1
    subst hspot
    simp only [add_mk] at c0 c1
    exact ⟨b, off, rfl, World.block_lt_of_cell? w _ c0, c0, c1⟩
set_option maxRecDepth 100000 in
theorem msgs_in {H : Type} {enc : TypeId × Value → H} {w : World} {base fuel : Nat} {held : Bool} {v : Value} {d : DataW H} {pl : List MemPlace}
    (h : DataW.trod enc Tryz.prog w base (fun _ => true) held fuel 32 [v] = some (d, pl)) (hw : ∀ x ∈ d.weights Tryz.prog 32, x ≤ reachBytes) :
    ∃ (A : Option Addr) (c : Nat) (L : List It), v = .slice A L.length c ∧ Mq w A L ∧ L.length ≤ c ∧ c * 56 ≤ 140737488351232 ∧ (∀ x ∈ L, x.p.length ≤ 140737488351232) ∧ ∀ x ∈ L, ∀ z ∈ x.p, z < 256 := by
  rcases open_slice Tryz.underlying32 h with ⟨hcs, _⟩ | ⟨ad, l, c, m, n, D, Pl, hcs, _, hl, hm, hmm, hx, hel⟩
  · simp at hcs
    exact ⟨none, 0, [], hcs, (fun j p hj => by simp at hj), Nat.le_refl _, Nat.zero_le _, (fun x hx => by simp at hx), fun x hx => by simp at hx⟩
  · simp at hcs
    simp only [if_true] at hmm
    subst hmm
    simp only [Prod.mk.injEq] at hx
    rw [Mg.five_msg] at hel
    have each : ∀ i, i < l → ∃ q : It × Option Addr × Nat, (∀ k x, (Mg.msgC q.1.i q.2.1 q.1.p.length q.2.2).toList[k]? = some x → w.cell? ((ad.add (i * 5)).add k) = some x) ∧
        q.1.p.length ≤ q.2.2 ∧ q.2.2 ≤ 140737488351232 ∧ Me.Rd w w.heap.size q.2.1 q.1.p ∧ (q.2.1 = none → q.1.p.length = 0 ∧ q.2.2 = 0) := by
      intro i hi
      obtain ⟨cs', h1, h2⟩ := hel i (by omega)
      obtain ⟨_, _, hcell⟩ := World.cells?_some h1
      obtain ⟨ii, A, k, cr, p, rfl, hb, hcr⟩ := Mg.msg_in h2 fun x hxx => by
        refine hw x ?_
        rw [hx.1]
        simp only [DataW.weights, Tryz.underlying32]
        refine List.mem_cons_of_mem _ (List.mem_append_left _ (weightsAll_mem (d := D i) ?_ x hxx))
        exact List.mem_map.mpr ⟨i, List.mem_range.mpr hi, rfl⟩
      obtain ⟨b1, b2, b3, b4, b5⟩ := hb
      subst b1
      exact ⟨(⟨ii, p⟩, A, cr), fun k x hk => by
        have hk' := (List.getElem?_eq_some_iff.1 hk).1
        have hk5 : k < 5 := hk'
        rw [hcell k hk5]
        simpa using hk, b2, hcr, b4, b5⟩
    have hcap : m * 56 ≤ 140737488351232 := by
      have hmem : m * 56 ≤ reachBytes := by
        refine hw _ ?_
        rw [hx.1]
        simp only [DataW.weights, Tryz.underlying32]
        refine List.mem_cons.2 (.inl ?_)
        rw [ms_b]
        simp
        omega
      unfold reachBytes at hmem
      exact hmem
    have inst : Inhabited (It × Option Addr × Nat) := ⟨(⟨⟨0, 0, 0, 0⟩, []⟩, none, 0)⟩
    obtain ⟨q, hq⟩ := choose_lt (α := It × Option Addr × Nat) each
    refine ⟨some ad, m, (List.range l).map fun i => (q i).1, by rw [hcs]; simp, fun j x hj => ?_, by simpa using hl, hcap, fun x hx => ?_, fun x hx => ?_⟩
    · obtain ⟨hj1, hj2⟩ := List.getElem?_eq_some_iff.1 hj
      have hj' : j < l := by simpa using hj1
      have hat : (q j).1 = x := by simpa using hj2
      obtain ⟨cc, g1, g2, g3, g4⟩ := hq j hj'
      rw [hat] at cc g1 g3 g4
      have c0 := cc 0 _ rfl
      have c1 := cc 1 _ rfl
      have c2 := cc 2 _ rfl
      have c3 := cc 3 _ rfl
      have c4 := cc 4 _ rfl
      obtain ⟨b, off, spot⟩ := ad
      have hspot : spot = none := by
        have h0 := World.cell?_spot ((hq 0 (by omega)).1 0 _ rfl)
        simpa [Addr.add] using h0
      subst hspot
      simp only [add_plain, Nat.add_zero] at c0 c1 c2 c3 c4
      exact ⟨b, off, (q j).2.1, (q j).2.2, rfl, World.block_lt_of_cell? w _ c0, ⟨c0, c1, c2, c3, c4⟩, g3, g4, g1, by omega⟩
    · obtain ⟨j, hj, rfl⟩ := List.mem_map.1 hx
      obtain ⟨_, g1, g2, _⟩ := hq j (List.mem_range.1 hj)
      exact Nat.le_trans g1 g2
    · obtain ⟨j, hj, rfl⟩ := List.mem_map.1 hx
      obtain ⟨_, _, _, g3, _⟩ := hq j (List.mem_range.1 hj)
      exact g3.1
set_option maxRecDepth 100000 in
/-- A state by value. -/
theorem state_val {H : Type} {enc : TypeId × Value → H} {w : World} {base : Nat} {held : Bool} {v : Value} {D : DataW H} {Pl : List MemPlace} {r : Reach} {b0 : Nat} (hv : Value.okWide Tryz.prog w r b0 59 v) (h : DataW.Trod enc Tryz.prog w base (fun _ => true) held 59 v D Pl) (hw : ∀ x ∈ D.weights Tryz.prog 59, x ≤ reachBytes) :
    ∃ (me ep : Int) (N : Ns) (L : List It) (P : List Se.Pm) (AN AH AM : Option Addr) (cN cH cM : Nat), v = .agg #[.int .i64 me, .int .i64 ep, .slice AN N.length cN, .slice AH L.length cH, .slice AM P.length cM] ∧ ∀ qh qb qg : Int, FqAt w ⟨me, qh, qb, qg, ep, N, L, P⟩ AN AH AM cM ∧ FqSz ⟨me, qh, qb, qg, ep, N, L, P⟩ AN cN cH cM := by
  obtain ⟨cs, rfl, hsz⟩ := okWide_struct Tryz.underlying59 hv
  obtain ⟨fuel, hf⟩ := h
  obtain ⟨y0, y1, y2, y3, y4, m, hx, hlen, h0, h1, h2, h3, h4⟩ := trod_struct5 Tryz.underlying59 hf
  rw [five_st] at hlen
  have e0 : (Value.agg cs).cells = cs := rfl
  rw [e0] at hlen h0 h1 h2 h3 h4
  obtain ⟨l, hl⟩ : ∃ l, cs.toList = l := ⟨_, rfl⟩
  rw [hl] at hlen h0 h1 h2 h3 h4
  simp only [Prod.mk.injEq] at hx
  match l, hlen with
  | [v0, v1, v2, v3, v4], _ =>
    simp only [Mg.one_int, one_nx, one_ms, one_mk] at h0 h1 h2 h3 h4
    simp at h0 h1 h2 h3 h4
    obtain ⟨k0, hk0, _, _⟩ := DataW.trod_int Tryz.underlying3 h0
    obtain ⟨k1, hk1, _, _⟩ := DataW.trod_int Tryz.underlying3 h1
    simp only [List.cons.injEq, and_true] at hk0 hk1
    obtain ⟨AN, cN, N, e2, n1, n2, n3, n4⟩ := nexts_in h2 fun x hxx => hw x (by
      rw [hx.1]
      simp only [DataW.weights, Tryz.underlying59]
      simp only [Array.toList, List.map_cons, List.map_nil, DataW.weightsEach, List.mem_append]
      exact .inr (.inr (.inl hxx)))
    obtain ⟨AH, cH, L, e3, m1, m2, m3, m4, m5⟩ := msgs_in h3 fun x hxx => hw x (by
      rw [hx.1]
      simp only [DataW.weights, Tryz.underlying59]
      simp only [Array.toList, List.map_cons, List.map_nil, DataW.weightsEach, List.mem_append]
      exact .inr (.inr (.inr (.inl hxx))))
    obtain ⟨AM, lM, cM, e4⟩ : ∃ A n c, v4 = .slice A n c := by
      rcases open_slice Tryz.underlying57 h4 with ⟨hcs, _⟩ | ⟨ad, l', c, m', n', D', Pl', hcs, _⟩
      · simp at hcs; exact ⟨none, 0, 0, hcs⟩
      · simp at hcs; exact ⟨some ad, l', c, hcs⟩
    subst e4
    obtain ⟨P, rfl, p1, p2⟩ := Se.marks_in h4 fun x hxx => hw x (by
      rw [hx.1]
      simp only [DataW.weights, Tryz.underlying59]
      simp only [Array.toList, List.map_cons, List.map_nil, DataW.weightsEach, List.mem_append]
      exact .inr (.inr (.inr (.inr (.inl hxx)))))
    have hpl : P.length ≤ cM := by
      obtain ⟨A0, c0, e, q1, _⟩ := p1
      injection e with e1 e2 e3
      omega
    refine ⟨k0, k1, N, L, P, AN, AH, AM, cN, cH, cM, ?_, fun qh qb qg => ⟨⟨n1, by show N.length ≤ _; omega, m1, by show L.length ≤ _; omega, p1, p2.msn hpl⟩, ⟨n2, n3, n4, m2, m3, m4, m5, p2⟩⟩⟩
    rw [hk0, hk1, e2, e3] at hl
    have : cs = #[.int .i64 k0, .int .i64 k1, .slice AN N.length cN, .slice AH L.length cH, .slice AM P.length cM] := by rw [← Array.toList_inj, hl]
    rw [this]
end Go.Proofs.YtfnlhfelpdkieaaGreat.So
/- The law of From, as its frame calls it. -/
namespace Go.Proofs.YtfnlhfelpdkieaaGreat.So
open Go.RowKit
open Go.Proofs.YtfnlhfelpdkieaaGreat.Me Go.Proofs.YtfnlhfelpdkieaaGreat.Sb
set_option linter.unusedVariables false

theorem storeFromL (qh qb qg me ep : Int) (N : Ns) (L : List It) (P : List Se.Pm) (AN AH AM : Option Addr) (cN cH cM : Nat) (w : World) (w0 : (Lit.int .i64 qh).wf = true) (w1 : (Lit.int .i64 qb).wf = true) (w2 : (Lit.int .i64 qg).wf = true) (ws : ∀ qh qb qg : Int, FqAt w ⟨me, qh, qb, qg, ep, N, L, P⟩ AN AH AM cM ∧ FqSz ⟨me, qh, qb, qg, ep, N, L, P⟩ AN cN cH cM) :
    Calls Tryz.prog 5 #[.agg #[.int .i64 qh, .int .i64 qb, .int .i64 qg], .agg #[.int .i64 me, .int .i64 ep, .slice AN N.length cN, .slice AH L.length cH, .slice AM P.length cM]] w fun e w' => e = .returned (.bool true) ∧ Below w.heap.size w w' :=
  storeFrom ⟨me, qh, qb, qg, ep, N, L, P⟩ AN AH AM cN cH cM w (Lib.hid (ws qh qb qg).1) (Lib.hid (ws qh qb qg).2)
end Go.Proofs.YtfnlhfelpdkieaaGreat.So
