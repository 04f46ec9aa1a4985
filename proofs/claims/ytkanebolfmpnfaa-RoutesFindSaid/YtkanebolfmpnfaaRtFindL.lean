/- RoutesFind: tables that tell one another come to cost what the shortest ways are, and next hops lead there. -/
import Derived.Test.YtkanebolfmpnfaaRtTell
import Derived.Test.YtkanebolfmpnfaaRtTabs
import Derived.Test.YtkanebolfmpnfaaRtIn
namespace Go.Proofs.Ytkanebolfmpnfaa.Rt
open Go.RowKit Go.Maps
open Go.Proofs.Ytkanebolfmpnfaa.Sb
set_option linter.unusedVariables false
set_option linter.unusedSimpArgs false

theorem u64_of {n : Int} (h : (Lit.int .u64 n).wf = true) : ∃ m : Nat, n = m ∧ m < 18446744073709551616 := by
  simp [Lit.wf, IntKind.min, IntKind.max, IntKind.signed, IntKind.bits] at h
  exact ⟨n.toNat, by omega, by omega⟩
theorem acts_cells4 {w : World} {A : Option Addr} {ls : List Ac} (h : Acts w A ls) {k : Nat} (hk : k < ls.length) : ∃ b off R cr, A = some ⟨b, off, none⟩ ∧ AcIn w (acAt ls k) R cr ∧ ∀ W, Below w.heap.size w W → W.cell? ⟨b, off + k * 4, none⟩ = some (.int .i64 (acAt ls k).k) ∧ W.cell? ⟨b, off + k * 4 + 1, none⟩ = some (.int .i64 (acAt ls k).d) ∧ W.cell? ⟨b, off + k * 4 + 2, none⟩ = some (.int .i64 (acAt ls k).v) ∧ W.cell? ⟨b, off + k * 4 + 3, none⟩ = some (.slice R (acAt ls k).p.length cr) := by
  obtain ⟨b, off, R, cr, e, h1, c0, c1, c2, c3, hi⟩ := h k hk
  exact ⟨b, off, R, cr, e, hi, fun W hW => ⟨(hW.cell (p := ⟨b, off + k * 4, none⟩) h1).trans c0, (hW.cell (p := ⟨b, off + k * 4 + 1, none⟩) h1).trans c1, (hW.cell (p := ⟨b, off + k * 4 + 2, none⟩) h1).trans c2, (hW.cell (p := ⟨b, off + k * 4 + 3, none⟩) h1).trans c3⟩⟩
/-- The node that an act means. -/
theorem node_of (d : Int) {n : Nat} (hn : 1 ≤ n ∧ n ≤ 8) : ∃ j : Nat, j < n ∧ (IntKind.u64.wrap d).tmod (n : Int) = (j : Int) := by
  have h0 : 0 ≤ IntKind.u64.wrap d := by rw [IntKind.wrap_u64]; omega
  rw [Int.tmod_eq_emod_of_nonneg h0]
  have h1 := Int.emod_nonneg (IntKind.u64.wrap d) (show (n : Int) ≠ 0 by omega)
  have h2 := Int.emod_lt_of_pos (IntKind.u64.wrap d) (show (0 : Int) < (n : Int) by omega)
  exact ⟨((IntKind.u64.wrap d) % (n : Int)).toNat, by omega, by omega⟩
/-- All that the law holds between two steps. -/
structure Fd (B : Nat) (w W : World) (n : Nat) (N : Int) (L P : Nat) (D mb : Nat → Nat) (v : Nat → Value) (T : Nat → Tb) : Prop where
  ts : Ts B W n D mb v T
  ps : Ps W P n D
  bx : W.heap[w.heap.size]? = some (.cells (netV N L) 61 (0, 0))
  bel : Below w.heap.size w W
section
variable {B n P L : Nat} {N : Int} {w W W' : World} {D mb : Nat → Nat} {v : Nat → Value} {T T' : Nat → Tb}
theorem Fd.below (h : Fd B w W n N L P D mb v T) (hb : Below W.heap.size W W') : Fd B w W' n N L P D mb v T := ⟨h.ts.below hb, h.ps.below hb, (Ck.below hb _ _ _ h.bx).trans h.bx, h.bel.trans (hb.mono h.bel.size)⟩
theorem Fd.drew (h : Fd B w W n N L P D mb v T) : Fd B w W.drew n N L P D mb v T := h.below (Below.refl _ _).drew
theorem Fd.x0 (h : Fd B w W n N L P D mb v T) : W.cell? ⟨w.heap.size, 0, none⟩ = some (.int .i64 N) := by rw [cell_of_row W _ 0 _ _ (0, 0) h.bx]; rfl
theorem Fd.x1 (h : Fd B w W n N L P D mb v T) : W.cell? ⟨w.heap.size, 1, none⟩ = some (.int .u64 (L : Int)) := by rw [cell_of_row W _ 1 _ _ (0, 0) h.bx]; rfl
theorem Fd.hear (h : Fd B w W n N L P D mb v T) (hB : w.heap.size ≤ B) {k : Nat} (hk : k < n) {t : Tb} (ht : Tn B W' (D k) (mb k) (v k) t) (hb : But (fun b => b = mb k) W W') : Fd B w W' n N L P D mb v (updT T k t) :=
  have hck : Ck W W' := Ck.map (h.ts.tn k hk).tq.mp.isMap hb
  ⟨h.ts.put hk ht hb, h.ps.keep hck, (hck _ _ _ h.bx).trans h.bx, h.bel.trans (hb.below h.bel.size fun j e => by rw [e]; exact Nat.le_trans hB (h.ts.tn k hk).gm)⟩
end
set_option maxRecDepth 100000 in
set_option maxHeartbeats 8000000 in
theorem routesFind (N Li : Int) (A : Option Addr) (len cap : Nat) (ls : List Ac) (w : World) (hN : (Lit.int .i64 N).wf = true) (hLi : (Lit.int .u64 Li).wf = true) (hl : len = ls.length ∧ len ≤ cap ∧ cap ≤ 9223372036854775807 ∧ Acts w A ls) :
    Calls Try.prog 7 #[.agg #[.int .i64 N, .int .u64 Li], .slice A len cap] w fun e w' => e = .returned (.bool true) ∧ Below w.heap.size w w' := by
  obtain ⟨L, rfl, hL⟩ := u64_of hLi
  clear hN hLi
  obtain ⟨hl1, hl2, hl3, hac⟩ := hl
  have HAC := Lib.hid hac
  have HLN : Hid (len = ls.length) := hl1
  clear hl1 hac
  show Calls Try.prog _ #[.agg (netV N L), .slice A len cap] w _
  have HBX : Hid ((w.alloc (.cells (netV N L) 61)).heap[w.heap.size]? = some (.cells (netV N L) 61 (0, 0))) := heap_alloc_new w _
  have HB0 : Hid (Below w.heap.size w (w.alloc (.cells (netV N L) 61))) := Mi.below_alloc (Below.refl _ _)
  have HSZ : Hid ((w.alloc (.cells (netV N L) 61)).heap.size = w.heap.size + 1) := World.size_alloc _ _
  obtain ⟨w1, hw1⟩ : ∃ w1, w.alloc (.cells (netV N L) 61) = w1 := ⟨_, rfl⟩
  have HW1 : Hid (w.alloc (.cells (netV N L) 61) = w1) := hw1
  rw [hw1] at HBX HB0 HSZ
  clear hw1
  obtain ⟨hn1, hn8⟩ := nodes_le N
  have HTB : Hid (Calls Try.prog 26 #[.agg #[.int .i64 N, .int .u64 (L : Int)]] w1 fun e w' => ∃ P c D mb v, e = .returned (.slice (some ⟨P, 0, none⟩) (nodesN N) c) ∧ Hid (Ts w1.heap.size w' (nodesN N) D mb v (T0 L (nodesN N))) ∧ Hid (Ps w' P (nodesN N) D) ∧ Hid (Below w1.heap.size w1 w')) := tables_any N L hL w1
  obtain ⟨n, hnn⟩ : ∃ n, nodesN N = n := ⟨_, rfl⟩
  rw [hnn] at HTB hn1 hn8
  clear hnn
  have HNT : Hid (NetT n (lkB L) (T0 L n)) := T0_net hn8
  have HLK : Hid (∀ i k : Nat, i < n → k < n → ∀ W : World, Calls Try.prog 29 #[.agg #[.int .i64 N, .int .u64 (L : Int)], .int .i64 (i : Int), .int .i64 (k : Int)] W fun e w' => e = .returned (.bool (lkB L i k)) ∧ Hid (Below W.heap.size W w')) := fun i k hi hk W => linked_any N L hL i k (by omega) (by omega) W
  have HTELL : Hid (∀ (B P c : Nat) (D mb : Nat → Nat) (v : Nat → Value) (T : Nat → Tb) (W : World), Hid (NetT n (lkB L) T) → Hid (Ts B W n D mb v T) → Hid (Ps W P n D) → Hid (B ≤ W.heap.size) → Calls Try.prog 27 #[.agg #[.int .i64 N, .int .u64 (L : Int)], .slice (some ⟨P, 0, none⟩) n c] W fun e w' => e = .returned (.tuple #[]) ∧ Hid (Ts B w' n D mb v fun k => toldK (lkB L) T k n) ∧ Hid (Ps w' P n D) ∧ Hid (Below B W w')) := fun B P c D mb v T W h1 h2 h3 h4 => tell_any N L hL n ⟨hn1, hn8⟩ B P c D mb v T W h1 h2 h3 h4
  have HLEN : Hid (∀ (a : Nat), a < n → ∀ W : World, Calls Try.prog 28 #[.agg #[.int .i64 N, .int .u64 (L : Int)], .int .i64 (n : Int), .int .i64 (a : Int)] W fun e w' => ∃ g, e = .returned (.slice (some ⟨g, 0, none⟩) n n) ∧ W.heap.size ≤ g ∧ Hid (Ln w' g n (lenO (lkB L) n a)) ∧ Hid (Below W.heap.size W w')) := fun a ha W => lengths_any N L hL n a ⟨hn1, hn8⟩ ha W
  have HK := Lib.hid awake_any
  have x0 : w1.cell? ⟨w.heap.size, 0, none⟩ = some (.int .i64 N) := by rw [cell_of_row w1 _ 0 _ _ (0, 0) HBX.out]; rfl
  have x1 : w1.cell? ⟨w.heap.size, 1, none⟩ = some (.int .u64 (L : Int)) := by rw [cell_of_row w1 _ 1 _ _ (0, 0) HBX.out]; rfl
  have gn0 : ((n : Int) == 0) = false := beq_eq_false_iff_ne.mpr (by omega)
  have hn0 : ¬ n = 0 := by omega
  go_enter Try.func7, Try.ntmps7
  go_wp2_with (first
    | (refine Mi.allocTo rfl (.pointer (some ⟨_, 0, none⟩)) (.cells (netV N L) 61 (0, 0)) (exec_boxn _ _ N L (.tmp 0) rfl rfl _) ?_; rw [HW1.out])
    | (go_at_call 26; (with_reducible refine HTB.out.mono ?_); rintro e w2 ⟨P, c, D, mb, v, rfl, ht2, hp2, hb2⟩))
  have HF0 : Hid (Fd w1.heap.size w w2 n N L P D mb v (T0 L n)) := ⟨ht2.out, hp2.out, (Ck.below hb2.out _ _ _ HBX.out).trans HBX.out, HB0.out.trans (hb2.out.mono HB0.out.size)⟩
  obtain ⟨B, hB⟩ : ∃ B, w1.heap.size = B := ⟨_, rfl⟩
  have HB : Hid (w.heap.size < B) := by have := HSZ.out; show _ < _; omega
  rw [hB] at HF0
  clear x0 x1 ht2 hp2 hb2 hB
  go_loopw [7] (fun k wr => ∃ (i : Nat) (T : Nat → Tb), i ≤ len ∧ i ≤ 60 ∧ k = .int .i64 i ∧ Hid (NetT n (lkB L) T) ∧ Hid (Fd B w wr n N L P D mb v T)) (fun k _ => 60 - (intOf k).toNat)
  case atStart => exact ⟨0, _, Nat.zero_le _, by omega, rfl, HNT, HF0⟩
  case round =>
    obtain ⟨i, T, hi1, hi2, rfl, hnt, hf⟩ := hrel
    by_cases hlt : i < len ∧ i < 60
    · obtain ⟨h1, h2⟩ := hlt
      obtain ⟨b, off, R, cr, rfl, hin, hca⟩ := acts_cells4 HAC.out (k := i) (by rw [← HLN.out]; omega)
      have HCA := Lib.hid hca
      have hki : (i : Int) < (len : Int) := by omega
      have hk60 : (i : Int) < 60 := by omega
      have hrp := hin.rd
      have hpl : (acAt ls i).p.length ≤ 9223372036854775806 := by have := hin.le; have := hin.sz; omega
      clear hca hin
      obtain ⟨a, ha⟩ : ∃ a, acAt ls i = a := ⟨_, rfl⟩
      rw [ha] at HCA hrp hpl
      clear ha
      obtain ⟨kk, dd, via, cst⟩ := a
      simp only at HCA hrp hpl
      have c0 := (HCA.out wr hf.out.bel).1
      by_cases hk1 : kk = 1
      · subst hk1
        obtain ⟨j, hj, hjm⟩ := node_of dd (n := n) ⟨hn1, hn8⟩
        have HJM := Lib.hid hjm
        have HWN : Hid (IntKind.u64.wrap (n : Int) = (n : Int)) := by show _ = _; rw [IntKind.wrap_u64]; omega
        have HWJ : Hid (IntKind.i64.wrap (j : Int) = (j : Int)) := Mi.fits' (by unfold Mi.I64; omega)
        have HH := Lib.hid (Hear_map (w := wr.drew) (t := T j) (Lib.hid (hf.out.drew.ts.tn j hj)) via R cr w.heap.size cst (Lib.hid (hrp.below hf.out.drew.bel)) hf.out.drew.bel.size hpl)
        obtain ⟨E, hE⟩ : ∃ E : Int, ((hearE (T j) via cst : Nat) : Int) = E := ⟨_, rfl⟩
        rw [hE] at HH
        clear hE hjm hrp hpl
        have HS : Hid (∀ W, Below w.heap.size w W ∧ Ck wr W → W.cell? ⟨P, j, none⟩ = some (.pointer (some ⟨D j, 0, none⟩))) := fun W hW => (hf.out.ps.keep hW.2).cell hj
        go_wp2
        refine wp_region_held_drew (S := fun W => Below w.heap.size w W ∧ Ck wr W) (by kernel_rfl) ⟨hf.out.bel.drew, Ck.refl wr⟩ (fun hHeld => ?_)
        refine wpAnyH_take (i := 0) (v := .slice (some ⟨P, 0, none⟩) n c) rfl (by kernel_rfl) (by kernel_rfl) (by kernel_rfl) (fun _ _ _ h => h) (Or.inl ⟨by rfl, ?_⟩) (by first | assumption | exact trivial) ?_
        · intro W hSW; go_simp; try (with_reducible rfl)
        simp only [Act.put, List.getElem_toArray, List.getElem_cons_succ, List.getElem_cons_zero, List.setIfInBounds_toArray, List.set_cons_zero, List.set_cons_succ]
        refine wpAnyH_take (i := 1) (v := .slice (some ⟨b, off, none⟩) len cap) rfl (by kernel_rfl) (by kernel_rfl) (by kernel_rfl) (fun _ _ _ h => h) (Or.inl ⟨by rfl, ?_⟩) (by first | assumption | exact trivial) ?_
        · intro W hSW; go_simp; try (with_reducible rfl)
        simp only [Act.put, List.getElem_toArray, List.getElem_cons_succ, List.getElem_cons_zero, List.setIfInBounds_toArray, List.set_cons_zero, List.set_cons_succ]
        refine wpAnyH_take (i := 2) (v := .int .i64 (i : Int)) rfl (by kernel_rfl) (by kernel_rfl) (by kernel_rfl) (fun _ _ _ h => h) (Or.inl ⟨by rfl, ?_⟩) (by first | assumption | exact trivial) ?_
        · intro W hSW; go_simp; try (with_reducible rfl)
        simp only [Act.put, List.getElem_toArray, List.getElem_cons_succ, List.getElem_cons_zero, List.setIfInBounds_toArray, List.set_cons_zero, List.set_cons_succ]
        refine wpAnyH_take (i := 3) (v := .pointer (some ⟨b, off + i * 4, none⟩)) rfl (by kernel_rfl) (by kernel_rfl) (by kernel_rfl) (fun _ _ _ h => h) (Or.inl ⟨by rfl, ?_⟩) (by first | assumption | exact trivial) ?_
        · intro W hSW; have q6 := hki; go_simp; try (with_reducible rfl)
        simp only [Act.put, List.getElem_toArray, List.getElem_cons_succ, List.getElem_cons_zero, List.setIfInBounds_toArray, List.set_cons_zero, List.set_cons_succ]
        refine wpAnyH_take (i := 4) (v := .pointer (some ⟨b, off + i * 4 + 1, none⟩)) rfl (by kernel_rfl) (by kernel_rfl) (by kernel_rfl) (fun _ _ _ h => h) (Or.inl ⟨by rfl, ?_⟩) (by first | assumption | exact trivial) ?_
        · intro W hSW; go_simp; try (with_reducible rfl)
        simp only [Act.put, List.getElem_toArray, List.getElem_cons_succ, List.getElem_cons_zero, List.setIfInBounds_toArray, List.set_cons_zero, List.set_cons_succ]
        refine wpAnyH_take (i := 5) (v := .int .i64 dd) rfl (by kernel_rfl) (by kernel_rfl) (by kernel_rfl) (fun _ _ _ h => h) (Or.inl ⟨by rfl, ?_⟩) (by first | assumption | exact trivial) ?_
        · intro W hSW; have q7 := (HCA.out W hSW.1).2.1; go_simp; try (with_reducible rfl)
        simp only [Act.put, List.getElem_toArray, List.getElem_cons_succ, List.getElem_cons_zero, List.setIfInBounds_toArray, List.set_cons_zero, List.set_cons_succ]
        refine wpAnyH_take (i := 6) (v := .int .u64 (IntKind.u64.wrap dd)) rfl (by kernel_rfl) (by kernel_rfl) (by kernel_rfl) (fun _ _ _ h => h) (Or.inl ⟨by rfl, ?_⟩) (by first | assumption | exact trivial) ?_
        · intro W hSW; go_simp; try (with_reducible rfl)
        simp only [Act.put, List.getElem_toArray, List.getElem_cons_succ, List.getElem_cons_zero, List.setIfInBounds_toArray, List.set_cons_zero, List.set_cons_succ]
        refine wpAnyH_take (i := 7) (v := .int .i64 (n : Int)) rfl (by kernel_rfl) (by kernel_rfl) (by kernel_rfl) (fun _ _ _ h => h) (Or.inl ⟨by rfl, ?_⟩) (by first | assumption | exact trivial) ?_
        · intro W hSW; go_simp; try (with_reducible rfl)
        simp only [Act.put, List.getElem_toArray, List.getElem_cons_succ, List.getElem_cons_zero, List.setIfInBounds_toArray, List.set_cons_zero, List.set_cons_succ]
        refine wpAnyH_take (i := 8) (v := .int .u64 (n : Int)) rfl (by kernel_rfl) (by kernel_rfl) (by kernel_rfl) (fun _ _ _ h => h) (Or.inl ⟨by rfl, ?_⟩) (by first | assumption | exact trivial) ?_
        · intro W hSW; have q7 := HWN.out; go_simp; try (with_reducible rfl)
        simp only [Act.put, List.getElem_toArray, List.getElem_cons_succ, List.getElem_cons_zero, List.setIfInBounds_toArray, List.set_cons_zero, List.set_cons_succ]
        refine wpAnyH_take (i := 9) (v := .int .u64 (j : Int)) rfl (by kernel_rfl) (by kernel_rfl) (by kernel_rfl) (fun _ _ _ h => h) (Or.inl ⟨by rfl, ?_⟩) (by first | assumption | exact trivial) ?_
        · intro W hSW; have q7 := HJM.out; have q8 := hn0; go_simp; try (with_reducible rfl)
        simp only [Act.put, List.getElem_toArray, List.getElem_cons_succ, List.getElem_cons_zero, List.setIfInBounds_toArray, List.set_cons_zero, List.set_cons_succ]
        refine wpAnyH_take (i := 10) (v := .int .i64 (j : Int)) rfl (by kernel_rfl) (by kernel_rfl) (by kernel_rfl) (fun _ _ _ h => h) (Or.inl ⟨by rfl, ?_⟩) (by first | assumption | exact trivial) ?_
        · intro W hSW; have q7 := HWJ.out; go_simp; try (with_reducible rfl)
        simp only [Act.put, List.getElem_toArray, List.getElem_cons_succ, List.getElem_cons_zero, List.setIfInBounds_toArray, List.set_cons_zero, List.set_cons_succ]
        refine wpAnyH_take (i := 11) (v := .pointer (some ⟨P, j, none⟩)) rfl (by kernel_rfl) (by kernel_rfl) (by kernel_rfl) (fun _ _ _ h => h) (Or.inl ⟨by rfl, ?_⟩) (by first | assumption | exact trivial) ?_
        · intro W hSW; have q6 := hj; go_simp; try (with_reducible rfl)
        simp only [Act.put, List.getElem_toArray, List.getElem_cons_succ, List.getElem_cons_zero, List.setIfInBounds_toArray, List.set_cons_zero, List.set_cons_succ]
        refine wpAnyH_take (i := 12) (v := .pointer (some ⟨D j, 0, none⟩)) rfl (by kernel_rfl) (by kernel_rfl) (by kernel_rfl) (fun _ _ _ h => h) (Or.inl ⟨by rfl, ?_⟩) (by first | assumption | exact trivial) ?_
        · intro W hSW; have q7 := HS.out W hSW; go_simp; try (with_reducible rfl)
        simp only [Act.put, List.getElem_toArray, List.getElem_cons_succ, List.getElem_cons_zero, List.setIfInBounds_toArray, List.set_cons_zero, List.set_cons_succ]
        refine wpAnyH_take (i := 13) (v := .slice (some ⟨b, off, none⟩) len cap) rfl (by kernel_rfl) (by kernel_rfl) (by kernel_rfl) (fun _ _ _ h => h) (Or.inl ⟨by rfl, ?_⟩) (by first | assumption | exact trivial) ?_
        · intro W hSW; go_simp; try (with_reducible rfl)
        simp only [Act.put, List.getElem_toArray, List.getElem_cons_succ, List.getElem_cons_zero, List.setIfInBounds_toArray, List.set_cons_zero, List.set_cons_succ]
        refine wpAnyH_take (i := 14) (v := .int .i64 (i : Int)) rfl (by kernel_rfl) (by kernel_rfl) (by kernel_rfl) (fun _ _ _ h => h) (Or.inl ⟨by rfl, ?_⟩) (by first | assumption | exact trivial) ?_
        · intro W hSW; go_simp; try (with_reducible rfl)
        simp only [Act.put, List.getElem_toArray, List.getElem_cons_succ, List.getElem_cons_zero, List.setIfInBounds_toArray, List.set_cons_zero, List.set_cons_succ]
        refine wpAnyH_take (i := 15) (v := .pointer (some ⟨b, off + i * 4, none⟩)) rfl (by kernel_rfl) (by kernel_rfl) (by kernel_rfl) (fun _ _ _ h => h) (Or.inl ⟨by rfl, ?_⟩) (by first | assumption | exact trivial) ?_
        · intro W hSW; have q6 := hki; go_simp; try (with_reducible rfl)
        simp only [Act.put, List.getElem_toArray, List.getElem_cons_succ, List.getElem_cons_zero, List.setIfInBounds_toArray, List.set_cons_zero, List.set_cons_succ]
        refine wpAnyH_take (i := 16) (v := .pointer (some ⟨b, off + i * 4 + 2, none⟩)) rfl (by kernel_rfl) (by kernel_rfl) (by kernel_rfl) (fun _ _ _ h => h) (Or.inl ⟨by rfl, ?_⟩) (by first | assumption | exact trivial) ?_
        · intro W hSW; go_simp; try (with_reducible rfl)
        simp only [Act.put, List.getElem_toArray, List.getElem_cons_succ, List.getElem_cons_zero, List.setIfInBounds_toArray, List.set_cons_zero, List.set_cons_succ]
        refine wpAnyH_take (i := 17) (v := .int .i64 via) rfl (by kernel_rfl) (by kernel_rfl) (by kernel_rfl) (fun _ _ _ h => h) (Or.inl ⟨by rfl, ?_⟩) (by first | assumption | exact trivial) ?_
        · intro W hSW; have q7 := (HCA.out W hSW.1).2.2.1; go_simp; try (with_reducible rfl)
        simp only [Act.put, List.getElem_toArray, List.getElem_cons_succ, List.getElem_cons_zero, List.setIfInBounds_toArray, List.set_cons_zero, List.set_cons_succ]
        refine wpAnyH_take (i := 18) (v := .slice (some ⟨b, off, none⟩) len cap) rfl (by kernel_rfl) (by kernel_rfl) (by kernel_rfl) (fun _ _ _ h => h) (Or.inl ⟨by rfl, ?_⟩) (by first | assumption | exact trivial) ?_
        · intro W hSW; go_simp; try (with_reducible rfl)
        simp only [Act.put, List.getElem_toArray, List.getElem_cons_succ, List.getElem_cons_zero, List.setIfInBounds_toArray, List.set_cons_zero, List.set_cons_succ]
        refine wpAnyH_take (i := 19) (v := .int .i64 (i : Int)) rfl (by kernel_rfl) (by kernel_rfl) (by kernel_rfl) (fun _ _ _ h => h) (Or.inl ⟨by rfl, ?_⟩) (by first | assumption | exact trivial) ?_
        · intro W hSW; go_simp; try (with_reducible rfl)
        simp only [Act.put, List.getElem_toArray, List.getElem_cons_succ, List.getElem_cons_zero, List.setIfInBounds_toArray, List.set_cons_zero, List.set_cons_succ]
        refine wpAnyH_take (i := 20) (v := .pointer (some ⟨b, off + i * 4, none⟩)) rfl (by kernel_rfl) (by kernel_rfl) (by kernel_rfl) (fun _ _ _ h => h) (Or.inl ⟨by rfl, ?_⟩) (by first | assumption | exact trivial) ?_
        · intro W hSW; have q6 := hki; go_simp; try (with_reducible rfl)
        simp only [Act.put, List.getElem_toArray, List.getElem_cons_succ, List.getElem_cons_zero, List.setIfInBounds_toArray, List.set_cons_zero, List.set_cons_succ]
        refine wpAnyH_take (i := 21) (v := .pointer (some ⟨b, off + i * 4 + 3, none⟩)) rfl (by kernel_rfl) (by kernel_rfl) (by kernel_rfl) (fun _ _ _ h => h) (Or.inl ⟨by rfl, ?_⟩) (by first | assumption | exact trivial) ?_
        · intro W hSW; go_simp; try (with_reducible rfl)
        simp only [Act.put, List.getElem_toArray, List.getElem_cons_succ, List.getElem_cons_zero, List.setIfInBounds_toArray, List.set_cons_zero, List.set_cons_succ]
        refine wpAnyH_take (i := 22) (v := .slice R cst.length cr) rfl (by kernel_rfl) (by kernel_rfl) (by kernel_rfl) (fun _ _ _ h => h) (Or.inl ⟨by rfl, ?_⟩) (by first | assumption | exact trivial) ?_
        · intro W hSW; have q7 := (HCA.out W hSW.1).2.2.2; go_simp; try (with_reducible rfl)
        simp only [Act.put, List.getElem_toArray, List.getElem_cons_succ, List.getElem_cons_zero, List.setIfInBounds_toArray, List.set_cons_zero, List.set_cons_succ]
        refine wpAnyH_ready (rs := [23]) (by kernel_rfl) (by simp) ?_
        refine AllReadyH.cons rfl (fun K hK => ?_) AllReadyH.nil
        go_simp
        go_wp2_with (go_at_call 23; refine HH.out.mono ?_; rintro e wh ⟨rfl, hth, hbh⟩)
        have hbh' : But (fun k => k = mb j) wr wh := (But.of_below (Below.refl _ _).drew).trans hbh.out fun _ _ e => e
        have HNX : Hid (Fd B w wh n N L P D mb v (updT T j (hearT (T j) via cst))) := hf.out.hear (Nat.le_of_lt HB.out) hj hth.out hbh'
        have HNN : Hid (NetT n (lkB L) (updT T j (hearT (T j) via cst))) := hnt.out.hear j via cst
        have hck : Ck wr wh := Ck.map (hf.out.ts.tn j hj).tq.mp.isMap hbh'
        clear hth hbh hbh'
        refine hK.out _ _ (⟨HNX.out.bel, hck⟩) (fun hHeld => ?_)
        clear hK K
        refine wpAnyH_done (by kernel_rfl) ?_ _
        go_wp2
        go_roundw
        case rel => exact ⟨i + 1, _, by omega, by omega, by go_num, HNN, HNX⟩
        case measure => simp [intOf]; omega
      · have g1 : (kk == 1) = false := beq_eq_false_iff_ne.mpr hk1
        go_wp2
        go_roundw
        case rel => exact ⟨i + 1, T, by omega, by omega, by go_num, hnt, hf⟩
        case measure => simp [intOf]; omega
    · by_cases e : i < len
      case' pos =>
        have e1 : (i : Int) < (len : Int) := by omega
        have e60 : ¬ (i : Int) < 60 := by omega
        go_wp2
        clear e1 e60
      case' neg =>
        have e1 : ¬ (i : Int) < (len : Int) := by omega
        go_wp2
        clear e1
      all_goals
        clear hlt e
        go_loopw [8] (fun k wr => ∃ r : Nat, r ≤ 24 ∧ k = .int .i64 r ∧ Hid (Fd B w wr n N L P D mb v (rnd (lkB L) n T r))) (fun k _ => 24 - (intOf k).toNat)
        case atStart => exact ⟨0, by omega, rfl, hf⟩
        case round =>
          clear hf
          obtain ⟨r, hr, rfl, hf⟩ := hrel
          by_cases hlr : r < 24
          · have hrl : (r : Int) < 24 := by omega
            have x0 := hf.out.x0
            have x1 := hf.out.x1
            have HBs : Hid (B ≤ wr.heap.size) := by
              have h1 := (hf.out.ts.tn 0 (by omega)).gm
              have h2 := (hf.out.ts.tn 0 (by omega)).tq.ltm
              show _ ≤ _
              omega
            have HTL := Lib.hid (HTELL.out B P c D mb v (rnd (lkB L) n T r) wr (Lib.hid (rnd_net hnt.out r)) (Lib.hid hf.out.ts) (Lib.hid hf.out.ps) HBs)
            go_wp2_with (go_at_call 27; (with_reducible refine HTL.out.mono ?_); rintro e w4 ⟨rfl, ht4, hp4, hb4⟩)
            have HF4 : Hid (Fd B w w4 n N L P D mb v (rnd (lkB L) n T (r + 1))) := ⟨ht4.out, hp4.out, (hb4.out.block _ HB.out).trans hf.out.bx, hf.out.bel.trans (hb4.out.mono (Nat.le_of_lt HB.out))⟩
            clear ht4 hp4 hb4 x0 x1
            go_roundw
            case rel => exact ⟨r + 1, by omega, by go_num, HF4⟩
            case measure => simp [intOf]; omega
          · have hrl : ¬ (r : Int) < 24 := by omega
            have hr24 : rnd (lkB L) n T r = rnd (lkB L) n T 24 := by rw [show r = 24 by omega]
            rw [hr24] at hf
            have HC : Hid (∀ k d : Nat, k < n → d < n → costN (rnd (lkB L) n T 24 k) (d : Int) = lenO (lkB L) n k d) := fun k d hk hd => find_cost hn8 hnt.out hk hd
            have HP16 : Hid (∀ k, k < n → costN (rnd (lkB L) n T 24 k) (n : Int) = 16) := fun k hk => find_past hn8 hnt.out hk
            have HNXT : Hid (∀ k d : Nat, k < n → d < n → k ≠ d → ∃ i, i < n ∧ lkB L k i = true ∧ nextN (rnd (lkB L) n T 24 k) (d : Int) = ((i : Int), true) ∧ distO (lkB L) n i d + 1 = distO (lkB L) n k d) := fun k d hk hd e => find_next hn8 hnt.out hk hd e
            obtain ⟨T4, hT4⟩ : ∃ T', rnd (lkB L) n T 24 = T' := ⟨_, rfl⟩
            rw [hT4] at hf HC HP16 HNXT
            clear hT4 hr24 hlr
            go_wp2
            clear hrl hr hnt
            go_loopw [9] (fun k wr => ∃ a : Nat, a ≤ n ∧ k = .int .i64 a ∧ Hid (Fd B w wr n N L P D mb v T4)) (fun k _ => n - (intOf k).toNat)
            case atStart => exact ⟨0, Nat.zero_le _, rfl, hf⟩
            case round =>
              clear hf
              obtain ⟨a, han, rfl, hf⟩ := hrel
              by_cases hal : a < n
              · have HAL := Lib.hid hal
                have x0 := hf.out.x0
                have x1 := hf.out.x1
                have HLC := Lib.hid (HLEN.out a hal wr)
                go_wp2_with (go_at_call 28; (with_reducible refine HLC.out.mono ?_); rintro e w6 ⟨g, rfl, hg6, hl6, hb6⟩)
                have HF6 : Hid (Fd B w w6 n N L P D mb v T4) := hf.out.below hb6.out
                clear hf hb6 hg6 x0 x1
                go_loopw [11] (fun k wr => ∃ d : Nat, d ≤ n ∧ k = .int .i64 d ∧ Hid (Fd B w wr n N L P D mb v T4) ∧ Hid (Ln wr g n (lenO (lkB L) n a))) (fun k _ => n - (intOf k).toNat)
                case atStart => exact ⟨0, Nat.zero_le _, rfl, HF6, hl6⟩
                case round =>
                  clear HF6 hl6
                  obtain ⟨d, hdn, rfl, hf, hl⟩ := hrel
                  by_cases hdl : d < n
                  · have hCO := Cost_any wr.drew (D a) (mb a) (v a) (T4 a) (Lib.hid (hf.out.drew.ts.tn a HAL.out).tq) (Lib.hid (hf.out.drew.ts.tn a HAL.out).ok) (d : Int)
                    rw [HC.out a d HAL.out hdl] at hCO
                    have HCE : Hid (∀ W, Below wr.heap.size wr W → W.cell? ⟨P, a, none⟩ = some (.pointer (some ⟨D a, 0, none⟩)) ∧ W.cell? ⟨g, d, none⟩ = some (.int .i64 (lenO (lkB L) n a d))) := fun W hW => ⟨((hf.out.below hW).ps).cell HAL.out, (hl.out.below hW).cell hdl⟩
                    have HX : Hid (lenO (lkB L) n a d = (distO (lkB L) n a d : Int)) := find_len hn8 HAL.out hdl
                    obtain ⟨x, hx⟩ : ∃ x : Int, lenO (lkB L) n a d = x := ⟨_, rfl⟩
                    rw [hx] at hCO HX HCE
                    have HXE : Hid (lenO (lkB L) n a d = x) := hx
                    clear hx
                    have HCO := Lib.hid hCO
                    clear hCO
                    have g7 : (x != x) = false := by simp
                    go_wp2
                    refine wp_region_held_drew (S := fun W => Below wr.heap.size wr W) (by kernel_rfl) (Below.refl _ _).drew (fun hHeld => ?_)
                    refine wpAnyH_take (i := 0) (v := .slice (some ⟨P, 0, none⟩) n c) rfl (by kernel_rfl) (by kernel_rfl) (by kernel_rfl) (fun _ _ _ h => h) (Or.inl ⟨by rfl, ?_⟩) (by first | assumption | exact trivial) ?_
                    · intro W hSW; go_simp; try (with_reducible rfl)
                    simp only [Act.put, List.getElem_toArray, List.getElem_cons_succ, List.getElem_cons_zero, List.setIfInBounds_toArray, List.set_cons_zero, List.set_cons_succ]
                    refine wpAnyH_take (i := 1) (v := .int .i64 (a : Int)) rfl (by kernel_rfl) (by kernel_rfl) (by kernel_rfl) (fun _ _ _ h => h) (Or.inl ⟨by rfl, ?_⟩) (by first | assumption | exact trivial) ?_
                    · intro W hSW; go_simp; try (with_reducible rfl)
                    simp only [Act.put, List.getElem_toArray, List.getElem_cons_succ, List.getElem_cons_zero, List.setIfInBounds_toArray, List.set_cons_zero, List.set_cons_succ]
                    refine wpAnyH_take (i := 2) (v := .pointer (some ⟨P, a, none⟩)) rfl (by kernel_rfl) (by kernel_rfl) (by kernel_rfl) (fun _ _ _ h => h) (Or.inl ⟨by rfl, ?_⟩) (by first | assumption | exact trivial) ?_
                    · intro W hSW; have q6 := HAL.out; go_simp; try (with_reducible rfl)
                    simp only [Act.put, List.getElem_toArray, List.getElem_cons_succ, List.getElem_cons_zero, List.setIfInBounds_toArray, List.set_cons_zero, List.set_cons_succ]
                    refine wpAnyH_take (i := 3) (v := .pointer (some ⟨D a, 0, none⟩)) rfl (by kernel_rfl) (by kernel_rfl) (by kernel_rfl) (fun _ _ _ h => h) (Or.inl ⟨by rfl, ?_⟩) (by first | assumption | exact trivial) ?_
                    · intro W hSW; have q7 := (HCE.out W hSW).1; go_simp; try (with_reducible rfl)
                    simp only [Act.put, List.getElem_toArray, List.getElem_cons_succ, List.getElem_cons_zero, List.setIfInBounds_toArray, List.set_cons_zero, List.set_cons_succ]
                    refine wpAnyH_take (i := 4) (v := .int .i64 (d : Int)) rfl (by kernel_rfl) (by kernel_rfl) (by kernel_rfl) (fun _ _ _ h => h) (Or.inl ⟨by rfl, ?_⟩) (by first | assumption | exact trivial) ?_
                    · intro W hSW; go_simp; try (with_reducible rfl)
                    simp only [Act.put, List.getElem_toArray, List.getElem_cons_succ, List.getElem_cons_zero, List.setIfInBounds_toArray, List.set_cons_zero, List.set_cons_succ]
                    refine wpAnyH_take (i := 6) (v := .slice (some ⟨g, 0, none⟩) n n) rfl (by kernel_rfl) (by kernel_rfl) (by kernel_rfl) (fun _ _ _ h => h) (Or.inl ⟨by rfl, ?_⟩) (by first | assumption | exact trivial) ?_
                    · intro W hSW; go_simp; try (with_reducible rfl)
                    simp only [Act.put, List.getElem_toArray, List.getElem_cons_succ, List.getElem_cons_zero, List.setIfInBounds_toArray, List.set_cons_zero, List.set_cons_succ]
                    refine wpAnyH_take (i := 7) (v := .int .i64 (d : Int)) rfl (by kernel_rfl) (by kernel_rfl) (by kernel_rfl) (fun _ _ _ h => h) (Or.inl ⟨by rfl, ?_⟩) (by first | assumption | exact trivial) ?_
                    · intro W hSW; go_simp; try (with_reducible rfl)
                    simp only [Act.put, List.getElem_toArray, List.getElem_cons_succ, List.getElem_cons_zero, List.setIfInBounds_toArray, List.set_cons_zero, List.set_cons_succ]
                    refine wpAnyH_take (i := 8) (v := .pointer (some ⟨g, d, none⟩)) rfl (by kernel_rfl) (by kernel_rfl) (by kernel_rfl) (fun _ _ _ h => h) (Or.inl ⟨by rfl, ?_⟩) (by first | assumption | exact trivial) ?_
                    · intro W hSW; have q6 := hdl; go_simp; try (with_reducible rfl)
                    simp only [Act.put, List.getElem_toArray, List.getElem_cons_succ, List.getElem_cons_zero, List.setIfInBounds_toArray, List.set_cons_zero, List.set_cons_succ]
                    refine wpAnyH_take (i := 9) (v := .int .i64 x) rfl (by kernel_rfl) (by kernel_rfl) (by kernel_rfl) (fun _ _ _ h => h) (Or.inl ⟨by rfl, ?_⟩) (by first | assumption | exact trivial) ?_
                    · intro W hSW; have q7 := (HCE.out W hSW).2; go_simp; try (with_reducible rfl)
                    simp only [Act.put, List.getElem_toArray, List.getElem_cons_succ, List.getElem_cons_zero, List.setIfInBounds_toArray, List.set_cons_zero, List.set_cons_succ]
                    refine wpAnyH_ready (rs := [5]) (by kernel_rfl) (by simp) ?_
                    refine AllReadyH.cons rfl (fun K hK => ?_) AllReadyH.nil
                    go_simp
                    go_wp2_with (go_at_call 18; refine HCO.out.mono ?_; rintro e wc ⟨rfl, hbc⟩)
                    have HBC : Hid (Below wr.heap.size wr wc) := (Below.refl _ _).drew.trans hbc.out
                    have HFc : Hid (Fd B w wc n N L P D mb v T4) := hf.out.below HBC.out
                    have HLc : Hid (Ln wc g n (lenO (lkB L) n a)) := hl.out.below HBC.out
                    clear hbc
                    refine hK.out _ _ (HBC.out) (fun hHeld => ?_)
                    clear hK K
                    refine wpAnyH_take (i := 10) (v := .bool false) rfl (by kernel_rfl) (by kernel_rfl) (by kernel_rfl) (fun _ _ _ h => h) (Or.inl ⟨by rfl, ?_⟩) (by first | assumption | exact trivial) ?_
                    · intro W hSW; go_simp; try (with_reducible rfl)
                    simp only [Act.put, List.getElem_toArray, List.getElem_cons_succ, List.getElem_cons_zero, List.setIfInBounds_toArray, List.set_cons_zero, List.set_cons_succ]
                    refine wpAnyH_done (by kernel_rfl) ?_ _
                    clear hf hl HCO HCE HBC
                    go_wp2
                    go_loopw [12, 13] (fun u h wr => ∃ (k q : Nat), k < n ∧ u = .int .i64 k ∧ h = .int .i64 q ∧ Hid (distO (lkB L) n k d + q = distO (lkB L) n a d) ∧ Hid (Fd B w wr n N L P D mb v T4) ∧ Hid (Ln wr g n (lenO (lkB L) n a))) (fun u _ _ => distO (lkB L) n (intOf u).toNat d)
                    case atStart => exact ⟨a, 0, HAL.out, rfl, rfl, Lib.hid rfl, HFc, HLc⟩
                    case round =>
                      clear HFc HLc
                      obtain ⟨k, q, hkn, rfl, rfl, hkq, hf, hl⟩ := hrel
                      by_cases hkd : k = d
                      · have g1 : ((k : Int) != (d : Int)) = false := by rw [hkd]; simp
                        go_wp2
                        go_roundw
                        case rel => exact ⟨d + 1, by omega, by go_num, hf, hl⟩
                        case measure => simp [intOf]; omega
                      · have g1 : ((k : Int) != (d : Int)) = true := by simp only [bne_iff_ne, ne_eq]; omega
                        obtain ⟨k2, hk2, hlk2, hnx, hdd⟩ := HNXT.out k d hkn hdl hkd
                        have hNC := Next_any wr (D k) (mb k) (v k) (T4 k) (Lib.hid (hf.out.ts.tn k hkn).tq) (Lib.hid (hf.out.ts.tn k hkn).ok) (d : Int)
                        rw [hnx] at hNC
                        have HNC := Lib.hid hNC
                        have hLK := HLK.out k k2 hkn hk2
                        rw [hlk2] at hLK
                        have HLK2 := Lib.hid hLK
                        have HDD := Lib.hid hdd
                        have cP : wr.cell? ⟨P, k, none⟩ = some (.pointer (some ⟨D k, 0, none⟩)) := hf.out.ps.cell hkn
                        have h5 : ¬ (x ≤ (q : Int)) := by have := HX.out; have := hkq.out; omega
                        have hq7 : q ≤ 7 := by have := (find_dist (L := L) hn8).d3 a d HAL.out hdl; have := hkq.out; omega
                        have h6 : ¬ ((k2 : Int) < 0) := by omega
                        have h7 : ¬ ((n : Int) ≤ (k2 : Int)) := by omega
                        clear hNC hLK hdd hnx hlk2
                        go_wp2_with (first
                          | (go_at_call 16; (with_reducible refine HNC.out.mono ?_); rintro e wn ⟨rfl, hbn⟩; have HFn := Lib.hid (hf.out.below hbn.out); have HLn := Lib.hid (hl.out.below hbn.out); have x0 := HFn.out.x0; have x1 := HFn.out.x1; have c7 := HLn.out.cell hdl; rw [HXE.out] at c7; clear hbn cP)
                          | (go_at_call 29; (with_reducible refine (HLK2.out wn).mono ?_); rintro e wk ⟨rfl, hbk⟩; have HFk := Lib.hid (HFn.out.below hbk.out); have HLk := Lib.hid (HLn.out.below hbk.out); clear hbk))
                        go_roundw
                        case rel => exact ⟨k2, q + 1, hk2, rfl, by go_num, (by have := HDD.out; have := hkq.out; show _ = _; omega), HFk, HLk⟩
                        case measure => have := HDD.out; simp [intOf]; omega
                  · obtain rfl : n = d := by omega
                    have hCO := Cost_any wr (D a) (mb a) (v a) (T4 a) (Lib.hid (hf.out.ts.tn a HAL.out).tq) (Lib.hid (hf.out.ts.tn a HAL.out).ok) (n : Int)
                    rw [HP16.out a HAL.out] at hCO
                    have HCO := Lib.hid hCO
                    have cP : wr.cell? ⟨P, a, none⟩ = some (.pointer (some ⟨D a, 0, none⟩)) := hf.out.ps.cell HAL.out
                    have hal' : a < n := HAL.out
                    clear hCO
                    go_wp2_with (go_at_call 18; (with_reducible refine HCO.out.mono ?_); rintro e wc ⟨rfl, hbc⟩)
                    go_roundw
                    case rel => exact ⟨a + 1, by omega, by go_num, hf.out.below hbc.out⟩
                    case measure => simp [intOf]; omega
              · obtain rfl : n = a := by omega
                go_wp2_with (go_at_call 11; (with_reducible refine (HK.out wr).mono ?_); rintro e w9 ⟨rfl, hb9⟩)
                go_ret
                exact ⟨rfl, hf.out.bel.trans (hb9.out.mono hf.out.bel.size)⟩
end Go.Proofs.Ytkanebolfmpnfaa.Rt
