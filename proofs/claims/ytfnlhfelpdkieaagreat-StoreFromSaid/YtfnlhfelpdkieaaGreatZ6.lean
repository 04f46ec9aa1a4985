/- The store's small questions: is a number a node, does an id fit, is an event right. -/
import Derived.Test.YtfnlhfelpdkieaaGreatZ3
import Derived.Test.YtfnlhfelpdkieaaGreatZ4
import Derived.Test.YtfnlhfelpdkieaaGreatZ2
import Derived.Test.YtfnlhfelpdkieaaGreatZ5
namespace Go.Proofs.YtfnlhfelpdkieaaGreat.So
open Go.RowKit
open Go.Proofs.YtfnlhfelpdkieaaGreat.Me Go.Proofs.YtfnlhfelpdkieaaGreat.Sb
set_option linter.unusedVariables false
set_option linter.unusedSimpArgs false

/-- An event as a value. -/
def evC (k : Int) (i : Mg.Id4) (A : Option Addr) (n c : Nat) : Array Value := #[.int .i64 k, .int .i64 i.o, .int .i64 i.d, .int .i64 i.e, .int .i64 i.c, .slice A n c]
theorem ev_cells {W : World} {D : Nat} {k o d e c : Int} {A : Option Addr} {n q : Nat} (h : W.heap[D]? = some (.cells #[.int .i64 k, .int .i64 o, .int .i64 d, .int .i64 e, .int .i64 c, .slice A n q] 48 (0, 0))) :
    W.cell? ⟨D, 0, none⟩ = some (.int .i64 k) ∧ W.cell? ⟨D, 1, none⟩ = some (.int .i64 o) ∧ W.cell? ⟨D, 2, none⟩ = some (.int .i64 d) ∧ W.cell? ⟨D, 3, none⟩ = some (.int .i64 e) ∧ W.cell? ⟨D, 4, none⟩ = some (.int .i64 c) ∧ W.cell? ⟨D, 5, none⟩ = some (.slice A n q) := by
  refine ⟨?_, ?_, ?_, ?_, ?_, ?_⟩
  all_goals
    rw [cell_of_row _ D _ _ _ (0, 0) h]
    rfl
theorem isNode_any (n : Int) (w : World) : Calls Tryz.prog 23 #[.int .i64 n] w fun e w' => e = .returned (.bool (Mg.nodeB n)) ∧ w = w' := by
  by_cases a : 0 ≤ n
  · by_cases b : n < 64
    · have HE : Hid (Mg.nodeB n = true) := decide_eq_true ⟨a, b⟩
      rw [HE.out]
      go_enter Tryz.func23, Tryz.ntmps23
      go_wp2
      go_ret
      exact ⟨rfl, rfl⟩
    · have HE : Hid (Mg.nodeB n = false) := decide_eq_false fun h => b h.2
      rw [HE.out]
      go_enter Tryz.func23, Tryz.ntmps23
      go_wp2
      go_ret
      exact ⟨rfl, rfl⟩
  · have HE : Hid (Mg.nodeB n = false) := decide_eq_false fun h => a h.1
    rw [HE.out]
    go_enter Tryz.func23, Tryz.ntmps23
    go_wp2
    go_ret
    exact ⟨rfl, rfl⟩
set_option maxHeartbeats 4000000 in
theorem fits_any (i : Mg.Id4) (self epoch : Int) (w : World) : Calls Tryz.prog 79 #[.agg (Mg.idC i), .int .i64 self, .int .i64 epoch] w fun e w' => e = .returned (.bool (fitsB i self epoch)) ∧ Hid (Below w.heap.size w w') := by
  have HB : Hid (Below w.heap.size w (w.alloc (.cells (Mg.idC i) 43))) := Me.below_alloc (Below.refl _ _)
  obtain ⟨r, hr⟩ : ∃ r, fitsB i self epoch = r := ⟨_, rfl⟩
  rw [hr]
  unfold fitsB at hr
  obtain ⟨o, d, ee, c⟩ := i
  simp only [Mg.idC] at HB hr ⊢
  by_cases h1 : d = self
  · have e1 : (d != self) = false := by simp [h1]
    obtain rfl : r = false := by rw [← hr]; simp [h1]
    clear hr h1
    go_enter Tryz.func79, Tryz.ntmps79
    go_wp2
    go_ret
    exact ⟨rfl, HB.out⟩
  · have e1 : (d != self) = true := by simp [h1]
    by_cases h2 : o = self
    · have e2 : (o != self) = false := by simp [h2]
      by_cases h3 : ee ≤ epoch
      · obtain rfl : r = true := by rw [← hr]; simp [h1, h3]
        clear hr h1 h2
        go_enter Tryz.func79, Tryz.ntmps79
        go_wp2
        go_ret
        exact ⟨rfl, HB.out⟩
      · obtain rfl : r = false := by rw [← hr]; simp [h2, h3]
        clear hr h1 h2
        go_enter Tryz.func79, Tryz.ntmps79
        go_wp2
        go_ret
        exact ⟨rfl, HB.out⟩
    · have e2 : (o != self) = true := by simp [h2]
      obtain rfl : r = true := by rw [← hr]; simp [h1, h2]
      clear hr h1 h2
      go_enter Tryz.func79, Tryz.ntmps79
      go_wp2
      go_ret
      exact ⟨rfl, HB.out⟩
set_option maxRecDepth 100000 in
set_option maxHeartbeats 8000000 in
theorem check_any (k : Int) (i : Mg.Id4) (A : Option Addr) (n q : Nat) (w : World) : Calls Tryz.prog 46 #[.agg (evC k i A n q)] w fun e w' => e = .returned (.int .i64 (chkE k i n : Int)) ∧ Hid (Below w.heap.size w w') := by
  have HB : Hid (Below w.heap.size w (w.alloc (.cells (evC k i A n q) 48))) := Me.below_alloc (Below.refl _ _)
  have HR : Hid (∀ W, Below (w.alloc (.cells (evC k i A n q) 48)).heap.size (w.alloc (.cells (evC k i A n q) 48)) W → W.heap[w.heap.size]? = some (.cells (evC k i A n q) 48 (0, 0))) := fun W hW => (hW.block _ (by simp)).trans (heap_alloc_new w _)
  have HK := Lib.hid (fun W => Mg.Check_any i W)
  have HM := Lib.hid (fun W => Mg.CheckMsg_any i A n q W)
  obtain ⟨c, hc⟩ : ∃ c, Mg.chkN i = c := ⟨_, rfl⟩
  obtain ⟨z, hz⟩ : ∃ z, Mg.msgN i n = z := ⟨_, rfl⟩
  unfold chkE
  rw [hc, hz]
  rw [hc] at HK
  rw [hz] at HM
  by_cases k1 : k = 1
  · subst k1
    rw [if_pos rfl]
    clear HK HM hc hz
    by_cases hi : i = zeroI
    · subst hi
      by_cases hn : n = 0
      · subst hn
        rw [if_pos ⟨rfl, rfl⟩]
        simp only [evC, zeroI] at HB HR ⊢
        go_enter Tryz.func46, Tryz.ntmps46
        go_wp2
        go_ret
        exact ⟨rfl, HB.out⟩
      · rw [if_neg (fun h => hn h.2)]
        have e1 : decide ((0 : Int) < (n : Int)) = true := by simp; omega
        have e2 : (0 : Int) < (n : Int) := by omega
        simp only [evC, zeroI] at HB HR ⊢
        go_enter Tryz.func46, Tryz.ntmps46
        go_wp2
        go_ret
        exact ⟨rfl, HB.out⟩
    · rw [if_neg (fun h => hi h.1)]
      obtain ⟨o, d, ee, cc⟩ := i
      have hne : ¬ o = 0 ∨ (o = 0 ∧ ¬ d = 0) ∨ (o = 0 ∧ d = 0 ∧ ¬ ee = 0) ∨ (o = 0 ∧ d = 0 ∧ ee = 0 ∧ ¬ cc = 0) := by
        by_cases a0 : o = 0
        · by_cases a1 : d = 0
          · by_cases a2 : ee = 0
            · exact .inr (.inr (.inr ⟨a0, a1, a2, fun h => hi (by rw [a0, a1, a2, h]; rfl)⟩))
            · exact .inr (.inr (.inl ⟨a0, a1, a2⟩))
          · exact .inr (.inl ⟨a0, a1⟩)
        · exact .inl a0
      clear hi
      simp only [evC] at HB HR ⊢
      rcases hne with h | ⟨rfl, h⟩ | ⟨rfl, rfl, h⟩ | ⟨rfl, rfl, rfl, h⟩
      all_goals
        go_enter Tryz.func46, Tryz.ntmps46
        go_wp2
        go_ret
        exact ⟨rfl, HB.out⟩
  · rw [if_neg k1]
    have g1 : (k == 1) = false := by simpa using k1
    by_cases k2 : k = 2
    · subst k2
      rw [if_pos rfl]
      obtain ⟨o, d, ee, cc⟩ := i
      simp only [evC, Mg.msgC] at HB HR HM ⊢
      go_enter Tryz.func46, Tryz.ntmps46
      go_wp2_with (go_at_call 77; refine (HM.out _).mono ?_; rintro e w2 ⟨rfl, b2⟩)
      go_ret
      exact ⟨rfl, go_on HB.out b2.out⟩
    · rw [if_neg k2]
      have g2 : (k == 2) = false := by simpa using k2
      by_cases k3 : k = 3 ∨ k = 4
      · rw [if_pos k3]
        obtain ⟨o, d, ee, cc⟩ := i
        have g3 : (k == 3) = true ∨ ((k == 3) = false ∧ (k == 4) = true) := by
          rcases k3 with rfl | rfl
          · exact .inl (by decide)
          · exact .inr ⟨by decide, by decide⟩
        have HG := Lib.hid g3
        simp only [evC, Mg.idC] at HB HR HK ⊢
        by_cases h0 : c = 0
        · subst h0
          rw [if_neg (by simp)]
          simp only [show ((0 : Nat) : Int) = 0 from rfl] at HK
          by_cases hn : n = 0
          · subst hn
            rw [if_pos rfl]
            clear k3 g3 hc hz HM k1 k2
            rcases HG.out with g3 | ⟨g3, g4⟩
            all_goals
              go_enter Tryz.func46, Tryz.ntmps46
              go_wp2_with (go_at_call 78; refine (HK.out _).mono ?_; rintro e w2 ⟨rfl, b2⟩; obtain ⟨x0, x1, x2, x3, x4, x5⟩ := ev_cells (HR.out w2 b2.out))
              go_ret
              exact ⟨rfl, go_on HB.out b2.out⟩
          · rw [if_neg hn]
            have hn2 : ((n : Int) == 0) = false := Mg.nz hn
            clear k3 g3 hc hz HM k1 k2 hn
            rcases HG.out with g3 | ⟨g3, g4⟩
            all_goals
              go_enter Tryz.func46, Tryz.ntmps46
              go_wp2_with (go_at_call 78; refine (HK.out _).mono ?_; rintro e w2 ⟨rfl, b2⟩; obtain ⟨x0, x1, x2, x3, x4, x5⟩ := ev_cells (HR.out w2 b2.out))
              go_ret
              exact ⟨rfl, go_on HB.out b2.out⟩
        · rw [if_pos h0]
          have hc2 : ((c : Int) == 0) = false := Mg.nz h0
          clear k3 g3 hc hz HM k1 k2 h0
          rcases HG.out with g3 | ⟨g3, g4⟩
          all_goals
            go_enter Tryz.func46, Tryz.ntmps46
            go_wp2_with (go_at_call 78; refine (HK.out _).mono ?_; rintro e w2 ⟨rfl, b2⟩; obtain ⟨x0, x1, x2, x3, x4, x5⟩ := ev_cells (HR.out w2 b2.out))
            go_ret
            exact ⟨rfl, go_on HB.out b2.out⟩
      · rw [if_neg k3]
        have g3 : (k == 3) = false := by simp; omega
        have g4 : (k == 4) = false := by simp; omega
        obtain ⟨o, d, ee, cc⟩ := i
        clear k3 k1 k2 hc hz HM HK
        simp only [evC] at HB HR ⊢
        go_enter Tryz.func46, Tryz.ntmps46
        go_wp2
        go_ret
        exact ⟨rfl, HB.out⟩
end Go.Proofs.YtfnlhfelpdkieaaGreat.So
/- From's helpers: countersOf, sizeOf, nextIsRight. -/
namespace Go.Proofs.YtfnlhfelpdkieaaGreat.So
open Go.RowKit
open Go.Proofs.YtfnlhfelpdkieaaGreat.Me Go.Proofs.YtfnlhfelpdkieaaGreat.Sb
set_option linter.unusedVariables false
set_option linter.unusedSimpArgs false

/-- Counters that are read. -/
def Nq (w : World) (A : Option Addr) (N : Ns) : Prop := ∀ j p, N[j]? = some p → ∃ g off, A = some ⟨g, off, none⟩ ∧ g < w.heap.size ∧ w.cell? ⟨g, off + j * 2, none⟩ = some (.int .i64 p.1) ∧ w.cell? ⟨g, off + j * 2 + 1, none⟩ = some (.int .i64 p.2)
theorem Nq.below {w w' : World} {A : Option Addr} {N : Ns} (h : Nq w A N) (hb : Below w.heap.size w w') : Nq w' A N := fun j p hj => by
  obtain ⟨g, off, e, h1, h2, h3⟩ := h j p hj
  exact ⟨g, off, e, Nat.lt_of_lt_of_le h1 hb.size, (hb.cell (p := ⟨g, off + j * 2, none⟩) h1).trans h2, (hb.cell (p := ⟨g, off + j * 2 + 1, none⟩) h1).trans h3⟩
theorem Kn.nq {w : World} {B n c : Nat} {A : Option Addr} {N : Nx} (h : Kn w B (.slice A n c) N) : Nq w A N := fun j p hj => by
  obtain ⟨g, e, h1, h2, h3⟩ := h.at_ hj
  obtain ⟨c0, c1, _⟩ := h3 w rfl
  exact ⟨g, 0, e, h2, by rw [Nat.zero_add]; exact c0, by rw [Nat.zero_add]; exact c1⟩
/-- Messages that are read, with their bytes. -/
def Mq (w : World) (A : Option Addr) (H : List It) : Prop := ∀ j x, H[j]? = some x → ∃ g off R cr, A = some ⟨g, off, none⟩ ∧ g < w.heap.size ∧
  (w.cell? ⟨g, off + j * 5, none⟩ = some (.int .i64 x.i.o) ∧ w.cell? ⟨g, off + j * 5 + 1, none⟩ = some (.int .i64 x.i.d) ∧ w.cell? ⟨g, off + j * 5 + 2, none⟩ = some (.int .i64 x.i.e) ∧ w.cell? ⟨g, off + j * 5 + 3, none⟩ = some (.int .i64 x.i.c) ∧ w.cell? ⟨g, off + j * 5 + 4, none⟩ = some (.slice R x.p.length cr)) ∧
  Me.Rd w w.heap.size R x.p ∧ (R = none → x.p.length = 0 ∧ cr = 0) ∧ x.p.length ≤ cr ∧ cr ≤ 9223372036854775807
theorem Mq.below {w w' : World} {A : Option Addr} {H : List It} (h : Mq w A H) (hb : Below w.heap.size w w') : Mq w' A H := fun j x hj => by
  obtain ⟨g, off, R, cr, e, h1, ⟨c0, c1, c2, c3, c4⟩, h2, h3, h4⟩ := h j x hj
  exact ⟨g, off, R, cr, e, Nat.lt_of_lt_of_le h1 hb.size, ⟨(hb.cell (p := ⟨g, off + j * 5, none⟩) h1).trans c0, (hb.cell (p := ⟨g, off + j * 5 + 1, none⟩) h1).trans c1, (hb.cell (p := ⟨g, off + j * 5 + 2, none⟩) h1).trans c2, (hb.cell (p := ⟨g, off + j * 5 + 3, none⟩) h1).trans c3, (hb.cell (p := ⟨g, off + j * 5 + 4, none⟩) h1).trans c4⟩, Me.Rd.more (h2.below hb) hb.size, h3, h4⟩
theorem Ow.mq {w : World} {B n c : Nat} {A : Option Addr} {P : List Pq} (h : Ow w B (.slice A n c) P) (hl : ∀ x ∈ P.map Pq.x, ∀ z ∈ x.p, z < 256) : Mq w A (P.map Pq.x) := fun j x hj => by
  obtain ⟨q, hq, rfl⟩ : ∃ q, P[j]? = some q ∧ q.x = x := by simpa using hj
  obtain ⟨g, e1, e2, e3, e4⟩ := h.at_ hq
  obtain ⟨c0, c1, c2, c3, c4, _⟩ := e4 w rfl
  have hm := List.mem_of_getElem? hq
  obtain ⟨A', c', e5, h1, h2, h3⟩ := (h.each q hm).held (hl _ (List.mem_map_of_mem hm))
  unfold Pq.v at e5 c4
  simp only [Value.slice.injEq] at e5
  obtain ⟨e6, _, e7⟩ := e5
  refine ⟨g, 0, q.A, q.c, e1, e3, ⟨by rw [Nat.zero_add]; exact c0, by rw [Nat.zero_add]; exact c1, by rw [Nat.zero_add]; exact c2, by rw [Nat.zero_add]; exact c3, by rw [Nat.zero_add]; exact c4⟩, ?_, ?_, by rw [e7]; exact h1, by rw [e7]; exact h2⟩
  · rw [e6]; exact h3.rd
  · rw [e6, e7]; exact h3.2.2
theorem lastV_one (f : Nat → Int) : (lastV f).all (·.oneCell') = true := by
  simp only [lastV, List.all_toArray, List.all_map]
  exact List.all_eq_true.mpr fun _ _ => rfl
theorem alloc_cnt (ρ : Operand → Value) (o : Oper) (ho : o.op = .alloc 76) (w : World) : (execOp ρ o).run Tryz.prog w = .ok (.value (.pointer (some ⟨w.heap.size, 0, none⟩))) (w.alloc (.cells (lastV fun _ => 0) 76 (0, 0))) := by
  unfold execOp
  rw [ho]
  kernel_rfl
/-- Block g holds counters. -/
def Cn (w : World) (g : Nat) (f : Nat → Int) : Prop := w.heap[g]? = some (.cells (lastV f) 76 (0, 0))
theorem lastV_set (f : Nat → Int) (j : Nat) (x : Int) (hj : j < 64) : (lastV f).setIfInBounds j (.int .i64 x) = lastV fun k => if k = j then x else f k := by
  apply Array.ext_getElem?
  intro i
  rw [Array.getElem?_setIfInBounds, lastV_size]
  by_cases hi : i < 64
  · rw [lastV_at _ hi, lastV_at _ hi]
    by_cases e : j = i
    · subst e; rw [if_pos rfl, if_pos hi, if_pos rfl]
    · rw [if_neg e, if_neg (fun h => e h.symm)]
  · rw [if_neg (show ¬ j = i by omega), Array.getElem?_eq_none (by rw [lastV_size]; omega), Array.getElem?_eq_none (by rw [lastV_size]; omega)]
theorem Cn.put {w : World} {g j : Nat} {f : Nat → Int} (h : Cn w g f) (hj : j < 64) (x : Int) : Cn (w.setCell ⟨g, j, none⟩ (.int .i64 x)) g (fun k => if k = j then x else f k) := by
  unfold Cn
  rw [heap_setCell_same w g j _ _ _ h, lastV_set f j x hj]
theorem Cn.cell {w : World} {g j : Nat} {f : Nat → Int} (h : Cn w g f) (hj : j < 64) : w.cell? ⟨g, j, none⟩ = some (.int .i64 (f j)) := (cell_of_row w g j _ _ (0, 0) h).trans (lastV_at f hj)
set_option maxRecDepth 100000 in
set_option maxHeartbeats 4000000 in
theorem countersOf_any (A : Option Addr) (c : Nat) (N : Ns) (w : World) (hr : Hid (Nq w A N)) (hd : Hid (∀ p ∈ N, 0 ≤ p.1 ∧ p.1 < 64)) (hN : N.length ≤ 1000000) : Calls Tryz.prog 56 #[.slice A N.length c] w fun e w' => e = .returned (.agg (lastV (cntOf N))) ∧ Hid (Below w.heap.size w w') := by
  have ht1 : Hid (Cn ((w.alloc (.cells (lastV fun _ => 0) 76)).alloc (.cells (lastV fun _ => 0) 76)) w.heap.size fun _ => 0) := (Below.heap_alloc _ _ _ (by simp)).trans (heap_alloc_new w _)
  have ht2 : Hid (Cn ((w.alloc (.cells (lastV fun _ => 0) 76)).alloc (.cells (lastV fun _ => 0) 76)) (w.heap.size + 1) fun _ => 0) := by
    have := heap_alloc_new (w.alloc (.cells (lastV fun _ => 0) 76)) (.cells (lastV fun _ => 0) 76)
    rwa [World.size_alloc] at this
  have hb0 : Hid (Below w.heap.size w ((w.alloc (.cells (lastV fun _ => 0) 76)).alloc (.cells (lastV fun _ => 0) 76))) := Me.below_alloc (Me.below_alloc (Below.refl _ _))
  obtain ⟨L, hL⟩ : ∃ L, N.length = L := ⟨_, rfl⟩
  have HL := Lib.hid hL
  rw [hL] at hN ⊢
  clear hL
  go_enter Tryz.func56, Tryz.ntmps56
  go_wp2_with (refine Mi.allocTo rfl (.pointer (some ⟨_, 0, none⟩)) (.cells (lastV fun _ => 0) 76 (0, 0)) (alloc_cnt _ _ rfl _) ?_)
  go_loopw [8] (fun k wr => ∃ i : Nat, i ≤ L ∧ k = .int .i64 i ∧ Hid (Cn wr w.heap.size fun _ => 0) ∧ Hid (Cn wr (w.heap.size + 1) (cntOf (N.take i))) ∧ Hid (Below w.heap.size w wr)) (fun k _ => L - (intOf k).toNat)
  case atStart => exact ⟨0, Nat.zero_le _, rfl, ht1, ht2, hb0⟩
  case round =>
    obtain ⟨i, hi, rfl, H1, H2, HB⟩ := hrel
    clear ht1 ht2 hb0
    by_cases hlt : i < L
    · obtain ⟨p, hp⟩ : ∃ p, N[i]? = some p := ⟨_, List.getElem?_eq_getElem (by have := HL.out; omega)⟩
      obtain ⟨g, off, rfl, hg, x0, x1⟩ := hr.out i p hp
      have y0 := (HB.out.cell (p := ⟨g, off + i * 2, none⟩) hg).trans x0
      have y1 := (HB.out.cell (p := ⟨g, off + i * 2 + 1, none⟩) hg).trans x1
      have ht : N.take (i + 1) = N.take i ++ [p] := by rw [List.take_add_one, hp]; rfl
      obtain ⟨h0, h64⟩ := hd.out p (List.mem_of_getElem? hp)
      obtain ⟨dd, cc⟩ := p
      simp only at y0 y1 h0 h64
      obtain ⟨j, hj⟩ : ∃ j : Nat, dd = (j : Int) := ⟨dd.toNat, by omega⟩
      subst hj
      have hj2 : j < 64 := by omega
      have g1 : (i : Int) < (L : Int) := by omega
      have g2 : ¬ ((L : Int) ≤ (i : Int)) := by omega
      have g3 : (i : Int) < 1000001 := by omega
      have HCt : Hid (cntOf (N.take (i + 1)) = fun k => if k = j then cc else cntOf (N.take i) k) := by
        show _ = _
        rw [ht, cntOf_snoc]
        funext k
        by_cases e : k = j
        · subst e; rw [if_pos rfl, if_pos rfl]
        · rw [if_neg e, if_neg (by show ¬ (k : Int) = (j : Int); omega)]
      obtain ⟨V, hV⟩ : ∃ V, wr.alloc (.cells #[.int .i64 (j : Int), .int .i64 cc] 62) = V := ⟨_, rfl⟩
      have hbv : Below wr.heap.size wr V := by rw [← hV]; exact Me.below_alloc (Below.refl _ _)
      have hxv : V.heap[wr.heap.size]? = some (.cells #[.int .i64 (j : Int), .int .i64 cc] 62 (0, 0)) := by rw [← hV]; exact heap_alloc_new wr _
      have k1 : Cn V w.heap.size fun _ => 0 := (hbv.block _ (Array.getElem?_eq_some_iff.1 H1.out).1).trans H1.out
      have k2 : Cn V (w.heap.size + 1) (cntOf (N.take i)) := (hbv.block _ (Array.getElem?_eq_some_iff.1 H2.out).1).trans H2.out
      have z0 := cell_of_row V wr.heap.size 0 _ _ (0, 0) hxv
      have z1 := cell_of_row V wr.heap.size 1 _ _ (0, 0) hxv
      simp at z0 z1
      have c2 := k2.cell hj2
      have f2 : V.frozen? ⟨w.heap.size + 1, j, none⟩ = false := frozen_of_row V _ j _ _ k2
      have K1 := Lib.hid k1
      have K2 := Lib.hid k2
      have HBV := Lib.hid (go_on HB.out hbv)
      have HV := Lib.hid hV
      clear hV hbv hxv k1 k2 x0 x1 ht hp hg H1 H2 HB
      go_wp2_with (rw [HV.out])
      go_roundw
      case rel =>
        refine ⟨i + 1, by omega, by go_num, (heap_setCell_other V _ _ _ (by show w.heap.size ≠ w.heap.size + 1; omega)).trans K1.out, ?_, HBV.out.setCell (p := ⟨w.heap.size + 1, j, none⟩) (by show _ ≤ w.heap.size + 1; omega) _⟩
        show Cn _ _ _
        rw [HCt.out]
        exact K2.out.put hj2 cc
      case measure => simp [intOf]; omega
    · obtain rfl : i = L := by omega
      rw [List.take_of_length_le (by have := HL.out; omega)] at H2
      have g1 : ¬ (i : Int) < (i : Int) := by omega
      go_wp2_with (first
        | (refine wpList_load_row rfl 76 (.tmp 3) rfl (w.heap.size + 1) rfl 76 _ (0, 0) _ H2.out Tryz.underlying76 rfl (size64 _) ?_)
        | (refine wpList_store_row rfl 76 (.tmp 2) (.tmp 18) rfl w.heap.size (lastV (cntOf N)) rfl rfl 76 _ H1.out (size64 _) (by rw [lastV_size, lastV_size]) (lastV_one _) ?_))
      exact ret_box (g := w.heap.size) rfl (by rfl) (setRow_heap _ _ _ _ _ _ H1.out) rfl Tryz.underlying76 (size64 _) rfl ⟨rfl, Sb.below_setRow _ HB.out (Nat.le_refl _)⟩
end Go.Proofs.YtfnlhfelpdkieaaGreat.So
