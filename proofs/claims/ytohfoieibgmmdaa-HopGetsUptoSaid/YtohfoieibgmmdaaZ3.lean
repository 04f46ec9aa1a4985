/- A message that came in by value. -/
import Derived.Test.YtohfoieibgmmdaaZ1
import Derived.Test.YtohfoieibgmmdaaZ2
import Derived.Deep.Slices
import Derived.SizedLaws
import Derived.Lib.SmallJoins
import Derived.Deep.RegionHeld
namespace Go.Proofs.Ytohfoieibgmmdaa.Mg
open Go.RowKit Go.Deep
open Go.ChangeShapes Go.WideShapes Go.Joins
open Go.Proofs.Ytohfoieibgmmdaa.Me
set_option linter.unusedVariables false
set_option linter.unusedSimpArgs false

/-- Where its data leads. -/
def MsIn (w : World) (A : Option Addr) (n c : Nat) (l : List Nat) : Prop := BySlice w A n c l ∧ c ≤ 140737488351232
theorem one_int : Try.prog.cellsOf 3 = 1 := by kernel_rfl
theorem one_sl : Try.prog.cellsOf 24 = 1 := by kernel_rfl
theorem four_id : Try.prog.cellsOf 23 = 4 := by kernel_rfl
theorem five_msg : Try.prog.cellsOf 26 = 5 := by kernel_rfl
theorem bytes_b : Try.prog.bytesOf 5 = 1 := by kernel_rfl
set_option maxRecDepth 100000 in
theorem msg_in {H : Type} {enc : TypeId × Value → H} {w : World} {base n : Nat} {held : Bool} {cs : List Value} {D : DataW H} {Pl : List MemPlace} (h : DataW.trod enc Try.prog w base (fun _ => true) held n 26 cs = some (D, Pl)) (hw : ∀ x ∈ D.weights Try.prog 26, x ≤ reachBytes) :
    ∃ (i : Id4) (A : Option Addr) (k c : Nat) (l : List Nat), cs = (msgC i A k c).toList ∧ MsIn w A k c l := by
  obtain ⟨y0, y1, m, hx, hlen, h0, h1⟩ := trod_struct2 Try.underlying26 h
  rw [five_msg] at hlen
  match cs, hlen with
  | [v0, v1, v2, v3, v4], _ =>
    simp only [four_id, one_sl] at h0 h1
    simp at h0 h1
    obtain ⟨z0, z1, z2, z3, m2, _, _, g0, g1, g2, g3⟩ := Go.Joins.trod_struct4 Try.underlying23 h0
    simp only [one_int] at g0 g1 g2 g3
    simp at g0 g1 g2 g3
    obtain ⟨k0, e0, _, _⟩ := DataW.trod_int Try.underlying3 g0
    obtain ⟨k1, e1, _, _⟩ := DataW.trod_int Try.underlying3 g1
    obtain ⟨k2, e2, _, _⟩ := DataW.trod_int Try.underlying3 g2
    obtain ⟨k3, e3, _, _⟩ := DataW.trod_int Try.underlying3 g3
    simp only [List.cons.injEq, and_true] at e0 e1 e2 e3
    simp only [Prod.mk.injEq] at hx
    have hP : ∃ (l : List Nat) (A : Option Addr) (k c : Nat), v4 = .slice A k c ∧ BySlice w A k c l ∧ c ≤ 140737488351232 := by
      rcases open_ints Try.underlying24 Try.underlying5 (by kernel_rfl) h1 with ⟨hcs, _⟩ | ⟨x, k, c, zs, hcs, _, hl, hm, hz, hy, hcell, hwz⟩
      · simp at hcs
        exact ⟨[], none, 0, 0, hcs, bySlice_none w, Nat.zero_le _⟩
      · simp at hcs
        obtain ⟨l, hb⟩ := bySlice_some hl hm (by simpa using hz) hcell hwz
        refine ⟨l, some x, k, c, hcs, hb, ?_⟩
        have hmem : c * 1 ≤ reachBytes := by
          refine hw _ ?_
          rw [hx.1, hy]
          simp only [DataW.weights, Try.underlying26, Try.underlying24, DataW.weightsEach]
          simp only [Array.toList, List.map_cons, List.map_nil, DataW.weightsEach, List.mem_append]
          refine .inr (.inl ?_)
          have hz' : zs.length = c := by simpa using hz
          have e : c * 1 = ((lits (H := H) .u8 (zs.take k)).length + (lits (H := H) .u8 (zs.drop k)).length) * Try.prog.bytesOf 5 := by
            rw [bytes_b]
            simp only [lits, List.length_map, List.length_take, List.length_drop]
            omega
          rw [e]
          simp [DataW.weights, Try.underlying24]
        unfold reachBytes at hmem
        show c ≤ _
        omega
    obtain ⟨l, A, k, c, e4, hb, hc⟩ := hP
    exact ⟨⟨k0, k1, k2, k3⟩, A, k, c, l, by rw [e0, e1, e2, e3, e4]; rfl, hb, hc⟩
set_option maxRecDepth 100000 in
theorem msg_val {H : Type} {enc : TypeId × Value → H} {w : World} {base : Nat} {held : Bool} {v : Value} {D : DataW H} {Pl : List MemPlace} {r : Reach} {b0 : Nat} (hv : Value.okWide Try.prog w r b0 26 v) (h : DataW.Trod enc Try.prog w base (fun _ => true) held 26 v D Pl) (hw : ∀ x ∈ D.weights Try.prog 26, x ≤ reachBytes) :
    ∃ (i : Id4) (A : Option Addr) (k c : Nat) (l : List Nat), v = .agg (msgC i A k c) ∧ MsIn w A k c l := by
  obtain ⟨cs, rfl, hsz⟩ := okWide_struct Try.underlying26 hv
  obtain ⟨fuel, hf⟩ := h
  obtain ⟨i, A, k, c, l, e, hi⟩ := msg_in hf hw
  refine ⟨i, A, k, c, l, ?_, hi⟩
  have : cs.toList = (msgC i A k c).toList := by simpa [Value.cells] using e
  rw [Array.toList_inj.1 this]
end Go.Proofs.Ytohfoieibgmmdaa.Mg
/- A message in its box; a contract over what a drawn region holds. -/
namespace Go.Proofs.Ytohfoieibgmmdaa.Mg
open Go.RowKit
open Go.Proofs.Ytohfoieibgmmdaa.Me
set_option linter.unusedVariables false
set_option linter.unusedSimpArgs false
/-- A call's contract, over what a drawn region holds. -/
theorem held {f : FuncId} {args : Array Value} {E : Ending} {W1 : World} {S : World → Prop} (hX : ∀ W, Below W1.heap.size W1 W → S W) (hS : ∀ W, S W → Below W1.heap.size W1 W) (h : ∀ W, Calls Try.prog f args W fun e w' => e = E ∧ Hid (Below W.heap.size W w')) :
    Hid (∀ W, S W → Calls Try.prog f args W fun e w' => e = E ∧ S w') := fun W hW =>
  (h W).mono fun _ _ ⟨he, hb⟩ => ⟨he, hX _ ((hS W hW).trans (hb.out.mono (hS W hW).size))⟩
/-- The cells of a message's box. -/
def Bx (i : Id4) (A : Option Addr) (n c b : Nat) (W : World) : Prop := W.cell? ⟨b, 0, none⟩ = some (.int .i64 i.o) ∧ W.cell? ⟨b, 1, none⟩ = some (.int .i64 i.d) ∧ W.cell? ⟨b, 2, none⟩ = some (.int .i64 i.e) ∧ W.cell? ⟨b, 3, none⟩ = some (.int .i64 i.c) ∧ W.cell? ⟨b, 4, none⟩ = some (.slice A n c)
theorem bx_new (i : Id4) (A : Option Addr) (n c : Nat) (w W1 : World) (h : w.alloc (.cells (msgC i A n c) 26 (0, 0)) = W1) : Below w.heap.size w W1 ∧ W1.heap.size = w.heap.size + 1 ∧ ∀ W, Below W1.heap.size W1 W → Bx i A n c w.heap.size W := by
  subst h
  exact ⟨Me.below_alloc (Below.refl _ _), by simp, fun W hW => by
    obtain ⟨x0, x1, x2, x3, x4, _⟩ := box5 i A n c w W hW
    exact ⟨x0, x1, x2, x3, x4⟩⟩
end Go.Proofs.Ytohfoieibgmmdaa.Mg
/- Are two messages the same? Both sides. -/
namespace Go.Proofs.Ytohfoieibgmmdaa.Mg
open Go.RowKit
open Go.Proofs.Ytohfoieibgmmdaa.Me
set_option linter.unusedVariables false
set_option linter.unusedSimpArgs false

def eqS (l r : List Nat) : Bool := (strOf l).toList == (strOf r).toList
theorem eqS_self (l : List Nat) : eqS l l = true := by simp [eqS]
theorem MsIn.below {w W : World} {A : Option Addr} {n c : Nat} {l : List Nat} (h : MsIn w A n c l) (hb : Below w.heap.size w W) : MsIn W A n c l := ⟨⟨h.1.1, h.1.2.1, h.1.2.2.1, (h.1.2.2.2.1.below hb).more hb.size, h.1.2.2.2.2⟩, h.2⟩
def eqI (i j : Id4) : Bool := decide (i.o = j.o) && (decide (i.d = j.d) && (decide (i.e = j.e) && decide (i.c = j.c)))
def sm (i j : Id4) (l r : List Nat) : Bool := eqI i j && eqS l r
theorem eqI_self (i : Id4) : eqI i i = true := by simp [eqI]
theorem eqI_eq {i j : Id4} (h : eqI i j = true) : i = j := by
  obtain ⟨o, d, e, c⟩ := i
  obtain ⟨p, q, r, s⟩ := j
  simp only [eqI, Bool.and_eq_true, decide_eq_true_eq] at h
  obtain ⟨rfl, rfl, rfl, rfl⟩ := h
  rfl
theorem sm_self (i : Id4) (l : List Nat) : sm i i l l = true := by unfold sm; rw [eqI_self, eqS_self]; rfl
theorem two_boxes (w : World) (x y : Array Value) : Below w.heap.size w ((w.alloc (.cells x 26 (0, 0))).alloc (.cells y 26 (0, 0))) := Me.below_alloc (Me.below_alloc (Below.refl _ _))
set_option maxRecDepth 100000 in
theorem RSame_any (i j : Id4) (A B : Option Addr) (n m c d : Nat) (l r : List Nat) (w : World) (h1 : Hid (MsIn w A n c l)) (h2 : Hid (MsIn w B m d r)) : Calls Try.prog 47 #[.agg (msgC i A n c), .agg (msgC j B m d)] w fun e w' => e = .returned (.bool (sm i j l r)) ∧ Hid (Below w.heap.size w w') := by
  obtain ⟨b, hb⟩ : ∃ b, sm i j l r = b := ⟨_, rfl⟩
  have HB := Lib.hid hb
  rw [hb]
  clear hb
  by_cases hE : eqI i j = true
  · have hij := eqI_eq hE
    subst hij
    have hb2 : eqS l r = b := by
      have := HB.out
      unfold sm at this
      rw [hE, Bool.true_and] at this
      exact this
    have HT := Lib.hid (two_boxes w)
    have k1 := fun W (hW : Below w.heap.size w W) => conv_rd W _ A l c (h1.out.below hW).1.2.2.2.1 (h1.out.below hW).1.2.2.2.2
    have k2 := fun W (hW : Below w.heap.size w W) => conv_rd W _ B r d (h2.out.below hW).1.2.2.2.1 (h2.out.below hW).1.2.2.2.2
    rw [← h1.out.1.1] at k1
    rw [← h2.out.1.1] at k2
    unfold eqS at hb2
    obtain ⟨s, hs⟩ : ∃ s, strOf l = s := ⟨_, rfl⟩
    obtain ⟨t, ht⟩ : ∃ t, strOf r = t := ⟨_, rfl⟩
    rw [hs] at k1 hb2
    rw [ht] at k2 hb2
    obtain ⟨o, dd, ee, cc⟩ := i
    simp only [msgC]
    have q1 := k1 _ (HT.out #[.int .i64 o, .int .i64 dd, .int .i64 ee, .int .i64 cc, .slice A n c] #[.int .i64 o, .int .i64 dd, .int .i64 ee, .int .i64 cc, .slice B m d])
    have q2 := k2 _ (HT.out #[.int .i64 o, .int .i64 dd, .int .i64 ee, .int .i64 cc, .slice A n c] #[.int .i64 o, .int .i64 dd, .int .i64 ee, .int .i64 cc, .slice B m d])
    clear HB hE k1 k2 hs ht h1 h2
    go_enter Try.func47, Try.ntmps47
    go_wp2
    go_ret
    exact ⟨by first | rfl | rw [hb2], HT.out _ _⟩
  · have hb2 : b = false := by
      have := HB.out
      unfold sm at this
      rw [Bool.eq_false_iff.2 hE, Bool.false_and] at this
      exact this.symm
    subst hb2
    have HT := Lib.hid (two_boxes w)
    obtain ⟨o, dd, ee, cc⟩ := i
    obtain ⟨p, q, s, t⟩ := j
    have HN : Hid (¬ (o = p ∧ dd = q ∧ ee = s ∧ cc = t)) := fun h => hE (by simp [eqI, h])
    clear hE HB h1 h2
    simp only [msgC]
    go_enter Try.func47, Try.ntmps47
    go_wp2
    all_goals first
      | (exfalso; apply HN.out; refine ⟨?_, ?_, ?_, ?_⟩ <;> assumption)
      | (go_ret
         exact ⟨rfl, HT.out _ _⟩)
end Go.Proofs.Ytohfoieibgmmdaa.Mg
/- Check of a word: of an offer, an answer, routes. -/
namespace Go.Proofs.Ytohfoieibgmmdaa.Hp
open Go.RowKit
open Go.Proofs.Ytohfoieibgmmdaa.Me Go.Proofs.Ytohfoieibgmmdaa.Sb Go.Proofs.Ytohfoieibgmmdaa.Mg
set_option linter.unusedVariables false
set_option linter.unusedSimpArgs false

/-- A word's cells. -/
def hopC (k n : Int) (i : Id4) (A : Option Addr) (dn dc : Nat) (B : Option Addr) (cn cc : Nat) : Array Value := #[.int .i64 k, .int .i64 n, .int .i64 i.o, .int .i64 i.d, .int .i64 i.e, .int .i64 i.c, .slice A dn dc, .slice B cn cc]
def offN (i : Id4) (dn cn : Nat) : Nat := if msgN i dn ≠ 0 then msgN i dn else fe (decide (cn = 0))
def ansN (i : Id4) (dn cn : Nat) : Nat := if chkN i ≠ 0 then chkN i else fe (decide (dn = 0) && decide (cn = 0))
def zeroB (i : Id4) : Bool := i.o == 0 && (i.d == 0 && (i.e == 0 && i.c == 0))
def rouB (n : Int) (i : Id4) (dn : Nat) (cs : List Int) : Bool := n == 0 && (zeroB i && (decide (dn = 0) && (decide (cs.length = 64) && !(cs.any badC))))
def rouN (n : Int) (i : Id4) (dn : Nat) (cs : List Int) : Nat := fe (rouB n i dn cs)
def hopN (k n : Int) (i : Id4) (dn : Nat) (cs : List Int) : Nat := if n < 0 ∨ 65535 < n then 1 else if k = 1 then offN i dn cs.length else if k = 2 ∨ k = 3 then ansN i dn cs.length else if k = 4 then rouN n i dn cs else 1
/-- A word's box. -/
def Hx (k n : Int) (i : Id4) (A : Option Addr) (dn dc : Nat) (B : Option Addr) (cn cc b : Nat) (W : World) : Prop :=
  W.cell? ⟨b, 0, none⟩ = some (.int .i64 k) ∧ W.cell? ⟨b, 1, none⟩ = some (.int .i64 n) ∧ W.cell? ⟨b, 2, none⟩ = some (.int .i64 i.o) ∧ W.cell? ⟨b, 3, none⟩ = some (.int .i64 i.d) ∧ W.cell? ⟨b, 4, none⟩ = some (.int .i64 i.e) ∧ W.cell? ⟨b, 5, none⟩ = some (.int .i64 i.c) ∧ W.cell? ⟨b, 6, none⟩ = some (.slice A dn dc) ∧ W.cell? ⟨b, 7, none⟩ = some (.slice B cn cc)
theorem hx_row {k n : Int} {i : Id4} {A : Option Addr} {dn dc : Nat} {B : Option Addr} {cn cc b : Nat} {W : World} (h : W.heap[b]? = some (.cells (hopC k n i A dn dc B cn cc) 29 (0, 0))) : Hx k n i A dn dc B cn cc b W := by
  refine ⟨?_, ?_, ?_, ?_, ?_, ?_, ?_, ?_⟩
  all_goals
    rw [cell_of_row _ b _ _ _ (0, 0) h]
    rfl
theorem box8 (k n : Int) (i : Id4) (A : Option Addr) (dn dc : Nat) (B : Option Addr) (cn cc : Nat) (w : World) : ∀ W, Below (w.alloc (.cells (hopC k n i A dn dc B cn cc) 29 (0, 0))).heap.size (w.alloc (.cells (hopC k n i A dn dc B cn cc) 29 (0, 0))) W → Hx k n i A dn dc B cn cc w.heap.size W ∧ Below w.heap.size w W := fun W hW => by
  have hl : w.heap.size < (w.alloc (.cells (hopC k n i A dn dc B cn cc) 29 (0, 0))).heap.size := by simp
  have hb := heap_alloc_new w (.cells (hopC k n i A dn dc B cn cc) 29 (0, 0))
  exact ⟨hx_row ((hW.block _ hl).trans hb), (Me.below_alloc (Below.refl _ _)).trans (hW.mono (by simp))⟩
set_option maxHeartbeats 4000000 in
theorem checkOffer_any (k n : Int) (i : Id4) (A : Option Addr) (dn dc : Nat) (B : Option Addr) (cn cc : Nat) (w : World) : Calls Try.prog 35 #[.agg (hopC k n i A dn dc B cn cc)] w fun e w' => e = .returned (.int .i64 (offN i dn cn : Int)) ∧ Hid (Below w.heap.size w w') := by
  have HK := Lib.hid (fun W => CheckMsg_any i A dn dc W)
  have FF := Lib.hid formIf_any
  obtain ⟨m, hm⟩ : ∃ m, msgN i dn = m := ⟨_, rfl⟩
  unfold offN
  rw [hm] at HK ⊢
  clear hm
  have HX := Lib.hid (box8 k n i A dn dc B cn cc w)
  obtain ⟨o, d, ee, c⟩ := i
  simp only [msgC, hopC, Hx] at HK HX ⊢
  by_cases h0 : m = 0
  · subst h0
    simp only [ne_eq, not_true, if_false]
    rw [show ((0 : Nat) : Int) = 0 from rfl] at HK
    have hq := zq cn
    obtain ⟨q, hqq⟩ : ∃ q, decide (cn = 0) = q := ⟨_, rfl⟩
    rw [hqq] at hq ⊢
    clear hqq
    go_enter Try.func35, Try.ntmps35
    go_wp2_with (first
      | (go_at_call 63; refine (HK.out _).mono ?_; rintro e w1 ⟨rfl, b1⟩; obtain ⟨⟨x0, x1, x2, x3, x4, x5, x6, x7⟩, bw⟩ := HX.out w1 b1.out)
      | (go_at_call 64; refine (FF.out _ _).mono ?_; rintro e w1 ⟨rfl, rfl⟩))
    go_ret
    exact ⟨rfl, bw⟩
  · have hz := nz h0
    rw [if_pos h0]
    clear h0
    go_enter Try.func35, Try.ntmps35
    go_wp2_with (go_at_call 63; refine (HK.out _).mono ?_; rintro e w1 ⟨rfl, b1⟩; obtain ⟨⟨x0, x1, x2, x3, x4, x5, x6, x7⟩, bw⟩ := HX.out w1 b1.out)
    go_ret
    exact ⟨rfl, bw⟩
set_option maxHeartbeats 4000000 in
theorem checkAnswer_any (k n : Int) (i : Id4) (A : Option Addr) (dn dc : Nat) (B : Option Addr) (cn cc : Nat) (w : World) : Calls Try.prog 36 #[.agg (hopC k n i A dn dc B cn cc)] w fun e w' => e = .returned (.int .i64 (ansN i dn cn : Int)) ∧ Hid (Below w.heap.size w w') := by
  have HK := Lib.hid (fun W => Check_any i W)
  have FF := Lib.hid formIf_any
  obtain ⟨m, hm⟩ : ∃ m, chkN i = m := ⟨_, rfl⟩
  unfold ansN
  rw [hm] at HK ⊢
  clear hm
  have HX := Lib.hid (box8 k n i A dn dc B cn cc w)
  obtain ⟨o, d, ee, c⟩ := i
  simp only [idC, hopC, Hx] at HK HX ⊢
  by_cases h0 : m = 0
  · subst h0
    simp only [ne_eq, not_true, if_false]
    rw [show ((0 : Nat) : Int) = 0 from rfl] at HK
    have hq := zq cn
    have hr := zq dn
    obtain ⟨q, hqq⟩ : ∃ q, decide (cn = 0) = q := ⟨_, rfl⟩
    obtain ⟨r, hrr⟩ : ∃ q, decide (dn = 0) = q := ⟨_, rfl⟩
    rw [hqq] at hq ⊢
    rw [hrr] at hr ⊢
    clear hqq hrr
    cases r
    all_goals
      simp only [Bool.true_and, Bool.false_and]
      go_enter Try.func36, Try.ntmps36
      go_wp2_with (first
        | (go_at_call 65; refine (HK.out _).mono ?_; rintro e w1 ⟨rfl, b1⟩; obtain ⟨⟨x0, x1, x2, x3, x4, x5, x6, x7⟩, bw⟩ := HX.out w1 b1.out)
        | (go_at_call 64; refine (FF.out _ _).mono ?_; rintro e w1 ⟨rfl, rfl⟩))
      go_ret
      exact ⟨rfl, bw⟩
  · have hz := nz h0
    rw [if_pos h0]
    clear h0
    go_enter Try.func36, Try.ntmps36
    go_wp2_with (go_at_call 65; refine (HK.out _).mono ?_; rintro e w1 ⟨rfl, b1⟩; obtain ⟨⟨x0, x1, x2, x3, x4, x5, x6, x7⟩, bw⟩ := HX.out w1 b1.out)
    go_ret
    exact ⟨rfl, bw⟩
theorem n64 (n : Nat) : ((n : Int) == 64) = decide (n = 64) := by
  by_cases h : n = 64
  · subst h; rfl
  · rw [decide_eq_false h, beq_eq_false_iff_ne]
    omega
theorem ways9 : ∀ a b c d e n q : Bool, a = false ∨ (a = true ∧ b = false) ∨ (a = true ∧ b = true ∧ c = false) ∨ (a = true ∧ b = true ∧ c = true ∧ d = false) ∨ (a = true ∧ b = true ∧ c = true ∧ d = true ∧ e = false) ∨ (a = true ∧ b = true ∧ c = true ∧ d = true ∧ e = true ∧ n = false) ∨ (a = true ∧ b = true ∧ c = true ∧ d = true ∧ e = true ∧ n = true) := by
  intro a b c d e n q
  cases a <;> cases b <;> cases c <;> cases d <;> cases e <;> cases n <;> simp
theorem checkRoutes_any (k n : Int) (i : Id4) (A : Option Addr) (dn dc : Nat) (B : Option Addr) (cs : List Int) (cc : Nat) (w : World) (hr : Hid (Mi.Rd w w.heap.size B cs)) (hc : cs.length ≤ 9223372036854775806) :
    Calls Try.prog 37 #[.agg (hopC k n i A dn dc B cs.length cc)] w fun e w' => e = .returned (.int .i64 (rouN n i dn cs : Int)) ∧ Hid (Below w.heap.size w w') := by
  have HC : Hid (∀ W, Below w.heap.size w W → Calls Try.prog 66 #[.slice B cs.length cc, .func (.func 67) #[] #[]] W fun e w' => e = .returned (.bool (cs.any badC)) ∧ W = w') := fun W hW => ContainsF_any B cc cs W w.heap.size (hr.out.below hW) hc
  have FF := Lib.hid formIf_any
  have HX := Lib.hid (box8 k n i A dn dc B cs.length cc w)
  clear hr hc
  unfold rouN rouB zeroB
  obtain ⟨qa, hqa⟩ : ∃ q, cs.any badC = q := ⟨_, rfl⟩
  obtain ⟨N, hN⟩ : ∃ q, cs.length = q := ⟨_, rfl⟩
  rw [hqa, hN] at HC
  rw [hN] at HX
  rw [hqa, hN]
  clear hqa hN
  obtain ⟨o, d, ee, c⟩ := i
  simp only [hopC, Hx] at HX ⊢
  have g1 := zq dn
  have g2 := n64 N
  obtain ⟨q1, e1⟩ : ∃ q, decide (dn = 0) = q := ⟨_, rfl⟩
  obtain ⟨q2, e2⟩ : ∃ q, decide (N = 64) = q := ⟨_, rfl⟩
  rw [e1] at g1 ⊢
  rw [e2] at g2 ⊢
  clear e1 e2
  obtain ⟨qn, gn⟩ : ∃ q, (n == 0) = q := ⟨_, rfl⟩
  obtain ⟨qo, go⟩ : ∃ q, (o == 0) = q := ⟨_, rfl⟩
  obtain ⟨qd, gd⟩ : ∃ q, (d == 0) = q := ⟨_, rfl⟩
  obtain ⟨qe, ge⟩ : ∃ q, (ee == 0) = q := ⟨_, rfl⟩
  obtain ⟨qc, gc⟩ : ∃ q, (c == 0) = q := ⟨_, rfl⟩
  rw [gn, go, gd, ge, gc]
  rcases ways9 qo qd qe qc q1 qn q2 with h | h | h | h | h | h | h
  case' inl => subst h; cases qn
  case' inr.inl => obtain ⟨rfl, rfl⟩ := h; cases qn
  case' inr.inr.inl => obtain ⟨rfl, rfl, rfl⟩ := h; cases qn
  case' inr.inr.inr.inl => obtain ⟨rfl, rfl, rfl, rfl⟩ := h; cases qn
  case' inr.inr.inr.inr.inl => obtain ⟨rfl, rfl, rfl, rfl, rfl⟩ := h; cases qn
  case' inr.inr.inr.inr.inr.inl => obtain ⟨rfl, rfl, rfl, rfl, rfl, rfl⟩ := h
  case' inr.inr.inr.inr.inr.inr => obtain ⟨rfl, rfl, rfl, rfl, rfl, rfl⟩ := h; cases q2
  all_goals
    try simp only [Bool.true_and, Bool.false_and, Bool.and_false]
    go_enter Try.func37, Try.ntmps37
    go_wp2_with (first
      | (go_at_call 66; refine (HC.out _ (Me.below_alloc (Below.refl _ _))).mono ?_; rintro e w1 ⟨rfl, rfl⟩)
      | (go_at_call 64; refine (FF.out _ _).mono ?_; rintro e w1 ⟨rfl, rfl⟩))
    go_ret
    exact ⟨rfl, Me.below_alloc (Below.refl _ _)⟩
/-- A load of a word that lies in a box as it was laid. -/
theorem Check_any (k n : Int) (i : Id4) (A : Option Addr) (dn dc : Nat) (B : Option Addr) (cs : List Int) (cc : Nat) (w : World) (hr : Hid (Mi.Rd w w.heap.size B cs)) (hc : cs.length ≤ 9223372036854775806) :
    Calls Try.prog 10 #[.agg (hopC k n i A dn dc B cs.length cc)] w fun e w' => e = .returned (.int .i64 (hopN k n i dn cs : Int)) ∧ Hid (Below w.heap.size w w') := by
  have H1 := Lib.hid (checkOffer_any k n i A dn dc B cs.length cc)
  have H2 := Lib.hid (checkAnswer_any k n i A dn dc B cs.length cc)
  have H3 : Hid (∀ W, Below w.heap.size w W → Calls Try.prog 37 #[.agg (hopC k n i A dn dc B cs.length cc)] W fun e w' => e = .returned (.int .i64 (rouN n i dn cs : Int)) ∧ Hid (Below W.heap.size W w')) := fun W hW => checkRoutes_any k n i A dn dc B cs cc W ((hr.out.below hW).more hW.size) hc
  have hb : Below w.heap.size w (w.alloc (.cells (hopC k n i A dn dc B cs.length cc) 29 (0, 0))) := Me.below_alloc (Below.refl _ _)
  have HB : Hid (∀ W, Below (w.alloc (.cells (hopC k n i A dn dc B cs.length cc) 29 (0, 0))).heap.size (w.alloc (.cells (hopC k n i A dn dc B cs.length cc) 29 (0, 0))) W → Below w.heap.size w W) := fun W hW => hb.trans (hW.mono hb.size)
  have HB0 := Lib.hid hb
  clear hr hc hb
  unfold hopN
  obtain ⟨N, hN⟩ : ∃ q, cs.length = q := ⟨_, rfl⟩
  obtain ⟨r1, h1⟩ : ∃ q, offN i dn cs.length = q := ⟨_, rfl⟩
  obtain ⟨r2, h2⟩ : ∃ q, ansN i dn cs.length = q := ⟨_, rfl⟩
  obtain ⟨r3, h3⟩ : ∃ q, rouN n i dn cs = q := ⟨_, rfl⟩
  simp only [h1, h2, h3] at H1 H2 H3 ⊢
  simp only [hN] at H1 H2 H3 HB HB0 ⊢
  clear h1 h2 h3 hN
  obtain ⟨o, d, ee, c⟩ := i
  simp only [hopC] at H1 H2 H3 HB HB0 ⊢
  by_cases hn : n < 0
  · rw [if_pos (Or.inl hn)]
    have g0 : decide (n < 0) = true := decide_eq_true hn
    go_enter Try.func10, Try.ntmps10
    go_wp2
    go_ret
    exact ⟨rfl, HB0.out⟩
  · have g0 : decide (n < 0) = false := decide_eq_false hn
    by_cases hm : 65535 < n
    · rw [if_pos (Or.inr hm)]
      have g1 : decide (65535 < n) = true := decide_eq_true hm
      go_enter Try.func10, Try.ntmps10
      go_wp2
      go_ret
      exact ⟨rfl, HB0.out⟩
    · rw [if_neg (by omega)]
      have g1 : decide (65535 < n) = false := decide_eq_false hm
      by_cases k1 : k = 1
      · subst k1
        rw [if_pos rfl]
        go_enter Try.func10, Try.ntmps10
        go_wp2_with (go_at_call 35; refine (H1.out _).mono ?_; rintro e w1 ⟨rfl, b1⟩)
        go_ret
        exact ⟨rfl, HB.out _ b1.out⟩
      · rw [if_neg k1]
        by_cases k2 : k = 2
        · subst k2
          rw [if_pos (Or.inl rfl)]
          go_enter Try.func10, Try.ntmps10
          go_wp2_with (go_at_call 36; refine (H2.out _).mono ?_; rintro e w1 ⟨rfl, b1⟩)
          go_ret
          exact ⟨rfl, HB.out _ b1.out⟩
        · by_cases k3 : k = 3
          · subst k3
            rw [if_pos (Or.inr rfl)]
            go_enter Try.func10, Try.ntmps10
            go_wp2_with (go_at_call 36; refine (H2.out _).mono ?_; rintro e w1 ⟨rfl, b1⟩)
            go_ret
            exact ⟨rfl, HB.out _ b1.out⟩
          · rw [if_neg (by omega)]
            by_cases k4 : k = 4
            · subst k4
              rw [if_pos rfl]
              go_enter Try.func10, Try.ntmps10
              go_wp2_with (go_at_call 37; refine (H3.out _ HB0.out).mono ?_; rintro e w1 ⟨rfl, b1⟩)
              go_ret
              exact ⟨rfl, HB.out _ b1.out⟩
            · rw [if_neg k4]
              go_enter Try.func10, Try.ntmps10
              go_wp2
              go_ret
              exact ⟨rfl, HB0.out⟩
end Go.Proofs.Ytohfoieibgmmdaa.Hp
