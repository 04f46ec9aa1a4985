/- The contracts of hdlc's reference: Kind, count, Byte, Feed, Inside. -/
import Derived.Test.YtoaffkmjobmhaaaHdEnc
import Derived.Handy
import Derived.Laws.ResultCell
import Derived.Deep.MidRow
import Derived.Deep.RegionHeld
import Derived.StillTailTactics
namespace Go.Proofs.Ytoaffkmjobmhaaa.Hd
open Go.RowKit
open Go.Proofs.Ytoaffkmjobmhaaa.Me Go.Proofs.Ytoaffkmjobmhaaa.St
open Go.Proofs.Ytoaffkmjobmhaaa.Cr (addL rightB RRight_long)
set_option linter.unusedVariables false
set_option linter.unusedSimpArgs false

/-- What was met, as a value. -/
def mval (m : Met) : Value := .agg #[.int .i64 (m.good : Int), .int .i64 (m.bad : Int), .int .i64 (m.short : Int), .int .i64 (m.long : Int), .int .i64 (m.broken : Int)]
theorem count_any (w : World) (m : Met) (k : Nat) (hk : k ≤ 4) (hm : tot m ≤ 4611686018427387904) :
    Calls Try.prog 38 #[mval m, .int .i64 (k : Int)] w fun e w' => e = .returned (mval (metMore m k)) ∧ Hid (Below w.heap.size w w') := by
  obtain ⟨h1, h2, h3, h4, h5⟩ := tot_each hm
  clear hm
  unfold mval
  match k, hk with
  | 0, _ =>
    go_enter Try.func38, Try.ntmps38
    go_wp2
    go_returns
    exact ⟨rfl, below_alloc (below_alloc (Below.refl _ _))⟩
  | 1, _ =>
    go_enter Try.func38, Try.ntmps38
    go_wp2
    go_returns
    exact ⟨rfl, below_alloc (below_alloc (Below.refl _ _))⟩
  | 2, _ =>
    go_enter Try.func38, Try.ntmps38
    go_wp2
    go_returns
    exact ⟨rfl, below_alloc (below_alloc (Below.refl _ _))⟩
  | 3, _ =>
    go_enter Try.func38, Try.ntmps38
    go_wp2
    go_returns
    exact ⟨rfl, below_alloc (below_alloc (Below.refl _ _))⟩
  | 4, _ =>
    go_enter Try.func38, Try.ntmps38
    go_wp2
    go_returns
    exact ⟨rfl, below_alloc (below_alloc (Below.refl _ _))⟩
/-- A decoder of the reference, as a value. -/
def rval (d : Dec) (v : Value) : Value := .agg #[.bool d.hunts, v, .int .i64 (d.met.good : Int), .int .i64 (d.met.bad : Int), .int .i64 (d.met.short : Int), .int .i64 (d.met.long : Int), .int .i64 (d.met.broken : Int)]
theorem RInside_any (w : World) (d : Dec) (A : Option Addr) (c : Nat) :
    Calls Try.prog 20 #[rval d (.slice A d.inn.length c)] w fun e w' => e = .returned (.int .i64 (if d.hunts then -1 else (d.inn.length : Int))) ∧ Hid (Below w.heap.size w w') := by
  unfold rval
  cases hh : d.hunts with
  | true =>
    clear hh
    go_enter Try.func20, Try.ntmps20
    go_wp2
    go_ret
    exact ⟨rfl, below_alloc (Below.refl _ _)⟩
  | false =>
    clear hh
    go_enter Try.func20, Try.ntmps20
    go_wp2
    go_ret
    exact ⟨rfl, below_alloc (Below.refl _ _)⟩
/-- What Kind answers. -/
def KindP (w : World) (k : Nat × List Nat) (e : Ending) (w' : World) : Prop :=
  ∃ A c, e = .returned (.tuple #[.int .i64 (k.1 : Int), .slice A k.2.length c]) ∧ Hid (Me.Own w' w.heap.size (.slice A k.2.length c) k.2) ∧ Hid (Below w.heap.size w w')
theorem KindP.mk {w w' : World} {k : Nat × List Nat} {i : Nat} {r : List Nat} {n c : Nat} {A : Option Addr} (hk : k = (i, r)) (h : Me.Own w' w.heap.size (.slice A n c) r) (hb : Below w.heap.size w w') : KindP w k (.returned (.tuple #[.int .i64 (i : Int), .slice A n c])) w' := by
  subst hk
  obtain rfl := own_len h
  exact ⟨A, c, rfl, h, hb⟩
set_option maxHeartbeats 1000000 in
theorem Kind_any (A : Option Addr) (cap : Nat) (l : List Nat) (w : World) (hr : Hid (Rd w w.heap.size A l)) (hl : l.length ≤ 1048576) :
    Calls Try.prog 37 #[.slice A l.length cap] w (KindP w (kindL rightB l)) := by
  have U := RUnstuff_own A cap w.heap.size l w hr (Nat.le_refl _) (by omega)
  have HKd : Hid (kindL rightB l = match unstuffL l with
    | none => (1, [])
    | some q => if q.length < 3 then (2, []) else if rightB q = false then (3, []) else if 128 < q.length - 2 then (4, []) else (0, q.take (q.length - 2))) := rfl
  cases hu : unstuffL l with
  | none =>
    rw [hu] at U
    have HU := Lib.hid U
    have HK2 : Hid (kindL rightB l = (1, [])) := by show _ = _; rw [HKd.out, hu]
    clear U hu HKd
    go_enter Try.func37, Try.ntmps37
    go_wp2_with (go_at_call 42; refine HU.out.mono ?_; rintro e w3 ⟨rfl, hb3⟩)
    go_ret2
    exact KindP.mk HK2.out (Me.Own.nil _ _) hb3.out
  | some q =>
    rw [hu] at U
    have HU := Lib.hid U
    have hqo : q.length ≤ l.length := (stuff_unstuff hr.out.1 hu).2.2
    have HK2 : Hid (kindL rightB l = if q.length < 3 then (2, []) else if rightB q = false then (3, []) else if 128 < q.length - 2 then (4, []) else (0, q.take (q.length - 2))) := by show _ = _; rw [HKd.out, hu]
    clear U hu HKd
    by_cases h3 : q.length < 3
    · have HK3 : Hid (kindL rightB l = (2, [])) := by show _ = _; rw [HK2.out, if_pos h3]
      have h3' : (q.length : Int) < 3 := by omega
      clear HK2 h3
      go_enter Try.func37, Try.ntmps37
      go_wp2_with (go_at_call 42; refine HU.out.mono ?_; rintro e w3 ⟨A4, c4, rfl, ho4, hb4, hb3⟩)
      go_ret2
      exact KindP.mk HK3.out (Me.Own.nil _ _) hb3.out
    · have h3' : ¬ (q.length : Int) < 3 := by omega
      have hK3 := HK2.out
      rw [if_neg h3] at hK3
      have s1 : IntKind.i64.wrap ((q.length : Int) - 2) = (q.length : Int) - 2 := IntWalk.i64_in _ (by omega)
      cases hrb : rightB q with
      | false =>
        have HRB := Lib.hid hrb
        have HK4 : Hid (kindL rightB l = (3, [])) := by show _ = _; rw [hK3, if_pos hrb]
        clear HK2 h3 hK3 hrb
        go_enter Try.func37, Try.ntmps37
        go_wp2_with (first
          | (go_at_call 42; refine HU.out.mono ?_; rintro e w3 ⟨A4, c4, rfl, ho4, hb4, hb3⟩; obtain ⟨r1, r2, r3, r4⟩ := own_rd ho4.out hb4)
          | (go_at_call 43; refine (RRight_long A4 c4 w3.heap.size q w3 r1 r2 (Nat.le_refl _) r3 r4 (by omega)).mono ?_; rintro e w4 ⟨he, hb5⟩; rw [HRB.out] at he; subst he))
        go_ret2
        exact KindP.mk HK4.out (Me.Own.nil _ _) (hb3.out.trans (hb5.out.mono hb3.out.size))
      | true =>
        have HRB := Lib.hid hrb
        rw [if_neg (by rw [hrb]; decide)] at hK3
        by_cases h130 : 128 < q.length - 2
        · have HK4 : Hid (kindL rightB l = (4, [])) := by show _ = _; rw [hK3, if_pos h130]
          have h131 : (128 : Int) < (q.length : Int) - 2 := by omega
          clear HK2 h3 hK3 hrb h130
          go_enter Try.func37, Try.ntmps37
          go_wp2_with (first
            | (go_at_call 42; refine HU.out.mono ?_; rintro e w3 ⟨A4, c4, rfl, ho4, hb4, hb3⟩; obtain ⟨r1, r2, r3, r4⟩ := own_rd ho4.out hb4)
            | (go_at_call 43; refine (RRight_long A4 c4 w3.heap.size q w3 r1 r2 (Nat.le_refl _) r3 r4 (by omega)).mono ?_; rintro e w4 ⟨he, hb5⟩; rw [HRB.out] at he; subst he))
          go_ret2
          exact KindP.mk HK4.out (Me.Own.nil _ _) (hb3.out.trans (hb5.out.mono hb3.out.size))
        · have HK4 : Hid (kindL rightB l = (0, q.take (q.length - 2))) := by show _ = _; rw [hK3, if_neg h130]
          have h131 : ¬ (128 : Int) < (q.length : Int) - 2 := by omega
          have s2 : (0 : Int) ≤ (q.length : Int) - 2 := by omega
          have s3 : ((q.length : Int) - 2).toNat = q.length - 2 := by omega
          clear HK2 h3 hK3 hrb h130
          go_enter Try.func37, Try.ntmps37
          go_wp2_with (first
            | (go_at_call 42; refine HU.out.mono ?_; rintro e w3 ⟨A4, c4, rfl, ho4, hb4, hb3⟩; obtain ⟨r1, r2, r3, r4⟩ := own_rd ho4.out hb4; have s4 : (q.length : Int) - 2 ≤ (c4 : Int) := (by omega))
            | (go_at_call 43; refine (RRight_long A4 c4 w3.heap.size q w3 r1 r2 (Nat.le_refl _) r3 r4 (by omega)).mono ?_; rintro e w4 ⟨he, hb5⟩; rw [HRB.out] at he; subst he))
          go_quiet (fail)
          go_wp2
          go_ret2
          exact KindP.mk HK4.out (Own.cut (own_same ho4.out fun j _ hj => hb5.out.block j hj) (Nat.sub_le _ _)) (below_drewN (hb3.out.trans (hb5.out.mono hb3.out.size)) _)
/-- What Byte answers: the decoder behind a byte, and what is told. The gathered bytes are those that came (slice A0, capacity c0, bytes i0), or the call's own. -/
def ByteP (w : World) (A0 : Option Addr) (c0 : Nat) (i0 : List Nat) (r : Dec × List Nat) (e : Ending) (w' : World) : Prop :=
  ∃ A c A' c', e = .returned (.tuple #[rval r.1 (.slice A r.1.inn.length c), .slice A' r.2.length c']) ∧ Hid (Rd w' w'.heap.size A r.1.inn) ∧ (A = none → r.1.inn.length = 0 ∧ c = 0) ∧ Hid ((A = A0 ∧ c = c0 ∧ r.1.inn = i0) ∨ Me.Own w' w.heap.size (.slice A r.1.inn.length c) r.1.inn) ∧
    Hid (Me.Own w' w.heap.size (.slice A' r.2.length c') r.2) ∧ Hid (Below w.heap.size w w')
theorem ByteP.mk {w w' : World} {A0 A A' : Option Addr} {c0 : Nat} {i0 : List Nat} {r : Dec × List Nat} {n n' c c' : Nat} (hn : n = r.1.inn.length) (hr : n' = r.2.length) (h1 : Rd w' w'.heap.size A r.1.inn) (h2 : A = none → r.1.inn.length = 0 ∧ c = 0) (h3 : (A = A0 ∧ c = c0 ∧ r.1.inn = i0) ∨ Me.Own w' w.heap.size (.slice A n c) r.1.inn) (h4 : Me.Own w' w.heap.size (.slice A' n' c') r.2) (h5 : Below w.heap.size w w') :
    ByteP w A0 c0 i0 r (.returned (.tuple #[rval r.1 (.slice A n c), .slice A' n' c'])) w' := by
  subst hn hr
  exact ⟨A, c, A', c', rfl, h1, h2, h3, h4, h5⟩
theorem rd_nil (w : World) (B : Nat) (A : Option Addr) : Rd w B A [] := ⟨by simp, by simp⟩
def rcells (d : Dec) (v : Value) : Array Value := #[.bool d.hunts, v, .int .i64 (d.met.good : Int), .int .i64 (d.met.bad : Int), .int .i64 (d.met.short : Int), .int .i64 (d.met.long : Int), .int .i64 (d.met.broken : Int)]
theorem rcells_met {w : World} {g : Nat} {d : Dec} {v : Value} {T : TypeId} (h : w.heap[g]? = some (.cells (rcells d v) T (0, 0))) :
    w.cell? ⟨g, 2, none⟩ = some (.int .i64 (d.met.good : Int)) ∧ w.cell? ⟨g, 3, none⟩ = some (.int .i64 (d.met.bad : Int)) ∧ w.cell? ⟨g, 4, none⟩ = some (.int .i64 (d.met.short : Int)) ∧ w.cell? ⟨g, 5, none⟩ = some (.int .i64 (d.met.long : Int)) ∧ w.cell? ⟨g, 6, none⟩ = some (.int .i64 (d.met.broken : Int)) :=
  ⟨cell_of_row w g 2 _ T (0, 0) h, cell_of_row w g 3 _ T (0, 0) h, cell_of_row w g 4 _ T (0, 0) h, cell_of_row w g 5 _ T (0, 0) h, cell_of_row w g 6 _ T (0, 0) h⟩
theorem rcells_range {w : World} {g : Nat} {d : Dec} {v : Value} {T : TypeId} (h : w.heap[g]? = some (.cells (rcells d v) T (0, 0))) : w.rangeAt g 2 (mcells d.met) := by
  intro j u hj
  rw [cell_of_row w g (2 + j) _ T (0, 0) h]
  unfold mcells at hj
  unfold rcells
  match j, hj with
  | 0, hj => exact hj
  | 1, hj => exact hj
  | 2, hj => exact hj
  | 3, hj => exact hj
  | 4, hj => exact hj
  | n + 5, hj => simp at hj
def KeptR (d : Dec) (g : Nat) (w : World) : Prop := w.cell? ⟨g, 2, none⟩ = some (.int .i64 (d.met.good : Int)) ∧ w.cell? ⟨g, 3, none⟩ = some (.int .i64 (d.met.bad : Int)) ∧ w.cell? ⟨g, 4, none⟩ = some (.int .i64 (d.met.short : Int)) ∧ w.cell? ⟨g, 5, none⟩ = some (.int .i64 (d.met.long : Int)) ∧ w.cell? ⟨g, 6, none⟩ = some (.int .i64 (d.met.broken : Int))
def zcells : Array Value := #[.bool false, .slice none 0 0, .int .i64 0, .int .i64 0, .int .i64 0, .int .i64 0, .int .i64 0]
theorem cells7_all {w : World} {g : Nat} {T : TypeId} {a0 a1 a2 a3 a4 a5 a6 : Value} (h : w.heap[g]? = some (.cells #[a0, a1, a2, a3, a4, a5, a6] T (0, 0))) :
    (w.cell? ⟨g, 0, none⟩ = some a0 ∧ w.cell? ⟨g, 1, none⟩ = some a1 ∧ w.cell? ⟨g, 2, none⟩ = some a2 ∧ w.cell? ⟨g, 3, none⟩ = some a3 ∧ w.cell? ⟨g, 4, none⟩ = some a4 ∧ w.cell? ⟨g, 5, none⟩ = some a5 ∧ w.cell? ⟨g, 6, none⟩ = some a6) ∧
    w.frozen? ⟨g, 0, none⟩ = false ∧ w.frozen? ⟨g, 1, none⟩ = false ∧ w.frozen? ⟨g, 2, none⟩ = false ∧ w.frozen? ⟨g, 3, none⟩ = false ∧ w.frozen? ⟨g, 4, none⟩ = false ∧ w.frozen? ⟨g, 5, none⟩ = false ∧ w.frozen? ⟨g, 6, none⟩ = false :=
  ⟨⟨cell_of_row w g 0 _ T (0, 0) h, cell_of_row w g 1 _ T (0, 0) h, cell_of_row w g 2 _ T (0, 0) h, cell_of_row w g 3 _ T (0, 0) h, cell_of_row w g 4 _ T (0, 0) h, cell_of_row w g 5 _ T (0, 0) h, cell_of_row w g 6 _ T (0, 0) h⟩,
    frozen_of_row w g 0 _ T h, frozen_of_row w g 1 _ T h, frozen_of_row w g 2 _ T h, frozen_of_row w g 3 _ T h, frozen_of_row w g 4 _ T h, frozen_of_row w g 5 _ T h, frozen_of_row w g 6 _ T h⟩
theorem zcells_all {w : World} {g : Nat} {T : TypeId} (h : w.heap[g]? = some (.cells zcells T (0, 0))) :
    (w.cell? ⟨g, 0, none⟩ = some (.bool false) ∧ w.cell? ⟨g, 1, none⟩ = some (.slice none 0 0) ∧ w.cell? ⟨g, 2, none⟩ = some (.int .i64 0) ∧ w.cell? ⟨g, 3, none⟩ = some (.int .i64 0) ∧ w.cell? ⟨g, 4, none⟩ = some (.int .i64 0) ∧ w.cell? ⟨g, 5, none⟩ = some (.int .i64 0) ∧ w.cell? ⟨g, 6, none⟩ = some (.int .i64 0)) ∧
    w.frozen? ⟨g, 0, none⟩ = false ∧ w.frozen? ⟨g, 1, none⟩ = false ∧ w.frozen? ⟨g, 2, none⟩ = false ∧ w.frozen? ⟨g, 3, none⟩ = false ∧ w.frozen? ⟨g, 4, none⟩ = false ∧ w.frozen? ⟨g, 5, none⟩ = false ∧ w.frozen? ⟨g, 6, none⟩ = false :=
  cells7_all h
theorem below_set7 {B g : Nat} {a w : World} (h : Below B a w) (hg : B ≤ g) {u0 u1 u2 u3 u4 u5 u6 : Value} : Below B a (((((((w.setCell ⟨g, 0, none⟩ u0).setCell ⟨g, 1, none⟩ u1).setCell ⟨g, 2, none⟩ u2).setCell ⟨g, 3, none⟩ u3).setCell ⟨g, 4, none⟩ u4).setCell ⟨g, 5, none⟩ u5).setCell ⟨g, 6, none⟩ u6) :=
  ((((((h.setCell (p := ⟨g, 0, none⟩) hg u0).setCell (p := ⟨g, 1, none⟩) hg u1).setCell (p := ⟨g, 2, none⟩) hg u2).setCell (p := ⟨g, 3, none⟩) hg u3).setCell (p := ⟨g, 4, none⟩) hg u4).setCell (p := ⟨g, 5, none⟩) hg u5).setCell (p := ⟨g, 6, none⟩) hg u6
theorem own_set7 {B g T n : Nat} {v : Value} {xs : List Value} {w : World} (h : w.ownsRow B T 1 v n xs) (hg : g < B) {u0 u1 u2 u3 u4 u5 u6 : Value} : (((((((w.setCell ⟨g, 0, none⟩ u0).setCell ⟨g, 1, none⟩ u1).setCell ⟨g, 2, none⟩ u2).setCell ⟨g, 3, none⟩ u3).setCell ⟨g, 4, none⟩ u4).setCell ⟨g, 5, none⟩ u5).setCell ⟨g, 6, none⟩ u6).ownsRow B T 1 v n xs :=
  ownsRow_setCell_below (ownsRow_setCell_below (ownsRow_setCell_below (ownsRow_setCell_below (ownsRow_setCell_below (ownsRow_setCell_below (ownsRow_setCell_below h hg u0) hg u1) hg u2) hg u3) hg u4) hg u5) hg u6
theorem set7_any {w : World} {g : Nat} {T : TypeId} {cs : Array Value} (h : w.heap[g]? = some (.cells cs T (0, 0))) {u0 u1 u2 u3 u4 u5 u6 : Value} : (((((((w.setCell ⟨g, 0, none⟩ u0).setCell ⟨g, 1, none⟩ u1).setCell ⟨g, 2, none⟩ u2).setCell ⟨g, 3, none⟩ u3).setCell ⟨g, 4, none⟩ u4).setCell ⟨g, 5, none⟩ u5).setCell ⟨g, 6, none⟩ u6).heap[g]? = some (.cells (((((((cs.setIfInBounds 0 u0).setIfInBounds 1 u1).setIfInBounds 2 u2).setIfInBounds 3 u3).setIfInBounds 4 u4).setIfInBounds 5 u5).setIfInBounds 6 u6) T (0, 0)) :=
  heap_setCell_same _ g 6 _ _ _ (heap_setCell_same _ g 5 _ _ _ (heap_setCell_same _ g 4 _ _ _ (heap_setCell_same _ g 3 _ _ _ (heap_setCell_same _ g 2 _ _ _ (heap_setCell_same _ g 1 _ _ _ (heap_setCell_same w g 0 _ _ _ h))))))
theorem arr7 (a0 a1 a2 a3 a4 a5 a6 u0 u1 u2 u3 u4 u5 u6 : Value) : ((((((((#[a0, a1, a2, a3, a4, a5, a6] : Array Value).setIfInBounds 0 u0).setIfInBounds 1 u1).setIfInBounds 2 u2).setIfInBounds 3 u3).setIfInBounds 4 u4).setIfInBounds 5 u5).setIfInBounds 6 u6) = #[u0, u1, u2, u3, u4, u5, u6] := by
  simp only [List.setIfInBounds_toArray, List.set_cons_zero, List.set_cons_succ]
theorem set7_heap' {w : World} {g : Nat} {T : TypeId} {a0 a1 a2 a3 a4 a5 a6 : Value} (h : w.heap[g]? = some (.cells #[a0, a1, a2, a3, a4, a5, a6] T (0, 0))) {u0 u1 u2 u3 u4 u5 u6 : Value} : (((((((w.setCell ⟨g, 0, none⟩ u0).setCell ⟨g, 1, none⟩ u1).setCell ⟨g, 2, none⟩ u2).setCell ⟨g, 3, none⟩ u3).setCell ⟨g, 4, none⟩ u4).setCell ⟨g, 5, none⟩ u5).setCell ⟨g, 6, none⟩ u6).heap[g]? = some (.cells #[u0, u1, u2, u3, u4, u5, u6] T (0, 0)) := by
  have := set7_any h (u0 := u0) (u1 := u1) (u2 := u2) (u3 := u3) (u4 := u4) (u5 := u5) (u6 := u6)
  rwa [arr7] at this
theorem lit2 {w0 w : World} {g : Nat} (hb : Below w0.heap.size w0 w) (hg : g = w.heap.size) : Me.Own (w.alloc (.cells #[] 5)) w0.heap.size (.slice (some ⟨g, 0, none⟩) 0 0) [] := by
  subst hg; exact Me.Own.lit hb
theorem other_set7 {w : World} {g k : Nat} (hk : k ≠ g) {u0 u1 u2 u3 u4 u5 u6 : Value} : (((((((w.setCell ⟨g, 0, none⟩ u0).setCell ⟨g, 1, none⟩ u1).setCell ⟨g, 2, none⟩ u2).setCell ⟨g, 3, none⟩ u3).setCell ⟨g, 4, none⟩ u4).setCell ⟨g, 5, none⟩ u5).setCell ⟨g, 6, none⟩ u6).heap[k]? = w.heap[k]? :=
  (((((((Below.heap_setCell _ ⟨g, 6, none⟩ u6 k hk).trans (Below.heap_setCell _ ⟨g, 5, none⟩ u5 k hk)).trans (Below.heap_setCell _ ⟨g, 4, none⟩ u4 k hk)).trans (Below.heap_setCell _ ⟨g, 3, none⟩ u3 k hk)).trans (Below.heap_setCell _ ⟨g, 2, none⟩ u2 k hk)).trans (Below.heap_setCell _ ⟨g, 1, none⟩ u1 k hk)).trans (Below.heap_setCell _ ⟨g, 0, none⟩ u0 k hk))
theorem keptR_other {w w' : World} {g : Nat} {d : Dec} (h : w'.heap[g]? = w.heap[g]?) (k : KeptR d g w) : KeptR d g w' := by
  unfold KeptR at k ⊢
  have e : ∀ i, w'.cell? ⟨g, i, none⟩ = w.cell? ⟨g, i, none⟩ := fun i => World.cell?_of_block (a := ⟨g, i, none⟩) h
  simp only [e]
  exact k
theorem set7_heap {w : World} {g : Nat} {T : TypeId} (h : w.heap[g]? = some (.cells zcells T (0, 0))) {u0 u1 u2 u3 u4 u5 u6 : Value} : (((((((w.setCell ⟨g, 0, none⟩ u0).setCell ⟨g, 1, none⟩ u1).setCell ⟨g, 2, none⟩ u2).setCell ⟨g, 3, none⟩ u3).setCell ⟨g, 4, none⟩ u4).setCell ⟨g, 5, none⟩ u5).setCell ⟨g, 6, none⟩ u6).heap[g]? = some (.cells #[u0, u1, u2, u3, u4, u5, u6] T (0, 0)) := set7_heap' h
/-- A byte appended to bytes of the call's own, as one operation. -/
theorem app8w {w0 w : World} {o : Oper} {a : Act} {K : Act → World → Prop} {Q : Exit → Act → World → Prop} (s x : Operand)
    (ho : o.op = .call { callee := .builtin .append, args := #[s, x], argTypes := #[22, 22] })
    (B Bx : Nat) (v : Value) (l r : List Nat) (hs : a.eval s = v) (hown : Me.Own w B v l) (hb : Below B w0 w) (hB : B ≤ w.heap.size)
    (ad : Addr) (c : Nat) (hx : a.eval x = .slice (some ad) r.length c) (hr : Rd w Bx (some ad) r) (hlen : l.length + r.length ≤ 140737488355328)
    (h : ∀ v' w', Me.Own w' B v' (l ++ r) → Below B w0 w' → K (a.put o.dst v') w') : o.wp Try.prog a w K Q := by
  obtain ⟨i0, hi, hz0, hz1, hz2⟩ := info_parts info8
  refine wp_append_own w s x 22 ho B 5 i0 (.int .u8 0) 1 1 Try.underlying22 hi hz0 hz1 hz2 rfl (by decide) v l.length (l.map byV) hs hown ad r.length c (r.map byV) hx (len_map r) (rd_cells hr (Below.refl _ _)) (one_cells _) (by unfold maxLen; omega) (by omega) hB ?_
  intro v' w' h1 h2 _
  refine h v' w' ?_ (hb.grown h2 hB fun k hk => (hown.lt k hk).1)
  unfold Me.Own
  rw [List.length_append, List.map_append]; exact h1
/-- A return of a struct that lies in a block, and of a temporary. -/
theorem ret_cell {fn : Func} {R : Ending → World → Prop} {a : Act} {w : World} {g : Nat} {cs : Array Value} {p u : Tmp} {ty t : TypeId} {fr : Nat × Nat} {d : TypeDesc} (hres : fn.results = #[.cell p ty, .tmp u]) (hp : a.tmps.getD p undef = .pointer (some ⟨g, 0, none⟩)) (hg : w.heap[g]? = some (.cells cs t fr))
    (hd : d.isRow = true) (hu : Try.prog.underlying ty = some d) (hi : (Try.prog.info? ty).map (·.size) = some cs.size) (hdef : a.defers = [])
    (hR : R (.returned (.tuple #[.agg cs, a.tmps.getD u undef])) w) : bodyPost Try.prog fn R .ret a w :=
  bodyPost_ret (v := .tuple #[.agg cs, a.tmps.getD u undef]) (by rw [results_cell_tmp hres, hp]; simp only [asAddr, Sem.run_pure, Result.andThen_ok, run_loadVar_row w g t ty cs fr d hg hu (by cases d <;> first | rfl | cases hd) hi]) hdef hR
set_option maxRecDepth 100000 in
set_option maxHeartbeats 2000000 in
theorem Byte_any (w : World) (d : Dec) (A : Option Addr) (c b : Nat) (hr : Hid (Rd w w.heap.size A d.inn)) (hA : Hid (A = none → d.inn.length = 0 ∧ c = 0)) (hb : b < 256) (hl : d.inn.length ≤ 260) (ht : tot d.met + 1 ≤ 4611686018427387904) :
    Calls Try.prog 29 #[rval d (.slice A d.inn.length c), .int .u8 (b : Int)] w (ByteP w A c d.inn (byteD rightB d b)) := by
  unfold rval
  by_cases h1 : b = 126
  · subst h1
    by_cases hh : d.hunts = true
    · have HB : Hid (byteD rightB d 126 = (⟨false, [], d.met⟩, [])) := by show _ = _; unfold byteD; rw [if_pos rfl, if_pos (.inl hh)]
      rw [hh]
      clear hh
      go_enter Try.func29, Try.ntmps29
      go_wp2
      go_returns
      rw [HB.out]
      exact ByteP.mk rfl rfl (rd_nil _ _ _) (fun _ => ⟨rfl, rfl⟩) (.inr (Me.Own.nil _ _)) (Me.Own.nil _ _) (below_alloc (below_alloc (Below.refl _ _)))
    · have hh' : d.hunts = false := by simpa using hh
      by_cases hi : d.inn = []
      · have HB : Hid (byteD rightB d 126 = (⟨false, [], d.met⟩, [])) := by show _ = _; unfold byteD; rw [if_pos rfl, if_pos (.inr hi)]
        rw [hh', hi]
        clear hh hh' hi
        go_enter Try.func29, Try.ntmps29
        go_wp2
        go_returns
        rw [HB.out]
        exact ByteP.mk rfl rfl (rd_nil _ _ _) (fun _ => ⟨rfl, rfl⟩) (.inr (Me.Own.nil _ _)) (Me.Own.nil _ _) (below_alloc (below_alloc (Below.refl _ _)))
      · have HB : Hid (byteD rightB d 126 = (⟨false, [], metMore d.met (kindL rightB d.inn).1⟩, (kindL rightB d.inn).2)) := by show _ = _; unfold byteD; rw [if_pos rfl, if_neg (fun h => h.elim hh hi)]
        have hpos : 0 < d.inn.length := List.length_pos_iff.mpr hi
        have e0 : ((d.inn.length : Int) == 0) = false := by simp; omega
        have hk4 := kind_le rightB d.inn
        rw [hh']
        have HT := Lib.hid ht
        have HL := Lib.hid hl
        obtain ⟨W0, hW0⟩ : ∃ W0, (w.alloc (.cells (rcells d (.slice A d.inn.length c)) 34)).alloc (.cells #[.bool false, .slice none 0 0, .int .i64 0, .int .i64 0, .int .i64 0, .int .i64 0, .int .i64 0] 34) = W0 := ⟨_, rfl⟩
        have hB0 : Hid (Below w.heap.size w W0) := by rw [← hW0]; exact below_alloc (below_alloc (Below.refl _ _))
        have hX1 : Hid (W0.heap[w.heap.size]? = some (.cells (rcells d (.slice A d.inn.length c)) 34 (0, 0))) := by rw [← hW0]; exact heap_alloc2_old _ _ _
        have hX2 : Hid (W0.heap[w.heap.size + 1]? = some (.cells zcells 34 (0, 0))) := by rw [← hW0]; exact heap_alloc2_new _ _ _
        have hWn : Hid (W0.heap.size = w.heap.size + 2) := by rw [← hW0]; show _ = _; simp
        have D1 := Kind_any A c d.inn W0 (hr.out.below hB0.out |>.more hB0.out.size) (by omega)
        have hW1 : Hid ((w.alloc (.cells #[.bool false, .slice A d.inn.length c, .int .i64 (d.met.good : Int), .int .i64 (d.met.bad : Int), .int .i64 (d.met.short : Int), .int .i64 (d.met.long : Int), .int .i64 (d.met.broken : Int)] 34)).alloc (.cells #[.bool false, .slice none 0 0, .int .i64 0, .int .i64 0, .int .i64 0, .int .i64 0, .int .i64 0] 34) = W0) := by rw [← hW0]; unfold rcells; rw [hh']; rfl
        obtain ⟨⟨k, r⟩, hkr⟩ : ∃ kk, kindL rightB d.inn = kk := ⟨_, rfl⟩
        rw [hkr] at HB D1 hk4
        have HD1 := Lib.hid D1
        clear hh hh' hi hkr D1 ht hl hW0
        go_enter Try.func29, Try.ntmps29
        go_wp2_with (first
          | (go_at_call 37; rw [hW1.out]; refine HD1.out.mono ?_; rintro e w3 ⟨A4, c4, rfl, ho4, hb3⟩; obtain ⟨m1, m2, m3, m4, m5⟩ := rcells_met ((hb3.out.block _ (by rw [hWn.out]; omega)).trans hX1.out))
          | (go_at_call 38; refine (count_any w3 d.met k hk4 (by have := HT.out; omega)).mono ?_; rintro e w4 ⟨he, hb4⟩; unfold mval at he; subst he; have hb24 := hb3.out.trans (hb4.out.mono hb3.out.size); have HZ := Lib.hid ((hb24.block _ (by rw [hWn.out]; omega)).trans hX2.out); obtain ⟨⟨z0, z1, z2, z3, z4, z5, z6⟩, y0, y1, y2, y3, y4, y5, y6⟩ := zcells_all HZ.out))
        refine ret_cell rfl rfl (set7_heap HZ.out) rfl Try.underlying34 (by kernel_rfl) rfl ?_
        rw [HB.out]
        have hg7 : W0.heap.size = w.heap.size + 2 := hWn.out
        refine ByteP.mk rfl rfl (rd_nil _ _ _) (fun _ => ⟨rfl, rfl⟩) (.inr (Me.Own.nil _ _)) ?_ ?_
        · exact own_base (own_set7 (own_same ho4.out fun j _ hj => hb4.out.block j hj) (by omega)) fun j e => Nat.le_trans (by omega) ((ho4.out.lt j e).1)
        · exact below_set7 (hB0.out.trans (hb24.mono hB0.out.size)) (by omega)
  · have e1 : ((b : Int) == 126) = false := by simp; omega
    by_cases hh : d.hunts = true
    · have HB : Hid (byteD rightB d b = (d, [])) := by show _ = _; unfold byteD; rw [if_neg h1, if_pos hh]
      have HH := Lib.hid hh
      rw [hh]
      clear hh h1
      go_enter Try.func29, Try.ntmps29
      go_wp2
      go_returns
      rw [HB.out]
      have hbl : Below w.heap.size w ((w.alloc (.cells #[.bool true, .slice A d.inn.length c, .int .i64 (d.met.good : Int), .int .i64 (d.met.bad : Int), .int .i64 (d.met.short : Int), .int .i64 (d.met.long : Int), .int .i64 (d.met.broken : Int)] 34)).alloc (.cells #[.bool true, .slice A d.inn.length c, .int .i64 (d.met.good : Int), .int .i64 (d.met.bad : Int), .int .i64 (d.met.short : Int), .int .i64 (d.met.long : Int), .int .i64 (d.met.broken : Int)] 34)) := below_alloc (below_alloc (Below.refl _ _))
      have hv : rval d (.slice A d.inn.length c) = .agg #[.bool true, .slice A d.inn.length c, .int .i64 (d.met.good : Int), .int .i64 (d.met.bad : Int), .int .i64 (d.met.short : Int), .int .i64 (d.met.long : Int), .int .i64 (d.met.broken : Int)] := by unfold rval; rw [HH.out]
      rw [← hv]
      exact ByteP.mk rfl rfl ((hr.out.below hbl).more hbl.size) hA.out (.inl ⟨rfl, rfl, rfl⟩) (Me.Own.nil _ _) hbl
    · have hh' : d.hunts = false := by simpa using hh
      obtain ⟨W0, hW0⟩ : ∃ W0, (w.alloc (.cells (rcells d (.slice A d.inn.length c)) 34)).alloc (.cells #[.bool false, .slice none 0 0, .int .i64 0, .int .i64 0, .int .i64 0, .int .i64 0, .int .i64 0] 34) = W0 := ⟨_, rfl⟩
      have hB0 : Hid (Below w.heap.size w W0) := by rw [← hW0]; exact below_alloc (below_alloc (Below.refl _ _))
      have hX1 : Hid (W0.heap[w.heap.size]? = some (.cells (rcells d (.slice A d.inn.length c)) 34 (0, 0))) := by rw [← hW0]; exact heap_alloc2_old _ _ _
      have hX2 : Hid (W0.heap[w.heap.size + 1]? = some (.cells zcells 34 (0, 0))) := by rw [← hW0]; exact heap_alloc2_new _ _ _
      have hWn : Hid (W0.heap.size = w.heap.size + 2) := by rw [← hW0]; show _ = _; simp
      have hW1 : Hid ((w.alloc (.cells #[.bool false, .slice A d.inn.length c, .int .i64 (d.met.good : Int), .int .i64 (d.met.bad : Int), .int .i64 (d.met.short : Int), .int .i64 (d.met.long : Int), .int .i64 (d.met.broken : Int)] 34)).alloc (.cells #[.bool false, .slice none 0 0, .int .i64 0, .int .i64 0, .int .i64 0, .int .i64 0, .int .i64 0] 34) = W0) := by rw [← hW0]; unfold rcells; rw [hh']; rfl
      rw [hh']
      have HT := Lib.hid ht
      have H1 := Lib.hid h1
      have HH := Lib.hid hh
      have HLn := Lib.hid hl
      by_cases h3 : 260 ≤ d.inn.length
      · have HB : Hid (byteD rightB d b = (⟨true, [], metMore d.met 4⟩, [])) := by show _ = _; unfold byteD; rw [if_neg H1.out, if_neg HH.out, if_pos h3]
        have h3' : (260 : Int) ≤ (d.inn.length : Int) := by omega
        clear hh hh' ht hl hW0 h1 h3
        go_enter Try.func29, Try.ntmps29
        go_wp2_with (go_at_call 38; rw [hW1.out]; refine (count_any W0 d.met 4 (Nat.le_refl _) (by have := HT.out; omega)).mono ?_; rintro e w4 ⟨he, hb4⟩; unfold mval at he; subst he; have HZ := Lib.hid ((hb4.out.block _ (by rw [hWn.out]; omega)).trans hX2.out); obtain ⟨⟨z0, z1, z2, z3, z4, z5, z6⟩, y0, y1, y2, y3, y4, y5, y6⟩ := zcells_all HZ.out)
        refine ret_cell rfl rfl (set7_heap HZ.out) rfl Try.underlying34 (by kernel_rfl) rfl ?_
        rw [HB.out]
        have hg7 : W0.heap.size = w.heap.size + 2 := hWn.out
        exact ByteP.mk rfl rfl (rd_nil _ _ _) (fun _ => ⟨rfl, rfl⟩) (.inr (Me.Own.nil _ _)) (Me.Own.nil _ _) (below_set7 (hB0.out.trans (hb4.out.mono hB0.out.size)) (by omega))
      · have HB : Hid (byteD rightB d b = (⟨false, d.inn ++ [b], d.met⟩, [])) := by show _ = _; unfold byteD; rw [if_neg H1.out, if_neg HH.out, if_neg h3]
        have h3' : ¬ (260 : Int) ≤ (d.inn.length : Int) := by omega
        clear hh hh' ht hl hW0 h1 h3
        go_enter Try.func29, Try.ntmps29
        go_wp2_with (at_builtin; rw [hW1.out]; refine app8 rfl (.tmp 45) (.tmp 47) rfl W0.heap.size w.heap.size _ [] d.inn rfl (lit2 (Below.refl _ W0) (by have := hWn.out; omega)) (below_alloc (Below.refl _ W0)) (by simp) A c rfl (hr.out.below ((hB0.out).alloc hB0.out.size _)) hA.out (by have := HLn.out; simp; omega) ?_; intro v3 w3 ho3 hb3 _; obtain ⟨m1, m2, m3, m4, m5⟩ := rcells_met ((hb3.block _ (by rw [hWn.out]; omega)).trans hX1.out); have HZ := Lib.hid ((hb3.block _ (by rw [hWn.out]; omega)).trans hX2.out); obtain ⟨⟨z0, z1, z2, z3, z4, z5, z6⟩, y0, y1, y2, y3, y4, y5, y6⟩ := zcells_all HZ.out; have HO3 := Lib.hid ho3; have HB3 := Lib.hid hb3; clear ho3 hb3)
        have hX13 : w3.heap[w.heap.size]? = some (.cells (rcells d (.slice A d.inn.length c)) 34 (0, 0)) := (HB3.out.block _ (by have := hWn.out; omega)).trans hX1.out
        have hlt3 : w.heap.size < w3.heap.size := (Array.getElem?_eq_some_iff.1 hX13).1
        have S3 : w3.drew.cell? ⟨w.heap.size, 2, none⟩ = some (.int .i64 (d.met.good : Int)) ∧ w3.drew.cell? ⟨w.heap.size, 3, none⟩ = some (.int .i64 (d.met.bad : Int)) ∧ w3.drew.cell? ⟨w.heap.size, 4, none⟩ = some (.int .i64 (d.met.short : Int)) ∧ w3.drew.cell? ⟨w.heap.size, 5, none⟩ = some (.int .i64 (d.met.long : Int)) ∧ w3.drew.cell? ⟨w.heap.size, 6, none⟩ = some (.int .i64 (d.met.broken : Int)) := rcells_met (w := w3.drew) hX13
        have SA : (w3.alloc (.cells #[.int .u8 (b : Int)] 5)).drew.cell? ⟨w.heap.size, 2, none⟩ = some (.int .i64 (d.met.good : Int)) ∧ (w3.alloc (.cells #[.int .u8 (b : Int)] 5)).drew.cell? ⟨w.heap.size, 3, none⟩ = some (.int .i64 (d.met.bad : Int)) ∧ (w3.alloc (.cells #[.int .u8 (b : Int)] 5)).drew.cell? ⟨w.heap.size, 4, none⟩ = some (.int .i64 (d.met.short : Int)) ∧ (w3.alloc (.cells #[.int .u8 (b : Int)] 5)).drew.cell? ⟨w.heap.size, 5, none⟩ = some (.int .i64 (d.met.long : Int)) ∧ (w3.alloc (.cells #[.int .u8 (b : Int)] 5)).drew.cell? ⟨w.heap.size, 6, none⟩ = some (.int .i64 (d.met.broken : Int)) := rcells_met (w := (w3.alloc (.cells #[.int .u8 (b : Int)] 5)).drew) ((Below.heap_alloc w3 _ _ hlt3).trans hX13)
        have HL2 : Hid (([] ++ d.inn).length + [b].length ≤ 140737488355328) := by have := HLn.out; show _ ≤ _; simp; omega
        clear hX13 hlt3 m1 m2 m3 m4 m5 z0 z1 z2 z3 z4 z5 z6 y0 y1 y2 y3 y4 y5 y6 HZ
        have hB3d : Below W0.heap.size W0 w3.drew := HB3.out.drew
        have S3K : KeptR d w.heap.size w3.drew := S3
        refine wp_region_held_drew (S := KeptR d w.heap.size) (by kernel_rfl) S3K (fun hHeld => ?_)
        refine wpAnyH_take (i := 0) (v := ?v0) rfl (by kernel_rfl) (by kernel_rfl) (by kernel_rfl) (fun _ _ _ h => h) (Or.inl ⟨by rfl, ?hy0⟩) (by assumption) ?rest0
        case hy0 => intro W hSW; go_simp; try (with_reducible rfl)
        simp only [Act.put, List.getElem_toArray, List.getElem_cons_succ, List.getElem_cons_zero, List.setIfInBounds_toArray, List.set_cons_zero, List.set_cons_succ]
        refine wpAnyH_take (i := 1) (v := ?v1) rfl (by kernel_rfl) (by kernel_rfl) (by kernel_rfl) (fun _ _ _ h => h) (Or.inl ⟨by rfl, ?hy1⟩) (by assumption) ?rest1
        case hy1 => intro W hSW; go_simp; try (with_reducible rfl)
        simp only [Act.put, List.getElem_toArray, List.getElem_cons_succ, List.getElem_cons_zero, List.setIfInBounds_toArray, List.set_cons_zero, List.set_cons_succ]
        refine wpAnyH_take (i := 4) (v := ?v4) rfl (by kernel_rfl) (by kernel_rfl) (by kernel_rfl) (fun _ _ _ h => h) (Or.inl ⟨by rfl, ?hy4⟩) (by assumption) ?rest4
        case hy4 => intro W hSW; go_simp; try (with_reducible rfl)
        simp only [Act.put, List.getElem_toArray, List.getElem_cons_succ, List.getElem_cons_zero, List.setIfInBounds_toArray, List.set_cons_zero, List.set_cons_succ]
        refine wpAnyH_take (i := 5) (v := ?v5) rfl (by kernel_rfl) (by kernel_rfl) (by kernel_rfl) (fun _ _ _ h => h) (Or.inl ⟨by rfl, ?hy5⟩) (by assumption) ?rest5
        case hy5 => intro W hSW; obtain ⟨n1, n2, n3, n4, n5⟩ := hSW; go_simp; try (with_reducible rfl)
        simp only [Act.put, List.getElem_toArray, List.getElem_cons_succ, List.getElem_cons_zero, List.setIfInBounds_toArray, List.set_cons_zero, List.set_cons_succ]
        refine wpAnyH_ready (rs := [2]) (by kernel_rfl) (by simp) ?_
        refine AllReadyH.cons rfl (fun K hK => ?_) AllReadyH.nil
        go_simp
        refine hK.out _ _ SA (fun hHeld => ?_)
        clear hK K
        refine wpAnyH_ready (rs := [3]) (by kernel_rfl) (by simp) ?_
        refine AllReadyH.cons rfl (fun K hK => ?_) AllReadyH.nil
        rw [if_pos (by kernel_rfl)]
        refine app8w (.tmp 49) (.tmp 51) rfl W0.heap.size (w3.heap.size + 1) _ ([] ++ d.inn) [b] rfl (World.ownsRow.alloc HO3.out _) (below_alloc HB3.out).drew (Nat.le_trans HB3.out.size (by simp)) ⟨w3.heap.size, 0, none⟩ 1 rfl (rd_lit (w := w3) (r := [b]) (by simpa using hb) 5) HL2.out ?_
        intro v5 w5 ho5 hb5
        obtain ⟨A5, c5, rfl, _, _, _⟩ := ho5.held (by rw [List.nil_append]; exact hb2 hr.out.1 hb)
        have HZ := Lib.hid ((hb5.block _ (by have := hWn.out; omega)).trans hX2.out)
        obtain ⟨⟨z0, z1, z2, z3, z4, z5, z6⟩, y0, y1, y2, y3, y4, y5, y6⟩ := zcells_all HZ.out
        have S5 : KeptR d w.heap.size w5 := rcells_met ((hb5.block _ (by have := hWn.out; omega)).trans hX1.out)
        simp only [Act.put, List.getElem_toArray, List.getElem_cons_succ, List.getElem_cons_zero, List.setIfInBounds_toArray, List.set_cons_zero, List.set_cons_succ]
        refine hK.out _ _ S5 (fun hHeld => ?_)
        clear hK K
        have HO5 := Lib.hid ho5
        have HB5 := Lib.hid hb5
        clear ho5 hb5
        refine wpAnyH_take (i := 6) (v := ?v6) rfl (by kernel_rfl) (by kernel_rfl) (by kernel_rfl) (fun _ _ _ h => h) (Or.inl ⟨by rfl, ?hy6⟩) (by assumption) ?rest6
        case hy6 => intro W hSW; go_simp; try (with_reducible rfl)
        simp only [Act.put, List.getElem_toArray, List.getElem_cons_succ, List.getElem_cons_zero, List.setIfInBounds_toArray, List.set_cons_zero, List.set_cons_succ]
        refine wpAnyH_ready (rs := [7]) (by kernel_rfl) (by simp) ?_
        refine AllReadyH.cons rfl (fun K hK => ?_) AllReadyH.nil
        go_simp
        refine hK.out _ _ (keptR_other (other_set7 (g := w.heap.size + 1) (by omega)) S5) (fun hHeld => ?_)
        clear hK K
        refine wpAnyH_take (i := 8) (v := ?v8) rfl (by kernel_rfl) (by kernel_rfl) (by kernel_rfl) (fun _ _ _ h => h) (Or.inl ⟨by rfl, ?hy8⟩) (by assumption) ?rest8
        case hy8 => intro W hSW; go_simp; try (with_reducible rfl)
        simp only [Act.put, List.getElem_toArray, List.getElem_cons_succ, List.getElem_cons_zero, List.setIfInBounds_toArray, List.set_cons_zero, List.set_cons_succ]
        refine wpAnyH_done (by kernel_rfl) ?_ _
        go_wp2
        refine ret_cell rfl rfl (set7_heap HZ.out) rfl Try.underlying34 (by kernel_rfl) rfl ?_
        rw [HB.out]
        have hW6 : W0.heap.size = w.heap.size + 2 := hWn.out
        have ho6 := HO5.out
        rw [List.nil_append] at ho6
        have hln : (d.inn ++ [b]).length = d.inn.length + 1 := by simp
        have ho7 : Me.Own w5 W0.heap.size (.slice A5 (d.inn.length + 1) c5) (d.inn ++ [b]) := by
          have h := ho6
          simp only [List.nil_append, List.length_append, List.length_singleton] at h
          exact h
        refine ByteP.mk (A := A5) hln.symm rfl ?_ ?_ ?_ (Me.Own.nil _ _) (below_set7 (hB0.out.trans (HB5.out.mono hB0.out.size)) (by omega))
        · exact (own_rd (own_set7 ho7 (by omega)) (hb2 hr.out.1 hb)).1
        · exact (own_rd ho7 (hb2 hr.out.1 hb)).2.1
        · exact .inr (own_base (own_set7 ho7 (by omega)) fun k e => by have := (ho7.lt k e).1; omega)
end Go.Proofs.Ytoaffkmjobmhaaa.Hd
