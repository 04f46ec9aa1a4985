/- The law's tables in memory: each behind its pointer. -/
import Derived.Test.YtkanebolfmpnfaaRtFind0
namespace Go.Proofs.Ytkanebolfmpnfaa.Rt
open Go.RowKit Go.Maps
open Go.Proofs.Ytkanebolfmpnfaa.Sb
set_option linter.unusedVariables false
set_option linter.unusedSimpArgs false

/-- Hear turns the table's map alone. -/
theorem Hear_map {s : Nat} {w : World} {D mb : Nat} {v : Value} {t : Tb} (h : Hid (Tn s w D mb v t)) (n : Int) (A : Option Addr) (c B : Nat) (l : List Int) (hr : Hid (Mi.Rd w B A l)) (hB : B ≤ w.heap.size) (hc : l.length ≤ 9223372036854775806) : Calls Try.prog 23 #[.pointer (some ⟨D, 0, none⟩), .int .i64 n, .slice A l.length c] w fun e w' => e = .returned (.int .i64 (hearE t n l : Int)) ∧ Hid (Tn s w' D mb v (hearT t n l)) ∧ Hid (But (fun k => k = mb) w w') := by
  by_cases hE : hearE t n l = 0
  · obtain ⟨m, rfl, hm⟩ := hearE_nat h.out.ok hE
    refine (Hear_ok w D mb v t h.out.tq h.out.nl m hm A c l B hr hB hE).mono ?_
    rintro e w' ⟨rfl, ht, hb⟩
    refine ⟨by rw [hE]; rfl, h.out.tq' ?_ (hearT_ok h.out.ok _ _) (hearT_nbs _ _ _), hb⟩
    unfold hearT
    rw [if_pos hE, show ((m : Int)).toNat = m by omega]
    exact ht.out
  · refine (Hear_no w D mb v t h.out.tq h.out.nl n A c l B hr hc hE).mono ?_
    rintro e w' ⟨rfl, rfl⟩
    refine ⟨rfl, ?_, But.refl _ _⟩
    unfold hearT
    rw [if_neg hE]
    exact h
/-- n tables, their blocks from B on. -/
structure Ts (B : Nat) (w : World) (n : Nat) (D mb : Nat → Nat) (v : Nat → Value) (T : Nat → Tb) : Prop where
  tn : ∀ k, k < n → Tn B w (D k) (mb k) (v k) (T k)
  ne : ∀ j k, j < n → k < n → j ≠ k → mb j ≠ mb k
section
variable {B n : Nat} {w w' : World} {D mb : Nat → Nat} {v : Nat → Value} {T : Nat → Tb}
theorem Ts.below (h : Ts B w n D mb v T) (hb : Below w.heap.size w w') : Ts B w' n D mb v T := ⟨fun k hk => (h.tn k hk).below hb, h.ne⟩
theorem Tq.keptMap {w w' : World} {D mb m : Nat} {v : Value} {t : Tb} (h : Tq w D mb v t) (hm : ∃ es c, w.heap[m]? = some (.map es c)) (hne : mb ≠ m) (hb : But (fun k => k = m) w w') : Tq w' D mb v t := by
  obtain ⟨es, c, hm⟩ := hm
  refine h.but hb (fun e => ?_) hne fun k hk e => ?_
  · have := h.blk
    rw [e, hm] at this
    cases this
  · obtain ⟨cur, hc⟩ := own_type h.nb k hk
    rw [e, hm] at hc
    cases hc
theorem Ts.put (h : Ts B w n D mb v T) {k : Nat} (hk : k < n) {t : Tb} (ht : Tn B w' (D k) (mb k) (v k) t) (hb : But (fun b => b = mb k) w w') : Ts B w' n D mb v (updT T k t) where
  tn j hj := by
    by_cases e : j = k
    · subst e
      rw [show updT T j t j = t from if_pos rfl]
      exact ht
    · rw [show updT T k t j = T j from if_neg e]
      exact (h.tn j hj).tq' ((h.tn j hj).tq.keptMap (h.tn k hk).tq.mp.isMap (h.ne j k hj hk e) hb) (h.tn j hj).ok rfl
  ne := h.ne
theorem Ts.eq {T' : Nat → Tb} (h : Ts B w n D mb v T) (he : ∀ k, k < n → T k = T' k) : Ts B w n D mb v T' := ⟨fun k hk => by rw [← he k hk]; exact h.tn k hk, h.ne⟩
/-- No block of cells turns. -/
def Ck (w w' : World) : Prop := ∀ (b : Nat) (cs : Array Value) (T : TypeId), w.heap[b]? = some (.cells cs T (0, 0)) → w'.heap[b]? = w.heap[b]?
theorem Ck.refl (w : World) : Ck w w := fun _ _ _ _ => rfl
theorem Ck.trans {X Y : World} (h : Ck w X) (k : Ck X Y) : Ck w Y := fun b cs T hb => (k b cs T ((h b cs T hb).trans hb)).trans (h b cs T hb)
theorem Ck.below (h : Below w.heap.size w w') : Ck w w' := fun b _ _ hb => h.block b (Array.getElem?_eq_some_iff.1 hb).1
theorem Ck.map {m : Nat} (hm : ∃ es c, w.heap[m]? = some (.map es c)) (h : But (fun k => k = m) w w') : Ck w w' := fun b cs T hb => h.same b (Array.getElem?_eq_some_iff.1 hb).1 fun e => by
  obtain ⟨es, c, hm⟩ := hm
  rw [e, hm] at hb
  cases hb
/-- A block that holds the tables' pointers. -/
def Ps (w : World) (P n : Nat) (D : Nat → Nat) : Prop := ∃ cs T, w.heap[P]? = some (.cells cs T (0, 0)) ∧ ∀ k, k < n → cs[k]? = some (.pointer (some ⟨D k, 0, none⟩))
theorem Ps.lt {P : Nat} (h : Ps w P n D) : P < w.heap.size := by
  obtain ⟨cs, T, h, _⟩ := h
  exact (Array.getElem?_eq_some_iff.1 h).1
theorem Ps.cell {P k : Nat} (h : Ps w P n D) (hk : k < n) : w.cell? ⟨P, k, none⟩ = some (.pointer (some ⟨D k, 0, none⟩)) := by
  obtain ⟨cs, T, h, hc⟩ := h
  rw [cell_of_row w P k _ _ (0, 0) h, hc k hk]
theorem Ps.keep {P : Nat} (h : Ps w P n D) (hb : Ck w w') : Ps w' P n D := by
  obtain ⟨cs, T, h, hc⟩ := h
  exact ⟨cs, T, (hb _ _ _ h).trans h, hc⟩
theorem Ps.below {P : Nat} (h : Ps w P n D) (hb : Below w.heap.size w w') : Ps w' P n D := h.keep (Ck.below hb)
end
end Go.Proofs.Ytkanebolfmpnfaa.Rt
