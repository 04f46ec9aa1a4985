/- Bytes of one's own appended in a drawn region; a message's box beside them. -/
import Derived.Test.YtohfoieibgmmdaaMgBx
import Derived.Test.YtohfoieibgmmdaaMemB
namespace Go.Proofs.Ytohfoieibgmmdaa.Mg
open Go.RowKit
open Go.Proofs.Ytohfoieibgmmdaa.Me Go.Proofs.Ytohfoieibgmmdaa.Hd
set_option linter.unusedVariables false
set_option linter.unusedSimpArgs false

/-- Bytes appended to bytes of the call's own, as one operation; nothing but new memory is made. -/
theorem app8b {w0 w : World} {o : Oper} {a : Act} {K : Act → World → Prop} {Q : Exit → Act → World → Prop} (s x : Operand)
    (ho : o.op = .call { callee := .builtin .append, args := #[s, x], argTypes := #[24, 24] })
    (B Bx : Nat) (v : Value) (l r : List Nat) (hs : a.eval s = v) (hown : Me.Own w B v l) (hb : Below B w0 w) (hB : B ≤ w.heap.size)
    (A : Option Addr) (c : Nat) (hx : a.eval x = .slice A r.length c) (hr : Rd w Bx A r) (hA : A = none → r.length = 0 ∧ c = 0) (hlen : l.length + r.length ≤ 140737488355328)
    (h : ∀ v' w', Me.Own w' B v' (l ++ r) → Below B w0 w' → w.grownBy w' v.ownBlock → K (a.put o.dst v') w') : o.wp Try.prog a w K Q := by
  obtain ⟨i0, hi, hz0, hz1, hz2⟩ := info_parts info8
  rcases A with _ | ad
  · obtain ⟨h1, rfl⟩ := hA rfl
    obtain rfl : r = [] := List.eq_nil_of_length_eq_zero h1
    have hrun := run_append_owned_none (P := Try.prog) (w := w) B 24 o.type 5 i0 1 Try.underlying24 hi v l.length (l.map byV) hown
    have hh := h v w (by rw [List.append_nil]; exact hown) hb ⟨rfl, rfl, rfl, Nat.le_refl _, fun _ _ _ => rfl⟩
    unfold Oper.wp
    simp [execOp, ho, resolve, invoke, builtin, hs, hx, hrun, Result.andThen]
    exact hh
  · refine wp_append_own w s x 24 ho B 5 i0 (.int .u8 0) 1 1 Try.underlying24 hi hz0 hz1 hz2 rfl (by decide) v l.length (l.map byV) hs hown ad r.length c (r.map byV) hx (len_map r) (rd_cells hr (Below.refl _ _)) (one_cells _) (by unfold maxLen; omega) (by omega) hB ?_
    intro v' w' h1 h2 _
    refine h v' w' ?_ (hb.grown h2 hB fun k hk => (hown.lt k hk).1) h2
    unfold Me.Own
    rw [List.length_append, List.map_append]; exact h1
/-- Bytes of one's own lie in no box of a message. -/
theorem own_ne {V : World} {B D : Nat} {v : Value} {l : List Nat} {old : Array Value} {f : Nat × Nat} (h : Me.Own V B v l) (hD : V.heap[D]? = some (.cells old 26 f)) : v.ownBlock ≠ some D := by
  rcases h.2 with ⟨h1, _⟩ | ⟨g, cap, cur, h1, h2, h3, _⟩
  · rw [h1]; intro e; cases e
  · rw [h1]
    intro e
    have e : g = D := by simpa [Value.ownBlock] using e
    subst e
    rw [h3] at hD
    injection hD with hD
    injection hD with _ hT _
    exact absurd hT (by decide)
theorem box_put {V W0 V2 : World} {B D : Nat} {v : Value} {l : List Nat} {old cs : Array Value} (h : Me.Own V B v l) (hD : V.heap[D]? = some (.cells old 26 (0, 0))) (hb : Below W0.heap.size W0 V) (hd : W0.heap.size ≤ D) (hV2 : V.setRow D cs = V2) :
    V2.heap[D]? = some (.cells cs 26 (0, 0)) ∧ Me.Own V2 B v l ∧ Below W0.heap.size W0 V2 := by
  subst hV2
  have hne := own_ne h hD
  refine ⟨setRow_heap _ _ _ _ _ _ hD, own_same h fun k hk _ => setRow_other _ _ k _ (fun e => hne (by rw [hk, e])), hb.os, hb.tape, hb.output, by simpa using hb.size, fun b hb2 => (setRow_other _ _ b _ (by omega)).trans (hb.block b hb2)⟩
theorem bx_row {W : World} {D : Nat} {o d e c : Int} {A : Option Addr} {n k : Nat} (h : W.heap[D]? = some (.cells #[.int .i64 o, .int .i64 d, .int .i64 e, .int .i64 c, .slice A n k] 26 (0, 0))) : W.cell? ⟨D, 0, none⟩ = some (.int .i64 o) ∧ W.cell? ⟨D, 1, none⟩ = some (.int .i64 d) ∧ W.cell? ⟨D, 2, none⟩ = some (.int .i64 e) ∧ W.cell? ⟨D, 3, none⟩ = some (.int .i64 c) ∧ W.cell? ⟨D, 4, none⟩ = some (.slice A n k) := by
  refine ⟨?_, ?_, ?_, ?_, ?_⟩
  all_goals
    rw [cell_of_row _ D _ _ _ (0, 0) h]
    rfl
/-- The law's own copy: n bytes, whatever they are. -/
def Giv (w : World) (v : Value) (n : Nat) : Prop := ∃ ys : List Nat, ys.length = n ∧ (∀ y ∈ ys, y < 256) ∧ Me.Own w 0 v ys
theorem Giv.cell {w : World} {A : Option Addr} {n c k : Nat} (h : Giv w (.slice A n c) n) (hk : k < n) : ∃ g y : Nat, A = some ⟨g, 0, none⟩ ∧ y ≤ 255 ∧ w.cell? ⟨g, k, none⟩ = some (.int .u8 (y : Int)) ∧ w.frozen? ⟨g, k, none⟩ = false ∧ (Value.slice A n c).ownBlock = some g := by
  obtain ⟨ys, h1, h2, h3⟩ := h
  obtain ⟨g, c', e, _, _⟩ := h3.form (by omega)
  simp only [Value.slice.injEq] at e
  obtain ⟨rfl, _, rfl⟩ := e
  obtain ⟨a, b⟩ := h3.cell (i := k) (by omega)
  have := h2 (by_ ys k) (by rw [by_get (by omega)]; exact List.getElem_mem _)
  exact ⟨g, by_ ys k, rfl, by omega, a, b, rfl⟩
theorem Giv.put {w : World} {g n c k y : Nat} (h : Giv w (.slice (some ⟨g, 0, none⟩) n c) n) (hy : y < 256) : Giv (w.setCell ⟨g, k, none⟩ (.int .u8 (y : Int))) (.slice (some ⟨g, 0, none⟩) n c) n := by
  obtain ⟨ys, h1, h2, h3⟩ := h
  refine ⟨ys.set k y, by simpa using h1, ?_, h3.store k y⟩
  intro z hz
  rcases List.mem_or_eq_of_mem_set hz with h | h
  · exact h2 z h
  · omega
theorem turn8 {y : Nat} (h : y ≤ 255) : IntKind.u8.wrap (255 - (y : Int)) = ((255 - y : Nat) : Int) := by
  have e : (255 : Int) - (y : Int) = ((255 - y : Nat) : Int) := by omega
  rw [e]; exact wrap8 (by unfold U8; omega)
theorem conv_own {W W2 : World} {B c : Nat} {A : Option Addr} {L : List Nat} (h : Me.Own W B (.slice A L.length c) L) (hl : ∀ z ∈ L, z < 256) (hb : Below W.heap.size W W2) : (convert 24 9 (.slice A L.length c)).run Try.prog W2 = .ok (.string (strOf L)) W2 := by
  obtain ⟨r1, r2, _, _⟩ := own_rd (own_same h fun k _ hk => hb.block k hk) hl
  exact conv_rd W2 _ A L c r1 r2
theorem msg_one (o d e c : Int) (A : Option Addr) (n k : Nat) : (#[.int .i64 o, .int .i64 d, .int .i64 e, .int .i64 c, .slice A n k] : Array Value).all (·.oneCell') = true := by simp [Value.oneCell']
theorem grown_msg {W V : World} {D : Nat} {v : Value} {x : Obj} (hD : W.heap[D]? = some x) (hg : W.grownBy V v.ownBlock) (hne : v.ownBlock ≠ some D) : V.heap[D]? = some x := by
  obtain ⟨_, _, _, _, h⟩ := hg
  exact (h D (Array.getElem?_eq_some_iff.1 hD).1 (fun e => hne e.symm)).trans hD
end Go.Proofs.Ytohfoieibgmmdaa.Mg
