/- Numbers of Go's int, and slices of them: read, made by the call itself, appended to. -/
import Derived.Test.YtohfoieibgmmdaaRows
import Derived.WalkKit
import Derived.ProofKit
import Derived.OpenShut
import Derived.Below
import Derived.Lib.Hide
import Derived.Deep.QuietTactic
import Derived.BigQuiet
import Derived.Laws.OwnMore
import Derived.Laws.AppendOwnNone
import Derived.OwnWalkIn
namespace Go.Proofs.Ytohfoieibgmmdaa.Mi
open Go.RowKit
set_option linter.unusedVariables false

/-- An operation that lays one new block: what it lays is said by the caller. -/
theorem allocTo {ops : Array Oper} {rest : List Oper} {o : Oper} {a : Act} {w : World} {Q : Exit → Act → World → Prop} (hg : o.guard = none) (v : Value) (ob : Obj) (hrun : (execOp a.eval o).run Try.prog w = .ok (.value v) (w.alloc ob))
    (h : wpList Try.prog ops Q rest (a.put o.dst v) (w.alloc ob)) : wpList Try.prog ops Q (o :: rest) a w := by
  refine wpList_plain hg fun K hK => ?_
  unfold Oper.wp
  rw [hrun, Oper.upon_value]
  exact hK _ _ h
/-! ### Numbers -/
/-- A number that Go's int can be. -/
def I64 (n : Int) : Prop := -9223372036854775808 ≤ n ∧ n ≤ 9223372036854775807
theorem I64.of {n : Int} (h : (Lit.int .i64 n).wf = true) : I64 n := bounds_i64 h
theorem fits {n : Int} (h : I64 n) : wrap64 n = n := by unfold I64 at h; unfold wrap64; omega
theorem fits' {n : Int} (h : I64 n) : IntKind.i64.wrap n = n := by unfold I64 at h; simp [IntKind.wrap, IntKind.bits, IntKind.signed]; omega
theorem wrap_I64 (n : Int) : I64 (wrap64 n) := by unfold I64 wrap64; omega
theorem wrap_mod (n : Int) : wrap64 n % 128 = n % 128 := by unfold wrap64; omega
theorem small {n : Int} (h1 : 0 ≤ n) (h2 : n ≤ 9223372036854775807) : I64 n := ⟨by omega, h2⟩
theorem mod_I64 (n : Int) : I64 (n % 128) := ⟨by omega, by omega⟩
theorem and127 (n : Int) : bits .and .i64 n 127 = n % 128 := by
  show IntKind.i64.wrap ((BitVec.ofInt 64 n &&& BitVec.ofInt 64 127).toNat : Int) = _
  have h1 : (BitVec.ofInt 64 n &&& BitVec.ofInt 64 127).toNat = (n % 18446744073709551616).toNat % 128 := by
    rw [BitVec.toNat_and]
    have e1 : (BitVec.ofInt 64 n).toNat = (n % 18446744073709551616).toNat := by rw [BitVec.toNat_ofInt]; rfl
    have e2 : (BitVec.ofInt 64 127).toNat = 2 ^ 7 - 1 := by decide +kernel
    rw [e1, e2, Nat.and_two_pow_sub_one_eq_mod]
  rw [h1, fits' ⟨by omega, by omega⟩]
  omega

/-! ### Slices of numbers -/
/-- Number i of l. -/
def at_ (l : List Int) (i : Nat) : Int := l.getD i 0
theorem at_get {l : List Int} {i : Nat} (h : i < l.length) : at_ l i = l[i] := by simp [at_, h]
/-- A number as a cell. -/
def iV (z : Int) : Value := .int .i64 z
/-- A slice's address leads, below block B, to the numbers l (to nothing, where there are none). -/
def Rd (w : World) (B : Nat) (a : Option Addr) (l : List Int) : Prop :=
  0 < l.length → ∃ b off, a = some ⟨b, off, none⟩ ∧ b < B ∧ ∀ i, i < l.length → w.cell? ⟨b, off + i, none⟩ = some (.int .i64 (at_ l i))
theorem Rd.keep {w w' : World} {B : Nat} {a : Option Addr} {l : List Int} (h : Rd w B a l) (hk : ∀ p : Addr, p.block < B → w'.cell? p = w.cell? p) : Rd w' B a l := fun hl => by
  obtain ⟨b, off, ha, hb, hc⟩ := h hl
  exact ⟨b, off, ha, hb, fun i hi => (hk ⟨b, off + i, none⟩ hb).trans (hc i hi)⟩
theorem Rd.below {w w' : World} {B : Nat} {a : Option Addr} {l : List Int} (h : Rd w B a l) (hb : Below B w w') : Rd w' B a l := h.keep fun _ hp => hb.cell hp
theorem Rd.more {w : World} {B B' : Nat} {a : Option Addr} {l : List Int} (h : Rd w B a l) (hB : B ≤ B') : Rd w B' a l := fun hl => by
  obtain ⟨b, off, ha, hb, hc⟩ := h hl
  exact ⟨b, off, ha, by omega, hc⟩
theorem Rd.block {w w' : World} {B : Nat} {a : Option Addr} {l : List Int} (h : Rd w B a l) (hk : ∀ b off, a = some ⟨b, off, none⟩ → b < B → w'.heap[b]? = w.heap[b]?) : Rd w' B a l := fun hl => by
  obtain ⟨b, off, ha, hb, hc⟩ := h hl
  exact ⟨b, off, ha, hb, fun i hi => (World.cell?_of_block (w := w) (a := ⟨b, off + i, none⟩) (hk b off ha hb)).trans (hc i hi)⟩
theorem Rd.nil (w : World) (B : Nat) (a : Option Addr) : Rd w B a [] := fun h => by simp at h
theorem infoI : (Try.prog.info? 3).map (fun i => (i.zero, i.size, i.bytes)) = some (some (.int .i64 0), 1, 8) := by kernel_rfl
theorem one_cells (l : List Int) : ∀ v ∈ l.map iV, v.oneCell' = true := by
  intro v hv
  obtain ⟨b, _, rfl⟩ := List.mem_map.mp hv
  rfl
theorem rd_cells {w : World} {B : Nat} {ad : Addr} {l : List Int} (hr : Rd w B (some ad) l) : ∀ j u, (l.map iV)[j]? = some u → w.cell? (ad.add j) = some u := by
  intro j u hj
  have hj' : j < l.length := by
    apply Classical.byContradiction
    intro hn
    rw [List.getElem?_eq_none (by simpa using hn)] at hj; cases hj
  obtain ⟨b, off, e, _, hc⟩ := hr (by omega)
  cases e
  have e : (⟨b, off, none⟩ : Addr).add j = ⟨b, off + j, none⟩ := by simp [Addr.add]
  rw [e, hc j hj', ← hj]
  simp [hj', iV, at_]
theorem below_alloc {w wr : World} {o : Obj} (h : Below w.heap.size w wr) : Below w.heap.size w (wr.alloc o) := h.alloc h.size o
theorem below_drewN {B : Nat} {a w : World} (h : Below B a w) (n : Nat) : Below B a (w.drewN n) := h.trans ⟨rfl, rfl, rfl, Nat.le_refl _, fun _ _ => rfl⟩
/-- A slice of the call's own, with these numbers. -/
def Own (w : World) (B : Nat) (v : Value) (l : List Int) : Prop := w.ownsRow B 3 1 v l.length (l.map iV)
theorem Own.nil (w : World) (B : Nat) : Own w B (.slice none 0 0) [] := ⟨rfl, .inl ⟨rfl, rfl⟩⟩
theorem Own.lit {w0 w : World} (hb : Below w0.heap.size w0 w) : Own (w.alloc (.cells #[] 3)) w0.heap.size (.slice (some ⟨w.heap.size, 0, none⟩) 0 0) [] :=
  World.ownsRow_made w #[] 0 hb.size (by unfold maxLen; omega) rfl
theorem Own.alloc {w : World} {B : Nat} {v : Value} {l : List Int} (h : Own w B v l) (o : Obj) : Own (w.alloc o) B v l := World.ownsRow.kept h (World.grownBy_alloc w o none) (by cases v.ownBlock <;> simp)
theorem Own.kept {w w' : World} {B : Nat} {v : Value} {l : List Int} {row : Option Nat} (h : Own w B v l) (hg : w.grownBy w' row) (hr : v.ownBlock = none ∨ v.ownBlock ≠ row) : Own w' B v l := World.ownsRow.kept h hg hr
/-- What one may do with such a slice. -/
theorem Own.form {w : World} {B : Nat} {v : Value} {l : List Int} (h : Own w B v l) : ∃ A c, v = .slice A l.length c ∧ l.length ≤ c ∧ c ≤ 9223372036854775807 ∧ Rd w w.heap.size A l ∧ (A = none → l.length = 0 ∧ c = 0) ∧ (∀ a, A = some a → B ≤ a.block ∧ a.block < w.heap.size) := by
  rcases h.2 with ⟨h1, h2⟩ | ⟨g, cap, cur, h1, h2, h3, h4, h5, h6, h7⟩
  · have : l = [] := by simpa using h2
    subst this
    exact ⟨none, 0, h1, Nat.le_refl _, Nat.zero_le _, Rd.nil _ _ _, fun _ => ⟨rfl, rfl⟩, fun a e => by cases e⟩
  · have hlt := h.lt g (by rw [h1]; rfl)
    refine ⟨some ⟨g, 0, none⟩, cap, h1, h4, by unfold maxLen at h5; omega, ?_, (fun e => by cases e), fun a e => by cases e; exact hlt⟩
    intro hp
    refine ⟨g, 0, rfl, hlt.2, fun i hi => ?_⟩
    subst h1
    rw [Nat.zero_add, World.ownsRow.cellAt h i (by omega)]
    simp [hi, iV, at_]
theorem rd_lit {w : World} (r : List Int) (T : TypeId) (f : Nat × Nat := (0, 0)) : Rd (w.alloc (.cells (r.map iV).toArray T f)) (w.heap.size + 1) (some ⟨w.heap.size, 0, none⟩) r := fun _ =>
  ⟨w.heap.size, 0, rfl, Nat.lt_succ_self _, fun i hi => by
    rw [Nat.zero_add, cell_of_row _ w.heap.size i _ T f (heap_alloc_new w _)]
    simp [hi, iV, at_]⟩
/-- Numbers appended to a slice of the call's own. -/
theorem app {w0 w : World} {ops : Array Oper} {rest : List Oper} {o : Oper} {a : Act} {Q : Exit → Act → World → Prop} (hgd : o.guard = none) (s x : Operand)
    (ho : o.op = .call { callee := .builtin .append, args := #[s, x], argTypes := #[27, 27] })
    (B Bx : Nat) (v : Value) (l r : List Int) (hs : a.eval s = v) (hown : Own w B v l) (hb : Below B w0 w) (hB : B ≤ w.heap.size)
    (A : Option Addr) (n c : Nat) (hn : n = r.length) (hx : a.eval x = .slice A n c) (hr : Rd w Bx A r) (hA : A = none → r.length = 0 ∧ c = 0) (hlen : (l.length + r.length) * 8 ≤ 140737488355328)
    (h : ∀ v' w', Own w' B v' (l ++ r) → Below B w0 w' → w.grownBy w' v.ownBlock → wpList Try.prog ops Q rest (a.put o.dst v') w') : wpList Try.prog ops Q (o :: rest) a w := by
  obtain ⟨i0, hi, hz0, hz1, hz2⟩ := info_parts infoI
  subst hn
  rcases A with _ | ad
  · obtain ⟨h1, rfl⟩ := hA rfl
    obtain rfl : r = [] := List.eq_nil_of_length_eq_zero h1
    refine wpList_append_own_none hgd s x 27 ho B 3 i0 1 Try.underlying27 hi v l.length (l.map iV) hs hown hx ?_
    exact h v w (by rw [List.append_nil]; exact hown) hb ⟨rfl, rfl, rfl, Nat.le_refl _, fun _ _ _ => rfl⟩
  · refine wpList_append_own w hgd s x 27 ho B 3 i0 (.int .i64 0) 1 8 Try.underlying27 hi hz0 hz1 hz2 rfl (by decide) v l.length (l.map iV) hs hown ad r.length c (r.map iV) hx (by simp) (rd_cells hr) (one_cells r) (by unfold maxLen; omega) hlen hB ?_
    intro v' w' h1 h2 _
    refine h v' w' ?_ (hb.grown h2 hB fun k hk => (hown.lt k hk).1) h2
    unfold Own
    rw [List.length_append, List.map_append]; exact h1
/-- One number appended to a slice of the call's own. -/
theorem app1 {w0 w wl : World} {ops : Array Oper} {rest : List Oper} {o : Oper} {a : Act} {Q : Exit → Act → World → Prop} (hgd : o.guard = none) (s x : Operand)
    (ho : o.op = .call { callee := .builtin .append, args := #[s, x], argTypes := #[27, 27] })
    (B : Nat) (v : Value) (l : List Int) (z : Int) (hs : a.eval s = v) (hw : w = wl.alloc (.cells #[.int .i64 z] 3)) (hown : Own wl B v l) (hb : Below B w0 wl) (hB : B ≤ wl.heap.size)
    (g : Nat) (hg : g = wl.heap.size) (hx : a.eval x = .slice (some ⟨g, 0, none⟩) 1 1) (hlen : (l.length + 1) * 8 ≤ 140737488355328)
    (h : ∀ v' w', Own w' B v' (l ++ [z]) → Below B w0 w' → wl.grownBy w' v.ownBlock → wpList Try.prog ops Q rest (a.put o.dst v') w') : wpList Try.prog ops Q (o :: rest) a w := by
  subst hw hg
  refine app hgd s x ho B (wl.heap.size + 1) v l [z] hs (hown.alloc _) (hb.alloc hB _) (by simp; omega) (some ⟨wl.heap.size, 0, none⟩) 1 1 rfl hx (rd_lit [z] 3) (fun e => by cases e) hlen ?_
  intro v' w' h1 h2 h3
  refine h v' w' h1 h2 ⟨h3.os, h3.tape, h3.output, Nat.le_trans (by simp) h3.size, fun k hk hne => ?_⟩
  exact (h3.block k (by simp; omega) hne).trans (Below.heap_alloc wl _ k hk)
theorem app1In {F : Fence} {n : Nat} {w wl : World} {ops : Array Oper} {rest : List Oper} {o : Oper} {a : Act} {Q : Exit → Act → World → Prop} (hgd : o.guard = none) (s x : Operand)
    (ho : o.op = .call { callee := .builtin .append, args := #[s, x], argTypes := #[27, 27] })
    (B : Nat) (v : Value) (l : List Int) (z : Int) (hs : a.eval s = v) (hw : w = wl.alloc (.cells #[.int .i64 z] 3)) (hown : Own wl B v l) (hB : B ≤ wl.heap.size)
    (g : Nat) (hg : g = wl.heap.size) (hx : a.eval x = .slice (some ⟨g, 0, none⟩) 1 1) (hlen : (l.length + 1) * 8 ≤ 140737488355328)
    (h : ∀ v' w', Own w' B v' (l ++ [z]) → wl.grownBy w' v.ownBlock → wpListIn F n Try.prog ops Q rest (a.put o.dst v') w') : wpListIn F n Try.prog ops Q (o :: rest) a w := by
  obtain ⟨i0, hi, hz0, hz1, hz2⟩ := info_parts infoI
  subst hw hg
  refine wpListIn_append_own _ hgd s x 27 ho B 3 i0 (.int .i64 0) 1 8 Try.underlying27 hi hz0 hz1 hz2 rfl (by decide) v l.length (l.map iV) hs (hown.alloc _) ⟨wl.heap.size, 0, none⟩ 1 1 ([z].map iV) hx (by simp) (rd_cells (rd_lit [z] 3)) (one_cells [z]) (by unfold maxLen; omega) hlen (by simp; omega) ?_
  intro v' w' h1 h3 _
  refine h v' w' ?_ ⟨h3.os, h3.tape, h3.output, Nat.le_trans (by simp) h3.size, fun k hk hne => ?_⟩
  · unfold Own
    rw [List.length_append, List.map_append]; exact h1
  · exact (h3.block k (by simp; omega) hne).trans (Below.heap_alloc wl _ k hk)
theorem run_append_own2 {P : Program} {w : World} (t ty e : TypeId) (i : TypeInfo) (z : Value) (bytes : Nat) (ht : P.underlying t = some (.slice e)) (hi : P.info? e = some i) (hz : i.zero = some z)
    (hsize : i.size = 1) (hby : i.bytes = bytes) (hzs : z.cells.size = 1)
    (v : Value) (n : Nat) (xs : List Value) (hown : w.ownsRow 0 e 1 v n xs)
    (a : Addr) (m c : Nat) (news : List Value) (hl : news.length = m * 1) (hnews : ∀ j u, news[j]? = some u → w.cell? (a.add j) = some u) (h1 : ∀ u ∈ news, u.oneCell' = true)
    (h63 : n + m ≤ maxLen) (hbytes : (n + m) * bytes ≤ 140737488355328) :
    ∃ v' w', (Builtin.append_ #[t, t] ty #[v, .slice (some a) m c]).run P w = .ok v' w' ∧ w'.ownsRow 0 e 1 v' (n + m) (xs ++ news) ∧ w.grownBy w' v.ownBlock ∧ (∀ k, v'.ownBlock = some k → v.ownBlock = some k ∨ w.heap.size ≤ k) := by
  obtain ⟨v', w', hr, h2, h3, _⟩ := run_append_own (P := P) w 0 t ty e i z 1 bytes ht hi hz hsize hby hzs (by decide) v n xs hown a m c news hl hnews h1 h63 hbytes (Nat.zero_le _)
  refine ⟨v', w', hr, h2, h3, ?_⟩
  have hsmall : n + m ≤ 9223372036854775807 := by simp only [maxLen] at h63; omega
  rcases hown.2 with ⟨rfl, rfl⟩ | ⟨g, cap, cur, rfl, hbg, hg, hnc, hcm, hcs, htake⟩
  · have hx : xs = [] := List.eq_nil_of_length_eq_zero (by simpa using hown.1)
    subst hx
    obtain ⟨v2, w2, hr2, h4, _, _⟩ := run_append_own (P := P) w w.heap.size t ty e i z 1 bytes ht hi hz hsize hby hzs (by decide) (.slice none 0 0) 0 [] ⟨rfl, .inl ⟨rfl, rfl⟩⟩ a m c news hl hnews h1 h63 hbytes (Nat.le_refl _)
    rw [hr] at hr2
    injection hr2 with e1 e2
    subst e1 e2
    exact fun k hk => .inr (h4.lt k hk).1
  · intro k hk
    by_cases hroom : n + m ≤ cap
    · have hr2 := run_append_room (P := P) w t ty e i ht hi g n cap cur hg a m c news (by rw [hl, hsize]) hnews h1 hroom (by rw [hsize, hl]; omega)
      rw [hr] at hr2
      injection hr2 with e1 e2
      subst e1
      exact .inl hk
    · have hr2 := run_append_grow (P := P) w t ty e i z ht hi hz ⟨g, 0, none⟩ n cap xs (by rw [hsize]; exact hown.1) (hown.cells (g := g) rfl) a m c news (by rw [hl, hsize]) hnews (by omega) (by omega) (growslice_fits (by omega) (by rw [hby]; exact hbytes))
      rw [hr] at hr2
      injection hr2 with e1 e2
      subst e1
      simp only [Value.ownBlock, Option.some.injEq] at hk
      exact .inr (by omega)
theorem wpList_append_own2 {P : Program} {w : World} {ops : Array Oper} {rest : List Oper} {o : Oper} {a : Act} {Q : Exit → Act → World → Prop} (hgd : o.guard = none) (s x : Operand) (t : TypeId)
    (ho : o.op = .call { callee := .builtin .append, args := #[s, x], argTypes := #[t, t] })
    (e : TypeId) (i : TypeInfo) (z : Value) (bytes : Nat) (ht : P.underlying t = some (.slice e)) (hi : P.info? e = some i) (hz : i.zero = some z)
    (hsize : i.size = 1) (hby : i.bytes = bytes) (hzs : z.cells.size = 1)
    (v : Value) (n : Nat) (xs : List Value) (hs : a.eval s = v) (hown : w.ownsRow 0 e 1 v n xs)
    (ad : Addr) (m c : Nat) (news : List Value) (hx : a.eval x = .slice (some ad) m c) (hl : news.length = m * 1) (hnews : ∀ j u, news[j]? = some u → w.cell? (ad.add j) = some u) (h1 : ∀ u ∈ news, u.oneCell' = true)
    (h63 : n + m ≤ maxLen) (hbytes : (n + m) * bytes ≤ 140737488355328)
    (h : ∀ v' w', w'.ownsRow 0 e 1 v' (n + m) (xs ++ news) → w.grownBy w' v.ownBlock → (∀ k, v'.ownBlock = some k → v.ownBlock = some k ∨ w.heap.size ≤ k) → wpList P ops Q rest (a.put o.dst v') w') : wpList P ops Q (o :: rest) a w := by
  refine wpList_plain hgd fun K hK => ?_
  obtain ⟨v', w', hr, h2, h3, h4⟩ := run_append_own2 (P := P) (w := w) t o.type e i z bytes ht hi hz hsize hby hzs v n xs hown ad m c news hl hnews h1 h63 hbytes
  unfold Oper.wp execOp
  simp only [ho, resolve, invoke, builtin, Sem.run_bind, Sem.run_pure, Result.andThen_ok, List.map_toArray, List.map_cons, List.map_nil, hs, hx, hr]
  exact hK _ _ (h v' w' h2 h3 h4)
/-- One number appended to a slice of the call's own: where the new slice lies. -/
theorem app1q {w wl : World} {ops : Array Oper} {rest : List Oper} {o : Oper} {a : Act} {Q : Exit → Act → World → Prop} (hgd : o.guard = none) (s x : Operand)
    (ho : o.op = .call { callee := .builtin .append, args := #[s, x], argTypes := #[27, 27] })
    (v : Value) (l : List Int) (z : Int) (hs : a.eval s = v) (hw : w = wl.alloc (.cells #[.int .i64 z] 3)) (hown : Own wl 0 v l)
    (g : Nat) (hg : g = wl.heap.size) (hx : a.eval x = .slice (some ⟨g, 0, none⟩) 1 1) (hlen : (l.length + 1) * 8 ≤ 140737488355328)
    (h : ∀ v' w', Own w' 0 v' (l ++ [z]) → wl.grownBy w' v.ownBlock → (∀ k, v'.ownBlock = some k → v.ownBlock = some k ∨ wl.heap.size ≤ k) → wpList Try.prog ops Q rest (a.put o.dst v') w') : wpList Try.prog ops Q (o :: rest) a w := by
  obtain ⟨i0, hi, hz0, hz1, hz2⟩ := info_parts infoI
  subst hw hg
  refine wpList_append_own2 hgd s x 27 ho 3 i0 (.int .i64 0) 8 Try.underlying27 hi hz0 hz1 hz2 rfl v l.length (l.map iV) hs (hown.alloc _) ⟨wl.heap.size, 0, none⟩ 1 1 ([z].map iV) hx (by simp) (rd_cells (rd_lit [z] 3)) (one_cells [z]) (by unfold maxLen; omega) hlen ?_
  intro v' w' h1 h3 h4
  refine h v' w' ?_ ⟨h3.os, h3.tape, h3.output, Nat.le_trans (by simp) h3.size, fun k hk hne => ?_⟩ (fun k hk => (h4 k hk).imp id fun h => Nat.le_trans (by simp) h)
  · unfold Own
    rw [List.length_append, List.map_append]; exact h1
  · exact (h3.block k (by simp; omega) hne).trans (Below.heap_alloc wl _ k hk)
theorem Own.base {w : World} {B B' : Nat} {v : Value} {l : List Int} (h : Own w B v l) (hB : ∀ k, v.ownBlock = some k → B' ≤ k) : Own w B' v l := by
  refine ⟨h.1, ?_⟩
  rcases h.2 with h' | ⟨g, cap, cur, rfl, q2, q3, q4⟩
  · exact .inl h'
  · exact .inr ⟨g, cap, cur, rfl, hB g rfl, q3, q4⟩
theorem Own.same {w w' : World} {B : Nat} {v : Value} {l : List Int} (h : Own w B v l) (hk : ∀ k, v.ownBlock = some k → k < w.heap.size → w'.heap[k]? = w.heap[k]?) : Own w' B v l := by
  refine ⟨h.1, ?_⟩
  rcases h.2 with h' | ⟨g, cap, cur, rfl, q2, q3, q4⟩
  · exact .inl h'
  · exact .inr ⟨g, cap, cur, rfl, q2, (hk g rfl (Array.getElem?_eq_some_iff.1 q3).1).trans q3, q4⟩
theorem Own.below {w w' : World} {B : Nat} {v : Value} {l : List Int} (h : Own w B v l) (hb : Below w.heap.size w w') : Own w' B v l := h.same fun k _ hk => hb.block k hk
theorem Own.zero {w : World} {B : Nat} {v : Value} {l : List Int} (h : Own w B v l) : Own w 0 v l := h.base fun _ _ => Nat.zero_le _
/-- A slice of numbers that came in. -/
def BySlice (w : World) (a : Option Addr) (len cap : Nat) (l : List Int) : Prop :=
  len = l.length ∧ l.length ≤ cap ∧ cap ≤ 9223372036854775807 ∧ Rd w w.heap.size a l ∧ (a = none → l.length = 0 ∧ cap = 0) ∧ ∀ z ∈ l, I64 z
theorem bySlice_none (w : World) : BySlice w none 0 0 [] := ⟨rfl, Nat.le_refl _, Nat.zero_le _, Rd.nil _ _ _, fun _ => ⟨rfl, rfl⟩, by simp⟩
theorem bySlice_some {w : World} {x : Addr} {len cap : Nat} {zs : List Int} (hl : len ≤ cap) (hm : cap ≤ maxLen) (hz : zs.length = cap)
    (hcell : ∀ i, i < zs.length → w.cell? (x.add i) = some (.int .i64 (zs.getD i 0))) (hwz : ∀ n ∈ zs, (Lit.int .i64 n).wf = true) : ∃ l, BySlice w (some x) len cap l := by
  have hlen : (zs.take len).length = len := by simp; omega
  refine ⟨zs.take len, hlen.symm, by omega, by unfold maxLen at hm; omega, fun h => ?_, (fun e => by cases e), fun z hz' => bounds_i64 (hwz z (List.mem_of_mem_take hz'))⟩
  rw [hlen] at h
  obtain ⟨b, off, rfl, hc⟩ := ints_at hcell (by omega)
  refine ⟨b, off, rfl, World.block_lt_of_cell? w _ (hc 0 (by omega)), fun i hi => ?_⟩
  rw [hlen] at hi
  rw [hc i (by omega)]
  have : zs.getD i 0 = at_ (zs.take len) i := by simp [at_, hi]
  rw [this]
end Go.Proofs.Ytohfoieibgmmdaa.Mi
