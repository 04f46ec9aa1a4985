/- Numbers of Go's int, and slices of them: read, made by the call itself, appended to. -/
import Derived.Test.YtfnlhfelpdkieaaGreatRows
import Derived.Test.YtfnlhfelpdkieaaGreatZ1
import Derived.WalkKit
import Derived.ProofKit
import Derived.OpenShut
import Derived.Below
import Derived.Lib.Hide
import Derived.Deep.QuietTactic
import Derived.BigQuiet
import Derived.Laws.OwnMore
import Derived.Laws.AppendOwnNone
import Derived.OwnWalkIn
import Derived.Lib.SmallJoins
import Derived.Handy
namespace Go.Proofs.YtfnlhfelpdkieaaGreat.Mi
open Go.RowKit
set_option linter.unusedVariables false

/-- An operation that lays one new block: what it lays is said by the caller. -/
theorem allocTo {ops : Array Oper} {rest : List Oper} {o : Oper} {a : Act} {w : World} {Q : Exit → Act → World → Prop} (hg : o.guard = none) (v : Value) (ob : Obj) (hrun : (execOp a.eval o).run Tryz.prog w = .ok (.value v) (w.alloc ob))
    (h : wpList Tryz.prog ops Q rest (a.put o.dst v) (w.alloc ob)) : wpList Tryz.prog ops Q (o :: rest) a w := by
  refine wpList_plain hg fun K hK => ?_
  unfold Oper.wp
  rw [hrun, Oper.upon_value]
  exact hK _ _ h
/-! ### Numbers -/
/-- A number that Go's int can be. -/
def I64 (n : Int) : Prop := -9223372036854775808 ≤ n ∧ n ≤ 9223372036854775807
theorem I64.of {n : Int} (h : (Lit.int .i64 n).wf = true) : I64 n := bounds_i64 h
theorem fits {n : Int} (h : I64 n) : wrap64 n = n := by unfold I64 at h; unfold wrap64; omega
theorem fits' {n : Int} (h : I64 n) : IntKind.i64.wrap n = n := by unfold I64 at h; simp [IntKind.wrap, IntKind.bits, IntKind.signed]; omega
theorem wrap_I64 (n : Int) : I64 (wrap64 n) := by unfold I64 wrap64; omega
theorem wrap_mod (n : Int) : wrap64 n % 128 = n % 128 := by unfold wrap64; omega
theorem small {n : Int} (h1 : 0 ≤ n) (h2 : n ≤ 9223372036854775807) : I64 n := ⟨by omega, h2⟩
theorem mod_I64 (n : Int) : I64 (n % 128) := ⟨by omega, by omega⟩
theorem and127 (n : Int) : bits .and .i64 n 127 = n % 128 := by
  show IntKind.i64.wrap ((BitVec.ofInt 64 n &&& BitVec.ofInt 64 127).toNat : Int) = _
  have h1 : (BitVec.ofInt 64 n &&& BitVec.ofInt 64 127).toNat = (n % 18446744073709551616).toNat % 128 := by
    rw [BitVec.toNat_and]
    have e1 : (BitVec.ofInt 64 n).toNat = (n % 18446744073709551616).toNat := by rw [BitVec.toNat_ofInt]; rfl
    have e2 : (BitVec.ofInt 64 127).toNat = 2 ^ 7 - 1 := by decide +kernel
    rw [e1, e2, Nat.and_two_pow_sub_one_eq_mod]
  rw [h1, fits' ⟨by omega, by omega⟩]
  omega

/-! ### Slices of numbers -/
/-- Number i of l. -/
def at_ (l : List Int) (i : Nat) : Int := l.getD i 0
theorem at_get {l : List Int} {i : Nat} (h : i < l.length) : at_ l i = l[i] := by simp [at_, h]
/-- A number as a cell. -/
def iV (z : Int) : Value := .int .i64 z
/-- A slice's address leads, below block B, to the numbers l (to nothing, where there are none). -/
def Rd (w : World) (B : Nat) (a : Option Addr) (l : List Int) : Prop :=
  0 < l.length → ∃ b off, a = some ⟨b, off, none⟩ ∧ b < B ∧ ∀ i, i < l.length → w.cell? ⟨b, off + i, none⟩ = some (.int .i64 (at_ l i))
theorem Rd.keep {w w' : World} {B : Nat} {a : Option Addr} {l : List Int} (h : Rd w B a l) (hk : ∀ p : Addr, p.block < B → w'.cell? p = w.cell? p) : Rd w' B a l := fun hl => by
  obtain ⟨b, off, ha, hb, hc⟩ := h hl
  exact ⟨b, off, ha, hb, fun i hi => (hk ⟨b, off + i, none⟩ hb).trans (hc i hi)⟩
theorem Rd.below {w w' : World} {B : Nat} {a : Option Addr} {l : List Int} (h : Rd w B a l) (hb : Below B w w') : Rd w' B a l := h.keep fun _ hp => hb.cell hp
theorem Rd.more {w : World} {B B' : Nat} {a : Option Addr} {l : List Int} (h : Rd w B a l) (hB : B ≤ B') : Rd w B' a l := fun hl => by
  obtain ⟨b, off, ha, hb, hc⟩ := h hl
  exact ⟨b, off, ha, by omega, hc⟩
theorem Rd.block {w w' : World} {B : Nat} {a : Option Addr} {l : List Int} (h : Rd w B a l) (hk : ∀ b off, a = some ⟨b, off, none⟩ → b < B → w'.heap[b]? = w.heap[b]?) : Rd w' B a l := fun hl => by
  obtain ⟨b, off, ha, hb, hc⟩ := h hl
  exact ⟨b, off, ha, hb, fun i hi => (World.cell?_of_block (w := w) (a := ⟨b, off + i, none⟩) (hk b off ha hb)).trans (hc i hi)⟩
theorem Rd.nil (w : World) (B : Nat) (a : Option Addr) : Rd w B a [] := fun h => by simp at h
theorem infoI : (Tryz.prog.info? 3).map (fun i => (i.zero, i.size, i.bytes)) = some (some (.int .i64 0), 1, 8) := by kernel_rfl
theorem one_cells (l : List Int) : ∀ v ∈ l.map iV, v.oneCell' = true := by
  intro v hv
  obtain ⟨b, _, rfl⟩ := List.mem_map.mp hv
  rfl
theorem rd_cells {w : World} {B : Nat} {ad : Addr} {l : List Int} (hr : Rd w B (some ad) l) : ∀ j u, (l.map iV)[j]? = some u → w.cell? (ad.add j) = some u := by
  intro j u hj
  have hj' : j < l.length := by
    apply Classical.byContradiction
    intro hn
    rw [List.getElem?_eq_none (by simpa using hn)] at hj; cases hj
  obtain ⟨b, off, e, _, hc⟩ := hr (by omega)
  cases e
  have e : (⟨b, off, none⟩ : Addr).add j = ⟨b, off + j, none⟩ := by simp [Addr.add]
  rw [e, hc j hj', ← hj]
  simp [hj', iV, at_]
theorem below_alloc {w wr : World} {o : Obj} (h : Below w.heap.size w wr) : Below w.heap.size w (wr.alloc o) := h.alloc h.size o
theorem below_drewN {B : Nat} {a w : World} (h : Below B a w) (n : Nat) : Below B a (w.drewN n) := h.trans ⟨rfl, rfl, rfl, Nat.le_refl _, fun _ _ => rfl⟩
/-- A slice of the call's own, with these numbers. -/
def Own (w : World) (B : Nat) (v : Value) (l : List Int) : Prop := w.ownsRow B 3 1 v l.length (l.map iV)
theorem Own.nil (w : World) (B : Nat) : Own w B (.slice none 0 0) [] := ⟨rfl, .inl ⟨rfl, rfl⟩⟩
theorem Own.lit {w0 w : World} (hb : Below w0.heap.size w0 w) : Own (w.alloc (.cells #[] 3)) w0.heap.size (.slice (some ⟨w.heap.size, 0, none⟩) 0 0) [] :=
  World.ownsRow_made w #[] 0 hb.size (by unfold maxLen; omega) rfl
theorem Own.alloc {w : World} {B : Nat} {v : Value} {l : List Int} (h : Own w B v l) (o : Obj) : Own (w.alloc o) B v l := World.ownsRow.kept h (World.grownBy_alloc w o none) (by cases v.ownBlock <;> simp)
theorem Own.kept {w w' : World} {B : Nat} {v : Value} {l : List Int} {row : Option Nat} (h : Own w B v l) (hg : w.grownBy w' row) (hr : v.ownBlock = none ∨ v.ownBlock ≠ row) : Own w' B v l := World.ownsRow.kept h hg hr
/-- What one may do with such a slice. -/
theorem Own.form {w : World} {B : Nat} {v : Value} {l : List Int} (h : Own w B v l) : ∃ A c, v = .slice A l.length c ∧ l.length ≤ c ∧ c ≤ 9223372036854775807 ∧ Rd w w.heap.size A l ∧ (A = none → l.length = 0 ∧ c = 0) ∧ (∀ a, A = some a → B ≤ a.block ∧ a.block < w.heap.size) := by
  rcases h.2 with ⟨h1, h2⟩ | ⟨g, cap, cur, h1, h2, h3, h4, h5, h6, h7⟩
  · have : l = [] := by simpa using h2
    subst this
    exact ⟨none, 0, h1, Nat.le_refl _, Nat.zero_le _, Rd.nil _ _ _, fun _ => ⟨rfl, rfl⟩, fun a e => by cases e⟩
  · have hlt := h.lt g (by rw [h1]; rfl)
    refine ⟨some ⟨g, 0, none⟩, cap, h1, h4, by unfold maxLen at h5; omega, ?_, (fun e => by cases e), fun a e => by cases e; exact hlt⟩
    intro hp
    refine ⟨g, 0, rfl, hlt.2, fun i hi => ?_⟩
    subst h1
    rw [Nat.zero_add, World.ownsRow.cellAt h i (by omega)]
    simp [hi, iV, at_]
theorem rd_lit {w : World} (r : List Int) (T : TypeId) (f : Nat × Nat := (0, 0)) : Rd (w.alloc (.cells (r.map iV).toArray T f)) (w.heap.size + 1) (some ⟨w.heap.size, 0, none⟩) r := fun _ =>
  ⟨w.heap.size, 0, rfl, Nat.lt_succ_self _, fun i hi => by
    rw [Nat.zero_add, cell_of_row _ w.heap.size i _ T f (heap_alloc_new w _)]
    simp [hi, iV, at_]⟩
/-- Numbers appended to a slice of the call's own. -/
theorem app {w0 w : World} {ops : Array Oper} {rest : List Oper} {o : Oper} {a : Act} {Q : Exit → Act → World → Prop} (hgd : o.guard = none) (s x : Operand)
    (ho : o.op = .call { callee := .builtin .append, args := #[s, x], argTypes := #[110, 110] })
    (B Bx : Nat) (v : Value) (l r : List Int) (hs : a.eval s = v) (hown : Own w B v l) (hb : Below B w0 w) (hB : B ≤ w.heap.size)
    (A : Option Addr) (n c : Nat) (hn : n = r.length) (hx : a.eval x = .slice A n c) (hr : Rd w Bx A r) (hA : A = none → r.length = 0 ∧ c = 0) (hlen : (l.length + r.length) * 8 ≤ 140737488355328)
    (h : ∀ v' w', Own w' B v' (l ++ r) → Below B w0 w' → w.grownBy w' v.ownBlock → wpList Tryz.prog ops Q rest (a.put o.dst v') w') : wpList Tryz.prog ops Q (o :: rest) a w := by
  obtain ⟨i0, hi, hz0, hz1, hz2⟩ := info_parts infoI
  subst hn
  rcases A with _ | ad
  · obtain ⟨h1, rfl⟩ := hA rfl
    obtain rfl : r = [] := List.eq_nil_of_length_eq_zero h1
    refine wpList_append_own_none hgd s x 110 ho B 3 i0 1 Tryz.underlying110 hi v l.length (l.map iV) hs hown hx ?_
    exact h v w (by rw [List.append_nil]; exact hown) hb ⟨rfl, rfl, rfl, Nat.le_refl _, fun _ _ _ => rfl⟩
  · refine wpList_append_own w hgd s x 110 ho B 3 i0 (.int .i64 0) 1 8 Tryz.underlying110 hi hz0 hz1 hz2 rfl (by decide) v l.length (l.map iV) hs hown ad r.length c (r.map iV) hx (by simp) (rd_cells hr) (one_cells r) (by unfold maxLen; omega) hlen hB ?_
    intro v' w' h1 h2 _
    refine h v' w' ?_ (hb.grown h2 hB fun k hk => (hown.lt k hk).1) h2
    unfold Own
    rw [List.length_append, List.map_append]; exact h1
/-- One number appended to a slice of the call's own. -/
theorem app1 {w0 w wl : World} {ops : Array Oper} {rest : List Oper} {o : Oper} {a : Act} {Q : Exit → Act → World → Prop} (hgd : o.guard = none) (s x : Operand)
    (ho : o.op = .call { callee := .builtin .append, args := #[s, x], argTypes := #[110, 110] })
    (B : Nat) (v : Value) (l : List Int) (z : Int) (hs : a.eval s = v) (hw : w = wl.alloc (.cells #[.int .i64 z] 3)) (hown : Own wl B v l) (hb : Below B w0 wl) (hB : B ≤ wl.heap.size)
    (g : Nat) (hg : g = wl.heap.size) (hx : a.eval x = .slice (some ⟨g, 0, none⟩) 1 1) (hlen : (l.length + 1) * 8 ≤ 140737488355328)
    (h : ∀ v' w', Own w' B v' (l ++ [z]) → Below B w0 w' → wl.grownBy w' v.ownBlock → wpList Tryz.prog ops Q rest (a.put o.dst v') w') : wpList Tryz.prog ops Q (o :: rest) a w := by
  subst hw hg
  refine app hgd s x ho B (wl.heap.size + 1) v l [z] hs (hown.alloc _) (hb.alloc hB _) (by simp; omega) (some ⟨wl.heap.size, 0, none⟩) 1 1 rfl hx (rd_lit [z] 3) (fun e => by cases e) hlen ?_
  intro v' w' h1 h2 h3
  refine h v' w' h1 h2 ⟨h3.os, h3.tape, h3.output, Nat.le_trans (by simp) h3.size, fun k hk hne => ?_⟩
  exact (h3.block k (by simp; omega) hne).trans (Below.heap_alloc wl _ k hk)
theorem app1In {F : Fence} {n : Nat} {w wl : World} {ops : Array Oper} {rest : List Oper} {o : Oper} {a : Act} {Q : Exit → Act → World → Prop} (hgd : o.guard = none) (s x : Operand)
    (ho : o.op = .call { callee := .builtin .append, args := #[s, x], argTypes := #[110, 110] })
    (B : Nat) (v : Value) (l : List Int) (z : Int) (hs : a.eval s = v) (hw : w = wl.alloc (.cells #[.int .i64 z] 3)) (hown : Own wl B v l) (hB : B ≤ wl.heap.size)
    (g : Nat) (hg : g = wl.heap.size) (hx : a.eval x = .slice (some ⟨g, 0, none⟩) 1 1) (hlen : (l.length + 1) * 8 ≤ 140737488355328)
    (h : ∀ v' w', Own w' B v' (l ++ [z]) → wl.grownBy w' v.ownBlock → wpListIn F n Tryz.prog ops Q rest (a.put o.dst v') w') : wpListIn F n Tryz.prog ops Q (o :: rest) a w := by
  obtain ⟨i0, hi, hz0, hz1, hz2⟩ := info_parts infoI
  subst hw hg
  refine wpListIn_append_own _ hgd s x 110 ho B 3 i0 (.int .i64 0) 1 8 Tryz.underlying110 hi hz0 hz1 hz2 rfl (by decide) v l.length (l.map iV) hs (hown.alloc _) ⟨wl.heap.size, 0, none⟩ 1 1 ([z].map iV) hx (by simp) (rd_cells (rd_lit [z] 3)) (one_cells [z]) (by unfold maxLen; omega) hlen (by simp; omega) ?_
  intro v' w' h1 h3 _
  refine h v' w' ?_ ⟨h3.os, h3.tape, h3.output, Nat.le_trans (by simp) h3.size, fun k hk hne => ?_⟩
  · unfold Own
    rw [List.length_append, List.map_append]; exact h1
  · exact (h3.block k (by simp; omega) hne).trans (Below.heap_alloc wl _ k hk)
theorem run_append_own2 {P : Program} {w : World} (t ty e : TypeId) (i : TypeInfo) (z : Value) (bytes : Nat) (ht : P.underlying t = some (.slice e)) (hi : P.info? e = some i) (hz : i.zero = some z)
    (hsize : i.size = 1) (hby : i.bytes = bytes) (hzs : z.cells.size = 1)
    (v : Value) (n : Nat) (xs : List Value) (hown : w.ownsRow 0 e 1 v n xs)
    (a : Addr) (m c : Nat) (news : List Value) (hl : news.length = m * 1) (hnews : ∀ j u, news[j]? = some u → w.cell? (a.add j) = some u) (h1 : ∀ u ∈ news, u.oneCell' = true)
    (h63 : n + m ≤ maxLen) (hbytes : (n + m) * bytes ≤ 140737488355328) :
    ∃ v' w', (Builtin.append_ #[t, t] ty #[v, .slice (some a) m c]).run P w = .ok v' w' ∧ w'.ownsRow 0 e 1 v' (n + m) (xs ++ news) ∧ w.grownBy w' v.ownBlock ∧ (∀ k, v'.ownBlock = some k → v.ownBlock = some k ∨ w.heap.size ≤ k) := by
  obtain ⟨v', w', hr, h2, h3, _⟩ := run_append_own (P := P) w 0 t ty e i z 1 bytes ht hi hz hsize hby hzs (by decide) v n xs hown a m c news hl hnews h1 h63 hbytes (Nat.zero_le _)
  refine ⟨v', w', hr, h2, h3, ?_⟩
  have hsmall : n + m ≤ 9223372036854775807 := by simp only [maxLen] at h63; omega
  rcases hown.2 with ⟨rfl, rfl⟩ | ⟨g, cap, cur, rfl, hbg, hg, hnc, hcm, hcs, htake⟩
  · have hx : xs = [] := List.eq_nil_of_length_eq_zero (by simpa using hown.1)
    subst hx
    obtain ⟨v2, w2, hr2, h4, _, _⟩ := run_append_own (P := P) w w.heap.size t ty e i z 1 bytes ht hi hz hsize hby hzs (by decide) (.slice none 0 0) 0 [] ⟨rfl, .inl ⟨rfl, rfl⟩⟩ a m c news hl hnews h1 h63 hbytes (Nat.le_refl _)
    rw [hr] at hr2
    injection hr2 with e1 e2
    subst e1 e2
    exact fun k hk => .inr (h4.lt k hk).1
  · intro k hk
    by_cases hroom : n + m ≤ cap
    · have hr2 := run_append_room (P := P) w t ty e i ht hi g n cap cur hg a m c news (by rw [hl, hsize]) hnews h1 hroom (by rw [hsize, hl]; omega)
      rw [hr] at hr2
      injection hr2 with e1 e2
      subst e1
      exact .inl hk
    · have hr2 := run_append_grow (P := P) w t ty e i z ht hi hz ⟨g, 0, none⟩ n cap xs (by rw [hsize]; exact hown.1) (hown.cells (g := g) rfl) a m c news (by rw [hl, hsize]) hnews (by omega) (by omega) (growslice_fits (by omega) (by rw [hby]; exact hbytes))
      rw [hr] at hr2
      injection hr2 with e1 e2
      subst e1
      simp only [Value.ownBlock, Option.some.injEq] at hk
      exact .inr (by omega)
theorem wpList_append_own2 {P : Program} {w : World} {ops : Array Oper} {rest : List Oper} {o : Oper} {a : Act} {Q : Exit → Act → World → Prop} (hgd : o.guard = none) (s x : Operand) (t : TypeId)
    (ho : o.op = .call { callee := .builtin .append, args := #[s, x], argTypes := #[t, t] })
    (e : TypeId) (i : TypeInfo) (z : Value) (bytes : Nat) (ht : P.underlying t = some (.slice e)) (hi : P.info? e = some i) (hz : i.zero = some z)
    (hsize : i.size = 1) (hby : i.bytes = bytes) (hzs : z.cells.size = 1)
    (v : Value) (n : Nat) (xs : List Value) (hs : a.eval s = v) (hown : w.ownsRow 0 e 1 v n xs)
    (ad : Addr) (m c : Nat) (news : List Value) (hx : a.eval x = .slice (some ad) m c) (hl : news.length = m * 1) (hnews : ∀ j u, news[j]? = some u → w.cell? (ad.add j) = some u) (h1 : ∀ u ∈ news, u.oneCell' = true)
    (h63 : n + m ≤ maxLen) (hbytes : (n + m) * bytes ≤ 140737488355328)
    (h : ∀ v' w', w'.ownsRow 0 e 1 v' (n + m) (xs ++ news) → w.grownBy w' v.ownBlock → (∀ k, v'.ownBlock = some k → v.ownBlock = some k ∨ w.heap.size ≤ k) → wpList P ops Q rest (a.put o.dst v') w') : wpList P ops Q (o :: rest) a w := by
  refine wpList_plain hgd fun K hK => ?_
  obtain ⟨v', w', hr, h2, h3, h4⟩ := run_append_own2 (P := P) (w := w) t o.type e i z bytes ht hi hz hsize hby hzs v n xs hown ad m c news hl hnews h1 h63 hbytes
  unfold Oper.wp execOp
  simp only [ho, resolve, invoke, builtin, Sem.run_bind, Sem.run_pure, Result.andThen_ok, List.map_toArray, List.map_cons, List.map_nil, hs, hx, hr]
  exact hK _ _ (h v' w' h2 h3 h4)
/-- One number appended to a slice of the call's own: where the new slice lies. -/
theorem app1q {w wl : World} {ops : Array Oper} {rest : List Oper} {o : Oper} {a : Act} {Q : Exit → Act → World → Prop} (hgd : o.guard = none) (s x : Operand)
    (ho : o.op = .call { callee := .builtin .append, args := #[s, x], argTypes := #[110, 110] })
    (v : Value) (l : List Int) (z : Int) (hs : a.eval s = v) (hw : w = wl.alloc (.cells #[.int .i64 z] 3)) (hown : Own wl 0 v l)
    (g : Nat) (hg : g = wl.heap.size) (hx : a.eval x = .slice (some ⟨g, 0, none⟩) 1 1) (hlen : (l.length + 1) * 8 ≤ 140737488355328)
    (h : ∀ v' w', Own w' 0 v' (l ++ [z]) → wl.grownBy w' v.ownBlock → (∀ k, v'.ownBlock = some k → v.ownBlock = some k ∨ wl.heap.size ≤ k) → wpList Tryz.prog ops Q rest (a.put o.dst v') w') : wpList Tryz.prog ops Q (o :: rest) a w := by
  obtain ⟨i0, hi, hz0, hz1, hz2⟩ := info_parts infoI
  subst hw hg
  refine wpList_append_own2 hgd s x 110 ho 3 i0 (.int .i64 0) 8 Tryz.underlying110 hi hz0 hz1 hz2 rfl v l.length (l.map iV) hs (hown.alloc _) ⟨wl.heap.size, 0, none⟩ 1 1 ([z].map iV) hx (by simp) (rd_cells (rd_lit [z] 3)) (one_cells [z]) (by unfold maxLen; omega) hlen ?_
  intro v' w' h1 h3 h4
  refine h v' w' ?_ ⟨h3.os, h3.tape, h3.output, Nat.le_trans (by simp) h3.size, fun k hk hne => ?_⟩ (fun k hk => (h4 k hk).imp id fun h => Nat.le_trans (by simp) h)
  · unfold Own
    rw [List.length_append, List.map_append]; exact h1
  · exact (h3.block k (by simp; omega) hne).trans (Below.heap_alloc wl _ k hk)
theorem Own.base {w : World} {B B' : Nat} {v : Value} {l : List Int} (h : Own w B v l) (hB : ∀ k, v.ownBlock = some k → B' ≤ k) : Own w B' v l := by
  refine ⟨h.1, ?_⟩
  rcases h.2 with h' | ⟨g, cap, cur, rfl, q2, q3, q4⟩
  · exact .inl h'
  · exact .inr ⟨g, cap, cur, rfl, hB g rfl, q3, q4⟩
theorem Own.same {w w' : World} {B : Nat} {v : Value} {l : List Int} (h : Own w B v l) (hk : ∀ k, v.ownBlock = some k → k < w.heap.size → w'.heap[k]? = w.heap[k]?) : Own w' B v l := by
  refine ⟨h.1, ?_⟩
  rcases h.2 with h' | ⟨g, cap, cur, rfl, q2, q3, q4⟩
  · exact .inl h'
  · exact .inr ⟨g, cap, cur, rfl, q2, (hk g rfl (Array.getElem?_eq_some_iff.1 q3).1).trans q3, q4⟩
theorem Own.below {w w' : World} {B : Nat} {v : Value} {l : List Int} (h : Own w B v l) (hb : Below w.heap.size w w') : Own w' B v l := h.same fun k _ hk => hb.block k hk
theorem Own.zero {w : World} {B : Nat} {v : Value} {l : List Int} (h : Own w B v l) : Own w 0 v l := h.base fun _ _ => Nat.zero_le _
/-- A slice of numbers that came in. -/
def BySlice (w : World) (a : Option Addr) (len cap : Nat) (l : List Int) : Prop :=
  len = l.length ∧ l.length ≤ cap ∧ cap ≤ 9223372036854775807 ∧ Rd w w.heap.size a l ∧ (a = none → l.length = 0 ∧ cap = 0) ∧ ∀ z ∈ l, I64 z
theorem bySlice_none (w : World) : BySlice w none 0 0 [] := ⟨rfl, Nat.le_refl _, Nat.zero_le _, Rd.nil _ _ _, fun _ => ⟨rfl, rfl⟩, by simp⟩
theorem bySlice_some {w : World} {x : Addr} {len cap : Nat} {zs : List Int} (hl : len ≤ cap) (hm : cap ≤ maxLen) (hz : zs.length = cap)
    (hcell : ∀ i, i < zs.length → w.cell? (x.add i) = some (.int .i64 (zs.getD i 0))) (hwz : ∀ n ∈ zs, (Lit.int .i64 n).wf = true) : ∃ l, BySlice w (some x) len cap l := by
  have hlen : (zs.take len).length = len := by simp; omega
  refine ⟨zs.take len, hlen.symm, by omega, by unfold maxLen at hm; omega, fun h => ?_, (fun e => by cases e), fun z hz' => bounds_i64 (hwz z (List.mem_of_mem_take hz'))⟩
  rw [hlen] at h
  obtain ⟨b, off, rfl, hc⟩ := ints_at hcell (by omega)
  refine ⟨b, off, rfl, World.block_lt_of_cell? w _ (hc 0 (by omega)), fun i hi => ?_⟩
  rw [hlen] at hi
  rw [hc i (by omega)]
  have : zs.getD i 0 = at_ (zs.take len) i := by simp [at_, hi]
  rw [this]
end Go.Proofs.YtfnlhfelpdkieaaGreat.Mi
/- Ids and messages as plain data: are they right, their bytes, their texts, their order. -/
namespace Go.Proofs.YtfnlhfelpdkieaaGreat.Mg
open Go.RowKit
open Go.Proofs.YtfnlhfelpdkieaaGreat.Me
set_option linter.unusedVariables false

structure Id4 where
  o : Int
  d : Int
  e : Int
  c : Int
def idC (i : Id4) : Array Value := #[.int .i64 i.o, .int .i64 i.d, .int .i64 i.e, .int .i64 i.c]
def nodeB (n : Int) : Bool := decide (0 ≤ n ∧ n < 64)
def numB (n : Int) : Bool := decide (1 ≤ n ∧ n ≤ 65535)
/-- What Check answers. -/
def chkN (i : Id4) : Nat := if nodeB i.o && nodeB i.d && numB i.e && numB i.c then (if i.o = i.d then 2 else 0) else 1
/-- What CheckMsg answers of a message with n bytes. -/
def msgN (i : Id4) (n : Nat) : Nat := if chkN i ≠ 0 then chkN i else if n = 0 then 2 else if 48 < n then 3 else 0
structure Right (i : Id4) : Prop where
  o0 : 0 ≤ i.o
  o1 : i.o < 64
  d0 : 0 ≤ i.d
  d1 : i.d < 64
  e0 : 1 ≤ i.e
  e1 : i.e ≤ 65535
  c0 : 1 ≤ i.c
  c1 : i.c ≤ 65535
  ne : ¬ i.o = i.d
theorem nodeB_iff {n : Int} : nodeB n = true ↔ 0 ≤ n ∧ n < 64 := by simp [nodeB]
theorem numB_iff {n : Int} : numB n = true ↔ 1 ≤ n ∧ n ≤ 65535 := by simp [numB]
theorem right_iff {i : Id4} : chkN i = 0 ↔ Right i := by
  unfold chkN
  constructor
  · intro h
    split at h
    · rename_i hb
      simp only [Bool.and_eq_true, nodeB_iff, numB_iff] at hb
      split at h
      · cases h
      · rename_i hn
        exact ⟨hb.1.1.1.1, hb.1.1.1.2, hb.1.1.2.1, hb.1.1.2.2, hb.1.2.1, hb.1.2.2, hb.2.1, hb.2.2, hn⟩
    · cases h
  · intro h
    rw [if_pos (by simp only [Bool.and_eq_true, nodeB_iff, numB_iff]; exact ⟨⟨⟨⟨h.o0, h.o1⟩, h.d0, h.d1⟩, h.e0, h.e1⟩, h.c0, h.c1⟩), if_neg h.ne]
/-- Is a ahead of b? -/
def ltB (a b : Id4) : Bool := if a.o = b.o then (if a.d = b.d then (if a.e = b.e then decide (a.c < b.c) else decide (a.e < b.e)) else decide (a.d < b.d)) else decide (a.o < b.o)
/-- What slices.Compare answers of two ids' numbers. -/
def cmp1 (x y : Int) : Int := if x < y then -1 else if y < x then 1 else 0
def cmpN (a b : Id4) : Int := if a.o = b.o then (if a.d = b.d then (if a.e = b.e then cmp1 a.c b.c else cmp1 a.e b.e) else cmp1 a.d b.d) else cmp1 a.o b.o
theorem cmp1_neg (x y : Int) : decide (cmp1 x y < 0) = decide (x < y) := by
  unfold cmp1
  split
  · rename_i h; simp [h]
  · rename_i h
    split
    · simp [h]
    · simp [h]
theorem cmpN_neg (a b : Id4) : decide (cmpN a b < 0) = ltB a b := by
  unfold cmpN ltB
  repeat' split
  all_goals exact cmp1_neg _ _
/-- Number k of an id. -/
def ix (i : Id4) (k : Nat) : Int := if k = 0 then i.o else if k = 1 then i.d else if k = 2 then i.e else i.c
theorem cmp1_self (x : Int) : cmp1 x x = 0 := by unfold cmp1; simp
theorem cmp1_ne {x y : Int} (h : ¬ x = y) : ¬ cmp1 x y = 0 := by
  unfold cmp1
  split
  · omega
  · split
    · omega
    · omega
theorem cmpN_at {a b : Id4} {k : Nat} (hk : k < 4) (h : ∀ j, j < k → ix a j = ix b j) (hne : ¬ ix a k = ix b k) : cmpN a b = cmp1 (ix a k) (ix b k) := by
  obtain rfl | rfl | rfl | rfl : k = 0 ∨ k = 1 ∨ k = 2 ∨ k = 3 := by omega
  · have hne : ¬ a.o = b.o := hne
    unfold cmpN; rw [if_neg hne]; rfl
  · have h0 : a.o = b.o := h 0 (by omega)
    have hne : ¬ a.d = b.d := hne
    unfold cmpN; rw [if_pos h0, if_neg hne]; rfl
  · have h0 : a.o = b.o := h 0 (by omega)
    have h1 : a.d = b.d := h 1 (by omega)
    have hne : ¬ a.e = b.e := hne
    unfold cmpN; rw [if_pos h0, if_pos h1, if_neg hne]; rfl
  · have h0 : a.o = b.o := h 0 (by omega)
    have h1 : a.d = b.d := h 1 (by omega)
    have h2 : a.e = b.e := h 2 (by omega)
    unfold cmpN; rw [if_pos h0, if_pos h1, if_pos h2]; rfl
theorem cmpN_eq {a b : Id4} (h : ∀ j, j < 4 → ix a j = ix b j) : cmpN a b = 0 := by
  have h0 : a.o = b.o := h 0 (by omega)
  have h1 : a.d = b.d := h 1 (by omega)
  have h2 : a.e = b.e := h 2 (by omega)
  have h3 : a.c = b.c := h 3 (by omega)
  unfold cmpN; rw [if_pos h0, if_pos h1, if_pos h2, h3, cmp1_self]
theorem ltB_at {a b : Id4} {k : Nat} (hk : k < 4) (h : ∀ j, j < k → ix a j = ix b j) (hne : ¬ ix a k = ix b k) : ltB a b = decide (ix a k < ix b k) := by
  rw [← cmpN_neg, cmpN_at hk h hne, cmp1_neg]
theorem ltB_eq {a b : Id4} (h : ∀ j, j < 4 → ix a j = ix b j) : ltB a b = false := by
  rw [← cmpN_neg, cmpN_eq h]; rfl
end Go.Proofs.YtfnlhfelpdkieaaGreat.Mg
/- Check and CheckMsg of both sides. -/
namespace Go.Proofs.YtfnlhfelpdkieaaGreat.Mg
open Go.RowKit
open Go.Proofs.YtfnlhfelpdkieaaGreat.Me
set_option linter.unusedVariables false
set_option linter.unusedSimpArgs false

theorem isNode_any (n : Int) (w : World) : Calls Tryz.prog 102 #[.int .i64 n] w fun e w' => e = .returned (.bool (nodeB n)) ∧ w = w' := by
  by_cases a : 0 ≤ n
  · by_cases b : n < 64
    · have HE : Hid (nodeB n = true) := decide_eq_true ⟨a, b⟩
      rw [HE.out]
      go_enter Tryz.func102, Tryz.ntmps102
      go_wp2
      go_ret
      exact ⟨rfl, rfl⟩
    · have HE : Hid (nodeB n = false) := decide_eq_false fun h => b h.2
      rw [HE.out]
      go_enter Tryz.func102, Tryz.ntmps102
      go_wp2
      go_ret
      exact ⟨rfl, rfl⟩
  · have HE : Hid (nodeB n = false) := decide_eq_false fun h => a h.1
    rw [HE.out]
    go_enter Tryz.func102, Tryz.ntmps102
    go_wp2
    go_ret
    exact ⟨rfl, rfl⟩
theorem isNumber_any (n : Int) (w : World) : Calls Tryz.prog 103 #[.int .i64 n] w fun e w' => e = .returned (.bool (numB n)) ∧ w = w' := by
  by_cases a : 1 ≤ n
  · by_cases b : n ≤ 65535
    · have HE : Hid (numB n = true) := decide_eq_true ⟨a, b⟩
      rw [HE.out]
      go_enter Tryz.func103, Tryz.ntmps103
      go_wp2
      go_ret
      exact ⟨rfl, rfl⟩
    · have HE : Hid (numB n = false) := decide_eq_false fun h => b h.2
      rw [HE.out]
      go_enter Tryz.func103, Tryz.ntmps103
      go_wp2
      go_ret
      exact ⟨rfl, rfl⟩
  · have HE : Hid (numB n = false) := decide_eq_false fun h => a h.1
    rw [HE.out]
    go_enter Tryz.func103, Tryz.ntmps103
    go_wp2
    go_ret
    exact ⟨rfl, rfl⟩
theorem bel_tac {w w' : World} (h : w' = w) : Below w.heap.size w w' := h ▸ Below.refl _ _
set_option maxHeartbeats 4000000 in
theorem Check_any (i : Id4) (w : World) : Calls Tryz.prog 78 #[.agg (idC i)] w fun e w' => e = .returned (.int .i64 (chkN i : Int)) ∧ Hid (Below w.heap.size w w') := by
  obtain ⟨o, d, ee, c⟩ := i
  have HO : Hid (∀ W, Calls Tryz.prog 102 #[.int .i64 o] W fun e w' => e = .returned (.bool (nodeB o)) ∧ W = w') := fun W => isNode_any o W
  have HD : Hid (∀ W, Calls Tryz.prog 102 #[.int .i64 d] W fun e w' => e = .returned (.bool (nodeB d)) ∧ W = w') := fun W => isNode_any d W
  have HE : Hid (∀ W, Calls Tryz.prog 103 #[.int .i64 ee] W fun e w' => e = .returned (.bool (numB ee)) ∧ W = w') := fun W => isNumber_any ee W
  have HC : Hid (∀ W, Calls Tryz.prog 103 #[.int .i64 c] W fun e w' => e = .returned (.bool (numB c)) ∧ W = w') := fun W => isNumber_any c W

  simp only [idC]
  unfold chkN
  simp only
  obtain ⟨b1, h1⟩ : ∃ b, nodeB o = b := ⟨_, rfl⟩
  obtain ⟨b2, h2⟩ : ∃ b, nodeB d = b := ⟨_, rfl⟩
  obtain ⟨b3, h3⟩ : ∃ b, numB ee = b := ⟨_, rfl⟩
  obtain ⟨b4, h4⟩ : ∃ b, numB c = b := ⟨_, rfl⟩
  rw [h1] at HO ⊢
  rw [h2] at HD ⊢
  rw [h3] at HE ⊢
  rw [h4] at HC ⊢
  clear h1 h2 h3 h4
  cases b1 with
  | false =>
    simp only [Bool.false_and, Bool.and_false, Bool.false_eq_true, if_false, Bool.true_and, Bool.and_true]
    go_enter Tryz.func78, Tryz.ntmps78
    go_wp2_with (first
      | (go_at_call 102; (with_reducible refine (HO.out _).mono ?_); rintro e w' ⟨rfl, rfl⟩)
      | (go_at_call 102; (with_reducible refine (HD.out _).mono ?_); rintro e w' ⟨rfl, rfl⟩)
      | (go_at_call 103; (with_reducible refine (HE.out _).mono ?_); rintro e w' ⟨rfl, rfl⟩)
      | (go_at_call 103; (with_reducible refine (HC.out _).mono ?_); rintro e w' ⟨rfl, rfl⟩))
    go_ret
    exact ⟨rfl, by show Below _ _ _; repeat (first | exact Below.refl _ _ | apply Me.below_alloc)⟩
  | true =>
    cases b2 with
    | false =>
      simp only [Bool.false_and, Bool.and_false, Bool.false_eq_true, if_false, Bool.true_and, Bool.and_true]
      go_enter Tryz.func78, Tryz.ntmps78
      go_wp2_with (first
        | (go_at_call 102; (with_reducible refine (HO.out _).mono ?_); rintro e w' ⟨rfl, rfl⟩)
        | (go_at_call 102; (with_reducible refine (HD.out _).mono ?_); rintro e w' ⟨rfl, rfl⟩)
        | (go_at_call 103; (with_reducible refine (HE.out _).mono ?_); rintro e w' ⟨rfl, rfl⟩)
        | (go_at_call 103; (with_reducible refine (HC.out _).mono ?_); rintro e w' ⟨rfl, rfl⟩))
      go_ret
      exact ⟨rfl, by show Below _ _ _; repeat (first | exact Below.refl _ _ | apply Me.below_alloc)⟩
    | true =>
      cases b3 with
      | false =>
        simp only [Bool.false_and, Bool.and_false, Bool.false_eq_true, if_false, Bool.true_and, Bool.and_true]
        go_enter Tryz.func78, Tryz.ntmps78
        go_wp2_with (first
          | (go_at_call 102; (with_reducible refine (HO.out _).mono ?_); rintro e w' ⟨rfl, rfl⟩)
          | (go_at_call 102; (with_reducible refine (HD.out _).mono ?_); rintro e w' ⟨rfl, rfl⟩)
          | (go_at_call 103; (with_reducible refine (HE.out _).mono ?_); rintro e w' ⟨rfl, rfl⟩)
          | (go_at_call 103; (with_reducible refine (HC.out _).mono ?_); rintro e w' ⟨rfl, rfl⟩))
        go_ret
        exact ⟨rfl, by show Below _ _ _; repeat (first | exact Below.refl _ _ | apply Me.below_alloc)⟩
      | true =>
        cases b4 with
        | false =>
          simp only [Bool.false_and, Bool.and_false, Bool.false_eq_true, if_false, Bool.true_and, Bool.and_true]
          go_enter Tryz.func78, Tryz.ntmps78
          go_wp2_with (first
            | (go_at_call 102; (with_reducible refine (HO.out _).mono ?_); rintro e w' ⟨rfl, rfl⟩)
            | (go_at_call 102; (with_reducible refine (HD.out _).mono ?_); rintro e w' ⟨rfl, rfl⟩)
            | (go_at_call 103; (with_reducible refine (HE.out _).mono ?_); rintro e w' ⟨rfl, rfl⟩)
            | (go_at_call 103; (with_reducible refine (HC.out _).mono ?_); rintro e w' ⟨rfl, rfl⟩))
          go_ret
          exact ⟨rfl, by show Below _ _ _; repeat (first | exact Below.refl _ _ | apply Me.below_alloc)⟩
        | true =>
          simp only [Bool.and_true, if_true]
          by_cases q : o = d
          · subst q
            rw [if_pos rfl]
            go_enter Tryz.func78, Tryz.ntmps78
            go_wp2_with (first
              | (go_at_call 102; (with_reducible refine (HO.out _).mono ?_); rintro e w' ⟨rfl, rfl⟩)
              | (go_at_call 102; (with_reducible refine (HD.out _).mono ?_); rintro e w' ⟨rfl, rfl⟩)
              | (go_at_call 103; (with_reducible refine (HE.out _).mono ?_); rintro e w' ⟨rfl, rfl⟩)
              | (go_at_call 103; (with_reducible refine (HC.out _).mono ?_); rintro e w' ⟨rfl, rfl⟩))
            go_ret
            exact ⟨rfl, by show Below _ _ _; repeat (first | exact Below.refl _ _ | apply Me.below_alloc)⟩
          · rw [if_neg q]
            have hq : (o == d) = false := by simpa using q
            go_enter Tryz.func78, Tryz.ntmps78
            go_wp2_with (first
              | (go_at_call 102; (with_reducible refine (HO.out _).mono ?_); rintro e w' ⟨rfl, rfl⟩)
              | (go_at_call 102; (with_reducible refine (HD.out _).mono ?_); rintro e w' ⟨rfl, rfl⟩)
              | (go_at_call 103; (with_reducible refine (HE.out _).mono ?_); rintro e w' ⟨rfl, rfl⟩)
              | (go_at_call 103; (with_reducible refine (HC.out _).mono ?_); rintro e w' ⟨rfl, rfl⟩))
            go_ret
            exact ⟨rfl, by show Below _ _ _; repeat (first | exact Below.refl _ _ | apply Me.below_alloc)⟩
set_option maxHeartbeats 4000000 in
theorem RCheck_any (i : Id4) (w : World) : Calls Tryz.prog 88 #[.agg (idC i)] w fun e w' => e = .returned (.int .i64 (chkN i : Int)) ∧ Hid (Below w.heap.size w w') := by
  obtain ⟨o, d, ee, c⟩ := i
  obtain ⟨r, hr⟩ : ∃ r, chkN ⟨o, d, ee, c⟩ = r := ⟨_, rfl⟩
  rw [hr]
  unfold chkN at hr
  simp only [nodeB, numB, Bool.and_eq_true, decide_eq_true_eq] at hr
  simp only [idC]
  by_cases t0 : 0 ≤ o
  case neg =>
    obtain rfl : r = 1 := by rw [← hr]; exact if_neg fun h => by omega
    clear hr
    go_enter Tryz.func88, Tryz.ntmps88
    go_wp2
    go_ret
    exact ⟨rfl, by show Below _ _ _; repeat (first | exact Below.refl _ _ | apply Me.below_alloc)⟩
  by_cases t1 : o < 64
  case neg =>
    obtain rfl : r = 1 := by rw [← hr]; exact if_neg fun h => by omega
    clear hr
    go_enter Tryz.func88, Tryz.ntmps88
    go_wp2
    go_ret
    exact ⟨rfl, by show Below _ _ _; repeat (first | exact Below.refl _ _ | apply Me.below_alloc)⟩
  by_cases t2 : 0 ≤ d
  case neg =>
    obtain rfl : r = 1 := by rw [← hr]; exact if_neg fun h => by omega
    clear hr
    go_enter Tryz.func88, Tryz.ntmps88
    go_wp2
    go_ret
    exact ⟨rfl, by show Below _ _ _; repeat (first | exact Below.refl _ _ | apply Me.below_alloc)⟩
  by_cases t3 : d < 64
  case neg =>
    obtain rfl : r = 1 := by rw [← hr]; exact if_neg fun h => by omega
    clear hr
    go_enter Tryz.func88, Tryz.ntmps88
    go_wp2
    go_ret
    exact ⟨rfl, by show Below _ _ _; repeat (first | exact Below.refl _ _ | apply Me.below_alloc)⟩
  by_cases t4 : 1 ≤ ee
  case neg =>
    obtain rfl : r = 1 := by rw [← hr]; exact if_neg fun h => by omega
    clear hr
    go_enter Tryz.func88, Tryz.ntmps88
    go_wp2
    go_ret
    exact ⟨rfl, by show Below _ _ _; repeat (first | exact Below.refl _ _ | apply Me.below_alloc)⟩
  by_cases t5 : ee ≤ 65535
  case neg =>
    obtain rfl : r = 1 := by rw [← hr]; exact if_neg fun h => by omega
    clear hr
    go_enter Tryz.func88, Tryz.ntmps88
    go_wp2
    go_ret
    exact ⟨rfl, by show Below _ _ _; repeat (first | exact Below.refl _ _ | apply Me.below_alloc)⟩
  by_cases t6 : 1 ≤ c
  case neg =>
    obtain rfl : r = 1 := by rw [← hr]; exact if_neg fun h => by omega
    clear hr
    go_enter Tryz.func88, Tryz.ntmps88
    go_wp2
    go_ret
    exact ⟨rfl, by show Below _ _ _; repeat (first | exact Below.refl _ _ | apply Me.below_alloc)⟩
  by_cases t7 : c ≤ 65535
  case neg =>
    obtain rfl : r = 1 := by rw [← hr]; exact if_neg fun h => by omega
    clear hr
    go_enter Tryz.func88, Tryz.ntmps88
    go_wp2
    go_ret
    exact ⟨rfl, by show Below _ _ _; repeat (first | exact Below.refl _ _ | apply Me.below_alloc)⟩
  rw [if_pos ⟨⟨⟨⟨t0, t1⟩, t2, t3⟩, t4, t5⟩, t6, t7⟩] at hr
  by_cases q : o = d
  · subst q
    rw [if_pos rfl] at hr
    subst hr
    go_enter Tryz.func88, Tryz.ntmps88
    go_wp2
    go_ret
    exact ⟨rfl, by show Below _ _ _; repeat (first | exact Below.refl _ _ | apply Me.below_alloc)⟩
  · rw [if_neg q] at hr
    subst hr
    have hq : (o == d) = false := by simpa using q
    go_enter Tryz.func88, Tryz.ntmps88
    go_wp2
    go_ret
    exact ⟨rfl, by show Below _ _ _; repeat (first | exact Below.refl _ _ | apply Me.below_alloc)⟩
/-- A message as a value. -/
def msgC (i : Id4) (A : Option Addr) (n c : Nat) : Array Value := #[.int .i64 i.o, .int .i64 i.d, .int .i64 i.e, .int .i64 i.c, .slice A n c]
theorem box5 (i : Id4) (A : Option Addr) (n c : Nat) (w : World) : ∀ W, Below (w.alloc (.cells (msgC i A n c) 46 (0, 0))).heap.size (w.alloc (.cells (msgC i A n c) 46 (0, 0))) W → W.cell? ⟨w.heap.size, 0, none⟩ = some (.int .i64 i.o) ∧ W.cell? ⟨w.heap.size, 1, none⟩ = some (.int .i64 i.d) ∧ W.cell? ⟨w.heap.size, 2, none⟩ = some (.int .i64 i.e) ∧ W.cell? ⟨w.heap.size, 3, none⟩ = some (.int .i64 i.c) ∧ W.cell? ⟨w.heap.size, 4, none⟩ = some (.slice A n c) ∧ Below w.heap.size w W := fun W hW => by
  have hl : w.heap.size < (w.alloc (.cells (msgC i A n c) 46 (0, 0))).heap.size := by simp
  have hb := heap_alloc_new w (.cells (msgC i A n c) 46 (0, 0))
  refine ⟨?_, ?_, ?_, ?_, ?_, (Me.below_alloc (Below.refl _ _)).trans (hW.mono (by simp))⟩
  all_goals
    rw [hW.cell hl, cell_of_row _ w.heap.size _ _ _ (0, 0) hb]
    rfl
theorem nz {c : Nat} (h : ¬ c = 0) : ((c : Int) == 0) = false := by
  have : ¬ (c : Int) = 0 := by omega
  simpa using this
set_option maxHeartbeats 4000000 in
theorem CheckMsg_any (i : Id4) (A : Option Addr) (n c : Nat) (w : World) : Calls Tryz.prog 77 #[.agg (msgC i A n c)] w fun e w' => e = .returned (.int .i64 (msgN i n : Int)) ∧ Hid (Below w.heap.size w w') := by
  have HK := Lib.hid (fun W => Check_any i W)
  obtain ⟨k, hk⟩ : ∃ k, chkN i = k := ⟨_, rfl⟩
  unfold msgN
  rw [hk] at HK ⊢
  clear hk
  have HX := Lib.hid (box5 i A n c w)
  obtain ⟨o, d, ee, cc⟩ := i
  simp only [idC, msgC] at HK HX ⊢
  by_cases h0 : k = 0
  · subst h0
    simp only [ne_eq, not_true, if_false]
    rw [show ((0 : Nat) : Int) = 0 from rfl] at HK
    by_cases hn : n = 0
    · subst hn
      rw [if_pos rfl]
      go_enter Tryz.func77, Tryz.ntmps77
      go_wp2_with (go_at_call 78; refine (HK.out _).mono ?_; rintro e w1 ⟨rfl, b1⟩; obtain ⟨x0, x1, x2, x3, x4, bw⟩ := HX.out w1 b1.out)
      go_ret
      exact ⟨rfl, bw⟩
    · rw [if_neg hn]
      have hz := nz hn
      by_cases h48 : 48 < n
      · rw [if_pos h48]
        have h48i : (48 : Int) < (n : Int) := by omega
        go_enter Tryz.func77, Tryz.ntmps77
        go_wp2_with (go_at_call 78; refine (HK.out _).mono ?_; rintro e w1 ⟨rfl, b1⟩; obtain ⟨x0, x1, x2, x3, x4, bw⟩ := HX.out w1 b1.out)
        go_ret
        exact ⟨rfl, bw⟩
      · rw [if_neg h48]
        have h48i : ¬ (48 : Int) < (n : Int) := by omega
        go_enter Tryz.func77, Tryz.ntmps77
        go_wp2_with (go_at_call 78; refine (HK.out _).mono ?_; rintro e w1 ⟨rfl, b1⟩; obtain ⟨x0, x1, x2, x3, x4, bw⟩ := HX.out w1 b1.out)
        go_ret
        exact ⟨rfl, bw⟩
  · have hz := nz h0
    rw [if_pos h0]
    clear h0
    go_enter Tryz.func77, Tryz.ntmps77
    go_wp2_with (go_at_call 78; refine (HK.out _).mono ?_; rintro e w1 ⟨rfl, b1⟩; obtain ⟨x0, x1, x2, x3, x4, bw⟩ := HX.out w1 b1.out)
    go_ret
    exact ⟨rfl, bw⟩

set_option maxHeartbeats 4000000 in
theorem RCheckMsg_any (i : Id4) (A : Option Addr) (n c : Nat) (w : World) : Calls Tryz.prog 86 #[.agg (msgC i A n c)] w fun e w' => e = .returned (.int .i64 (msgN i n : Int)) ∧ Hid (Below w.heap.size w w') := by
  have HK := Lib.hid (fun W => RCheck_any i W)
  obtain ⟨k, hk⟩ : ∃ k, chkN i = k := ⟨_, rfl⟩
  unfold msgN
  rw [hk] at HK ⊢
  clear hk
  have HX := Lib.hid (box5 i A n c w)
  obtain ⟨o, d, ee, cc⟩ := i
  simp only [idC, msgC] at HK HX ⊢
  by_cases h0 : k = 0
  · subst h0
    simp only [ne_eq, not_true, if_false]
    rw [show ((0 : Nat) : Int) = 0 from rfl] at HK
    by_cases hn : n = 0
    · subst hn
      rw [if_pos rfl]
      go_enter Tryz.func86, Tryz.ntmps86
      go_wp2_with (go_at_call 88; refine (HK.out _).mono ?_; rintro e w1 ⟨rfl, b1⟩; obtain ⟨x0, x1, x2, x3, x4, bw⟩ := HX.out w1 b1.out)
      go_ret
      exact ⟨rfl, bw⟩
    · rw [if_neg hn]
      have hz := nz hn
      by_cases h48 : 48 < n
      · rw [if_pos h48]
        have h48i : (48 : Int) < (n : Int) := by omega
        go_enter Tryz.func86, Tryz.ntmps86
        go_wp2_with (go_at_call 88; refine (HK.out _).mono ?_; rintro e w1 ⟨rfl, b1⟩; obtain ⟨x0, x1, x2, x3, x4, bw⟩ := HX.out w1 b1.out)
        go_ret
        exact ⟨rfl, bw⟩
      · rw [if_neg h48]
        have h48i : ¬ (48 : Int) < (n : Int) := by omega
        go_enter Tryz.func86, Tryz.ntmps86
        go_wp2_with (go_at_call 88; refine (HK.out _).mono ?_; rintro e w1 ⟨rfl, b1⟩; obtain ⟨x0, x1, x2, x3, x4, bw⟩ := HX.out w1 b1.out)
        go_ret
        exact ⟨rfl, bw⟩
  · have hz := nz h0
    rw [if_pos h0]
    clear h0
    go_enter Tryz.func86, Tryz.ntmps86
    go_wp2_with (first
      | (go_at_call 88; (with_reducible refine (HK.out (w.alloc _)).mono ?_); rintro e w1 ⟨rfl, b1⟩; obtain ⟨x0, x1, x2, x3, x4, bw⟩ := HX.out w1 b1.out)
      | (go_at_call 88; refine (HK.out _).mono ?_; rintro e w2 ⟨rfl, b2⟩; have bw2 : Below w.heap.size w w2 := bw.trans (b2.out.mono bw.size)))
    go_ret
    exact ⟨rfl, bw2⟩
end Go.Proofs.YtfnlhfelpdkieaaGreat.Mg
/- What was delivered, as plain data: marks, what is put into them. -/
namespace Go.Proofs.YtfnlhfelpdkieaaGreat.Se
open Go.RowKit
set_option linter.unusedVariables false
set_option linter.unusedSimpArgs false

/-- A mark: all counters up to one, and some more. -/
structure Mk where
  up : Int
  more : List Int
/-- It is right: what stands behind the gap rises. -/
structure Ok (m : Mk) : Prop where
  u0 : 0 ≤ m.up
  u1 : m.up ≤ 65535
  lt : m.more.Pairwise (· < ·)
  gap : ∀ x ∈ m.more, m.up + 2 ≤ x ∧ x ≤ 65535
def has (m : Mk) (c : Int) : Bool := m.more.contains c || decide (c ≤ m.up)
/-- Where a counter has its place. -/
def lb (l : List Int) (c : Int) : Nat := l.countP (· < c)
def ins (l : List Int) (c : Int) : List Int := l.take (lb l c) ++ c :: l.drop (lb l c)
/-- How many of a list go on from a number, one by one. -/
def run : Int → List Int → Nat
  | _, [] => 0
  | u, x :: r => if x = u + 1 then run (u + 1) r + 1 else 0
def wth (m : Mk) (c : Int) : Mk := ⟨m.up + run m.up (ins m.more c), (ins m.more c).drop (run m.up (ins m.more c))⟩
theorem run_le : ∀ (l : List Int) (u : Int), run u l ≤ l.length
  | [], u => by simp [run]
  | x :: r, u => by
    unfold run
    split
    · have := run_le r (u + 1)
      simp; omega
    · simp
/-- The first n go on, and the next one does if n is below the run. -/
theorem run_at : ∀ (l : List Int) (u : Int) (n : Nat), n ≤ run u l → n < l.length → (n < run u l ↔ l.getD n 0 = u + 1 + n)
  | [], u, n, h, hl => by simp at hl
  | x :: r, u, n, h, hl => by
    unfold run at h ⊢
    by_cases hx : x = u + 1
    · rw [if_pos hx] at h ⊢
      cases n with
      | zero => simp [hx]
      | succ n =>
        have := run_at r (u + 1) n (by omega) (by simp at hl; omega)
        simp only [List.getD_cons_succ]
        constructor
        · intro h1
          have := this.1 (by omega)
          rw [this]; push_cast; omega
        · intro h1
          have := this.2 (by rw [h1]; push_cast; omega)
          omega
    · rw [if_neg hx] at h ⊢
      obtain rfl : n = 0 := by omega
      simp only [List.getD_cons_zero]
      constructor
      · intro h1; omega
      · intro h1; exact absurd (by rw [h1]; simp) hx
theorem lb_le (l : List Int) (c : Int) : lb l c ≤ l.length := List.countP_le_length
theorem ins_len (l : List Int) (c : Int) : (ins l c).length = l.length + 1 := by
  have := lb_le l c
  unfold ins
  simp
  omega
/-- A set: room, how many stand behind gaps, the marks. -/
structure St where
  room : Int
  gaps : Int
  kept : Int → Int → Option Mk
def getM (k : Int → Int → Option Mk) (o e : Int) : Mk := (k o e).getD ⟨0, []⟩
def setM (k : Int → Int → Option Mk) (o e : Int) (m : Mk) : Int → Int → Option Mk := fun a b => if a = o ∧ b = e then some m else k a b
/-- A right place. -/
def Pp (o e : Int) : Prop := 0 ≤ o ∧ o ≤ 63 ∧ 1 ≤ e ∧ e ≤ 65535
/-- What May answers. -/
def mayN (s : St) (i : Mg.Id4) : Nat :=
  if Mg.chkN i ≠ 0 then Mg.chkN i
  else if has (getM s.kept i.o i.e) i.c = true then 5
  else if i.c ≠ (getM s.kept i.o i.e).up + 1 ∧ s.gaps = s.room then 6 else 0
/-- The set behind Add. -/
def addS (s : St) (i : Mg.Id4) : St :=
  if mayN s i ≠ 0 then s
  else ⟨s.room, s.gaps + ((wth (getM s.kept i.o i.e) i.c).more.length - (getM s.kept i.o i.e).more.length), setM s.kept i.o i.e (wth (getM s.kept i.o i.e) i.c)⟩
def hasS (s : St) (i : Mg.Id4) : Bool := decide (Mg.chkN i = 0) && has (getM s.kept i.o i.e) i.c
/-- How many stand behind gaps, over places. -/
def total (k : Int → Int → Option Mk) (pl : List (Int × Int)) : Int := (pl.map fun p => ((getM k p.1 p.2).more.length : Int)).sum
/-- A set is right: its marks are, and gaps counts what stands behind them. -/
structure Okk (s : St) : Prop where
  r0 : 0 ≤ s.room
  r1 : s.room ≤ 256
  mkOk : ∀ o e m, s.kept o e = some m → Pp o e ∧ Ok m
  g1 : s.gaps ≤ s.room
  cnt : ∃ pl : List (Int × Int), pl.Nodup ∧ (∀ o e, (s.kept o e ≠ none ↔ (o, e) ∈ pl)) ∧ s.gaps = total s.kept pl
theorem ok_zero : Ok ⟨0, []⟩ := ⟨by simp, by simp, by simp, by simp⟩
theorem Okk.get {s : St} (h : Okk s) (o e : Int) : Ok (getM s.kept o e) := by
  unfold getM
  cases hk : s.kept o e with
  | none => exact ok_zero
  | some m => exact (h.mkOk o e m hk).2
theorem total_nonneg (k : Int → Int → Option Mk) : ∀ pl, 0 ≤ total k pl
  | [] => by simp [total]
  | p :: r => by
    have := total_nonneg k r
    unfold total at this ⊢
    simp only [List.map_cons, List.sum_cons]
    omega
theorem total_mem (k : Int → Int → Option Mk) : ∀ (pl : List (Int × Int)) (o e : Int), (o, e) ∈ pl → ((getM k o e).more.length : Int) ≤ total k pl
  | [], o, e, h => by simp at h
  | p :: r, o, e, h => by
    have h1 := total_nonneg k r
    unfold total at h1 ⊢
    simp only [List.map_cons, List.sum_cons]
    rcases List.mem_cons.1 h with rfl | h
    · simp only
      omega
    · have := total_mem k r o e h
      unfold total at this
      omega
theorem Okk.more_le {s : St} (h : Okk s) (o e : Int) : ((getM s.kept o e).more.length : Int) ≤ s.gaps := by
  obtain ⟨pl, _, h2, h3⟩ := h.cnt
  by_cases hk : s.kept o e = none
  · unfold getM
    rw [hk, h3]
    exact total_nonneg _ _
  · rw [h3]
    exact total_mem _ _ _ _ ((h2 o e).1 hk)
theorem Okk.g0 {s : St} (h : Okk s) : 0 ≤ s.gaps := by
  obtain ⟨pl, _, _, h3⟩ := h.cnt
  rw [h3]
  exact total_nonneg _ _
theorem get_set (k : Int → Int → Option Mk) (o e : Int) (m : Mk) : getM (setM k o e m) o e = m := by simp [getM, setM]
theorem get_set_ne (k : Int → Int → Option Mk) {o e a b : Int} (m : Mk) (h : ¬ (a = o ∧ b = e)) : getM (setM k o e m) a b = getM k a b := by simp [getM, setM, h]
theorem total_other (k : Int → Int → Option Mk) (o e : Int) (m : Mk) : ∀ pl : List (Int × Int), (o, e) ∉ pl → total (setM k o e m) pl = total k pl
  | [], _ => rfl
  | p :: r, h => by
    have := total_other k o e m r (fun h' => h (by simp [h']))
    unfold total at this ⊢
    simp only [List.map_cons, List.sum_cons]
    rw [this, get_set_ne k m (fun h' => h (by obtain ⟨h1, h2⟩ := h'; rw [List.mem_cons]; left; rw [← h1, ← h2]))]
theorem total_set (k : Int → Int → Option Mk) (o e : Int) (m : Mk) : ∀ pl : List (Int × Int), pl.Nodup → (o, e) ∈ pl → total (setM k o e m) pl = total k pl + (m.more.length - (getM k o e).more.length)
  | [], _, h => by simp at h
  | p :: r, hd, h => by
    rw [List.nodup_cons] at hd
    by_cases hp : p = (o, e)
    · subst hp
      have := total_other k o e m r hd.1
      unfold total at this ⊢
      simp only [List.map_cons, List.sum_cons]
      rw [this, get_set]
      omega
    · have h2 : (o, e) ∈ r := by
        rcases List.mem_cons.1 h with h | h
        · exact absurd h.symm hp
        · exact h
      have := total_set k o e m r hd.2 h2
      unfold total at this ⊢
      simp only [List.map_cons, List.sum_cons]
      rw [this, get_set_ne k m (fun h' => hp (by obtain ⟨h1, h2⟩ := h'; rw [← h1, ← h2]))]
      omega
end Go.Proofs.YtfnlhfelpdkieaaGreat.Se
