/- Lists of bytes that came in: what memory holds of them, and how many bytes they have together where their bulk is bounded. -/
import Derived.Test.YtohfoieibgmmdaaZ1
import Derived.Test.YtohfoieibgmmdaaZ3
import Derived.Deep.Matrix
namespace Go.Proofs.Ytohfoieibgmmdaa.Me
open Go.RowKit Go.Deep
open Go.ChangeShapes Go.WideShapes
set_option linter.unusedVariables false

def lsAt (ls : List (List Nat)) (j : Nat) : List Nat := ls.getD j []
/-- A slice's address leads to slices that lead, below block B, to these lists of bytes. -/
def Lst (w : World) (B : Nat) (a : Option Addr) (ls : List (List Nat)) : Prop :=
  0 < ls.length → ∃ b off, a = some ⟨b, off, none⟩ ∧ b < w.heap.size ∧ ∀ j, j < ls.length → ∃ A c, w.cell? ⟨b, off + j, none⟩ = some (.slice A (lsAt ls j).length c) ∧ (lsAt ls j).length ≤ c ∧ c ≤ 9223372036854775807 ∧ Rd w B A (lsAt ls j)
theorem Lst.bytes {w : World} {B : Nat} {a : Option Addr} {ls : List (List Nat)} (h : Lst w B a ls) : ∀ l ∈ ls, ∀ z ∈ l, z < 256 := by
  intro l hl z hz
  obtain ⟨j, hj, rfl⟩ := List.mem_iff_getElem.mp hl
  obtain ⟨_, _, _, _, hc⟩ := h (by omega)
  obtain ⟨_, _, _, _, _, hr⟩ := hc j hj
  refine hr.1 z ?_
  simpa [lsAt, hj] using hz
/-- The lists' slices that are nil have no room. -/
def Nils (w : World) (a : Option Addr) (ls : List (List Nat)) : Prop :=
  ∀ b off, a = some ⟨b, off, none⟩ → ∀ j, j < ls.length → ∀ n c, w.cell? ⟨b, off + j, none⟩ = some (.slice none n c) → n = 0 ∧ c = 0
theorem Lst.below {w w' : World} {B : Nat} {a : Option Addr} {ls : List (List Nat)} (h : Lst w B a ls) (hb : Below w.heap.size w w') (hB : B ≤ w.heap.size) : Lst w' B a ls := by
  intro hl
  obtain ⟨b, off, ha, hlt, hc⟩ := h hl
  refine ⟨b, off, ha, Nat.lt_of_lt_of_le hlt hb.size, fun j hj => ?_⟩
  obtain ⟨A, c, h1, h2, h3, h4⟩ := hc j hj
  exact ⟨A, c, (hb.cell (p := ⟨b, off + j, none⟩) hlt).trans h1, h2, h3, h4.below (hb.mono hB)⟩
theorem flat_step {ls : List (List Nat)} {k : Nat} (h : k < ls.length) : (ls.take (k + 1)).flatten = (ls.take k).flatten ++ lsAt ls k := by
  have e : lsAt ls k = ls[k] := by simp [lsAt, h]
  rw [List.take_succ_eq_append_getElem h, List.flatten_append, e]; simp
theorem flat_len (ls : List (List Nat)) (k : Nat) : (ls.take k).flatten.length ≤ ls.flatten.length := by
  conv => rhs; rw [← List.take_append_drop k ls, List.flatten_append, List.length_append]
  omega
theorem bulk_pos {H : Type} (d : DataW H) : 1 ≤ Rows.uptoBulk d := by
  cases d with
  | lit l => cases l <;> simp [Rows.uptoBulk]
  | nil => simp [Rows.uptoBulk]
  | ptr d => simp [Rows.uptoBulk]
  | slice elems spare => simp [Rows.uptoBulk]
  | agg parts => simp [Rows.uptoBulk]
  | iface t d => simp [Rows.uptoBulk]
  | map entries => simp [Rows.uptoBulk]
  | held h => simp [Rows.uptoBulk]
theorem bulk_append {H : Type} (l r : List (DataW H)) : Rows.uptoBulkAll (l ++ r) = Rows.uptoBulkAll l + Rows.uptoBulkAll r := by
  induction l with
  | nil => simp [Rows.uptoBulkAll]
  | cons x l ih => simp only [List.cons_append, Rows.uptoBulkAll, ih]; omega
theorem bulk_length {H : Type} (l : List (DataW H)) : l.length ≤ Rows.uptoBulkAll l := by
  induction l with
  | nil => simp [Rows.uptoBulkAll]
  | cons x r ih => have := bulk_pos x; simp only [Rows.uptoBulkAll, List.length_cons]; omega
theorem bulk_row {H : Type} {k : IntKind} (A : Option Addr) (L : Nat) (zs : List Int) (hL : L ≤ zs.length) (hA : A = none → L = 0) : L + 1 ≤ Rows.uptoBulk (intRow (H := H) k A L zs) := by
  rcases A with _ | a
  · rw [hA rfl]; exact bulk_pos _
  · have h := bulk_length (lits (H := H) k (zs.take L))
    simp only [intRow, Rows.uptoBulk]
    simp only [lits, List.length_map, List.length_take] at h ⊢
    omega
def rowsOf (L : Nat → Nat) (Z : Nat → List Int) (n : Nat) : List (List Nat) := (List.range n).map fun r => ((Z r).take (L r)).map Int.toNat
theorem rows_bulk {H : Type} (A : Nat → Option Addr) (L : Nat → Nat) (Z : Nat → List Int) : ∀ n, (∀ r, r < n → L r ≤ (Z r).length ∧ (A r = none → L r = 0)) →
    (rowsOf L Z n).flatten.length + n ≤ Rows.uptoBulkAll ((List.range n).map fun r => intRow (H := H) .u8 (A r) (L r) (Z r))
  | 0, _ => by simp [rowsOf]
  | n + 1, h => by
    have ih := rows_bulk (H := H) A L Z n fun r hr => h r (by omega)
    have h1 := h n (by omega)
    have h2 := bulk_row (H := H) (k := .u8) (A n) (L n) (Z n) h1.1 h1.2
    unfold rowsOf at ih ⊢
    rw [List.range_succ, List.map_append, List.flatten_append, List.length_append, List.map_append, bulk_append]
    simp only [List.map_cons, List.map_nil, List.flatten_cons, List.flatten_nil, List.append_nil, List.length_map, List.length_take, Rows.uptoBulkAll]
    omega
theorem rows_at (L : Nat → Nat) (Z : Nat → List Int) {n j : Nat} (h : j < n) : lsAt (rowsOf L Z n) j = ((Z j).take (L j)).map Int.toNat := by
  simp [lsAt, rowsOf, h]
/-- Bytes that came in have at most the room that their bulk says. -/
theorem bulk_cap {H : Type} {enc : TypeId × Value → H} {w : World} {base fuel : Nat} {held : Bool} {a : Option Addr} {len cap : Nat} {d : DataW H} {pl : List MemPlace}
    (h : DataW.trod enc Try.prog w base (fun _ => true) held fuel 24 [.slice a len cap] = some (d, pl)) : cap ≤ Rows.uptoBulk d := by
  rcases open_ints Try.underlying24 Try.underlying5 (by kernel_rfl) h with ⟨hcs, _⟩ | ⟨x, l, c, zs, hcs, _, hl, hm, hz, hx, hcell, hwz⟩
  · simp at hcs
    obtain ⟨rfl, rfl, rfl⟩ := hcs
    exact Nat.zero_le _
  · simp at hcs
    obtain ⟨rfl, rfl, rfl⟩ := hcs
    simp only [Prod.mk.injEq] at hx
    obtain ⟨rfl, _⟩ := hx
    have h1 := bulk_length (lits (H := H) .u8 (zs.take len))
    have h2 := bulk_length (lits (H := H) .u8 (zs.drop len))
    have hz' : zs.length = cap := by simpa using hz
    simp only [Rows.uptoBulk]
    simp only [lits, List.length_map, List.length_take, List.length_drop] at h1 h2 ⊢
    omega
end Go.Proofs.Ytohfoieibgmmdaa.Me
/- Memory for decoders: what a change leaves alone; slices of slices whose blocks bear a property; appends that tell where the new slice lies. -/
namespace Go.Proofs.Ytohfoieibgmmdaa.Hd
open Go.RowKit
open Go.Proofs.Ytohfoieibgmmdaa.Me
set_option linter.unusedVariables false

/-- All lies as it lay in w, but for what lies in the blocks S, and for new ones. -/
structure But (S : Nat → Prop) (w X : World) : Prop where
  os : X.os = w.os
  tape : X.tape = w.tape
  output : X.output = w.output
  size : w.heap.size ≤ X.heap.size
  same : ∀ k, k < w.heap.size → ¬ S k → X.heap[k]? = w.heap[k]?
theorem But.refl (S : Nat → Prop) (w : World) : But S w w := ⟨rfl, rfl, rfl, Nat.le_refl _, fun _ _ _ => rfl⟩
theorem But.trans {S S' : Nat → Prop} {w X Y : World} (h : But S w X) (k : But S' X Y) (hS : ∀ b, b < w.heap.size → S' b → S b) : But S w Y :=
  ⟨k.os.trans h.os, k.tape.trans h.tape, k.output.trans h.output, Nat.le_trans h.size k.size, fun b hb hn => (k.same b (Nat.lt_of_lt_of_le hb h.size) (fun hs => hn (hS b hb hs))).trans (h.same b hb hn)⟩
theorem But.mono {S S' : Nat → Prop} {w X : World} (h : But S w X) (hS : ∀ b, b < w.heap.size → S b → S' b) : But S' w X :=
  ⟨h.os, h.tape, h.output, h.size, fun b hb hn => h.same b hb (fun hs => hn (hS b hb hs))⟩
theorem But.of_below {S : Nat → Prop} {w X : World} (h : Below w.heap.size w X) : But S w X := ⟨h.os, h.tape, h.output, h.size, fun b hb _ => h.block b hb⟩
theorem But.below {S : Nat → Prop} {w X : World} {B : Nat} (h : But S w X) (hB : B ≤ w.heap.size) (hS : ∀ k, S k → B ≤ k) : Below B w X :=
  ⟨h.os, h.tape, h.output, h.size, fun k hk => h.same k (by omega) (fun hs => by have := hS k hs; omega)⟩
theorem But.grown {S : Nat → Prop} {w X Y : World} {row : Option Nat} (h : But S w X) (hg : X.grownBy Y row) (hr : ∀ r, row = some r → S r ∨ w.heap.size ≤ r) : But S w Y :=
  ⟨hg.os.trans h.os, hg.tape.trans h.tape, hg.output.trans h.output, Nat.le_trans h.size hg.size, fun k hk hS => (hg.block k (Nat.lt_of_lt_of_le hk h.size) (fun e => by
    rcases hr k e.symm with h1 | h1
    · exact hS h1
    · omega)).trans (h.same k hk hS)⟩
theorem grown_set (W : World) (p : Addr) (v : Value) : W.grownBy (W.setCell p v) (some p.block) :=
  ⟨rfl, rfl, rfl, by simp, fun k _ hk => Below.heap_setCell _ _ _ k (fun e => hk (by rw [e]))⟩
theorem But.set {S : Nat → Prop} {w X : World} (h : But S w X) {p : Addr} (hp : S p.block ∨ w.heap.size ≤ p.block) (u : Value) : But S w (X.setCell p u) :=
  h.grown (grown_set X p u) fun r e => by cases e; exact hp
theorem But.alloc {S : Nat → Prop} {w X : World} (h : But S w X) (o : Obj) : But S w (X.alloc o) := h.grown (World.grownBy_alloc X o none) (by simp)
theorem But.at_ {S : Nat → Prop} {w X : World} {b : Nat} {o : Obj} (h : But S w X) (hb : w.heap[b]? = some o) (hS : ¬ S b) : X.heap[b]? = some o := (h.same b (Array.getElem?_eq_some_iff.1 hb).1 hS).trans hb
/-- Bytes that came in lie on where their block is none of S. -/
theorem But.rd {S : Nat → Prop} {w X : World} {A : Option Addr} {l : List Nat} (h : But S w X) (hr : Rd w w.heap.size A l) (hS : ∀ a, A = some a → ¬ S a.block) : Rd X X.heap.size A l :=
  ⟨hr.1, fun hl => by
    obtain ⟨b, off, e, h1, hc⟩ := hr.2 hl
    refine ⟨b, off, e, Nat.lt_of_lt_of_le h1 h.size, fun i hi => ?_⟩
    exact (World.cell?_of_block (w := w) (a := ⟨b, off + i, none⟩) (h.same b h1 (hS _ e))).trans (hc i hi)⟩
theorem own_same {w w' : World} {B T s n : Nat} {v : Value} {xs : List Value} (h : w.ownsRow B T s v n xs) (hk : ∀ k, v.ownBlock = some k → k < w.heap.size → w'.heap[k]? = w.heap[k]?) : w'.ownsRow B T s v n xs := by
  refine ⟨h.1, ?_⟩
  rcases h.2 with h' | ⟨g, cap, cur, rfl, q2, q3, q4⟩
  · exact .inl h'
  · exact .inr ⟨g, cap, cur, rfl, q2, (hk g rfl (Array.getElem?_eq_some_iff.1 q3).1).trans q3, q4⟩
theorem own_base {w : World} {B B' T s n : Nat} {v : Value} {xs : List Value} (h : w.ownsRow B T s v n xs) (hB : ∀ k, v.ownBlock = some k → B' ≤ k) : w.ownsRow B' T s v n xs := by
  refine ⟨h.1, ?_⟩
  rcases h.2 with h' | ⟨g, cap, cur, rfl, q2, q3, q4⟩
  · exact .inl h'
  · exact .inr ⟨g, cap, cur, rfl, hB g rfl, q3, q4⟩
theorem own_lt {w : World} {B T s n : Nat} {v : Value} {xs : List Value} (h : w.ownsRow B T s v n xs) : ∀ k, v.ownBlock = some k → k < w.heap.size := fun k e => (h.lt k e).2
/-- A slice of one's own cut to its first k bytes. -/
theorem Own.cut {w : World} {B n c : Nat} {A : Option Addr} {l : List Nat} (h : Me.Own w B (.slice A n c) l) {k : Nat} (hk : k ≤ l.length) : Me.Own w B (.slice A k c) (l.take k) := by
  have hl : (l.take k).length = k := by simp; omega
  unfold Me.Own
  rw [hl]
  refine ⟨by simp; omega, ?_⟩
  rcases h.2 with ⟨h1, h2⟩ | ⟨g, cap, cur, h1, q2, q3, q4, q5, q6, q7⟩
  · simp only [Value.slice.injEq] at h1
    obtain ⟨rfl, rfl, rfl⟩ := h1
    obtain rfl : k = 0 := by omega
    exact .inl ⟨rfl, rfl⟩
  · simp only [Value.slice.injEq] at h1
    obtain ⟨rfl, rfl, rfl⟩ := h1
    refine .inr ⟨g, c, cur, rfl, q2, q3, by omega, q5, q6, ?_⟩
    rw [Nat.mul_one] at q7 ⊢
    rw [List.map_take, ← q7, List.take_take]
    congr 1; omega
theorem own_len {w : World} {B n c : Nat} {A : Option Addr} {l : List Nat} (h : Me.Own w B (.slice A n c) l) : n = l.length := by
  rcases h.2 with ⟨h1, h2⟩ | ⟨g, cap, cur, h1, _⟩
  · injection h1 with _ h3 _; omega
  · injection h1
theorem own_rd {w : World} {B n c : Nat} {A : Option Addr} {l : List Nat} (h : Me.Own w B (.slice A n c) l) (hl : ∀ z ∈ l, z < 256) : Rd w w.heap.size A l ∧ (A = none → l.length = 0 ∧ c = 0) ∧ l.length ≤ c ∧ c ≤ 9223372036854775807 := by
  obtain ⟨A', c', e, h1, h2, h3⟩ := h.held hl
  simp only [Value.slice.injEq] at e
  obtain ⟨rfl, rfl, rfl⟩ := e
  exact ⟨h3.rd, h3.2.2, h1, h2⟩
/-! ### Appends that tell where the new slice lies -/
theorem run_append_own2 {P : Program} {w : World} (t ty e : TypeId) (i : TypeInfo) (z : Value) (bytes : Nat) (ht : P.underlying t = some (.slice e)) (hi : P.info? e = some i) (hz : i.zero = some z)
    (hsize : i.size = 1) (hby : i.bytes = bytes) (hzs : z.cells.size = 1)
    (v : Value) (n : Nat) (xs : List Value) (hown : w.ownsRow 0 e 1 v n xs)
    (a : Addr) (m c : Nat) (news : List Value) (hl : news.length = m * 1) (hnews : ∀ j u, news[j]? = some u → w.cell? (a.add j) = some u) (h1 : ∀ u ∈ news, u.oneCell' = true)
    (h63 : n + m ≤ maxLen) (hbytes : (n + m) * bytes ≤ 140737488355328) :
    ∃ v' w', (Builtin.append_ #[t, t] ty #[v, .slice (some a) m c]).run P w = .ok v' w' ∧ w'.ownsRow 0 e 1 v' (n + m) (xs ++ news) ∧ w.grownBy w' v.ownBlock ∧ (∀ k, v'.ownBlock = some k → v.ownBlock = some k ∨ w.heap.size ≤ k) := by
  obtain ⟨v', w', hr, h2, h3, _⟩ := run_append_own (P := P) w 0 t ty e i z 1 bytes ht hi hz hsize hby hzs (by decide) v n xs hown a m c news hl hnews h1 h63 hbytes (Nat.zero_le _)
  refine ⟨v', w', hr, h2, h3, ?_⟩
  have hsmall : n + m ≤ 9223372036854775807 := by simp only [maxLen] at h63; omega
  rcases hown.2 with ⟨rfl, rfl⟩ | ⟨g, cap, cur, rfl, hbg, hg, hnc, hcm, hcs, htake⟩
  · have hx : xs = [] := List.eq_nil_of_length_eq_zero (by simpa using hown.1)
    subst hx
    obtain ⟨v2, w2, hr2, h4, _, _⟩ := run_append_own (P := P) w w.heap.size t ty e i z 1 bytes ht hi hz hsize hby hzs (by decide) (.slice none 0 0) 0 [] ⟨rfl, .inl ⟨rfl, rfl⟩⟩ a m c news hl hnews h1 h63 hbytes (Nat.le_refl _)
    rw [hr] at hr2
    injection hr2 with e1 e2
    subst e1 e2
    exact fun k hk => .inr (h4.lt k hk).1
  · intro k hk
    by_cases hroom : n + m ≤ cap
    · have hr2 := run_append_room (P := P) w t ty e i ht hi g n cap cur hg a m c news (by rw [hl, hsize]) hnews h1 hroom (by rw [hsize, hl]; omega)
      rw [hr] at hr2
      injection hr2 with e1 e2
      subst e1
      exact .inl hk
    · have hr2 := run_append_grow (P := P) w t ty e i z ht hi hz ⟨g, 0, none⟩ n cap xs (by rw [hsize]; exact hown.1) (hown.cells (g := g) rfl) a m c news (by rw [hl, hsize]) hnews (by omega) (by omega) (growslice_fits (by omega) (by rw [hby]; exact hbytes))
      rw [hr] at hr2
      injection hr2 with e1 e2
      subst e1
      simp only [Value.ownBlock, Option.some.injEq] at hk
      exact .inr (by omega)
theorem wpList_append_own2 {P : Program} {w : World} {ops : Array Oper} {rest : List Oper} {o : Oper} {a : Act} {Q : Exit → Act → World → Prop} (hgd : o.guard = none) (s x : Operand) (t : TypeId)
    (ho : o.op = .call { callee := .builtin .append, args := #[s, x], argTypes := #[t, t] })
    (e : TypeId) (i : TypeInfo) (z : Value) (bytes : Nat) (ht : P.underlying t = some (.slice e)) (hi : P.info? e = some i) (hz : i.zero = some z)
    (hsize : i.size = 1) (hby : i.bytes = bytes) (hzs : z.cells.size = 1)
    (v : Value) (n : Nat) (xs : List Value) (hs : a.eval s = v) (hown : w.ownsRow 0 e 1 v n xs)
    (ad : Addr) (m c : Nat) (news : List Value) (hx : a.eval x = .slice (some ad) m c) (hl : news.length = m * 1) (hnews : ∀ j u, news[j]? = some u → w.cell? (ad.add j) = some u) (h1 : ∀ u ∈ news, u.oneCell' = true)
    (h63 : n + m ≤ maxLen) (hbytes : (n + m) * bytes ≤ 140737488355328)
    (h : ∀ v' w', w'.ownsRow 0 e 1 v' (n + m) (xs ++ news) → w.grownBy w' v.ownBlock → (∀ k, v'.ownBlock = some k → v.ownBlock = some k ∨ w.heap.size ≤ k) → wpList P ops Q rest (a.put o.dst v') w') : wpList P ops Q (o :: rest) a w := by
  refine wpList_plain hgd fun K hK => ?_
  obtain ⟨v', w', hr, h2, h3, h4⟩ := run_append_own2 (P := P) (w := w) t o.type e i z bytes ht hi hz hsize hby hzs v n xs hown ad m c news hl hnews h1 h63 hbytes
  unfold Oper.wp execOp
  simp only [ho, resolve, invoke, builtin, Sem.run_bind, Sem.run_pure, Result.andThen_ok, List.map_toArray, List.map_cons, List.map_nil, hs, hx, hr]
  exact hK _ _ (h v' w' h2 h3 h4)
/-- Bytes appended to bytes of one's own. -/
theorem app8q {w : World} {ops : Array Oper} {rest : List Oper} {o : Oper} {a : Act} {Q : Exit → Act → World → Prop} (hgd : o.guard = none) (s x : Operand)
    (ho : o.op = .call { callee := .builtin .append, args := #[s, x], argTypes := #[24, 24] })
    (Bx : Nat) (v : Value) (l r : List Nat) (hs : a.eval s = v) (hown : Me.Own w 0 v l)
    (A : Option Addr) (c : Nat) (hx : a.eval x = .slice A r.length c) (hr : Rd w Bx A r) (hA : A = none → r.length = 0 ∧ c = 0) (hlen : l.length + r.length ≤ 140737488355328)
    (h : ∀ v' w', Me.Own w' 0 v' (l ++ r) → w.grownBy w' v.ownBlock → (∀ k, v'.ownBlock = some k → v.ownBlock = some k ∨ w.heap.size ≤ k) → wpList Try.prog ops Q rest (a.put o.dst v') w') : wpList Try.prog ops Q (o :: rest) a w := by
  obtain ⟨i0, hi, hz0, hz1, hz2⟩ := info_parts info8
  rcases A with _ | ad
  · obtain ⟨h1, rfl⟩ := hA rfl
    obtain rfl : r = [] := List.eq_nil_of_length_eq_zero h1
    refine wpList_append_own_none hgd s x 24 ho 0 5 i0 1 Try.underlying24 hi v l.length (l.map byV) hs hown hx ?_
    exact h v w (by rw [List.append_nil]; exact hown) ⟨rfl, rfl, rfl, Nat.le_refl _, fun _ _ _ => rfl⟩ (fun k e => .inl e)
  · refine wpList_append_own2 hgd s x 24 ho 5 i0 (.int .u8 0) 1 Try.underlying24 hi hz0 hz1 hz2 rfl v l.length (l.map byV) hs hown ad r.length c (r.map byV) hx (len_map r) (rd_cells hr (Below.refl _ _)) (one_cells _) (by unfold maxLen; omega) (by omega) ?_
    intro v' w' h1 h2 h3
    refine h v' w' ?_ h2 h3
    unfold Me.Own
    rw [List.length_append, List.map_append]; exact h1
/-! ### Slices of slices -/
theorem info24 : (Try.prog.info? 24).map (fun i => (i.zero, i.size, i.bytes)) = some (some (.slice none 0 0), 1, 24) := by kernel_rfl
/-- Slices of one's own, in a slice of one's own, with these bytes; each block bears P. -/
def Rws (P : Nat → Prop) (w : World) (v : Value) (ps : List (List Nat)) : Prop :=
  ∃ vs : List Value, w.ownsRow 0 24 1 v ps.length vs ∧ (∀ k, v.ownBlock = some k → P k) ∧ vs.length = ps.length ∧ ∀ j, j < ps.length → ∃ A c, vs[j]? = some (.slice A (lsAt ps j).length c) ∧ Me.Own w 0 (.slice A (lsAt ps j).length c) (lsAt ps j) ∧ ∀ a, A = some a → P a.block
theorem Rws.nil (P : Nat → Prop) (w : World) : Rws P w (.slice none 0 0) [] := ⟨[], ⟨rfl, .inl ⟨rfl, rfl⟩⟩, (fun k e => by cases e), rfl, fun j hj => absurd hj (by simp)⟩
theorem Rws.lit (P : Nat → Prop) (w : World) (hP : P w.heap.size) : Rws P (w.alloc (.cells #[] 24)) (.slice (some ⟨w.heap.size, 0, none⟩) 0 0) [] :=
  ⟨[], World.ownsRow_made w #[] 0 (Nat.zero_le _) (by unfold maxLen; omega) rfl, (fun k e => by cases e; exact hP), rfl, fun j hj => absurd hj (by simp)⟩
theorem Rws.mono {P P' : Nat → Prop} {w : World} {v : Value} {ps : List (List Nat)} (h : Rws P w v ps) (hP : ∀ k, k < w.heap.size → P k → P' k) : Rws P' w v ps := by
  obtain ⟨vs, h1, h2, h3, h4⟩ := h
  refine ⟨vs, h1, fun k e => hP k (own_lt h1 k e) (h2 k e), h3, fun j hj => ?_⟩
  obtain ⟨A, c, e, h5, h6⟩ := h4 j hj
  exact ⟨A, c, e, h5, fun a ea => hP _ (own_lt h5 _ (by rw [ea]; rfl)) (h6 a ea)⟩
theorem Rws.kept {P : Nat → Prop} {w w' : World} {v : Value} {ps : List (List Nat)} (h : Rws P w v ps) (hk : ∀ k, P k → k < w.heap.size → w'.heap[k]? = w.heap[k]?) : Rws P w' v ps := by
  obtain ⟨vs, h1, h2, h3, h4⟩ := h
  refine ⟨vs, own_same h1 fun k e => hk k (h2 k e), h2, h3, fun j hj => ?_⟩
  obtain ⟨A, c, e, h5, h6⟩ := h4 j hj
  refine ⟨A, c, e, own_same h5 fun k e => hk k ?_, h6⟩
  cases A with
  | none => cases e
  | some a => cases e; exact h6 a rfl
theorem Rws.but {P S : Nat → Prop} {w w' : World} {v : Value} {ps : List (List Nat)} (h : Rws P w v ps) (hb : But S w w') (hS : ∀ k, P k → ¬ S k) : Rws P w' v ps := h.kept fun k hp hk => hb.same k hk (hS k hp)
theorem Rws.below {P : Nat → Prop} {w w' : World} {v : Value} {ps : List (List Nat)} (h : Rws P w v ps) (hb : Below w.heap.size w w') : Rws P w' v ps := h.kept fun k _ hk => hb.block k hk
theorem two_types {w : World} {B B' T T' n n' : Nat} {v v' : Value} {xs xs' : List Value} (h : w.ownsRow B T 1 v n xs) (h' : w.ownsRow B' T' 1 v' n' xs') (hT : T ≠ T') : v.ownBlock = none ∨ v.ownBlock ≠ v'.ownBlock := by
  rcases h.2 with ⟨rfl, _⟩ | ⟨g, cap, cur, rfl, _, h3, _⟩
  · exact .inl rfl
  · right
    rcases h'.2 with ⟨rfl, _⟩ | ⟨g', cap', cur', rfl, _, h3', _⟩
    · simp [Value.ownBlock]
    · intro e
      obtain rfl : g = g' := by simpa [Value.ownBlock] using e
      rw [h3] at h3'
      simp at h3'
      exact hT h3'.2
theorem lsAt_append_left {ps qs : List (List Nat)} {j : Nat} (h : j < ps.length) : lsAt (ps ++ qs) j = lsAt ps j := by
  simp [lsAt, List.getElem?_append_left h]
theorem lsAt_append_right {ps qs : List (List Nat)} {j : Nat} (h : ¬ j < ps.length) : lsAt (ps ++ qs) j = lsAt qs (j - ps.length) := by
  simp [lsAt, List.getElem?_append_right (by omega : ps.length ≤ j)]
/-- Some slices appended to such. -/
theorem Rws.more {P : Nat → Prop} {w w' : World} {v v' : Value} {ps qs : List (List Nat)} {vs us : List Value} (h1 : w.ownsRow 0 24 1 v ps.length vs) (h2 : vs.length = ps.length)
    (h3 : ∀ j, j < ps.length → ∃ A c, vs[j]? = some (.slice A (lsAt ps j).length c) ∧ Me.Own w 0 (.slice A (lsAt ps j).length c) (lsAt ps j) ∧ ∀ a, A = some a → P a.block)
    (h5 : us.length = qs.length) (h6 : ∀ j, j < qs.length → ∃ A c, us[j]? = some (.slice A (lsAt qs j).length c) ∧ Me.Own w 0 (.slice A (lsAt qs j).length c) (lsAt qs j) ∧ ∀ a, A = some a → P a.block)
    (h7 : w'.ownsRow 0 24 1 v' (ps.length + qs.length) (vs ++ us)) (hg : w.grownBy w' v.ownBlock) (hP : ∀ k, v'.ownBlock = some k → P k) : Rws P w' v' (ps ++ qs) := by
  refine ⟨vs ++ us, by simpa using h7, hP, by simp [h2, h5], fun j hj => ?_⟩
  simp only [List.length_append] at hj
  by_cases hlt : j < ps.length
  · obtain ⟨A', c', e, h8, h9⟩ := h3 j hlt
    rw [lsAt_append_left hlt]
    exact ⟨A', c', by rw [List.getElem?_append_left (by omega)]; exact e, h8.kept hg (two_types h8 h1 (by decide)), h9⟩
  · obtain ⟨A', c', e, h8, h9⟩ := h6 (j - ps.length) (by omega)
    rw [lsAt_append_right hlt]
    refine ⟨A', c', by rw [List.getElem?_append_right (by omega), h2]; exact e, h8.kept hg (two_types h8 h1 (by decide)), h9⟩
/-- What such slices hold can be read. -/
theorem Rws.lst {P : Nat → Prop} {w : World} {v : Value} {ps : List (List Nat)} (h : Rws P w v ps) (hb : ∀ l ∈ ps, ∀ z ∈ l, z < 256) : ∃ A c, v = .slice A ps.length c ∧ ps.length ≤ c ∧ c ≤ 9223372036854775807 ∧ Lst w w.heap.size A ps ∧ Nils w A ps ∧ (A = none → ps = [] ∧ c = 0) := by
  obtain ⟨vs, h1, h1p, h2, h3⟩ := h
  have hat : ∀ j, j < ps.length → ∀ z ∈ lsAt ps j, z < 256 := fun j hj => hb _ (by simp [lsAt, hj])
  rcases h1.2 with ⟨rfl, e0⟩ | ⟨g, cap, cur, rfl, q2, q3, q4, q5, q6, q7⟩
  · obtain rfl : ps = [] := List.eq_nil_of_length_eq_zero e0
    exact ⟨none, 0, rfl, Nat.le_refl _, Nat.zero_le _, fun hl => absurd hl (by simp), fun _ _ _ j hj => absurd hj (by simp), fun _ => ⟨rfl, rfl⟩⟩
  · have hcell : ∀ j, j < ps.length → ∃ A c, w.cell? ⟨g, 0 + j, none⟩ = some (.slice A (lsAt ps j).length c) ∧ Me.Own w 0 (.slice A (lsAt ps j).length c) (lsAt ps j) := by
      intro j hj
      obtain ⟨A, c, e, h4, _⟩ := h3 j hj
      refine ⟨A, c, ?_, h4⟩
      rw [Nat.zero_add, h1.cellAt j (by omega)]
      exact e
    refine ⟨some ⟨g, 0, none⟩, cap, rfl, q4, by unfold maxLen at q5; omega, fun hl => ⟨g, 0, rfl, own_lt h1 g rfl, fun j hj => ?_⟩, ?_, fun e => by cases e⟩
    · obtain ⟨A, c, e, h4⟩ := hcell j hj
      obtain ⟨r1, r2, r3, r4⟩ := own_rd h4 (hat j hj)
      exact ⟨A, c, e, r3, r4, r1⟩
    · intro b off e j hj n c hc
      simp only [Option.some.injEq, Addr.mk.injEq, and_true] at e
      obtain ⟨rfl, rfl⟩ := e
      obtain ⟨A, c', e', h4⟩ := hcell j hj
      rw [hc] at e'
      simp only [Option.some.injEq, Value.slice.injEq] at e'
      obtain ⟨rfl, rfl, rfl⟩ := e'
      obtain ⟨r1, r2, r3, r4⟩ := own_rd h4 (hat j hj)
      exact r2 rfl
end Go.Proofs.Ytohfoieibgmmdaa.Hd
/- Bytes of one's own appended in a drawn region; a message's box beside them. -/
namespace Go.Proofs.Ytohfoieibgmmdaa.Mg
open Go.RowKit
open Go.Proofs.Ytohfoieibgmmdaa.Me Go.Proofs.Ytohfoieibgmmdaa.Hd
set_option linter.unusedVariables false
set_option linter.unusedSimpArgs false

/-- Bytes appended to bytes of the call's own, as one operation; nothing but new memory is made. -/
theorem app8b {w0 w : World} {o : Oper} {a : Act} {K : Act → World → Prop} {Q : Exit → Act → World → Prop} (s x : Operand)
    (ho : o.op = .call { callee := .builtin .append, args := #[s, x], argTypes := #[24, 24] })
    (B Bx : Nat) (v : Value) (l r : List Nat) (hs : a.eval s = v) (hown : Me.Own w B v l) (hb : Below B w0 w) (hB : B ≤ w.heap.size)
    (A : Option Addr) (c : Nat) (hx : a.eval x = .slice A r.length c) (hr : Rd w Bx A r) (hA : A = none → r.length = 0 ∧ c = 0) (hlen : l.length + r.length ≤ 140737488355328)
    (h : ∀ v' w', Me.Own w' B v' (l ++ r) → Below B w0 w' → w.grownBy w' v.ownBlock → K (a.put o.dst v') w') : o.wp Try.prog a w K Q := by
  obtain ⟨i0, hi, hz0, hz1, hz2⟩ := info_parts info8
  rcases A with _ | ad
  · obtain ⟨h1, rfl⟩ := hA rfl
    obtain rfl : r = [] := List.eq_nil_of_length_eq_zero h1
    have hrun := run_append_owned_none (P := Try.prog) (w := w) B 24 o.type 5 i0 1 Try.underlying24 hi v l.length (l.map byV) hown
    have hh := h v w (by rw [List.append_nil]; exact hown) hb ⟨rfl, rfl, rfl, Nat.le_refl _, fun _ _ _ => rfl⟩
    unfold Oper.wp
    simp [execOp, ho, resolve, invoke, builtin, hs, hx, hrun, Result.andThen]
    exact hh
  · refine wp_append_own w s x 24 ho B 5 i0 (.int .u8 0) 1 1 Try.underlying24 hi hz0 hz1 hz2 rfl (by decide) v l.length (l.map byV) hs hown ad r.length c (r.map byV) hx (len_map r) (rd_cells hr (Below.refl _ _)) (one_cells _) (by unfold maxLen; omega) (by omega) hB ?_
    intro v' w' h1 h2 _
    refine h v' w' ?_ (hb.grown h2 hB fun k hk => (hown.lt k hk).1) h2
    unfold Me.Own
    rw [List.length_append, List.map_append]; exact h1
/-- Bytes of one's own lie in no box of a message. -/
theorem own_ne {V : World} {B D : Nat} {v : Value} {l : List Nat} {old : Array Value} {f : Nat × Nat} (h : Me.Own V B v l) (hD : V.heap[D]? = some (.cells old 26 f)) : v.ownBlock ≠ some D := by
  rcases h.2 with ⟨h1, _⟩ | ⟨g, cap, cur, h1, h2, h3, _⟩
  · rw [h1]; intro e; cases e
  · rw [h1]
    intro e
    have e : g = D := by simpa [Value.ownBlock] using e
    subst e
    rw [h3] at hD
    injection hD with hD
    injection hD with _ hT _
    exact absurd hT (by decide)
theorem box_put {V W0 V2 : World} {B D : Nat} {v : Value} {l : List Nat} {old cs : Array Value} (h : Me.Own V B v l) (hD : V.heap[D]? = some (.cells old 26 (0, 0))) (hb : Below W0.heap.size W0 V) (hd : W0.heap.size ≤ D) (hV2 : V.setRow D cs = V2) :
    V2.heap[D]? = some (.cells cs 26 (0, 0)) ∧ Me.Own V2 B v l ∧ Below W0.heap.size W0 V2 := by
  subst hV2
  have hne := own_ne h hD
  refine ⟨setRow_heap _ _ _ _ _ _ hD, own_same h fun k hk _ => setRow_other _ _ k _ (fun e => hne (by rw [hk, e])), hb.os, hb.tape, hb.output, by simpa using hb.size, fun b hb2 => (setRow_other _ _ b _ (by omega)).trans (hb.block b hb2)⟩
theorem bx_row {W : World} {D : Nat} {o d e c : Int} {A : Option Addr} {n k : Nat} (h : W.heap[D]? = some (.cells #[.int .i64 o, .int .i64 d, .int .i64 e, .int .i64 c, .slice A n k] 26 (0, 0))) : W.cell? ⟨D, 0, none⟩ = some (.int .i64 o) ∧ W.cell? ⟨D, 1, none⟩ = some (.int .i64 d) ∧ W.cell? ⟨D, 2, none⟩ = some (.int .i64 e) ∧ W.cell? ⟨D, 3, none⟩ = some (.int .i64 c) ∧ W.cell? ⟨D, 4, none⟩ = some (.slice A n k) := by
  refine ⟨?_, ?_, ?_, ?_, ?_⟩
  all_goals
    rw [cell_of_row _ D _ _ _ (0, 0) h]
    rfl
/-- The law's own copy: n bytes, whatever they are. -/
def Giv (w : World) (v : Value) (n : Nat) : Prop := ∃ ys : List Nat, ys.length = n ∧ (∀ y ∈ ys, y < 256) ∧ Me.Own w 0 v ys
theorem Giv.cell {w : World} {A : Option Addr} {n c k : Nat} (h : Giv w (.slice A n c) n) (hk : k < n) : ∃ g y : Nat, A = some ⟨g, 0, none⟩ ∧ y ≤ 255 ∧ w.cell? ⟨g, k, none⟩ = some (.int .u8 (y : Int)) ∧ w.frozen? ⟨g, k, none⟩ = false ∧ (Value.slice A n c).ownBlock = some g := by
  obtain ⟨ys, h1, h2, h3⟩ := h
  obtain ⟨g, c', e, _, _⟩ := h3.form (by omega)
  simp only [Value.slice.injEq] at e
  obtain ⟨rfl, _, rfl⟩ := e
  obtain ⟨a, b⟩ := h3.cell (i := k) (by omega)
  have := h2 (by_ ys k) (by rw [by_get (by omega)]; exact List.getElem_mem _)
  exact ⟨g, by_ ys k, rfl, by omega, a, b, rfl⟩
theorem Giv.put {w : World} {g n c k y : Nat} (h : Giv w (.slice (some ⟨g, 0, none⟩) n c) n) (hy : y < 256) : Giv (w.setCell ⟨g, k, none⟩ (.int .u8 (y : Int))) (.slice (some ⟨g, 0, none⟩) n c) n := by
  obtain ⟨ys, h1, h2, h3⟩ := h
  refine ⟨ys.set k y, by simpa using h1, ?_, h3.store k y⟩
  intro z hz
  rcases List.mem_or_eq_of_mem_set hz with h | h
  · exact h2 z h
  · omega
theorem turn8 {y : Nat} (h : y ≤ 255) : IntKind.u8.wrap (255 - (y : Int)) = ((255 - y : Nat) : Int) := by
  have e : (255 : Int) - (y : Int) = ((255 - y : Nat) : Int) := by omega
  rw [e]; exact wrap8 (by unfold U8; omega)
theorem conv_own {W W2 : World} {B c : Nat} {A : Option Addr} {L : List Nat} (h : Me.Own W B (.slice A L.length c) L) (hl : ∀ z ∈ L, z < 256) (hb : Below W.heap.size W W2) : (convert 24 9 (.slice A L.length c)).run Try.prog W2 = .ok (.string (strOf L)) W2 := by
  obtain ⟨r1, r2, _, _⟩ := own_rd (own_same h fun k _ hk => hb.block k hk) hl
  exact conv_rd W2 _ A L c r1 r2
theorem msg_one (o d e c : Int) (A : Option Addr) (n k : Nat) : (#[.int .i64 o, .int .i64 d, .int .i64 e, .int .i64 c, .slice A n k] : Array Value).all (·.oneCell') = true := by simp [Value.oneCell']
theorem grown_msg {W V : World} {D : Nat} {v : Value} {x : Obj} (hD : W.heap[D]? = some x) (hg : W.grownBy V v.ownBlock) (hne : v.ownBlock ≠ some D) : V.heap[D]? = some x := by
  obtain ⟨_, _, _, _, h⟩ := hg
  exact (h D (Array.getElem?_eq_some_iff.1 hD).1 (fun e => hne e.symm)).trans hD
end Go.Proofs.Ytohfoieibgmmdaa.Mg
