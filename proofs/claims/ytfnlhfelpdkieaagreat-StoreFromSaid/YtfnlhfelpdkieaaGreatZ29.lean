/- Lists of bytes that came in: what memory holds of them, and how many bytes they have together where their bulk is bounded. -/
import Derived.Test.YtfnlhfelpdkieaaGreatZ1
import Derived.Test.YtfnlhfelpdkieaaGreatZ21
import Derived.Test.YtfnlhfelpdkieaaGreatZ23
import Derived.Test.YtfnlhfelpdkieaaGreatZ28
import Derived.Test.YtfnlhfelpdkieaaGreatZ26
import Derived.Deep.Matrix
namespace Go.Proofs.YtfnlhfelpdkieaaGreat.Me
open Go.RowKit Go.Deep
open Go.ChangeShapes Go.WideShapes
set_option linter.unusedVariables false

def lsAt (ls : List (List Nat)) (j : Nat) : List Nat := ls.getD j []
/-- A slice's address leads to slices that lead, below block B, to these lists of bytes. -/
def Lst (w : World) (B : Nat) (a : Option Addr) (ls : List (List Nat)) : Prop :=
  0 < ls.length → ∃ b off, a = some ⟨b, off, none⟩ ∧ b < w.heap.size ∧ ∀ j, j < ls.length → ∃ A c, w.cell? ⟨b, off + j, none⟩ = some (.slice A (lsAt ls j).length c) ∧ (lsAt ls j).length ≤ c ∧ c ≤ 9223372036854775807 ∧ Rd w B A (lsAt ls j)
theorem Lst.bytes {w : World} {B : Nat} {a : Option Addr} {ls : List (List Nat)} (h : Lst w B a ls) : ∀ l ∈ ls, ∀ z ∈ l, z < 256 := by
  intro l hl z hz
  obtain ⟨j, hj, rfl⟩ := List.mem_iff_getElem.mp hl
  obtain ⟨_, _, _, _, hc⟩ := h (by omega)
  obtain ⟨_, _, _, _, _, hr⟩ := hc j hj
  refine hr.1 z ?_
  simpa [lsAt, hj] using hz
/-- The lists' slices that are nil have no room. -/
def Nils (w : World) (a : Option Addr) (ls : List (List Nat)) : Prop :=
  ∀ b off, a = some ⟨b, off, none⟩ → ∀ j, j < ls.length → ∀ n c, w.cell? ⟨b, off + j, none⟩ = some (.slice none n c) → n = 0 ∧ c = 0
theorem Lst.below {w w' : World} {B : Nat} {a : Option Addr} {ls : List (List Nat)} (h : Lst w B a ls) (hb : Below w.heap.size w w') (hB : B ≤ w.heap.size) : Lst w' B a ls := by
  intro hl
  obtain ⟨b, off, ha, hlt, hc⟩ := h hl
  refine ⟨b, off, ha, Nat.lt_of_lt_of_le hlt hb.size, fun j hj => ?_⟩
  obtain ⟨A, c, h1, h2, h3, h4⟩ := hc j hj
  exact ⟨A, c, (hb.cell (p := ⟨b, off + j, none⟩) hlt).trans h1, h2, h3, h4.below (hb.mono hB)⟩
theorem flat_step {ls : List (List Nat)} {k : Nat} (h : k < ls.length) : (ls.take (k + 1)).flatten = (ls.take k).flatten ++ lsAt ls k := by
  have e : lsAt ls k = ls[k] := by simp [lsAt, h]
  rw [List.take_succ_eq_append_getElem h, List.flatten_append, e]; simp
theorem flat_len (ls : List (List Nat)) (k : Nat) : (ls.take k).flatten.length ≤ ls.flatten.length := by
  conv => rhs; rw [← List.take_append_drop k ls, List.flatten_append, List.length_append]
  omega
theorem bulk_pos {H : Type} (d : DataW H) : 1 ≤ Rows.uptoBulk d := by
  cases d with
  | lit l => cases l <;> simp [Rows.uptoBulk]
  | nil => simp [Rows.uptoBulk]
  | ptr d => simp [Rows.uptoBulk]
  | slice elems spare => simp [Rows.uptoBulk]
  | agg parts => simp [Rows.uptoBulk]
  | iface t d => simp [Rows.uptoBulk]
  | map entries => simp [Rows.uptoBulk]
  | held h => simp [Rows.uptoBulk]
theorem bulk_append {H : Type} (l r : List (DataW H)) : Rows.uptoBulkAll (l ++ r) = Rows.uptoBulkAll l + Rows.uptoBulkAll r := by
  induction l with
  | nil => simp [Rows.uptoBulkAll]
  | cons x l ih => simp only [List.cons_append, Rows.uptoBulkAll, ih]; omega
theorem bulk_length {H : Type} (l : List (DataW H)) : l.length ≤ Rows.uptoBulkAll l := by
  induction l with
  | nil => simp [Rows.uptoBulkAll]
  | cons x r ih => have := bulk_pos x; simp only [Rows.uptoBulkAll, List.length_cons]; omega
theorem bulk_row {H : Type} {k : IntKind} (A : Option Addr) (L : Nat) (zs : List Int) (hL : L ≤ zs.length) (hA : A = none → L = 0) : L + 1 ≤ Rows.uptoBulk (intRow (H := H) k A L zs) := by
  rcases A with _ | a
  · rw [hA rfl]; exact bulk_pos _
  · have h := bulk_length (lits (H := H) k (zs.take L))
    simp only [intRow, Rows.uptoBulk]
    simp only [lits, List.length_map, List.length_take] at h ⊢
    omega
def rowsOf (L : Nat → Nat) (Z : Nat → List Int) (n : Nat) : List (List Nat) := (List.range n).map fun r => ((Z r).take (L r)).map Int.toNat
theorem rows_bulk {H : Type} (A : Nat → Option Addr) (L : Nat → Nat) (Z : Nat → List Int) : ∀ n, (∀ r, r < n → L r ≤ (Z r).length ∧ (A r = none → L r = 0)) →
    (rowsOf L Z n).flatten.length + n ≤ Rows.uptoBulkAll ((List.range n).map fun r => intRow (H := H) .u8 (A r) (L r) (Z r))
  | 0, _ => by simp [rowsOf]
  | n + 1, h => by
    have ih := rows_bulk (H := H) A L Z n fun r hr => h r (by omega)
    have h1 := h n (by omega)
    have h2 := bulk_row (H := H) (k := .u8) (A n) (L n) (Z n) h1.1 h1.2
    unfold rowsOf at ih ⊢
    rw [List.range_succ, List.map_append, List.flatten_append, List.length_append, List.map_append, bulk_append]
    simp only [List.map_cons, List.map_nil, List.flatten_cons, List.flatten_nil, List.append_nil, List.length_map, List.length_take, Rows.uptoBulkAll]
    omega
theorem rows_at (L : Nat → Nat) (Z : Nat → List Int) {n j : Nat} (h : j < n) : lsAt (rowsOf L Z n) j = ((Z j).take (L j)).map Int.toNat := by
  simp [lsAt, rowsOf, h]
/-- Bytes that came in have at most the room that their bulk says. -/
theorem bulk_cap {H : Type} {enc : TypeId × Value → H} {w : World} {base fuel : Nat} {held : Bool} {a : Option Addr} {len cap : Nat} {d : DataW H} {pl : List MemPlace}
    (h : DataW.trod enc Tryz.prog w base (fun _ => true) held fuel 44 [.slice a len cap] = some (d, pl)) : cap ≤ Rows.uptoBulk d := by
  rcases open_ints Tryz.underlying44 Tryz.underlying5 (by kernel_rfl) h with ⟨hcs, _⟩ | ⟨x, l, c, zs, hcs, _, hl, hm, hz, hx, hcell, hwz⟩
  · simp at hcs
    obtain ⟨rfl, rfl, rfl⟩ := hcs
    exact Nat.zero_le _
  · simp at hcs
    obtain ⟨rfl, rfl, rfl⟩ := hcs
    simp only [Prod.mk.injEq] at hx
    obtain ⟨rfl, _⟩ := hx
    have h1 := bulk_length (lits (H := H) .u8 (zs.take len))
    have h2 := bulk_length (lits (H := H) .u8 (zs.drop len))
    have hz' : zs.length = cap := by simpa using hz
    simp only [Rows.uptoBulk]
    simp only [lits, List.length_map, List.length_take, List.length_drop] at h1 h2 ⊢
    omega
end Go.Proofs.YtfnlhfelpdkieaaGreat.Me
/- Memory for decoders: what a change leaves alone; slices of slices whose blocks bear a property; appends that tell where the new slice lies. -/
namespace Go.Proofs.YtfnlhfelpdkieaaGreat.Hd
open Go.RowKit
open Go.Proofs.YtfnlhfelpdkieaaGreat.Me
set_option linter.unusedVariables false

/-- All lies as it lay in w, but for what lies in the blocks S, and for new ones. -/
structure But (S : Nat → Prop) (w X : World) : Prop where
  os : X.os = w.os
  tape : X.tape = w.tape
  output : X.output = w.output
  size : w.heap.size ≤ X.heap.size
  same : ∀ k, k < w.heap.size → ¬ S k → X.heap[k]? = w.heap[k]?
theorem But.refl (S : Nat → Prop) (w : World) : But S w w := ⟨rfl, rfl, rfl, Nat.le_refl _, fun _ _ _ => rfl⟩
theorem But.trans {S S' : Nat → Prop} {w X Y : World} (h : But S w X) (k : But S' X Y) (hS : ∀ b, b < w.heap.size → S' b → S b) : But S w Y :=
  ⟨k.os.trans h.os, k.tape.trans h.tape, k.output.trans h.output, Nat.le_trans h.size k.size, fun b hb hn => (k.same b (Nat.lt_of_lt_of_le hb h.size) (fun hs => hn (hS b hb hs))).trans (h.same b hb hn)⟩
theorem But.mono {S S' : Nat → Prop} {w X : World} (h : But S w X) (hS : ∀ b, b < w.heap.size → S b → S' b) : But S' w X :=
  ⟨h.os, h.tape, h.output, h.size, fun b hb hn => h.same b hb (fun hs => hn (hS b hb hs))⟩
theorem But.of_below {S : Nat → Prop} {w X : World} (h : Below w.heap.size w X) : But S w X := ⟨h.os, h.tape, h.output, h.size, fun b hb _ => h.block b hb⟩
theorem But.below {S : Nat → Prop} {w X : World} {B : Nat} (h : But S w X) (hB : B ≤ w.heap.size) (hS : ∀ k, S k → B ≤ k) : Below B w X :=
  ⟨h.os, h.tape, h.output, h.size, fun k hk => h.same k (by omega) (fun hs => by have := hS k hs; omega)⟩
theorem But.grown {S : Nat → Prop} {w X Y : World} {row : Option Nat} (h : But S w X) (hg : X.grownBy Y row) (hr : ∀ r, row = some r → S r ∨ w.heap.size ≤ r) : But S w Y :=
  ⟨hg.os.trans h.os, hg.tape.trans h.tape, hg.output.trans h.output, Nat.le_trans h.size hg.size, fun k hk hS => (hg.block k (Nat.lt_of_lt_of_le hk h.size) (fun e => by
    rcases hr k e.symm with h1 | h1
    · exact hS h1
    · omega)).trans (h.same k hk hS)⟩
theorem grown_set (W : World) (p : Addr) (v : Value) : W.grownBy (W.setCell p v) (some p.block) :=
  ⟨rfl, rfl, rfl, by simp, fun k _ hk => Below.heap_setCell _ _ _ k (fun e => hk (by rw [e]))⟩
theorem But.set {S : Nat → Prop} {w X : World} (h : But S w X) {p : Addr} (hp : S p.block ∨ w.heap.size ≤ p.block) (u : Value) : But S w (X.setCell p u) :=
  h.grown (grown_set X p u) fun r e => by cases e; exact hp
theorem But.alloc {S : Nat → Prop} {w X : World} (h : But S w X) (o : Obj) : But S w (X.alloc o) := h.grown (World.grownBy_alloc X o none) (by simp)
theorem But.at_ {S : Nat → Prop} {w X : World} {b : Nat} {o : Obj} (h : But S w X) (hb : w.heap[b]? = some o) (hS : ¬ S b) : X.heap[b]? = some o := (h.same b (Array.getElem?_eq_some_iff.1 hb).1 hS).trans hb
/-- Bytes that came in lie on where their block is none of S. -/
theorem But.rd {S : Nat → Prop} {w X : World} {A : Option Addr} {l : List Nat} (h : But S w X) (hr : Rd w w.heap.size A l) (hS : ∀ a, A = some a → ¬ S a.block) : Rd X X.heap.size A l :=
  ⟨hr.1, fun hl => by
    obtain ⟨b, off, e, h1, hc⟩ := hr.2 hl
    refine ⟨b, off, e, Nat.lt_of_lt_of_le h1 h.size, fun i hi => ?_⟩
    exact (World.cell?_of_block (w := w) (a := ⟨b, off + i, none⟩) (h.same b h1 (hS _ e))).trans (hc i hi)⟩
theorem own_same {w w' : World} {B T s n : Nat} {v : Value} {xs : List Value} (h : w.ownsRow B T s v n xs) (hk : ∀ k, v.ownBlock = some k → k < w.heap.size → w'.heap[k]? = w.heap[k]?) : w'.ownsRow B T s v n xs := by
  refine ⟨h.1, ?_⟩
  rcases h.2 with h' | ⟨g, cap, cur, rfl, q2, q3, q4⟩
  · exact .inl h'
  · exact .inr ⟨g, cap, cur, rfl, q2, (hk g rfl (Array.getElem?_eq_some_iff.1 q3).1).trans q3, q4⟩
theorem own_base {w : World} {B B' T s n : Nat} {v : Value} {xs : List Value} (h : w.ownsRow B T s v n xs) (hB : ∀ k, v.ownBlock = some k → B' ≤ k) : w.ownsRow B' T s v n xs := by
  refine ⟨h.1, ?_⟩
  rcases h.2 with h' | ⟨g, cap, cur, rfl, q2, q3, q4⟩
  · exact .inl h'
  · exact .inr ⟨g, cap, cur, rfl, hB g rfl, q3, q4⟩
theorem own_lt {w : World} {B T s n : Nat} {v : Value} {xs : List Value} (h : w.ownsRow B T s v n xs) : ∀ k, v.ownBlock = some k → k < w.heap.size := fun k e => (h.lt k e).2
/-- A slice of one's own cut to its first k bytes. -/
theorem Own.cut {w : World} {B n c : Nat} {A : Option Addr} {l : List Nat} (h : Me.Own w B (.slice A n c) l) {k : Nat} (hk : k ≤ l.length) : Me.Own w B (.slice A k c) (l.take k) := by
  have hl : (l.take k).length = k := by simp; omega
  unfold Me.Own
  rw [hl]
  refine ⟨by simp; omega, ?_⟩
  rcases h.2 with ⟨h1, h2⟩ | ⟨g, cap, cur, h1, q2, q3, q4, q5, q6, q7⟩
  · simp only [Value.slice.injEq] at h1
    obtain ⟨rfl, rfl, rfl⟩ := h1
    obtain rfl : k = 0 := by omega
    exact .inl ⟨rfl, rfl⟩
  · simp only [Value.slice.injEq] at h1
    obtain ⟨rfl, rfl, rfl⟩ := h1
    refine .inr ⟨g, c, cur, rfl, q2, q3, by omega, q5, q6, ?_⟩
    rw [Nat.mul_one] at q7 ⊢
    rw [List.map_take, ← q7, List.take_take]
    congr 1; omega
theorem own_len {w : World} {B n c : Nat} {A : Option Addr} {l : List Nat} (h : Me.Own w B (.slice A n c) l) : n = l.length := by
  rcases h.2 with ⟨h1, h2⟩ | ⟨g, cap, cur, h1, _⟩
  · injection h1 with _ h3 _; omega
  · injection h1
theorem own_rd {w : World} {B n c : Nat} {A : Option Addr} {l : List Nat} (h : Me.Own w B (.slice A n c) l) (hl : ∀ z ∈ l, z < 256) : Rd w w.heap.size A l ∧ (A = none → l.length = 0 ∧ c = 0) ∧ l.length ≤ c ∧ c ≤ 9223372036854775807 := by
  obtain ⟨A', c', e, h1, h2, h3⟩ := h.held hl
  simp only [Value.slice.injEq] at e
  obtain ⟨rfl, rfl, rfl⟩ := e
  exact ⟨h3.rd, h3.2.2, h1, h2⟩
/-! ### Appends that tell where the new slice lies -/
theorem run_append_own2 {P : Program} {w : World} (t ty e : TypeId) (i : TypeInfo) (z : Value) (bytes : Nat) (ht : P.underlying t = some (.slice e)) (hi : P.info? e = some i) (hz : i.zero = some z)
    (hsize : i.size = 1) (hby : i.bytes = bytes) (hzs : z.cells.size = 1)
    (v : Value) (n : Nat) (xs : List Value) (hown : w.ownsRow 0 e 1 v n xs)
    (a : Addr) (m c : Nat) (news : List Value) (hl : news.length = m * 1) (hnews : ∀ j u, news[j]? = some u → w.cell? (a.add j) = some u) (h1 : ∀ u ∈ news, u.oneCell' = true)
    (h63 : n + m ≤ maxLen) (hbytes : (n + m) * bytes ≤ 140737488355328) :
    ∃ v' w', (Builtin.append_ #[t, t] ty #[v, .slice (some a) m c]).run P w = .ok v' w' ∧ w'.ownsRow 0 e 1 v' (n + m) (xs ++ news) ∧ w.grownBy w' v.ownBlock ∧ (∀ k, v'.ownBlock = some k → v.ownBlock = some k ∨ w.heap.size ≤ k) := by
  obtain ⟨v', w', hr, h2, h3, _⟩ := run_append_own (P := P) w 0 t ty e i z 1 bytes ht hi hz hsize hby hzs (by decide) v n xs hown a m c news hl hnews h1 h63 hbytes (Nat.zero_le _)
  refine ⟨v', w', hr, h2, h3, ?_⟩
  have hsmall : n + m ≤ 9223372036854775807 := by simp only [maxLen] at h63; omega
  rcases hown.2 with ⟨rfl, rfl⟩ | ⟨g, cap, cur, rfl, hbg, hg, hnc, hcm, hcs, htake⟩
  · have hx : xs = [] := List.eq_nil_of_length_eq_zero (by simpa using hown.1)
    subst hx
    obtain ⟨v2, w2, hr2, h4, _, _⟩ := run_append_own (P := P) w w.heap.size t ty e i z 1 bytes ht hi hz hsize hby hzs (by decide) (.slice none 0 0) 0 [] ⟨rfl, .inl ⟨rfl, rfl⟩⟩ a m c news hl hnews h1 h63 hbytes (Nat.le_refl _)
    rw [hr] at hr2
    injection hr2 with e1 e2
    subst e1 e2
    exact fun k hk => .inr (h4.lt k hk).1
  · intro k hk
    by_cases hroom : n + m ≤ cap
    · have hr2 := run_append_room (P := P) w t ty e i ht hi g n cap cur hg a m c news (by rw [hl, hsize]) hnews h1 hroom (by rw [hsize, hl]; omega)
      rw [hr] at hr2
      injection hr2 with e1 e2
      subst e1
      exact .inl hk
    · have hr2 := run_append_grow (P := P) w t ty e i z ht hi hz ⟨g, 0, none⟩ n cap xs (by rw [hsize]; exact hown.1) (hown.cells (g := g) rfl) a m c news (by rw [hl, hsize]) hnews (by omega) (by omega) (growslice_fits (by omega) (by rw [hby]; exact hbytes))
      rw [hr] at hr2
      injection hr2 with e1 e2
      subst e1
      simp only [Value.ownBlock, Option.some.injEq] at hk
      exact .inr (by omega)
theorem wpList_append_own2 {P : Program} {w : World} {ops : Array Oper} {rest : List Oper} {o : Oper} {a : Act} {Q : Exit → Act → World → Prop} (hgd : o.guard = none) (s x : Operand) (t : TypeId)
    (ho : o.op = .call { callee := .builtin .append, args := #[s, x], argTypes := #[t, t] })
    (e : TypeId) (i : TypeInfo) (z : Value) (bytes : Nat) (ht : P.underlying t = some (.slice e)) (hi : P.info? e = some i) (hz : i.zero = some z)
    (hsize : i.size = 1) (hby : i.bytes = bytes) (hzs : z.cells.size = 1)
    (v : Value) (n : Nat) (xs : List Value) (hs : a.eval s = v) (hown : w.ownsRow 0 e 1 v n xs)
    (ad : Addr) (m c : Nat) (news : List Value) (hx : a.eval x = .slice (some ad) m c) (hl : news.length = m * 1) (hnews : ∀ j u, news[j]? = some u → w.cell? (ad.add j) = some u) (h1 : ∀ u ∈ news, u.oneCell' = true)
    (h63 : n + m ≤ maxLen) (hbytes : (n + m) * bytes ≤ 140737488355328)
    (h : ∀ v' w', w'.ownsRow 0 e 1 v' (n + m) (xs ++ news) → w.grownBy w' v.ownBlock → (∀ k, v'.ownBlock = some k → v.ownBlock = some k ∨ w.heap.size ≤ k) → wpList P ops Q rest (a.put o.dst v') w') : wpList P ops Q (o :: rest) a w := by
  refine wpList_plain hgd fun K hK => ?_
  obtain ⟨v', w', hr, h2, h3, h4⟩ := run_append_own2 (P := P) (w := w) t o.type e i z bytes ht hi hz hsize hby hzs v n xs hown ad m c news hl hnews h1 h63 hbytes
  unfold Oper.wp execOp
  simp only [ho, resolve, invoke, builtin, Sem.run_bind, Sem.run_pure, Result.andThen_ok, List.map_toArray, List.map_cons, List.map_nil, hs, hx, hr]
  exact hK _ _ (h v' w' h2 h3 h4)
/-- Bytes appended to bytes of one's own. -/
theorem app8q {w : World} {ops : Array Oper} {rest : List Oper} {o : Oper} {a : Act} {Q : Exit → Act → World → Prop} (hgd : o.guard = none) (s x : Operand)
    (ho : o.op = .call { callee := .builtin .append, args := #[s, x], argTypes := #[44, 44] })
    (Bx : Nat) (v : Value) (l r : List Nat) (hs : a.eval s = v) (hown : Me.Own w 0 v l)
    (A : Option Addr) (c : Nat) (hx : a.eval x = .slice A r.length c) (hr : Rd w Bx A r) (hA : A = none → r.length = 0 ∧ c = 0) (hlen : l.length + r.length ≤ 140737488355328)
    (h : ∀ v' w', Me.Own w' 0 v' (l ++ r) → w.grownBy w' v.ownBlock → (∀ k, v'.ownBlock = some k → v.ownBlock = some k ∨ w.heap.size ≤ k) → wpList Tryz.prog ops Q rest (a.put o.dst v') w') : wpList Tryz.prog ops Q (o :: rest) a w := by
  obtain ⟨i0, hi, hz0, hz1, hz2⟩ := info_parts info8
  rcases A with _ | ad
  · obtain ⟨h1, rfl⟩ := hA rfl
    obtain rfl : r = [] := List.eq_nil_of_length_eq_zero h1
    refine wpList_append_own_none hgd s x 44 ho 0 5 i0 1 Tryz.underlying44 hi v l.length (l.map byV) hs hown hx ?_
    exact h v w (by rw [List.append_nil]; exact hown) ⟨rfl, rfl, rfl, Nat.le_refl _, fun _ _ _ => rfl⟩ (fun k e => .inl e)
  · refine wpList_append_own2 hgd s x 44 ho 5 i0 (.int .u8 0) 1 Tryz.underlying44 hi hz0 hz1 hz2 rfl v l.length (l.map byV) hs hown ad r.length c (r.map byV) hx (len_map r) (rd_cells hr (Below.refl _ _)) (one_cells _) (by unfold maxLen; omega) (by omega) ?_
    intro v' w' h1 h2 h3
    refine h v' w' ?_ h2 h3
    unfold Me.Own
    rw [List.length_append, List.map_append]; exact h1
/-! ### Slices of slices -/
theorem info24 : (Tryz.prog.info? 44).map (fun i => (i.zero, i.size, i.bytes)) = some (some (.slice none 0 0), 1, 24) := by kernel_rfl
/-- Slices of one's own, in a slice of one's own, with these bytes; each block bears P. -/
def Rws (P : Nat → Prop) (w : World) (v : Value) (ps : List (List Nat)) : Prop :=
  ∃ vs : List Value, w.ownsRow 0 44 1 v ps.length vs ∧ (∀ k, v.ownBlock = some k → P k) ∧ vs.length = ps.length ∧ ∀ j, j < ps.length → ∃ A c, vs[j]? = some (.slice A (lsAt ps j).length c) ∧ Me.Own w 0 (.slice A (lsAt ps j).length c) (lsAt ps j) ∧ ∀ a, A = some a → P a.block
theorem Rws.nil (P : Nat → Prop) (w : World) : Rws P w (.slice none 0 0) [] := ⟨[], ⟨rfl, .inl ⟨rfl, rfl⟩⟩, (fun k e => by cases e), rfl, fun j hj => absurd hj (by simp)⟩
theorem Rws.lit (P : Nat → Prop) (w : World) (hP : P w.heap.size) : Rws P (w.alloc (.cells #[] 44)) (.slice (some ⟨w.heap.size, 0, none⟩) 0 0) [] :=
  ⟨[], World.ownsRow_made w #[] 0 (Nat.zero_le _) (by unfold maxLen; omega) rfl, (fun k e => by cases e; exact hP), rfl, fun j hj => absurd hj (by simp)⟩
theorem Rws.mono {P P' : Nat → Prop} {w : World} {v : Value} {ps : List (List Nat)} (h : Rws P w v ps) (hP : ∀ k, k < w.heap.size → P k → P' k) : Rws P' w v ps := by
  obtain ⟨vs, h1, h2, h3, h4⟩ := h
  refine ⟨vs, h1, fun k e => hP k (own_lt h1 k e) (h2 k e), h3, fun j hj => ?_⟩
  obtain ⟨A, c, e, h5, h6⟩ := h4 j hj
  exact ⟨A, c, e, h5, fun a ea => hP _ (own_lt h5 _ (by rw [ea]; rfl)) (h6 a ea)⟩
theorem Rws.kept {P : Nat → Prop} {w w' : World} {v : Value} {ps : List (List Nat)} (h : Rws P w v ps) (hk : ∀ k, P k → k < w.heap.size → w'.heap[k]? = w.heap[k]?) : Rws P w' v ps := by
  obtain ⟨vs, h1, h2, h3, h4⟩ := h
  refine ⟨vs, own_same h1 fun k e => hk k (h2 k e), h2, h3, fun j hj => ?_⟩
  obtain ⟨A, c, e, h5, h6⟩ := h4 j hj
  refine ⟨A, c, e, own_same h5 fun k e => hk k ?_, h6⟩
  cases A with
  | none => cases e
  | some a => cases e; exact h6 a rfl
theorem Rws.but {P S : Nat → Prop} {w w' : World} {v : Value} {ps : List (List Nat)} (h : Rws P w v ps) (hb : But S w w') (hS : ∀ k, P k → ¬ S k) : Rws P w' v ps := h.kept fun k hp hk => hb.same k hk (hS k hp)
theorem Rws.below {P : Nat → Prop} {w w' : World} {v : Value} {ps : List (List Nat)} (h : Rws P w v ps) (hb : Below w.heap.size w w') : Rws P w' v ps := h.kept fun k _ hk => hb.block k hk
theorem two_types {w : World} {B B' T T' n n' : Nat} {v v' : Value} {xs xs' : List Value} (h : w.ownsRow B T 1 v n xs) (h' : w.ownsRow B' T' 1 v' n' xs') (hT : T ≠ T') : v.ownBlock = none ∨ v.ownBlock ≠ v'.ownBlock := by
  rcases h.2 with ⟨rfl, _⟩ | ⟨g, cap, cur, rfl, _, h3, _⟩
  · exact .inl rfl
  · right
    rcases h'.2 with ⟨rfl, _⟩ | ⟨g', cap', cur', rfl, _, h3', _⟩
    · simp [Value.ownBlock]
    · intro e
      obtain rfl : g = g' := by simpa [Value.ownBlock] using e
      rw [h3] at h3'
      simp at h3'
      exact hT h3'.2
theorem lsAt_append_left {ps qs : List (List Nat)} {j : Nat} (h : j < ps.length) : lsAt (ps ++ qs) j = lsAt ps j := by
  simp [lsAt, List.getElem?_append_left h]
theorem lsAt_append_right {ps qs : List (List Nat)} {j : Nat} (h : ¬ j < ps.length) : lsAt (ps ++ qs) j = lsAt qs (j - ps.length) := by
  simp [lsAt, List.getElem?_append_right (by omega : ps.length ≤ j)]
/-- Some slices appended to such. -/
theorem Rws.more {P : Nat → Prop} {w w' : World} {v v' : Value} {ps qs : List (List Nat)} {vs us : List Value} (h1 : w.ownsRow 0 44 1 v ps.length vs) (h2 : vs.length = ps.length)
    (h3 : ∀ j, j < ps.length → ∃ A c, vs[j]? = some (.slice A (lsAt ps j).length c) ∧ Me.Own w 0 (.slice A (lsAt ps j).length c) (lsAt ps j) ∧ ∀ a, A = some a → P a.block)
    (h5 : us.length = qs.length) (h6 : ∀ j, j < qs.length → ∃ A c, us[j]? = some (.slice A (lsAt qs j).length c) ∧ Me.Own w 0 (.slice A (lsAt qs j).length c) (lsAt qs j) ∧ ∀ a, A = some a → P a.block)
    (h7 : w'.ownsRow 0 44 1 v' (ps.length + qs.length) (vs ++ us)) (hg : w.grownBy w' v.ownBlock) (hP : ∀ k, v'.ownBlock = some k → P k) : Rws P w' v' (ps ++ qs) := by
  refine ⟨vs ++ us, by simpa using h7, hP, by simp [h2, h5], fun j hj => ?_⟩
  simp only [List.length_append] at hj
  by_cases hlt : j < ps.length
  · obtain ⟨A', c', e, h8, h9⟩ := h3 j hlt
    rw [lsAt_append_left hlt]
    exact ⟨A', c', by rw [List.getElem?_append_left (by omega)]; exact e, h8.kept hg (two_types h8 h1 (by decide)), h9⟩
  · obtain ⟨A', c', e, h8, h9⟩ := h6 (j - ps.length) (by omega)
    rw [lsAt_append_right hlt]
    refine ⟨A', c', by rw [List.getElem?_append_right (by omega), h2]; exact e, h8.kept hg (two_types h8 h1 (by decide)), h9⟩
/-- What such slices hold can be read. -/
theorem Rws.lst {P : Nat → Prop} {w : World} {v : Value} {ps : List (List Nat)} (h : Rws P w v ps) (hb : ∀ l ∈ ps, ∀ z ∈ l, z < 256) : ∃ A c, v = .slice A ps.length c ∧ ps.length ≤ c ∧ c ≤ 9223372036854775807 ∧ Lst w w.heap.size A ps ∧ Nils w A ps ∧ (A = none → ps = [] ∧ c = 0) := by
  obtain ⟨vs, h1, h1p, h2, h3⟩ := h
  have hat : ∀ j, j < ps.length → ∀ z ∈ lsAt ps j, z < 256 := fun j hj => hb _ (by simp [lsAt, hj])
  rcases h1.2 with ⟨rfl, e0⟩ | ⟨g, cap, cur, rfl, q2, q3, q4, q5, q6, q7⟩
  · obtain rfl : ps = [] := List.eq_nil_of_length_eq_zero e0
    exact ⟨none, 0, rfl, Nat.le_refl _, Nat.zero_le _, fun hl => absurd hl (by simp), fun _ _ _ j hj => absurd hj (by simp), fun _ => ⟨rfl, rfl⟩⟩
  · have hcell : ∀ j, j < ps.length → ∃ A c, w.cell? ⟨g, 0 + j, none⟩ = some (.slice A (lsAt ps j).length c) ∧ Me.Own w 0 (.slice A (lsAt ps j).length c) (lsAt ps j) := by
      intro j hj
      obtain ⟨A, c, e, h4, _⟩ := h3 j hj
      refine ⟨A, c, ?_, h4⟩
      rw [Nat.zero_add, h1.cellAt j (by omega)]
      exact e
    refine ⟨some ⟨g, 0, none⟩, cap, rfl, q4, by unfold maxLen at q5; omega, fun hl => ⟨g, 0, rfl, own_lt h1 g rfl, fun j hj => ?_⟩, ?_, fun e => by cases e⟩
    · obtain ⟨A, c, e, h4⟩ := hcell j hj
      obtain ⟨r1, r2, r3, r4⟩ := own_rd h4 (hat j hj)
      exact ⟨A, c, e, r3, r4, r1⟩
    · intro b off e j hj n c hc
      simp only [Option.some.injEq, Addr.mk.injEq, and_true] at e
      obtain ⟨rfl, rfl⟩ := e
      obtain ⟨A, c', e', h4⟩ := hcell j hj
      rw [hc] at e'
      simp only [Option.some.injEq, Value.slice.injEq] at e'
      obtain ⟨rfl, rfl, rfl⟩ := e'
      obtain ⟨r1, r2, r3, r4⟩ := own_rd h4 (hat j hj)
      exact r2 rfl
end Go.Proofs.YtfnlhfelpdkieaaGreat.Hd
/- What bytes say; the document's Same of what is the same; a state's cells. -/
namespace Go.Proofs.YtfnlhfelpdkieaaGreat.So
open Go.RowKit
open Go.Proofs.YtfnlhfelpdkieaaGreat.Me Go.Proofs.YtfnlhfelpdkieaaGreat.Sb
set_option linter.unusedVariables false
set_option linter.unusedSimpArgs false

/-- What bytes say as a string. -/
def Cv (W : World) (A : Option Addr) (n c : Nat) (s : ByteArray) : Prop := (convert 44 9 (.slice A n c)).run Tryz.prog W = .ok (.string s) W
set_option maxRecDepth 100000 in
set_option maxHeartbeats 4000000 in
theorem RSame_eq (o d ee cc : Int) (A B : Option Addr) (n c1 c2 : Nat) (s : ByteArray) (w : World) (k1 : ∀ W, Below w.heap.size w W → Cv W A n c1 s) (k2 : ∀ W, Below w.heap.size w W → Cv W B n c2 s) : Calls Tryz.prog 72 #[.agg #[.int .i64 o, .int .i64 d, .int .i64 ee, .int .i64 cc, .slice A n c1], .agg #[.int .i64 o, .int .i64 d, .int .i64 ee, .int .i64 cc, .slice B n c2]] w fun e w' => e = .returned (.bool true) ∧ Hid (Below w.heap.size w w') := by
  obtain ⟨hB, hY, hX⟩ := two_new w #[.int .i64 o, .int .i64 d, .int .i64 ee, .int .i64 cc, .slice A n c1] #[.int .i64 o, .int .i64 d, .int .i64 ee, .int .i64 cc, .slice B n c2] 46 46
  have q1 := k1 _ hB
  have q2 := k2 _ hB
  unfold Cv at q1 q2
  have HB := Lib.hid hB
  clear k1 k2 hB hY hX
  go_enter Tryz.func72, Tryz.ntmps72
  go_wp2
  go_ret
  exact ⟨rfl, HB.out⟩
/-- A state's five, as they lie. -/
def stv (a b : Int) (u h m : Value) : Array Value := #[.int .i64 a, .int .i64 b, u, h, m]
theorem st_cells {W : World} {D : Nat} {a b : Int} {u h m : Value} (hx : W.heap[D]? = some (.cells #[.int .i64 a, .int .i64 b, u, h, m] 59 (0, 0))) : W.cell? ⟨D, 0, none⟩ = some (.int .i64 a) ∧ W.cell? ⟨D, 1, none⟩ = some (.int .i64 b) ∧ W.cell? ⟨D, 2, none⟩ = some u ∧ W.cell? ⟨D, 3, none⟩ = some h ∧ W.cell? ⟨D, 4, none⟩ = some m := by
  refine ⟨?_, ?_, ?_, ?_, ?_⟩
  all_goals
    rw [cell_of_row _ D _ _ _ (0, 0) hx]
    rfl
end Go.Proofs.YtfnlhfelpdkieaaGreat.So
/- SameState of what came in and its copy, whatever their length. -/
namespace Go.Proofs.YtfnlhfelpdkieaaGreat.Se
open Go.RowKit
open Go.Proofs.YtfnlhfelpdkieaaGreat.Me Go.Proofs.YtfnlhfelpdkieaaGreat.Sb
set_option linter.unusedVariables false
set_option linter.unusedSimpArgs false

set_option maxRecDepth 100000 in
set_option maxHeartbeats 8000000 in
theorem SameB_eq (v1 v2 : Value) (P1 P2 : List Pm) (w : World) (h1 : Hid (Mv w v1 P1)) (h2 : Hid (Mv w v2 P2)) (he : Hid (P1.map Pm.m = P2.map Pm.m)) (hl : P1.length ≤ 3000000000000) : Calls Tryz.prog 60 #[v1, v2] w fun e w' => e = .returned (.bool true) ∧ Hid (Below w.heap.size w w') := by
  obtain ⟨A1, c1, rfl, hc1, hc1', hr1⟩ := h1.out
  obtain ⟨A2, c2, rfl, hc2, hc2', hr2⟩ := h2.out
  have hlen : P2.length = P1.length := by have := congrArg List.length he.out; simpa using this.symm
  obtain ⟨N, hN⟩ : ∃ N, P1.length = N := ⟨_, rfl⟩
  rw [hlen, hN]
  have HN := Lib.hid hN
  have HN2 : Hid (P2.length = N) := hlen.trans hN
  rw [hN] at hl
  clear hc1 hc1' hr1 hc2 hc2' hr2 hlen hN
  go_enter Tryz.func60, Tryz.ntmps60
  go_wp2
  go_loopw [5] (fun v5 wr => ∃ j : Nat, j ≤ N ∧ v5 = .int .i64 (j : Int) ∧ Hid (Below w.heap.size w wr)) (fun v5 _ => N - (intOf v5).toNat)
  case atStart => exact ⟨0, by omega, rfl, Below.refl _ _⟩
  case round =>
    obtain ⟨j, hj, rfl, HB⟩ := hrel
    by_cases hlt : j < N
    · obtain ⟨p1, hp1⟩ : ∃ p, P1[j]? = some p := ⟨_, List.getElem?_eq_getElem (by have := HN.out; omega)⟩
      obtain ⟨p2, hp2⟩ : ∃ p, P2[j]? = some p := ⟨_, List.getElem?_eq_getElem (by have := HN2.out; omega)⟩
      have hm : p1.m = p2.m := by
        have := congrArg (fun l => l[j]?) he.out
        simpa [hp1, hp2] using this
      obtain ⟨A1', c1', e1, _, _, hr1⟩ := h1.out
      injection e1 with e1 _ e1'
      subst e1 e1'
      obtain ⟨A2', c2', e2, _, _, hr2⟩ := h2.out
      injection e2 with e2 _ e2'
      subst e2 e2'
      obtain ⟨g1, o1, rfl, hg1, ⟨a0, a1, a2, a3⟩, hk1, hk1', hrd1⟩ := hr1 j p1 hp1
      obtain ⟨g2, o2, rfl, hg2, ⟨b0, b1, b2, b3⟩, hk2, hk2', hrd2⟩ := hr2 j p2 hp2
      obtain ⟨m1, B1, d1⟩ := p1
      obtain ⟨m2, B2, d2⟩ := p2
      simp only at hm
      subst hm
      obtain ⟨o, e, u, ml⟩ := m1
      simp only [Pm.v] at a0 a1 a2 a3 b0 b1 b2 b3 hk1 hk1' hk2 hk2' hrd1 hrd2
      obtain ⟨M, hM⟩ : ∃ M, ml.length = M := ⟨_, rfl⟩
      rw [hM] at a3 b3 hk1 hk2
      have HM := Lib.hid hM
      have HR1 := Lib.hid hrd1
      have HR2 := Lib.hid hrd2
      have HC : Hid (∀ W, Below w.heap.size w W → (W.cell? ⟨g1, o1 + j * 4, none⟩ = some (.int .i64 o) ∧ W.cell? ⟨g1, o1 + j * 4 + 1, none⟩ = some (.int .i64 e) ∧ W.cell? ⟨g1, o1 + j * 4 + 2, none⟩ = some (.int .i64 u) ∧ W.cell? ⟨g1, o1 + j * 4 + 3, none⟩ = some (.slice B1 M d1)) ∧ (W.cell? ⟨g2, o2 + j * 4, none⟩ = some (.int .i64 o) ∧ W.cell? ⟨g2, o2 + j * 4 + 1, none⟩ = some (.int .i64 e) ∧ W.cell? ⟨g2, o2 + j * 4 + 2, none⟩ = some (.int .i64 u) ∧ W.cell? ⟨g2, o2 + j * 4 + 3, none⟩ = some (.slice B2 M d2))) := fun W hb =>
        ⟨⟨(hb.cell hg1).trans a0, (hb.cell hg1).trans a1, (hb.cell hg1).trans a2, (hb.cell hg1).trans a3⟩, ⟨(hb.cell hg2).trans b0, (hb.cell hg2).trans b1, (hb.cell hg2).trans b2, (hb.cell hg2).trans b3⟩⟩
      clear hr1 hr2 hM hrd1 hrd2 a0 a1 a2 a3 b0 b1 b2 b3 hp1 hp2 hg1 hg2
      obtain ⟨⟨a0, a1, a2, a3⟩, ⟨b0, b1, b2, b3⟩⟩ := HC.out wr HB.out
      have q1 : (j : Int) < (N : Int) := by omega
      have q2 : ¬ ((N : Int) ≤ (j : Int)) := by omega
      go_wp2
      go_quiet (fail)
      go_wp2
      have HBd : Hid (Below w.heap.size w (wr.drewN nq)) := Me.below_drewN HB.out nq
      clear a0 a1 a2 a3 b0 b1 b2 b3
      obtain ⟨W0, hW0⟩ : ∃ W0, wr.drewN nq = W0 := ⟨_, rfl⟩
      rw [hW0] at HBd ⊢
      clear hW0
      go_loopw [6] (fun v6 wx => ∃ k : Nat, k ≤ M ∧ v6 = .int .i64 (k : Int) ∧ Hid (Below w.heap.size w wx)) (fun v6 _ => M - (intOf v6).toNat)
      case atStart => exact ⟨0, by omega, rfl, HBd⟩
      case round =>
        obtain ⟨k, hk, rfl, HBk⟩ := hrel
        obtain ⟨⟨a0, a1, a2, a3⟩, ⟨b0, b1, b2, b3⟩⟩ := HC.out wr HBk.out
        by_cases hkl : k < M
        · obtain ⟨f1, r1, rfl, hf1, s1⟩ := HR1.out (by have := HM.out; omega)
          obtain ⟨f2, r2, rfl, hf2, s2⟩ := HR2.out (by have := HM.out; omega)
          have z1 := (HBk.out.cell (p := ⟨f1, r1 + k, none⟩) hf1).trans (s1 k (by have := HM.out; omega))
          have z2 := (HBk.out.cell (p := ⟨f2, r2 + k, none⟩) hf2).trans (s2 k (by have := HM.out; omega))
          obtain ⟨z, hz⟩ : ∃ z, Mi.at_ ml k = z := ⟨_, rfl⟩
          rw [hz] at z1 z2
          have q3 : (k : Int) < (M : Int) := by omega
          have q4 : ¬ ((M : Int) ≤ (k : Int)) := by omega
          clear s1 s2 hz
          go_wp2
          go_quiet (fail)
          go_wp2
          go_roundw
          case rel => exact ⟨k + 1, hkl, by go_num, Me.below_drewN HBk.out _⟩
          case measure => simp [intOf]; omega
        · obtain rfl : k = M := by omega
          have q3 : ¬ (k : Int) < (k : Int) := by omega
          go_wp2
          go_roundw
          case rel => exact ⟨j + 1, hlt, by go_num, HBk⟩
          case measure => simp [intOf]; omega
    · obtain rfl : j = N := by omega
      have g1 : ¬ (j : Int) < (j : Int) := by omega
      go_wp2
      go_ret
      exact ⟨rfl, HB.out⟩
end Go.Proofs.YtfnlhfelpdkieaaGreat.Se
namespace Go.Proofs.YtfnlhfelpdkieaaGreat.So
open Go.RowKit
open Go.Proofs.YtfnlhfelpdkieaaGreat.Me Go.Proofs.YtfnlhfelpdkieaaGreat.Sb
set_option linter.unusedVariables false
set_option linter.unusedSimpArgs false

theorem mq_conv {w : World} {A : Option Addr} {L : List It} (h : Mq w A L) : ∀ (j : Nat) (x : It), L[j]? = some x → ∃ g off R cr, A = some ⟨g, off, none⟩ ∧ ∀ W, Below w.heap.size w W →
    (W.cell? ⟨g, off + j * 5, none⟩ = some (.int .i64 x.i.o) ∧ W.cell? ⟨g, off + j * 5 + 1, none⟩ = some (.int .i64 x.i.d) ∧ W.cell? ⟨g, off + j * 5 + 2, none⟩ = some (.int .i64 x.i.e) ∧ W.cell? ⟨g, off + j * 5 + 3, none⟩ = some (.int .i64 x.i.c) ∧ W.cell? ⟨g, off + j * 5 + 4, none⟩ = some (.slice R x.p.length cr)) ∧ Cv W R x.p.length cr (strOf x.p) := fun j x hj => by
  obtain ⟨g, off, R, cr, e, h1, ⟨c0, c1, c2, c3, c4⟩, h2, h3, _⟩ := h j x hj
  exact ⟨g, off, R, cr, e, fun W hW => ⟨⟨(hW.cell (p := ⟨g, off + j * 5, none⟩) h1).trans c0, (hW.cell (p := ⟨g, off + j * 5 + 1, none⟩) h1).trans c1, (hW.cell (p := ⟨g, off + j * 5 + 2, none⟩) h1).trans c2, (hW.cell (p := ⟨g, off + j * 5 + 3, none⟩) h1).trans c3, (hW.cell (p := ⟨g, off + j * 5 + 4, none⟩) h1).trans c4⟩, conv_rd W w.heap.size R x.p cr (h2.below hW) h3⟩⟩
set_option maxRecDepth 100000 in
set_option maxHeartbeats 8000000 in
theorem SameAllQ_eq (A1 A2 : Option Addr) (c1 c2 : Nat) (L : List It) (w : World) (h1 : Hid (Mq w A1 L)) (h2 : Hid (Mq w A2 L)) (hl : L.length ≤ 10000000000000) : Calls Tryz.prog 39 #[.slice A1 L.length c1, .slice A2 L.length c2] w fun e w' => e = .returned (.bool true) ∧ Hid (Below w.heap.size w w') := by
  have R1 := Lib.hid (mq_conv h1.out)
  have R2 := Lib.hid (mq_conv h2.out)
  have HJ : Hid (∀ j, j < L.length → ∃ x, L[j]? = some x) := fun j hj => ⟨_, List.getElem?_eq_getElem hj⟩
  obtain ⟨N, hN⟩ : ∃ N, L.length = N := ⟨_, rfl⟩
  rw [hN] at HJ hl ⊢
  clear h1 h2 hN
  go_enter Tryz.func39, Tryz.ntmps39
  go_wp2
  go_loopw [5] (fun v5 wr => ∃ j : Nat, j ≤ N ∧ v5 = .int .i64 (j : Int) ∧ Hid (Below w.heap.size w wr)) (fun v5 _ => N - (intOf v5).toNat)
  case atStart => exact ⟨0, by omega, rfl, Below.refl _ _⟩
  case round =>
    obtain ⟨j, hj, rfl, HB⟩ := hrel
    by_cases hlt : j < N
    · obtain ⟨⟨⟨o, d, ee, cc⟩, p⟩, hx⟩ := HJ.out j hlt
      obtain ⟨g1, o1, P1, k1, rfl, e1⟩ := R1.out j _ hx
      obtain ⟨g2, o2, P2, k2, rfl, e2⟩ := R2.out j _ hx
      have f1 : (j : Int) < (N : Int) := by omega
      have f2 : (j : Int) ≤ 9223372036854775806 := by omega
      simp only at e1 e2
      obtain ⟨n, hn⟩ : ∃ n, p.length = n := ⟨_, rfl⟩
      obtain ⟨s, hs⟩ : ∃ n, strOf p = n := ⟨_, rfl⟩
      rw [hn, hs] at e1 e2
      have E1 := Lib.hid e1
      have E2 := Lib.hid e2
      have HSm := Lib.hid (fun W (hW : Below w.heap.size w W) => RSame_eq o d ee cc P1 P2 n k1 k2 s W (fun W' hW' => (e1 W' (go_on hW hW')).2) (fun W' hW' => (e2 W' (go_on hW hW')).2))
      clear e1 e2 hn hs hx
      go_wp2
      have S0 : Below w.heap.size w wr.drew := HB.out.drew
      refine wp_region_held_drew (S := fun W => Below w.heap.size w W) (by kernel_rfl) S0 (fun hHeld => ?_)
      refine wpAnyH_take (i := 0) (v := .slice (some ⟨g1, o1, none⟩) N c1) rfl (by kernel_rfl) (by kernel_rfl) (by kernel_rfl) (fun _ _ _ h => h) (Or.inl ⟨by rfl, ?_⟩) (by first | assumption | exact trivial) ?_
      · intro W hSW; go_simp; try (with_reducible rfl)
      simp only [Act.put, List.getElem_toArray, List.getElem_cons_succ, List.getElem_cons_zero, List.setIfInBounds_toArray, List.set_cons_zero, List.set_cons_succ]
      refine wpAnyH_take (i := 1) (v := .int .i64 (j : Int)) rfl (by kernel_rfl) (by kernel_rfl) (by kernel_rfl) (fun _ _ _ h => h) (Or.inl ⟨by rfl, ?_⟩) (by first | assumption | exact trivial) ?_
      · intro W hSW; go_simp; try (with_reducible rfl)
      simp only [Act.put, List.getElem_toArray, List.getElem_cons_succ, List.getElem_cons_zero, List.setIfInBounds_toArray, List.set_cons_zero, List.set_cons_succ]
      refine wpAnyH_take (i := 2) (v := .pointer (some ⟨g1, o1 + j * 5, none⟩)) rfl (by kernel_rfl) (by kernel_rfl) (by kernel_rfl) (fun _ _ _ h => h) (Or.inl ⟨by rfl, ?_⟩) (by first | assumption | exact trivial) ?_
      · intro W hSW; go_simp; try (with_reducible rfl)
      simp only [Act.put, List.getElem_toArray, List.getElem_cons_succ, List.getElem_cons_zero, List.setIfInBounds_toArray, List.set_cons_zero, List.set_cons_succ]
      refine wpAnyH_take (i := 3) (v := .agg #[.int .i64 o, .int .i64 d, .int .i64 ee, .int .i64 cc, .slice P1 n k1]) rfl (by kernel_rfl) (by kernel_rfl) (by kernel_rfl) (fun _ _ _ h => h) (Or.inl ⟨by rfl, ?_⟩) (by first | assumption | exact trivial) ?_
      · intro W hSW; obtain ⟨⟨m0, m1, m2, m3, m4⟩, _⟩ := E1.out W hSW; go_simp; try (with_reducible rfl)
      simp only [Act.put, List.getElem_toArray, List.getElem_cons_succ, List.getElem_cons_zero, List.setIfInBounds_toArray, List.set_cons_zero, List.set_cons_succ]
      refine wpAnyH_take (i := 4) (v := .slice (some ⟨g2, o2, none⟩) N c2) rfl (by kernel_rfl) (by kernel_rfl) (by kernel_rfl) (fun _ _ _ h => h) (Or.inl ⟨by rfl, ?_⟩) (by first | assumption | exact trivial) ?_
      · intro W hSW; go_simp; try (with_reducible rfl)
      simp only [Act.put, List.getElem_toArray, List.getElem_cons_succ, List.getElem_cons_zero, List.setIfInBounds_toArray, List.set_cons_zero, List.set_cons_succ]
      refine wpAnyH_take (i := 5) (v := .int .i64 (j : Int)) rfl (by kernel_rfl) (by kernel_rfl) (by kernel_rfl) (fun _ _ _ h => h) (Or.inl ⟨by rfl, ?_⟩) (by first | assumption | exact trivial) ?_
      · intro W hSW; go_simp; try (with_reducible rfl)
      simp only [Act.put, List.getElem_toArray, List.getElem_cons_succ, List.getElem_cons_zero, List.setIfInBounds_toArray, List.set_cons_zero, List.set_cons_succ]
      refine wpAnyH_take (i := 6) (v := .pointer (some ⟨g2, o2 + j * 5, none⟩)) rfl (by kernel_rfl) (by kernel_rfl) (by kernel_rfl) (fun _ _ _ h => h) (Or.inl ⟨by rfl, ?_⟩) (by first | assumption | exact trivial) ?_
      · intro W hSW; go_simp; try (with_reducible rfl)
      simp only [Act.put, List.getElem_toArray, List.getElem_cons_succ, List.getElem_cons_zero, List.setIfInBounds_toArray, List.set_cons_zero, List.set_cons_succ]
      refine wpAnyH_take (i := 7) (v := .agg #[.int .i64 o, .int .i64 d, .int .i64 ee, .int .i64 cc, .slice P2 n k2]) rfl (by kernel_rfl) (by kernel_rfl) (by kernel_rfl) (fun _ _ _ h => h) (Or.inl ⟨by rfl, ?_⟩) (by first | assumption | exact trivial) ?_
      · intro W hSW; obtain ⟨⟨m0, m1, m2, m3, m4⟩, _⟩ := E2.out W hSW; go_simp; try (with_reducible rfl)
      simp only [Act.put, List.getElem_toArray, List.getElem_cons_succ, List.getElem_cons_zero, List.setIfInBounds_toArray, List.set_cons_zero, List.set_cons_succ]
      refine wpAnyH_ready (rs := [8]) (by kernel_rfl) (by simp) ?_
      refine AllReadyH.cons rfl (fun K hK => ?_) AllReadyH.nil
      go_simp
      go_wp2_with (go_at_call 72; refine (HSm.out _ S0).mono ?_; rintro e w5 ⟨rfl, b5⟩)
      have S5 : Below w.heap.size w w5 := go_on S0 b5.out
      refine hK.out _ _ (S5) (fun hHeld => ?_)
      clear hK K
      refine wpAnyH_take (i := 9) (v := .bool false) rfl (by kernel_rfl) (by kernel_rfl) (by kernel_rfl) (fun _ _ _ h => h) (Or.inl ⟨by rfl, ?_⟩) (by first | assumption | exact trivial) ?_
      · intro W hSW; go_simp; try (with_reducible rfl)
      simp only [Act.put, List.getElem_toArray, List.getElem_cons_succ, List.getElem_cons_zero, List.setIfInBounds_toArray, List.set_cons_zero, List.set_cons_succ]
      refine wpAnyH_done (by kernel_rfl) ?_ _
      have S5 := Lib.hid S5
      clear hHeld
      go_wp2
      go_roundw
      case rel => exact ⟨j + 1, by omega, by go_num, S5⟩
      case measure => simp [intOf]; omega
    · obtain rfl : j = N := by omega
      have f1 : ¬ (j : Int) < (j : Int) := by omega
      go_wp2
      go_ret
      exact ⟨rfl, HB.out⟩
set_option maxRecDepth 100000 in
set_option maxHeartbeats 8000000 in
theorem SameStateQ_eq (a b : Int) (A1 A2 B1 B2 : Option Addr) (c1 c2 d1 d2 : Nat) (m1 m2 : Value) (U : Ns) (L : List It) (P1 P2 : List Se.Pm) (w : World) (hu1 : Hid (Nq w A1 U)) (hu2 : Hid (Nq w A2 U)) (hh1 : Hid (Mq w B1 L)) (hh2 : Hid (Mq w B2 L)) (hm1 : Hid (Se.Mv w m1 P1)) (hm2 : Hid (Se.Mv w m2 P2)) (he : P1.map Se.Pm.m = P2.map Se.Pm.m)
    (hU : U.length ≤ 100000000000000) (hl : L.length ≤ 10000000000000) (hp : P1.length ≤ 3000000000000) : Calls Tryz.prog 22 #[.agg (stv a b (.slice A1 U.length c1) (.slice B1 L.length d1) m1), .agg (stv a b (.slice A2 U.length c2) (.slice B2 L.length d2) m2)] w fun e w' => e = .returned (.bool true) ∧ Hid (Below w.heap.size w w') := by
  have R1 := Lib.hid (nq_cells hu1.out)
  have R2 := Lib.hid (nq_cells hu2.out)
  have HA := Lib.hid (fun W (hW : Below w.heap.size w W) => SameAllQ_eq B1 B2 d1 d2 L W (Lib.hid (hh1.out.below hW)) (Lib.hid (hh2.out.below hW)) hl)
  have HM := Lib.hid (fun W (hW : Below w.heap.size w W) => Se.SameB_eq m1 m2 P1 P2 W (Lib.hid (hm1.out.below hW)) (Lib.hid (hm2.out.below hW)) (Lib.hid he) hp)
  obtain ⟨N, hN⟩ : ∃ N, U.length = N := ⟨_, rfl⟩
  rw [hN] at R1 R2 hU ⊢
  obtain ⟨h1, hh1e⟩ : ∃ x, Value.slice B1 L.length d1 = x := ⟨_, rfl⟩
  obtain ⟨h2, hh2e⟩ : ∃ x, Value.slice B2 L.length d2 = x := ⟨_, rfl⟩
  obtain ⟨LL, hLL⟩ : ∃ x, L.length = x := ⟨_, rfl⟩
  rw [hLL] at HA hl hh1e hh2e ⊢
  subst hh1e hh2e
  unfold stv
  obtain ⟨hB, hY, hX⟩ := two_new w #[.int .i64 a, .int .i64 b, .slice A1 N c1, .slice B1 LL d1, m1] #[.int .i64 a, .int .i64 b, .slice A2 N c2, .slice B2 LL d2, m2] 59 59
  obtain ⟨W0, hW0⟩ : ∃ W, (w.alloc (.cells #[.int .i64 a, .int .i64 b, .slice A1 N c1, .slice B1 LL d1, m1] 59)).alloc (.cells #[.int .i64 a, .int .i64 b, .slice A2 N c2, .slice B2 LL d2, m2] 59) = W := ⟨_, rfl⟩
  have HW0 := Lib.hid hW0
  obtain ⟨x0, x1, x2, x3, x4⟩ := st_cells hX
  obtain ⟨y0, y1, y2, y3, y4⟩ := st_cells hY
  rw [hW0] at hB hY hX
  have HC : Hid (∀ W, Below W0.heap.size W0 W → Below w.heap.size w W ∧ W.heap[w.heap.size]? = some (.cells #[.int .i64 a, .int .i64 b, .slice A1 N c1, .slice B1 LL d1, m1] 59 (0, 0)) ∧ W.heap[w.heap.size + 1]? = some (.cells #[.int .i64 a, .int .i64 b, .slice A2 N c2, .slice B2 LL d2, m2] 59 (0, 0))) := fun W hW => ⟨go_on hB hW, (hW.block _ (Array.getElem?_eq_some_iff.1 hX).1).trans hX, (hW.block _ (Array.getElem?_eq_some_iff.1 hY).1).trans hY⟩
  clear hu1 hu2 hh1 hh2 hm1 hm2 he hl hp hN hLL hB hY hX hW0
  go_enter Tryz.func22, Tryz.ntmps22
  go_wp2
  rw [HW0.out]
  clear x0 x1 x2 x3 x4 y0 y1 y2 y3 y4
  go_loopw [5] (fun v5 wr => ∃ j : Nat, j ≤ N ∧ v5 = .int .i64 (j : Int) ∧ Hid (Below W0.heap.size W0 wr)) (fun v5 _ => N - (intOf v5).toNat)
  case atStart => exact ⟨0, by omega, rfl, Below.refl _ _⟩
  case round =>
    obtain ⟨j, hj, rfl, HB⟩ := hrel
    obtain ⟨kb, kx, ky⟩ := HC.out wr HB.out
    obtain ⟨x0, x1, x2, x3, x4⟩ := st_cells kx
    obtain ⟨y0, y1, y2, y3, y4⟩ := st_cells ky
    by_cases hlt : j < N
    · obtain ⟨g1, o1, p, q, rfl, e0, e1⟩ := R1.out j hlt
      obtain ⟨g2, o2, p', q', rfl, e0', e2⟩ := R2.out j hlt
      rw [e0] at e0'
      cases e0'
      obtain ⟨z0, z1⟩ := e1 wr kb
      obtain ⟨z2, z3⟩ := e2 wr kb
      have f1 : (j : Int) < (N : Int) := by omega
      have f2 : (j : Int) ≤ 9223372036854775806 := by omega
      clear e0 e1 e2 kb kx ky
      go_wp2
      go_quiet (fail)
      go_wp2
      go_roundw
      case rel => exact ⟨j + 1, by omega, by go_num, Me.below_drewN HB.out _⟩
      case measure => simp [intOf]; omega
    · obtain rfl : j = N := by omega
      have f1 : ¬ (j : Int) < (j : Int) := by omega
      have KB := Lib.hid kb
      clear kb kx ky
      go_wp2_with (first
        | (go_at_call 39; refine (HA.out _ KB.out).mono ?_; rintro e w5 ⟨rfl, b5⟩; have K5 := Lib.hid (go_on HB.out b5.out); obtain ⟨kb, kx, ky⟩ := HC.out w5 K5.out; clear x0 x1 x2 x3 x4 y0 y1 y2 y3 y4; obtain ⟨x0, x1, x2, x3, x4⟩ := st_cells kx; obtain ⟨y0, y1, y2, y3, y4⟩ := st_cells ky; have KB5 := Lib.hid kb; clear kb kx ky)
        | (go_at_call 60; refine (HM.out _ KB5.out).mono ?_; rintro e w6 ⟨rfl, b6⟩))
      go_ret
      exact ⟨rfl, go_on KB5.out b6.out⟩
end Go.Proofs.YtfnlhfelpdkieaaGreat.So
