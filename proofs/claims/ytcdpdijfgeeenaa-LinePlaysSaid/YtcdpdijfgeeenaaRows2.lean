/- Lists of bytes that came in: what memory holds of them, and how many bytes they have together where their bulk is bounded. -/
import Derived.Test.YtcdpdijfgeeenaaKit
import Derived.Deep.Matrix
namespace Go.Proofs.Ytcdpdijfgeeenaa.Me
open Go.RowKit Go.Deep
open Go.ChangeShapes Go.WideShapes
set_option linter.unusedVariables false

def lsAt (ls : List (List Nat)) (j : Nat) : List Nat := ls.getD j []
/-- A slice's address leads to slices that lead, below block B, to these lists of bytes. -/
def Lst (w : World) (B : Nat) (a : Option Addr) (ls : List (List Nat)) : Prop :=
  0 < ls.length → ∃ b off, a = some ⟨b, off, none⟩ ∧ b < w.heap.size ∧ ∀ j, j < ls.length → ∃ A c, w.cell? ⟨b, off + j, none⟩ = some (.slice A (lsAt ls j).length c) ∧ (lsAt ls j).length ≤ c ∧ c ≤ 9223372036854775807 ∧ Rd w B A (lsAt ls j)
theorem Lst.bytes {w : World} {B : Nat} {a : Option Addr} {ls : List (List Nat)} (h : Lst w B a ls) : ∀ l ∈ ls, ∀ z ∈ l, z < 256 := by
  intro l hl z hz
  obtain ⟨j, hj, rfl⟩ := List.mem_iff_getElem.mp hl
  obtain ⟨_, _, _, _, hc⟩ := h (by omega)
  obtain ⟨_, _, _, _, _, hr⟩ := hc j hj
  refine hr.1 z ?_
  simpa [lsAt, hj] using hz
/-- The lists' slices that are nil have no room. -/
def Nils (w : World) (a : Option Addr) (ls : List (List Nat)) : Prop :=
  ∀ b off, a = some ⟨b, off, none⟩ → ∀ j, j < ls.length → ∀ n c, w.cell? ⟨b, off + j, none⟩ = some (.slice none n c) → n = 0 ∧ c = 0
theorem Lst.below {w w' : World} {B : Nat} {a : Option Addr} {ls : List (List Nat)} (h : Lst w B a ls) (hb : Below w.heap.size w w') (hB : B ≤ w.heap.size) : Lst w' B a ls := by
  intro hl
  obtain ⟨b, off, ha, hlt, hc⟩ := h hl
  refine ⟨b, off, ha, Nat.lt_of_lt_of_le hlt hb.size, fun j hj => ?_⟩
  obtain ⟨A, c, h1, h2, h3, h4⟩ := hc j hj
  exact ⟨A, c, (hb.cell (p := ⟨b, off + j, none⟩) hlt).trans h1, h2, h3, h4.below (hb.mono hB)⟩
theorem flat_step {ls : List (List Nat)} {k : Nat} (h : k < ls.length) : (ls.take (k + 1)).flatten = (ls.take k).flatten ++ lsAt ls k := by
  have e : lsAt ls k = ls[k] := by simp [lsAt, h]
  rw [List.take_succ_eq_append_getElem h, List.flatten_append, e]; simp
theorem flat_len (ls : List (List Nat)) (k : Nat) : (ls.take k).flatten.length ≤ ls.flatten.length := by
  conv => rhs; rw [← List.take_append_drop k ls, List.flatten_append, List.length_append]
  omega
theorem bulk_pos {H : Type} (d : DataW H) : 1 ≤ Rows.uptoBulk d := by
  cases d with
  | lit l => cases l <;> simp [Rows.uptoBulk]
  | nil => simp [Rows.uptoBulk]
  | ptr d => simp [Rows.uptoBulk]
  | slice elems spare => simp [Rows.uptoBulk]
  | agg parts => simp [Rows.uptoBulk]
  | iface t d => simp [Rows.uptoBulk]
  | map entries => simp [Rows.uptoBulk]
  | held h => simp [Rows.uptoBulk]
theorem bulk_append {H : Type} (l r : List (DataW H)) : Rows.uptoBulkAll (l ++ r) = Rows.uptoBulkAll l + Rows.uptoBulkAll r := by
  induction l with
  | nil => simp [Rows.uptoBulkAll]
  | cons x l ih => simp only [List.cons_append, Rows.uptoBulkAll, ih]; omega
theorem bulk_length {H : Type} (l : List (DataW H)) : l.length ≤ Rows.uptoBulkAll l := by
  induction l with
  | nil => simp [Rows.uptoBulkAll]
  | cons x r ih => have := bulk_pos x; simp only [Rows.uptoBulkAll, List.length_cons]; omega
theorem bulk_row {H : Type} {k : IntKind} (A : Option Addr) (L : Nat) (zs : List Int) (hL : L ≤ zs.length) (hA : A = none → L = 0) : L + 1 ≤ Rows.uptoBulk (intRow (H := H) k A L zs) := by
  rcases A with _ | a
  · rw [hA rfl]; exact bulk_pos _
  · have h := bulk_length (lits (H := H) k (zs.take L))
    simp only [intRow, Rows.uptoBulk]
    simp only [lits, List.length_map, List.length_take] at h ⊢
    omega
def rowsOf (L : Nat → Nat) (Z : Nat → List Int) (n : Nat) : List (List Nat) := (List.range n).map fun r => ((Z r).take (L r)).map Int.toNat
theorem rows_bulk {H : Type} (A : Nat → Option Addr) (L : Nat → Nat) (Z : Nat → List Int) : ∀ n, (∀ r, r < n → L r ≤ (Z r).length ∧ (A r = none → L r = 0)) →
    (rowsOf L Z n).flatten.length + n ≤ Rows.uptoBulkAll ((List.range n).map fun r => intRow (H := H) .u8 (A r) (L r) (Z r))
  | 0, _ => by simp [rowsOf]
  | n + 1, h => by
    have ih := rows_bulk (H := H) A L Z n fun r hr => h r (by omega)
    have h1 := h n (by omega)
    have h2 := bulk_row (H := H) (k := .u8) (A n) (L n) (Z n) h1.1 h1.2
    unfold rowsOf at ih ⊢
    rw [List.range_succ, List.map_append, List.flatten_append, List.length_append, List.map_append, bulk_append]
    simp only [List.map_cons, List.map_nil, List.flatten_cons, List.flatten_nil, List.append_nil, List.length_map, List.length_take, Rows.uptoBulkAll]
    omega
theorem rows_at (L : Nat → Nat) (Z : Nat → List Int) {n j : Nat} (h : j < n) : lsAt (rowsOf L Z n) j = ((Z j).take (L j)).map Int.toNat := by
  simp [lsAt, rowsOf, h]
theorem rows_in {H : Type} {enc : TypeId × Value → H} {w : World} {base fuel : Nat} {held : Bool} {a : Option Addr} {len cap : Nat} {d : DataW H} {pl : List MemPlace}
    (h : DataW.trod enc Try.prog w base (fun _ => true) held fuel 42 [.slice a len cap] = some (d, pl)) :
    ∃ ls, len = ls.length ∧ len ≤ 9223372036854775807 ∧ Lst w w.heap.size a ls ∧ Nils w a ls ∧ ls.flatten.length + ls.length ≤ Rows.uptoBulk d := by
  rcases open_int_rows Try.underlying42 Try.underlying33 Try.underlying5 (by kernel_rfl) (by kernel_rfl) h with ⟨hcs, hx⟩ | ⟨x, l, c, A, L, C, Z, hcs, _, hl, hm, hx, hc⟩
  · simp at hcs
    obtain ⟨rfl, rfl, rfl⟩ := hcs
    exact ⟨[], rfl, Nat.zero_le _, fun hh => absurd hh (by simp), fun _ _ _ j hj => absurd hj (by simp), by simp⟩
  · simp at hcs
    obtain ⟨rfl, rfl, rfl⟩ := hcs
    simp only [Prod.mk.injEq] at hx
    obtain ⟨rfl, _⟩ := hx
    have hlen : (rowsOf L Z len).length = len := by simp [rowsOf]
    refine ⟨rowsOf L Z len, hlen.symm, by unfold maxLen at hm; omega, ?_, ?_, ?_⟩
    · intro hp
      rw [hlen] at hp
      obtain ⟨b, off, spot⟩ := x
      have hspot : spot = none := by simpa [Addr.add] using World.cell?_spot (hc 0 (by omega)).1
      subst hspot
      refine ⟨b, off, rfl, ?_, fun j hj => ?_⟩
      · have := (hc 0 (by omega)).1
        rw [Go.WideShapes.add_plain] at this
        exact World.block_lt_of_cell? w _ this
      · rw [hlen] at hj
        obtain ⟨g1, g2, g3, g4, g5, g6, g7⟩ := hc j (by omega)
        rw [Go.WideShapes.add_plain] at g1
        have hln : (lsAt (rowsOf L Z len) j).length = L j := by rw [rows_at L Z hj]; simp; omega
        refine ⟨A j, C j, by rw [hln]; exact g1, by rw [hln]; exact g2, by unfold maxLen at g3; omega, ?_⟩
        rw [rows_at L Z hj]
        rcases hA : A j with _ | a'
        · have hC := g6 hA
          have hL0 : L j = 0 := by omega
          rw [hL0, List.take_zero]
          exact ⟨by simp, by simp⟩
        · obtain ⟨l', hl'⟩ := bySlice_some (w := w) (x := a') (len := L j) (cap := C j) (zs := Z j) g2 g3 g4 (fun i hi => (g7 a' hA).2 i (by omega)) g5
          obtain ⟨h1, h2, h3, h4, h5⟩ := hl'
          refine ⟨?_, fun hp' => ?_⟩
          · intro z hz
            obtain ⟨n, hn, rfl⟩ := List.mem_map.mp hz
            have := bounds_u8 (g5 n (List.mem_of_mem_take hn))
            omega
          · have hcell : ∀ i, i < (Z j).length → w.cell? (a'.add i) = some (.int .u8 ((Z j).getD i 0)) := fun i hi => (g7 a' hA).2 i (by omega)
            simp at hp'
            obtain ⟨b', off', rfl, hcc⟩ := ints_at hcell (by omega)
            refine ⟨b', off', rfl, World.block_lt_of_cell? w _ (hcc 0 (by omega)), fun i hi => ?_⟩
            simp at hi
            rw [hcc i (by omega)]
            have hi' : i < (Z j).length := by omega
            have hb := bounds_u8 (g5 (Z j)[i] (List.getElem_mem hi'))
            have e1 : (Z j).getD i 0 = (Z j)[i] := by simp [hi']
            have e2 : by_ (((Z j).take (L j)).map Int.toNat) i = (Z j)[i].toNat := by
              have hiL : i < L j := by omega
              simp [by_, hi', hiL]
            rw [e1, e2]
            congr 2
            omega
    · intro b off e j hj n cc hcell
      rw [hlen] at hj
      simp only [Option.some.injEq] at e
      subst e
      obtain ⟨g1, g2, g3, g4, g5, g6, g7⟩ := hc j (by omega)
      rw [Go.WideShapes.add_plain, hcell] at g1
      simp only [Option.some.injEq, Value.slice.injEq] at g1
      have hC := g6 g1.1.symm
      omega
    · have hb := rows_bulk (H := H) A L Z len fun r hr => by
        obtain ⟨_, g2, _, g4, _, g6, _⟩ := hc r (by omega)
        exact ⟨by omega, fun e => by have := g6 e; omega⟩
      simp only [Rows.uptoBulk]
      omega
/-- Bytes that came in have at most the room that their bulk says. -/
theorem bulk_cap {H : Type} {enc : TypeId × Value → H} {w : World} {base fuel : Nat} {held : Bool} {a : Option Addr} {len cap : Nat} {d : DataW H} {pl : List MemPlace}
    (h : DataW.trod enc Try.prog w base (fun _ => true) held fuel 33 [.slice a len cap] = some (d, pl)) : cap ≤ Rows.uptoBulk d := by
  rcases open_ints Try.underlying33 Try.underlying5 (by kernel_rfl) h with ⟨hcs, _⟩ | ⟨x, l, c, zs, hcs, _, hl, hm, hz, hx, hcell, hwz⟩
  · simp at hcs
    obtain ⟨rfl, rfl, rfl⟩ := hcs
    exact Nat.zero_le _
  · simp at hcs
    obtain ⟨rfl, rfl, rfl⟩ := hcs
    simp only [Prod.mk.injEq] at hx
    obtain ⟨rfl, _⟩ := hx
    have h1 := bulk_length (lits (H := H) .u8 (zs.take len))
    have h2 := bulk_length (lits (H := H) .u8 (zs.drop len))
    have hz' : zs.length = cap := by simpa using hz
    simp only [Rows.uptoBulk]
    simp only [lits, List.length_map, List.length_take, List.length_drop] at h1 h2 ⊢
    omega
end Go.Proofs.Ytcdpdijfgeeenaa.Me
