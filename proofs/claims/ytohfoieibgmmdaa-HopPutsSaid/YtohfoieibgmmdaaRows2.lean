/- Lists of bytes that came in: what memory holds of them, and how many bytes they have together where their bulk is bounded. -/
import Derived.Test.YtohfoieibgmmdaaKit
import Derived.Deep.Matrix
namespace Go.Proofs.Ytohfoieibgmmdaa.Me
open Go.RowKit Go.Deep
open Go.ChangeShapes Go.WideShapes
set_option linter.unusedVariables false

def lsAt (ls : List (List Nat)) (j : Nat) : List Nat := ls.getD j []
/-- A slice's address leads to slices that lead, below block B, to these lists of bytes. -/
def Lst (w : World) (B : Nat) (a : Option Addr) (ls : List (List Nat)) : Prop :=
  0 < ls.length → ∃ b off, a = some ⟨b, off, none⟩ ∧ b < w.heap.size ∧ ∀ j, j < ls.length → ∃ A c, w.cell? ⟨b, off + j, none⟩ = some (.slice A (lsAt ls j).length c) ∧ (lsAt ls j).length ≤ c ∧ c ≤ 9223372036854775807 ∧ Rd w B A (lsAt ls j)
theorem Lst.bytes {w : World} {B : Nat} {a : Option Addr} {ls : List (List Nat)} (h : Lst w B a ls) : ∀ l ∈ ls, ∀ z ∈ l, z < 256 := by
  intro l hl z hz
  obtain ⟨j, hj, rfl⟩ := List.mem_iff_getElem.mp hl
  obtain ⟨_, _, _, _, hc⟩ := h (by omega)
  obtain ⟨_, _, _, _, _, hr⟩ := hc j hj
  refine hr.1 z ?_
  simpa [lsAt, hj] using hz
/-- The lists' slices that are nil have no room. -/
def Nils (w : World) (a : Option Addr) (ls : List (List Nat)) : Prop :=
  ∀ b off, a = some ⟨b, off, none⟩ → ∀ j, j < ls.length → ∀ n c, w.cell? ⟨b, off + j, none⟩ = some (.slice none n c) → n = 0 ∧ c = 0
theorem Lst.below {w w' : World} {B : Nat} {a : Option Addr} {ls : List (List Nat)} (h : Lst w B a ls) (hb : Below w.heap.size w w') (hB : B ≤ w.heap.size) : Lst w' B a ls := by
  intro hl
  obtain ⟨b, off, ha, hlt, hc⟩ := h hl
  refine ⟨b, off, ha, Nat.lt_of_lt_of_le hlt hb.size, fun j hj => ?_⟩
  obtain ⟨A, c, h1, h2, h3, h4⟩ := hc j hj
  exact ⟨A, c, (hb.cell (p := ⟨b, off + j, none⟩) hlt).trans h1, h2, h3, h4.below (hb.mono hB)⟩
theorem flat_step {ls : List (List Nat)} {k : Nat} (h : k < ls.length) : (ls.take (k + 1)).flatten = (ls.take k).flatten ++ lsAt ls k := by
  have e : lsAt ls k = ls[k] := by simp [lsAt, h]
  rw [List.take_succ_eq_append_getElem h, List.flatten_append, e]; simp
theorem flat_len (ls : List (List Nat)) (k : Nat) : (ls.take k).flatten.length ≤ ls.flatten.length := by
  conv => rhs; rw [← List.take_append_drop k ls, List.flatten_append, List.length_append]
  omega
theorem bulk_pos {H : Type} (d : DataW H) : 1 ≤ Rows.uptoBulk d := by
  cases d with
  | lit l => cases l <;> simp [Rows.uptoBulk]
  | nil => simp [Rows.uptoBulk]
  | ptr d => simp [Rows.uptoBulk]
  | slice elems spare => simp [Rows.uptoBulk]
  | agg parts => simp [Rows.uptoBulk]
  | iface t d => simp [Rows.uptoBulk]
  | map entries => simp [Rows.uptoBulk]
  | held h => simp [Rows.uptoBulk]
theorem bulk_append {H : Type} (l r : List (DataW H)) : Rows.uptoBulkAll (l ++ r) = Rows.uptoBulkAll l + Rows.uptoBulkAll r := by
  induction l with
  | nil => simp [Rows.uptoBulkAll]
  | cons x l ih => simp only [List.cons_append, Rows.uptoBulkAll, ih]; omega
theorem bulk_length {H : Type} (l : List (DataW H)) : l.length ≤ Rows.uptoBulkAll l := by
  induction l with
  | nil => simp [Rows.uptoBulkAll]
  | cons x r ih => have := bulk_pos x; simp only [Rows.uptoBulkAll, List.length_cons]; omega
theorem bulk_row {H : Type} {k : IntKind} (A : Option Addr) (L : Nat) (zs : List Int) (hL : L ≤ zs.length) (hA : A = none → L = 0) : L + 1 ≤ Rows.uptoBulk (intRow (H := H) k A L zs) := by
  rcases A with _ | a
  · rw [hA rfl]; exact bulk_pos _
  · have h := bulk_length (lits (H := H) k (zs.take L))
    simp only [intRow, Rows.uptoBulk]
    simp only [lits, List.length_map, List.length_take] at h ⊢
    omega
def rowsOf (L : Nat → Nat) (Z : Nat → List Int) (n : Nat) : List (List Nat) := (List.range n).map fun r => ((Z r).take (L r)).map Int.toNat
theorem rows_bulk {H : Type} (A : Nat → Option Addr) (L : Nat → Nat) (Z : Nat → List Int) : ∀ n, (∀ r, r < n → L r ≤ (Z r).length ∧ (A r = none → L r = 0)) →
    (rowsOf L Z n).flatten.length + n ≤ Rows.uptoBulkAll ((List.range n).map fun r => intRow (H := H) .u8 (A r) (L r) (Z r))
  | 0, _ => by simp [rowsOf]
  | n + 1, h => by
    have ih := rows_bulk (H := H) A L Z n fun r hr => h r (by omega)
    have h1 := h n (by omega)
    have h2 := bulk_row (H := H) (k := .u8) (A n) (L n) (Z n) h1.1 h1.2
    unfold rowsOf at ih ⊢
    rw [List.range_succ, List.map_append, List.flatten_append, List.length_append, List.map_append, bulk_append]
    simp only [List.map_cons, List.map_nil, List.flatten_cons, List.flatten_nil, List.append_nil, List.length_map, List.length_take, Rows.uptoBulkAll]
    omega
theorem rows_at (L : Nat → Nat) (Z : Nat → List Int) {n j : Nat} (h : j < n) : lsAt (rowsOf L Z n) j = ((Z j).take (L j)).map Int.toNat := by
  simp [lsAt, rowsOf, h]
/-- Bytes that came in have at most the room that their bulk says. -/
theorem bulk_cap {H : Type} {enc : TypeId × Value → H} {w : World} {base fuel : Nat} {held : Bool} {a : Option Addr} {len cap : Nat} {d : DataW H} {pl : List MemPlace}
    (h : DataW.trod enc Try.prog w base (fun _ => true) held fuel 24 [.slice a len cap] = some (d, pl)) : cap ≤ Rows.uptoBulk d := by
  rcases open_ints Try.underlying24 Try.underlying5 (by kernel_rfl) h with ⟨hcs, _⟩ | ⟨x, l, c, zs, hcs, _, hl, hm, hz, hx, hcell, hwz⟩
  · simp at hcs
    obtain ⟨rfl, rfl, rfl⟩ := hcs
    exact Nat.zero_le _
  · simp at hcs
    obtain ⟨rfl, rfl, rfl⟩ := hcs
    simp only [Prod.mk.injEq] at hx
    obtain ⟨rfl, _⟩ := hx
    have h1 := bulk_length (lits (H := H) .u8 (zs.take len))
    have h2 := bulk_length (lits (H := H) .u8 (zs.drop len))
    have hz' : zs.length = cap := by simpa using hz
    simp only [Rows.uptoBulk]
    simp only [lits, List.length_map, List.length_take, List.length_drop] at h1 h2 ⊢
    omega
end Go.Proofs.Ytohfoieibgmmdaa.Me
