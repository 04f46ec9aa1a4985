/- Lists of bytes that came in: what memory holds of them, and how many bytes they have together where their bulk is bounded. -/
import Derived.Test.YtbacgljeadalbaaGreatDoorZ1
import Derived.Test.YtbacgljeadalbaaGreatDoorZ2
import Derived.Test.YtbacgljeadalbaaGreatDoorZ3
import Derived.Deep.Matrix
namespace Go.Proofs.YtbacgljeadalbaaGreatDoor.Me
open Go.RowKit Go.Deep
open Go.ChangeShapes Go.WideShapes
set_option linter.unusedVariables false

def lsAt (ls : List (List Nat)) (j : Nat) : List Nat := ls.getD j []
/-- A slice's address leads to slices that lead, below block B, to these lists of bytes. -/
def Lst (w : World) (B : Nat) (a : Option Addr) (ls : List (List Nat)) : Prop :=
  0 < ls.length → ∃ b off, a = some ⟨b, off, none⟩ ∧ b < w.heap.size ∧ ∀ j, j < ls.length → ∃ A c, w.cell? ⟨b, off + j, none⟩ = some (.slice A (lsAt ls j).length c) ∧ (lsAt ls j).length ≤ c ∧ c ≤ 9223372036854775807 ∧ Rd w B A (lsAt ls j)
theorem Lst.bytes {w : World} {B : Nat} {a : Option Addr} {ls : List (List Nat)} (h : Lst w B a ls) : ∀ l ∈ ls, ∀ z ∈ l, z < 256 := by
  intro l hl z hz
  obtain ⟨j, hj, rfl⟩ := List.mem_iff_getElem.mp hl
  obtain ⟨_, _, _, _, hc⟩ := h (by omega)
  obtain ⟨_, _, _, _, _, hr⟩ := hc j hj
  refine hr.1 z ?_
  simpa [lsAt, hj] using hz
/-- The lists' slices that are nil have no room. -/
def Nils (w : World) (a : Option Addr) (ls : List (List Nat)) : Prop :=
  ∀ b off, a = some ⟨b, off, none⟩ → ∀ j, j < ls.length → ∀ n c, w.cell? ⟨b, off + j, none⟩ = some (.slice none n c) → n = 0 ∧ c = 0
theorem Lst.below {w w' : World} {B : Nat} {a : Option Addr} {ls : List (List Nat)} (h : Lst w B a ls) (hb : Below w.heap.size w w') (hB : B ≤ w.heap.size) : Lst w' B a ls := by
  intro hl
  obtain ⟨b, off, ha, hlt, hc⟩ := h hl
  refine ⟨b, off, ha, Nat.lt_of_lt_of_le hlt hb.size, fun j hj => ?_⟩
  obtain ⟨A, c, h1, h2, h3, h4⟩ := hc j hj
  exact ⟨A, c, (hb.cell (p := ⟨b, off + j, none⟩) hlt).trans h1, h2, h3, h4.below (hb.mono hB)⟩
theorem flat_step {ls : List (List Nat)} {k : Nat} (h : k < ls.length) : (ls.take (k + 1)).flatten = (ls.take k).flatten ++ lsAt ls k := by
  have e : lsAt ls k = ls[k] := by simp [lsAt, h]
  rw [List.take_succ_eq_append_getElem h, List.flatten_append, e]; simp
theorem flat_len (ls : List (List Nat)) (k : Nat) : (ls.take k).flatten.length ≤ ls.flatten.length := by
  conv => rhs; rw [← List.take_append_drop k ls, List.flatten_append, List.length_append]
  omega
theorem bulk_pos {H : Type} (d : DataW H) : 1 ≤ Rows.uptoBulk d := by
  cases d with
  | lit l => cases l <;> simp [Rows.uptoBulk]
  | nil => simp [Rows.uptoBulk]
  | ptr d => simp [Rows.uptoBulk]
  | slice elems spare => simp [Rows.uptoBulk]
  | agg parts => simp [Rows.uptoBulk]
  | iface t d => simp [Rows.uptoBulk]
  | map entries => simp [Rows.uptoBulk]
  | held h => simp [Rows.uptoBulk]
theorem bulk_append {H : Type} (l r : List (DataW H)) : Rows.uptoBulkAll (l ++ r) = Rows.uptoBulkAll l + Rows.uptoBulkAll r := by
  induction l with
  | nil => simp [Rows.uptoBulkAll]
  | cons x l ih => simp only [List.cons_append, Rows.uptoBulkAll, ih]; omega
theorem bulk_length {H : Type} (l : List (DataW H)) : l.length ≤ Rows.uptoBulkAll l := by
  induction l with
  | nil => simp [Rows.uptoBulkAll]
  | cons x r ih => have := bulk_pos x; simp only [Rows.uptoBulkAll, List.length_cons]; omega
theorem bulk_row {H : Type} {k : IntKind} (A : Option Addr) (L : Nat) (zs : List Int) (hL : L ≤ zs.length) (hA : A = none → L = 0) : L + 1 ≤ Rows.uptoBulk (intRow (H := H) k A L zs) := by
  rcases A with _ | a
  · rw [hA rfl]; exact bulk_pos _
  · have h := bulk_length (lits (H := H) k (zs.take L))
    simp only [intRow, Rows.uptoBulk]
    simp only [lits, List.length_map, List.length_take] at h ⊢
    omega
def rowsOf (L : Nat → Nat) (Z : Nat → List Int) (n : Nat) : List (List Nat) := (List.range n).map fun r => ((Z r).take (L r)).map Int.toNat
theorem rows_bulk {H : Type} (A : Nat → Option Addr) (L : Nat → Nat) (Z : Nat → List Int) : ∀ n, (∀ r, r < n → L r ≤ (Z r).length ∧ (A r = none → L r = 0)) →
    (rowsOf L Z n).flatten.length + n ≤ Rows.uptoBulkAll ((List.range n).map fun r => intRow (H := H) .u8 (A r) (L r) (Z r))
  | 0, _ => by simp [rowsOf]
  | n + 1, h => by
    have ih := rows_bulk (H := H) A L Z n fun r hr => h r (by omega)
    have h1 := h n (by omega)
    have h2 := bulk_row (H := H) (k := .u8) (A n) (L n) (Z n) h1.1 h1.2
    unfold rowsOf at ih ⊢
    rw [List.range_succ, List.map_append, List.flatten_append, List.length_append, List.map_append, bulk_append]
    simp only [List.map_cons, List.map_nil, List.flatten_cons, List.flatten_nil, List.append_nil, List.length_map, List.length_take, Rows.uptoBulkAll]
    omega
theorem rows_at (L : Nat → Nat) (Z : Nat → List Int) {n j : Nat} (h : j < n) : lsAt (rowsOf L Z n) j = ((Z j).take (L j)).map Int.toNat := by
  simp [lsAt, rowsOf, h]
theorem rows_in {H : Type} {enc : TypeId × Value → H} {w : World} {base fuel : Nat} {held : Bool} {a : Option Addr} {len cap : Nat} {d : DataW H} {pl : List MemPlace}
    (h : DataW.trod enc Tryz.prog w base (fun _ => true) held fuel 31 [.slice a len cap] = some (d, pl)) :
    ∃ ls, len = ls.length ∧ len ≤ 9223372036854775807 ∧ Lst w w.heap.size a ls ∧ Nils w a ls ∧ ls.flatten.length + ls.length ≤ Rows.uptoBulk d := by
  rcases open_int_rows Tryz.underlying31 Tryz.underlying32 Tryz.underlying5 (by kernel_rfl) (by kernel_rfl) h with ⟨hcs, hx⟩ | ⟨x, l, c, A, L, C, Z, hcs, _, hl, hm, hx, hc⟩
  · simp at hcs
    obtain ⟨rfl, rfl, rfl⟩ := hcs
    exact ⟨[], rfl, Nat.zero_le _, fun hh => absurd hh (by simp), fun _ _ _ j hj => absurd hj (by simp), by simp⟩
  · simp at hcs
    obtain ⟨rfl, rfl, rfl⟩ := hcs
    simp only [Prod.mk.injEq] at hx
    obtain ⟨rfl, _⟩ := hx
    have hlen : (rowsOf L Z len).length = len := by simp [rowsOf]
    refine ⟨rowsOf L Z len, hlen.symm, by unfold maxLen at hm; omega, ?_, ?_, ?_⟩
    · intro hp
      rw [hlen] at hp
      obtain ⟨b, off, spot⟩ := x
      have hspot : spot = none := by simpa [Addr.add] using World.cell?_spot (hc 0 (by omega)).1
      subst hspot
      refine ⟨b, off, rfl, ?_, fun j hj => ?_⟩
      · have := (hc 0 (by omega)).1
        rw [Go.WideShapes.add_plain] at this
        exact World.block_lt_of_cell? w _ this
      · rw [hlen] at hj
        obtain ⟨g1, g2, g3, g4, g5, g6, g7⟩ := hc j (by omega)
        rw [Go.WideShapes.add_plain] at g1
        have hln : (lsAt (rowsOf L Z len) j).length = L j := by rw [rows_at L Z hj]; simp; omega
        refine ⟨A j, C j, by rw [hln]; exact g1, by rw [hln]; exact g2, by unfold maxLen at g3; omega, ?_⟩
        rw [rows_at L Z hj]
        rcases hA : A j with _ | a'
        · have hC := g6 hA
          have hL0 : L j = 0 := by omega
          rw [hL0, List.take_zero]
          exact ⟨by simp, by simp⟩
        · obtain ⟨l', hl'⟩ := bySlice_some (w := w) (x := a') (len := L j) (cap := C j) (zs := Z j) g2 g3 g4 (fun i hi => (g7 a' hA).2 i (by omega)) g5
          obtain ⟨h1, h2, h3, h4, h5⟩ := hl'
          refine ⟨?_, fun hp' => ?_⟩
          · intro z hz
            obtain ⟨n, hn, rfl⟩ := List.mem_map.mp hz
            have := bounds_u8 (g5 n (List.mem_of_mem_take hn))
            omega
          · have hcell : ∀ i, i < (Z j).length → w.cell? (a'.add i) = some (.int .u8 ((Z j).getD i 0)) := fun i hi => (g7 a' hA).2 i (by omega)
            simp at hp'
            obtain ⟨b', off', rfl, hcc⟩ := ints_at hcell (by omega)
            refine ⟨b', off', rfl, World.block_lt_of_cell? w _ (hcc 0 (by omega)), fun i hi => ?_⟩
            simp at hi
            rw [hcc i (by omega)]
            have hi' : i < (Z j).length := by omega
            have hb := bounds_u8 (g5 (Z j)[i] (List.getElem_mem hi'))
            have e1 : (Z j).getD i 0 = (Z j)[i] := by simp [hi']
            have e2 : by_ (((Z j).take (L j)).map Int.toNat) i = (Z j)[i].toNat := by
              have hiL : i < L j := by omega
              simp [by_, hi', hiL]
            rw [e1, e2]
            congr 2
            omega
    · intro b off e j hj n cc hcell
      rw [hlen] at hj
      simp only [Option.some.injEq] at e
      subst e
      obtain ⟨g1, g2, g3, g4, g5, g6, g7⟩ := hc j (by omega)
      rw [Go.WideShapes.add_plain, hcell] at g1
      simp only [Option.some.injEq, Value.slice.injEq] at g1
      have hC := g6 g1.1.symm
      omega
    · have hb := rows_bulk (H := H) A L Z len fun r hr => by
        obtain ⟨_, g2, _, g4, _, g6, _⟩ := hc r (by omega)
        exact ⟨by omega, fun e => by have := g6 e; omega⟩
      simp only [Rows.uptoBulk]
      omega
/-- Bytes that came in have at most the room that their bulk says. -/
theorem bulk_cap {H : Type} {enc : TypeId × Value → H} {w : World} {base fuel : Nat} {held : Bool} {a : Option Addr} {len cap : Nat} {d : DataW H} {pl : List MemPlace}
    (h : DataW.trod enc Tryz.prog w base (fun _ => true) held fuel 32 [.slice a len cap] = some (d, pl)) : cap ≤ Rows.uptoBulk d := by
  rcases open_ints Tryz.underlying32 Tryz.underlying5 (by kernel_rfl) h with ⟨hcs, _⟩ | ⟨x, l, c, zs, hcs, _, hl, hm, hz, hx, hcell, hwz⟩
  · simp at hcs
    obtain ⟨rfl, rfl, rfl⟩ := hcs
    exact Nat.zero_le _
  · simp at hcs
    obtain ⟨rfl, rfl, rfl⟩ := hcs
    simp only [Prod.mk.injEq] at hx
    obtain ⟨rfl, _⟩ := hx
    have h1 := bulk_length (lits (H := H) .u8 (zs.take len))
    have h2 := bulk_length (lits (H := H) .u8 (zs.drop len))
    have hz' : zs.length = cap := by simpa using hz
    simp only [Rows.uptoBulk]
    simp only [lits, List.length_map, List.length_take, List.length_drop] at h1 h2 ⊢
    omega
end Go.Proofs.YtbacgljeadalbaaGreatDoor.Me
/- Plain facts on records in a row of bytes; nothing here speaks of memory. -/
namespace Go.Proofs.YtbacgljeadalbaaGreatDoor.Rc
open Go.RowKit
open Go.Proofs.YtbacgljeadalbaaGreatDoor.Me Go.Proofs.YtbacgljeadalbaaGreatDoor.Ma
open Go.Proofs.YtbacgljeadalbaaGreatDoor.Cr (sum sum_lt reg tak stps P32 p32_lt stps_lt stps_inj reg_append reg_cons reg_lt tak_lt byte_lt reg32_lt)
set_option linter.unusedVariables false

/-! ### Numbers in bytes -/
theorem byts_high (a n k : Nat) : ∀ j, j ≤ k → byts (a * 256 ^ k + n) j = byts n j
  | 0, _ => rfl
  | j + 1, h => by
    have e : a * 256 ^ k = a * 256 ^ (k - (j + 1)) * 256 * 256 ^ j := by
      rw [Nat.mul_assoc, Nat.mul_assoc, ← Nat.pow_succ', ← Nat.pow_add]
      congr 2; omega
    rw [byts, byts, byts_high a n k j (by omega), e, Nat.add_comm, Nat.add_mul_div_right _ _ (Nat.pow_pos (by decide)), Nat.add_mul_mod_self_right]
theorem byts_num : ∀ l : List Nat, (∀ b ∈ l, b < 256) → byts (num l) l.length = l
  | [], _ => rfl
  | b :: l, h => by
    have h1 := num_lt l fun x hx => h x (List.mem_cons_of_mem _ hx)
    have h2 : b < 256 := h b List.mem_cons_self
    have ih := byts_num l fun x hx => h x (List.mem_cons_of_mem _ hx)
    rw [List.length_cons, byts, num_cons, byts_high b (num l) l.length l.length (Nat.le_refl _), ih]
    congr 1
    rw [Nat.add_comm, Nat.add_mul_div_right _ _ (Nat.pow_pos (by decide)), Nat.div_eq_of_lt h1, Nat.zero_add, Nat.mod_eq_of_lt h2]
theorem num_byts4 {n : Nat} (h : n < 4294967296) : num (byts n 4) = n := by
  rw [num_byts]; exact Nat.mod_eq_of_lt h
theorem byts4_num {l : List Nat} (hl : l.length = 4) (h : ∀ b ∈ l, b < 256) : byts (num l) 4 = l := by
  have := byts_num l h
  rwa [hl] at this
theorem bytes_take {l : List Nat} (h : ∀ b ∈ l, b < 256) (k : Nat) : ∀ b ∈ l.take k, b < 256 := fun b hb => h b (List.mem_of_mem_take hb)
theorem bytes_drop {l : List Nat} (h : ∀ b ∈ l, b < 256) (k : Nat) : ∀ b ∈ l.drop k, b < 256 := fun b hb => h b (List.mem_of_mem_drop hb)
theorem bytes_app {l r : List Nat} (h : ∀ b ∈ l, b < 256) (k : ∀ b ∈ r, b < 256) : ∀ b ∈ l ++ r, b < 256 := fun b hb => (List.mem_append.mp hb).elim (h b) (k b)

/-! ### One record -/
/-- The bytes of which a record's sum is. -/
def sumL (p : List Nat) : List Nat := byts p.length 4 ++ p
/-- A record's bytes. -/
def recL (p : List Nat) : List Nat := byts p.length 4 ++ (byts (sum (sumL p)) 4 ++ p)
/-- May a payload be? -/
def fitR (p : List Nat) : Bool := decide (1 ≤ p.length) && decide (p.length ≤ 65536)
theorem fit_iff {p : List Nat} : fitR p = true ↔ 1 ≤ p.length ∧ p.length ≤ 65536 := by simp [fitR]
theorem rec_len (p : List Nat) : (recL p).length = 8 + p.length := by simp [recL, length_byts]; omega
theorem sumL_bytes {p : List Nat} (h : ∀ z ∈ p, z < 256) : ∀ z ∈ sumL p, z < 256 := bytes_app (byts_lt _ _) h
theorem rec_bytes {p : List Nat} (h : ∀ z ∈ p, z < 256) : ∀ z ∈ recL p, z < 256 := bytes_app (byts_lt _ _) (bytes_app (byts_lt _ _) h)
theorem sum_lt4 {p : List Nat} (h : ∀ z ∈ p, z < 256) : sum (sumL p) < 4294967296 := sum_lt (sumL_bytes h)
/-- The number that a row begins with. -/
def payN (row : List Nat) : Nat := num (row.take 4)
/-- Does a row begin with a record? -/
def payOk (row : List Nat) : Prop := 8 ≤ row.length ∧ 1 ≤ payN row ∧ payN row ≤ 65536 ∧ payN row ≤ row.length - 8 ∧ sum (row.take 4 ++ (row.drop 8).take (payN row)) = num ((row.drop 4).take 4)
instance (row : List Nat) : Decidable (payOk row) := by unfold payOk; infer_instance
/-- The payload of a row's first record; nothing, if there is none. -/
def payL (row : List Nat) : List Nat := if payOk row then (row.drop 8).take (payN row) else []
theorem pay_ok {row : List Nat} (h : payOk row) : payL row = (row.drop 8).take (payN row) := if_pos h
theorem pay_no {row : List Nat} (h : ¬ payOk row) : payL row = [] := if_neg h
theorem pay_ok_len {row : List Nat} (h : payOk row) : (payL row).length = payN row := by
  rw [pay_ok h, List.length_take, List.length_drop]
  obtain ⟨h1, h2, h3, h4, h5⟩ := h
  omega
theorem ok_of_pay {row : List Nat} (h : payL row ≠ []) : payOk row := by
  apply Classical.byContradiction
  intro hn
  exact h (pay_no hn)
theorem pay_ne {row : List Nat} (h : payOk row) : payL row ≠ [] := by
  intro e
  have h1 := pay_ok_len h
  rw [e] at h1
  have := h.2.1
  simp at h1; omega
theorem pay_bytes {row : List Nat} (h : ∀ z ∈ row, z < 256) : ∀ z ∈ payL row, z < 256 := by
  unfold payL
  split
  · exact bytes_take (bytes_drop h 8) _
  · simp
theorem take_eight (row : List Nat) (n : Nat) : row.take (8 + n) = row.take 4 ++ ((row.drop 4).take 4 ++ (row.drop 8).take n) := by
  rw [show 8 + n = 4 + (4 + n) by omega, List.take_add, List.take_add (l := row.drop 4), List.drop_drop]
theorem rec_parts (p r : List Nat) : (recL p ++ r).take 4 = byts p.length 4 ∧ ((recL p ++ r).drop 4).take 4 = byts (sum (sumL p)) 4 ∧ (recL p ++ r).drop 8 = p ++ r := by
  have h1 : (byts p.length 4).length = 4 := length_byts _ _
  have h2 : (byts (sum (sumL p)) 4).length = 4 := length_byts _ _
  have e1 : recL p ++ r = byts p.length 4 ++ (byts (sum (sumL p)) 4 ++ (p ++ r)) := by simp [recL]
  have e2 : (recL p ++ r).drop 4 = byts (sum (sumL p)) 4 ++ (p ++ r) := by rw [e1, List.drop_left' h1]
  refine ⟨by rw [e1, List.take_left' h1], by rw [e2, List.take_left' h2], ?_⟩
  rw [show (8 : Nat) = 4 + 4 from rfl, ← List.drop_drop, e2, List.drop_left' h2]
theorem pay_rec {p : List Nat} (hf : fitR p = true) (hp : ∀ z ∈ p, z < 256) (r : List Nat) : payL (recL p ++ r) = p := by
  obtain ⟨f1, f2⟩ := fit_iff.mp hf
  obtain ⟨e1, e2, e3⟩ := rec_parts p r
  have hn : payN (recL p ++ r) = p.length := by unfold payN; rw [e1]; exact num_byts4 (by omega)
  have ht : ((recL p ++ r).drop 8).take (payN (recL p ++ r)) = p := by rw [e3, hn, List.take_left' rfl]
  have hok : payOk (recL p ++ r) := by
    refine ⟨by rw [List.length_append, rec_len]; omega, by omega, by omega, by rw [List.length_append, rec_len]; omega, ?_⟩
    rw [ht, e1, e2, num_byts4 (sum_lt4 hp)]; rfl
  rw [pay_ok hok, ht]
/-- The bytes of a record that a row begins with are its first ones. -/
theorem rec_pay {row : List Nat} (hb : ∀ z ∈ row, z < 256) (h : payOk row) : recL (payL row) = row.take (8 + (payL row).length) ∧ 8 + (payL row).length ≤ row.length ∧ fitR (payL row) = true := by
  have hl := pay_ok_len h
  have he := pay_ok h
  obtain ⟨h1, h2, h3, h4, h5⟩ := h
  refine ⟨?_, by omega, by rw [fit_iff]; omega⟩
  have t1 : byts (payL row).length 4 = row.take 4 := by
    rw [hl]; exact byts4_num (by simp; omega) (bytes_take hb 4)
  have t2 : byts (sum (sumL (payL row))) 4 = (row.drop 4).take 4 := by
    unfold sumL
    rw [t1, he, h5]; exact byts4_num (by simp; omega) (bytes_take (bytes_drop hb 4) 4)
  rw [recL, t1, t2, take_eight, hl]
  conv => lhs; rw [he]
/-- A row whose first bytes are those of its record begins with a record: the reference's question. -/
theorem ok_iff {row : List Nat} (hb : ∀ z ∈ row, z < 256) (h8 : 8 ≤ row.length) (h1 : 1 ≤ payN row) (h2 : payN row ≤ 65536) (h3 : payN row ≤ row.length - 8) :
    payOk row ↔ recL ((row.drop 8).take (payN row)) = row.take (8 + payN row) := by
  have hl : ((row.drop 8).take (payN row)).length = payN row := by simp; omega
  have t1 : byts (payN row) 4 = row.take 4 := byts4_num (by simp; omega) (bytes_take hb 4)
  constructor
  · intro h
    have := (rec_pay hb h).1
    rw [pay_ok_len h, pay_ok h] at this
    exact this
  · intro h
    refine ⟨h8, h1, h2, h3, ?_⟩
    rw [recL, take_eight, hl, t1] at h
    have h4 := List.append_cancel_left h
    have hlen : (byts (sum (sumL ((row.drop 8).take (payN row)))) 4).length = ((row.drop 4).take 4).length := by rw [length_byts]; simp; omega
    have h5 := (List.append_inj h4 hlen).1
    rw [← h5, num_byts4 (sum_lt4 (bytes_take (bytes_drop hb 8) _))]
    unfold sumL
    rw [hl, t1]

/-! ### A row's records -/
/-- A row's records' payloads. -/
def recs (row : List Nat) : List (List Nat) := if h : payL row = [] then [] else payL row :: recs (row.drop (8 + (payL row).length))
termination_by row.length
decreasing_by
  have := (ok_of_pay h).1
  simp; omega
theorem recs_none {row : List Nat} (h : payL row = []) : recs row = [] := by rw [recs, dif_pos h]
theorem recs_some {row : List Nat} (h : payL row ≠ []) : recs row = payL row :: recs (row.drop (8 + (payL row).length)) := by
  conv => lhs; rw [recs, dif_neg h]
/-- How many bytes the records of these payloads are. -/
def siz (ps : List (List Nat)) : Nat := (ps.map fun p => 8 + p.length).sum
theorem siz_nil : siz [] = 0 := rfl
theorem siz_cons (p : List Nat) (ps : List (List Nat)) : siz (p :: ps) = 8 + p.length + siz ps := by simp [siz]
theorem siz_append (ps qs : List (List Nat)) : siz (ps ++ qs) = siz ps + siz qs := by simp [siz]
/-- Where record k begins. -/
def offs (ps : List (List Nat)) (k : Nat) : Nat := siz (ps.take k)
theorem offs_zero (ps : List (List Nat)) : offs ps 0 = 0 := rfl
theorem offs_step {ps : List (List Nat)} {k : Nat} (h : k < ps.length) : offs ps (k + 1) = offs ps k + (8 + (lsAt ps k).length) := by
  have e : lsAt ps k = ps[k] := by simp [lsAt, h]
  rw [offs, List.take_succ_eq_append_getElem h, siz_append, e, siz_cons, siz_nil]; rfl
theorem offs_end (ps : List (List Nat)) : offs ps ps.length = siz ps := by rw [offs, List.take_length]
theorem drop_at {ps : List (List Nat)} {k : Nat} (h : k < ps.length) : ps.drop k = lsAt ps k :: ps.drop (k + 1) := by
  have e : lsAt ps k = ps[k] := by simp [lsAt, h]
  rw [e]; exact List.drop_eq_getElem_cons h
theorem row_at (row : List Nat) : ∀ k, k ≤ (recs row).length → recs (row.drop (offs (recs row) k)) = (recs row).drop k ∧ offs (recs row) k ≤ row.length
  | 0, _ => by rw [offs_zero]; simp
  | k + 1, h => by
    obtain ⟨ih1, ih2⟩ := row_at row k (by omega)
    have hlt : k < (recs row).length := by omega
    have hd := drop_at hlt
    rw [hd] at ih1
    have hne : payL (row.drop (offs (recs row) k)) ≠ [] := by
      intro e
      rw [recs_none e] at ih1
      cases ih1
    rw [recs_some hne] at ih1
    injection ih1 with e1 e2
    have hok := ok_of_pay hne
    have hl := pay_ok_len hok
    rw [offs_step hlt, ← e1, ← List.drop_drop]
    refine ⟨e2, ?_⟩
    have h1 := hok.2.2.2.1
    have h2 := hok.1
    simp only [List.length_drop] at h1 h2
    omega
theorem pay_at {row : List Nat} {k : Nat} (h : k < (recs row).length) : payL (row.drop (offs (recs row) k)) = lsAt (recs row) k ∧ payL (row.drop (offs (recs row) k)) ≠ [] := by
  obtain ⟨h1, _⟩ := row_at row k (by omega)
  rw [drop_at h] at h1
  have hne : payL (row.drop (offs (recs row) k)) ≠ [] := by
    intro e
    rw [recs_none e] at h1
    cases h1
  rw [recs_some hne] at h1
  injection h1 with e1 e2
  exact ⟨e1, hne⟩
theorem pay_end (row : List Nat) : payL (row.drop (offs (recs row) (recs row).length)) = [] := by
  obtain ⟨h1, _⟩ := row_at row _ (Nat.le_refl _)
  rw [List.drop_length] at h1
  apply Classical.byContradiction
  intro hne
  rw [recs_some hne] at h1
  cases h1
theorem offs_le {row : List Nat} {k : Nat} (h : k ≤ (recs row).length) : offs (recs row) k ≤ row.length := (row_at row k h).2
/-- Where the piece stands that is payload k. -/
theorem piece_at {row : List Nat} {k : Nat} (h : k < (recs row).length) : offs (recs row) k + 8 + (lsAt (recs row) k).length ≤ row.length ∧ lsAt (recs row) k = (row.drop (offs (recs row) k + 8)).take (lsAt (recs row) k).length ∧ 1 ≤ (lsAt (recs row) k).length ∧ (lsAt (recs row) k).length ≤ 65536 := by
  obtain ⟨e1, hne⟩ := pay_at h
  have hok := ok_of_pay hne
  have hl := pay_ok_len hok
  have he := pay_ok hok
  obtain ⟨h1, h2, h3, h4, _⟩ := hok
  rw [e1] at hl he
  simp only [List.length_drop] at h1 h4
  refine ⟨by omega, ?_, by omega, by omega⟩
  rw [hl, ← List.drop_drop]
  exact he
theorem recs_bytes {row : List Nat} (hb : ∀ z ∈ row, z < 256) : ∀ r ∈ recs row, ∀ z ∈ r, z < 256 := by
  intro r hr z hz
  obtain ⟨k, hk, rfl⟩ := List.mem_iff_getElem.mp hr
  have e : lsAt (recs row) k = (recs row)[k] := by simp [lsAt, hk]
  have h := (piece_at hk).2.1
  rw [← e, h] at hz
  exact hb z (List.mem_of_mem_drop (List.mem_of_mem_take hz))
theorem recs_fit {row : List Nat} : ∀ r ∈ recs row, fitR r = true := by
  intro r hr
  obtain ⟨k, hk, rfl⟩ := List.mem_iff_getElem.mp hr
  have e : lsAt (recs row) k = (recs row)[k] := by simp [lsAt, hk]
  have h := piece_at hk
  rw [← e, fit_iff]
  exact ⟨h.2.2.1, h.2.2.2⟩
theorem recs_many (row : List Nat) : (recs row).length ≤ row.length := by
  have h : ∀ k, k ≤ (recs row).length → k ≤ offs (recs row) k := by
    intro k
    induction k with
    | zero => intro _; omega
    | succ k ih => intro hk; rw [offs_step (by omega)]; have := ih (by omega); omega
  exact Nat.le_trans (h _ (Nat.le_refl _)) (offs_le (Nat.le_refl _))
theorem offs_mono {ps : List (List Nat)} {k : Nat} : 8 * k ≤ offs ps k ∨ ps.length < k := by
  by_cases h : k ≤ ps.length
  · left
    induction k with
    | zero => omega
    | succ k ih => rw [offs_step (by omega)]; have := ih (by omega); omega
  · right; omega

/-! ### Rows of records -/
/-- The bytes of the records of these payloads. -/
def flatR (ps : List (List Nat)) : List Nat := (ps.map recL).flatten
theorem flat_cons (p : List Nat) (ps : List (List Nat)) : flatR (p :: ps) = recL p ++ flatR ps := by simp [flatR]
theorem flat_append (ps qs : List (List Nat)) : flatR (ps ++ qs) = flatR ps ++ flatR qs := by simp [flatR]
theorem flat_length : ∀ ps : List (List Nat), (flatR ps).length = siz ps
  | [] => rfl
  | p :: ps => by rw [flat_cons, List.length_append, rec_len, siz_cons, flat_length ps]
/-- All payloads may be. -/
def Fine (ps : List (List Nat)) : Prop := ∀ p ∈ ps, fitR p = true ∧ ∀ z ∈ p, z < 256
theorem flat_bytes {ps : List (List Nat)} (h : Fine ps) : ∀ z ∈ flatR ps, z < 256 := by
  intro z hz
  obtain ⟨l, hl, hz⟩ := List.mem_flatten.mp hz
  obtain ⟨p, hp, rfl⟩ := List.mem_map.mp hl
  exact rec_bytes (h p hp).2 z hz
theorem recs_rec {p : List Nat} (hf : fitR p = true) (hp : ∀ z ∈ p, z < 256) (r : List Nat) : recs (recL p ++ r) = p :: recs r := by
  have h := pay_rec hf hp r
  have hne : payL (recL p ++ r) ≠ [] := by
    rw [h]; intro e; subst e; simp [fitR] at hf
  rw [recs_some hne, h, List.drop_left' (rec_len p)]
theorem recs_rows : ∀ (ps : List (List Nat)) (r : List Nat), Fine ps → recs (flatR ps ++ r) = ps ++ recs r
  | [], r, _ => rfl
  | p :: ps, r, h => by
    rw [flat_cons, List.append_assoc, recs_rec (h p List.mem_cons_self).1 (h p List.mem_cons_self).2, recs_rows ps r fun q hq => h q (List.mem_cons_of_mem _ hq)]; rfl
theorem recs_nil : recs [] = [] := recs_none (pay_no fun h => by have := h.1; simp at this)
theorem recs_flat {ps : List (List Nat)} (h : Fine ps) : recs (flatR ps) = ps := by
  have := recs_rows ps [] h
  rwa [List.append_nil, recs_nil, List.append_nil] at this
/-- A record that is cut is none. -/
theorem recs_cut {p : List Nat} (hf : fitR p = true) {n : Nat} (h : n < 8 + p.length) (r : List Nat) : recs ((recL p ++ r).take n) = [] := by
  apply recs_none
  apply pay_no
  rintro ⟨h1, h2, h3, h4, h5⟩
  obtain ⟨f1, f2⟩ := fit_iff.mp hf
  simp only [List.length_take, List.length_append, rec_len] at h1 h4
  have e : payN ((recL p ++ r).take n) = p.length := by
    unfold payN
    rw [List.take_take, Nat.min_eq_left (by omega), (rec_parts p r).1]
    exact num_byts4 (by omega)
  omega
theorem cuts : ∀ (ps : List (List Nat)) (n : Nat), Fine ps → ∃ m, m ≤ ps.length ∧ recs ((flatR ps).take n) = ps.take m ∧ siz (ps.take m) ≤ n ∧ (m < ps.length → n < siz (ps.take m) + 8 + (lsAt ps m).length)
  | [], n, _ => ⟨0, Nat.le_refl _, by simp [flatR, recs_nil], by simp [siz], fun h => by simp at h⟩
  | p :: ps, n, h => by
    have hp := h p List.mem_cons_self
    by_cases hn : n < 8 + p.length
    · refine ⟨0, Nat.zero_le _, ?_, by simp [siz], fun _ => by simp [siz, lsAt]; omega⟩
      rw [flat_cons, recs_cut hp.1 hn]; rfl
    · obtain ⟨m, q1, q2, q3, q4⟩ := cuts ps (n - (8 + p.length)) fun q hq => h q (List.mem_cons_of_mem _ hq)
      refine ⟨m + 1, by simp; omega, ?_, ?_, fun hm => ?_⟩
      · rw [flat_cons, List.take_append, rec_len, List.take_of_length_le (by rw [rec_len]; omega), recs_rec hp.1 hp.2, q2]; rfl
      · rw [List.take_succ_cons, siz_cons]; omega
      · have := q4 (by simpa using hm)
        have e : lsAt (p :: ps) (m + 1) = lsAt ps m := by simp [lsAt]
        rw [List.take_succ_cons, siz_cons, e]; omega

/-! ### One byte turned -/
theorem p32_top : P32.testBit 31 = true := by decide
theorem tak_inj {x y b : Nat} (hx : x < 2 ^ 32) (hy : y < 2 ^ 32) (hb : b < 256) (h : tak P32 x b = tak P32 y b) : x = y := by
  have hb2 : b < 2 ^ 32 := byte_lt hb (by decide)
  have h1 := stps_inj p32_lt p32_top 8 (Nat.xor_lt_two_pow hx hb2) (Nat.xor_lt_two_pow hy hb2) h
  have h2 := congrArg (· ^^^ b) h1
  simpa [Nat.xor_assoc] using h2
theorem tak_byte {x b c : Nat} (hx : x < 2 ^ 32) (hb : b < 256) (hc : c < 256) (h : tak P32 x b = tak P32 x c) : b = c := by
  have h1 := stps_inj p32_lt p32_top 8 (Nat.xor_lt_two_pow hx (byte_lt hb (by decide))) (Nat.xor_lt_two_pow hx (byte_lt hc (by decide))) h
  have h2 := congrArg (x ^^^ ·) h1
  simpa [← Nat.xor_assoc] using h2
theorem reg_inj : ∀ (l : List Nat) {x y : Nat}, x < 2 ^ 32 → y < 2 ^ 32 → (∀ b ∈ l, b < 256) → reg P32 x l = reg P32 y l → x = y
  | [], _, _, _, _, _, h => h
  | b :: l, x, y, hx, hy, hl, h => by
    have hb := hl b List.mem_cons_self
    have ih := reg_inj l (tak_lt p32_lt hx hb (by decide)) (tak_lt p32_lt hy hb (by decide)) (fun c hc => hl c (List.mem_cons_of_mem _ hc)) h
    exact tak_inj hx hy hb ih
theorem sum_one {a c : List Nat} {b d : Nat} (ha : ∀ z ∈ a, z < 256) (hc : ∀ z ∈ c, z < 256) (hb : b < 256) (hd : d < 256) (h : sum (a ++ b :: c) = sum (a ++ d :: c)) : b = d := by
  unfold sum at h
  have h1 := congrArg (4294967295 ^^^ ·) h
  simp only [← Nat.xor_assoc, Nat.xor_self, Nat.zero_xor] at h1
  rw [reg_append, reg_append, reg_cons, reg_cons] at h1
  have hx : reg P32 4294967295 a < 2 ^ 32 := reg_lt p32_lt (by decide) _ (by decide) ha
  exact tak_byte hx hb hd (reg_inj c (tak_lt p32_lt hx hb (by decide)) (tak_lt p32_lt hx hd (by decide)) hc h1)
/-- A record of which one byte was turned is none of its length. -/
theorem turned {q p : List Nat} (hq : ∀ z ∈ q, z < 256) (hp : ∀ z ∈ p, z < 256) {j y : Nat} (hj : j < 8 + q.length) (hy : y < 256) (hne : by_ (recL q) j ≠ y) (hl : p.length = q.length) (h : recL p = (recL q).set j y) : False := by
  have hj' : j < (recL q).length := by rw [rec_len]; exact hj
  have hlen : (byts p.length 4).length = 4 := length_byts _ _
  have hlen2 : (byts (sum (sumL p)) 4).length = 4 := length_byts _ _
  have hlq : (byts q.length 4).length = 4 := length_byts _ _
  have hlq2 : (byts (sum (sumL q)) 4).length = 4 := length_byts _ _
  have same : (recL p).length = (recL q).length := by rw [rec_len, rec_len, hl]
  by_cases h4 : j < 4
  · -- the length's bytes are the same
    have e1 : (recL p)[j]'(by omega) = (recL q)[j] := by
      have a1 : (recL p)[j]? = (byts p.length 4)[j]? := by rw [recL, List.getElem?_append_left (by omega)]
      have a2 : (recL q)[j]? = (byts q.length 4)[j]? := by rw [recL, List.getElem?_append_left (by omega)]
      have a3 : (recL p)[j]? = (recL q)[j]? := by rw [a1, a2, hl]
      rw [List.getElem?_eq_getElem (by omega), List.getElem?_eq_getElem hj'] at a3
      simpa using a3
    have e2 : (recL p)[j]'(by omega) = y := by simp [h]
    rw [by_get hj'] at hne
    exact hne (e1.symm.trans e2)
  · have h8 : p = ((recL q).set j y).drop 8 := by
      have := (rec_parts p []).2.2
      rw [List.append_nil, List.append_nil, h] at this
      exact this.symm
    have hq8 : (recL q).drop 8 = q := by
      have := (rec_parts q []).2.2
      rwa [List.append_nil, List.append_nil] at this
    have hs : byts (sum (sumL p)) 4 = (((recL q).set j y).drop 4).take 4 := by
      have := (rec_parts p []).2.1
      rw [List.append_nil, h] at this
      exact this.symm
    have hqs : ((recL q).drop 4).take 4 = byts (sum (sumL q)) 4 := by
      have := (rec_parts q []).2.1
      rwa [List.append_nil] at this
    by_cases h5 : j < 8
    · -- the payload is the same, so is the sum
      rw [List.drop_set_of_lt h5, hq8] at h8
      subst h8
      have e1 : (recL p)[j] = y := by
        have : (recL p)[j]? = ((recL p).set j y)[j]? := by rw [← h]
        rw [List.getElem?_set_self hj', List.getElem?_eq_getElem hj'] at this
        simpa using this
      rw [by_get hj'] at hne
      exact hne e1
    · -- the sum is the same: then the payload is
      have hset : ((recL q).set j y).drop 4 = ((recL q).drop 4).set (j - 4) y := by
        rw [List.drop_set, if_neg (by omega)]
      have hset8 : ((recL q).set j y).drop 8 = q.set (j - 8) y := by
        rw [List.drop_set, if_neg (by omega), hq8]
      rw [hset, List.take_set_of_le (by omega), hqs] at hs
      rw [hset8] at h8
      have hsum : sum (sumL p) = sum (sumL q) := by
        have := congrArg num hs
        rwa [num_byts4 (sum_lt4 hp), num_byts4 (sum_lt4 hq)] at this
      have hjq : j - 8 < q.length := by omega
      have e1 : by_ (recL q) j = q[j - 8] := by
        rw [by_get hj']
        have : (recL q)[j]? = ((recL q).drop 8)[j - 8]? := by rw [List.getElem?_drop]; congr 1; omega
        rw [hq8, List.getElem?_eq_getElem hj', List.getElem?_eq_getElem hjq] at this
        simpa using this
      have s1 : q = q.take (j - 8) ++ q[j - 8] :: q.drop (j - 8 + 1) := by
        rw [← List.drop_eq_getElem_cons hjq, List.take_append_drop]
      have s2 : p = q.take (j - 8) ++ y :: q.drop (j - 8 + 1) := by
        rw [h8, List.set_eq_take_append_cons_drop, if_pos hjq]
      have k1 : sumL p = (byts q.length 4 ++ q.take (j - 8)) ++ y :: q.drop (j - 8 + 1) := by unfold sumL; rw [hl, List.append_assoc, ← s2]
      have k2 : sumL q = (byts q.length 4 ++ q.take (j - 8)) ++ q[j - 8] :: q.drop (j - 8 + 1) := by unfold sumL; rw [List.append_assoc, ← s1]
      rw [k1, k2] at hsum
      have hlt : q[j - 8] < 256 := hq _ (List.getElem_mem hjq)
      have := sum_one (bytes_app (byts_lt _ _) (bytes_take hq _)) (bytes_drop hq _) hy hlt hsum
      rw [e1] at hne
      exact hne this.symm
/-- A row in which one byte was turned: how many records lie ahead of it. -/
def ahead (ps : List (List Nat)) (at_ : Nat) : Nat := match ps with
  | [] => 0
  | p :: ps => if 8 + p.length ≤ at_ then ahead ps (at_ - (8 + p.length)) + 1 else 0
theorem ahead_le : ∀ (ps : List (List Nat)) (a : Nat), ahead ps a ≤ ps.length
  | [], _ => Nat.le_refl _
  | p :: ps, a => by
    unfold ahead
    split
    · have := ahead_le ps (a - (8 + p.length)); simp; omega
    · simp
/-- Record k lies ahead just if it ends there. -/
theorem ahead_iff : ∀ (ps : List (List Nat)) (a k : Nat), k < ps.length → (k < ahead ps a ↔ offs ps (k + 1) ≤ a)
  | [], _, k, h => by simp at h
  | p :: ps, a, 0, h => by
    have e : offs (p :: ps) 1 = 8 + p.length := by simp [offs, siz]
    rw [e]
    unfold ahead
    split <;> omega
  | p :: ps, a, k + 1, h => by
    have e : offs (p :: ps) (k + 1 + 1) = 8 + p.length + offs ps (k + 1) := by simp only [offs, List.take_succ_cons, siz_cons]
    have ih := ahead_iff ps (a - (8 + p.length)) k (by simpa using h)
    rw [e]
    unfold ahead
    split <;> omega
theorem set_append_right' {l r : List Nat} {i v : Nat} (h : l.length ≤ i) : (l ++ r).set i v = l ++ r.set (i - l.length) v := List.set_append_right i v h
theorem turns : ∀ (ps : List (List Nat)) (a y : Nat), Fine ps → a < (flatR ps).length → y < 256 → by_ (flatR ps) a ≠ y →
    ∃ t, recs ((flatR ps).set a y) = ps.take (ahead ps a) ++ t ∧ (t ≠ [] → (lsAt t 0).length ≠ (lsAt ps (ahead ps a)).length)
  | [], a, y, _, h, _, _ => by simp [flatR] at h
  | p :: ps, a, y, hf, ha, hy, hne => by
    have hp := hf p List.mem_cons_self
    rw [flat_cons, List.length_append, rec_len] at ha
    by_cases hlt : 8 + p.length ≤ a
    · obtain ⟨t, h1, h2⟩ := turns ps (a - (8 + p.length)) y (fun q hq => hf q (List.mem_cons_of_mem _ hq)) (by omega) hy (by
        rw [flat_cons] at hne
        have e : by_ (recL p ++ flatR ps) a = by_ (flatR ps) (a - (8 + p.length)) := by
          unfold by_
          rw [List.getD, List.getD, List.getElem?_append_right (by rw [rec_len]; exact hlt), rec_len]
        rwa [e] at hne)
      have e : ahead (p :: ps) a = ahead ps (a - (8 + p.length)) + 1 := by rw [ahead, if_pos hlt]
      refine ⟨t, ?_, fun ht => ?_⟩
      · rw [flat_cons, set_append_right' (by rw [rec_len]; exact hlt), rec_len, recs_rec hp.1 hp.2, h1, e]; rfl
      · rw [e]
        have e2 : lsAt (p :: ps) (ahead ps (a - (8 + p.length)) + 1) = lsAt ps (ahead ps (a - (8 + p.length))) := by simp [lsAt]
        rw [e2]; exact h2 ht
    · have e : ahead (p :: ps) a = 0 := by rw [ahead, if_neg hlt]
      have hset : (flatR (p :: ps)).set a y = (recL p).set a y ++ flatR ps := by
        rw [flat_cons, List.set_append_left _ _ (by rw [rec_len]; omega)]
      have hb : ∀ z ∈ (recL p).set a y ++ flatR ps, z < 256 := by
        refine bytes_app (fun z hz => ?_) (flat_bytes fun q hq => hf q (List.mem_cons_of_mem _ hq))
        rcases List.mem_or_eq_of_mem_set hz with h | h
        · exact rec_bytes hp.2 z h
        · omega
      refine ⟨recs ((recL p).set a y ++ flatR ps), by rw [hset, e]; rfl, fun ht hl => ?_⟩
      have hpay : payL ((recL p).set a y ++ flatR ps) ≠ [] := fun e0 => ht (recs_none e0)
      rw [recs_some hpay, e] at hl
      have hl2 : (payL ((recL p).set a y ++ flatR ps)).length = p.length := by simpa [lsAt] using hl
      have hr := (rec_pay hb (ok_of_pay hpay)).1
      rw [hl2, List.take_left' (by rw [List.length_set, rec_len])] at hr
      refine turned hp.2 (pay_bytes hb) (by omega) hy ?_ hl2 hr
      rw [flat_cons] at hne
      have e3 : by_ (recL p ++ flatR ps) a = by_ (recL p) a := by
        unfold by_
        rw [List.getD, List.getD, List.getElem?_append_left (by rw [rec_len]; omega)]
      rwa [e3] at hne
end Go.Proofs.YtbacgljeadalbaaGreatDoor.Rc
/- A log in segments as plain data: names of segments, what each call answers and leaves, what Open finds. -/
namespace Go.Proofs.YtbacgljeadalbaaGreatDoor.Wl
open Go.Proofs.YtbacgljeadalbaaGreatDoor.Dk Go.Proofs.YtbacgljeadalbaaGreatDoor.Rc
set_option linter.unusedVariables false

/-! ### Names of segments -/
/-- The digit of k at ten to the power of i. -/
def dg (k i : Nat) : UInt8 := UInt8.ofNat (48 + k / 10 ^ i % 10)
def nameW (k : Nat) : Nm := [119, dg k 4, dg k 3, dg k 2, dg k 1, dg k 0]
def isN (k : Nat) : Prop := 1 ≤ k ∧ k ≤ 99999
instance (k : Nat) : Decidable (isN k) := by unfold isN; infer_instance
/-- The name of any number's file. -/
def nameI (k : Int) : Nm := if 1 ≤ k ∧ k ≤ 99999 then nameW k.toNat else []
theorem nameI_nat {k : Nat} (h : isN k) : nameI (k : Int) = nameW k := by
  unfold nameI isN at *
  rw [if_pos (by omega)]
  simp
theorem nameI_no {k : Int} (h : ¬ (1 ≤ k ∧ k ≤ 99999)) : nameI k = [] := if_neg h
theorem dg_nat (k i : Nat) : (dg k i).toNat = 48 + k / 10 ^ i % 10 := by
  unfold dg
  rw [UInt8.toNat_ofNat']
  have : k / 10 ^ i % 10 < 10 := Nat.mod_lt _ (by decide)
  omega
theorem nameW_len (k : Nat) : (nameW k).length = 6 := rfl
theorem nameW_inj {k j : Nat} (hk : k ≤ 99999) (hj : j ≤ 99999) (h : nameW k = nameW j) : k = j := by
  unfold nameW at h
  injection h with _ h
  injection h with h4 h
  injection h with h3 h
  injection h with h2 h
  injection h with h1 h
  injection h with h0 _
  have e : ∀ i, dg k i = dg j i → k / 10 ^ i % 10 = j / 10 ^ i % 10 := fun i hi => by
    have := congrArg UInt8.toNat hi
    rw [dg_nat, dg_nat] at this
    omega
  have a4 := e 4 h4; have a3 := e 3 h3; have a2 := e 2 h2; have a1 := e 1 h1; have a0 := e 0 h0
  simp only [Nat.reducePow, Nat.div_one] at a4 a3 a2 a1 a0
  omega
theorem dg_ok (k i : Nat) : chOk (dg k i) = true := by
  unfold chOk
  have := dg_nat k i
  have h : k / 10 ^ i % 10 < 10 := Nat.mod_lt _ (by decide)
  simp only [Bool.or_eq_true, Bool.and_eq_true, decide_eq_true_eq]
  omega
theorem nameW_ok (k : Nat) : nameOk (nameW k) = true := by
  simp [nameOk, nameW, dg_ok]
  decide
/-- The number of a segment's file; 0, if it is none. -/
def numOf (n : Nm) : Nat := (n.drop 1).foldl (fun a b => 10 * a + (b.toNat - 48)) 0
theorem numOf_nameW {k : Nat} (h : k ≤ 99999) : numOf (nameW k) = k := by
  simp only [numOf, nameW, List.drop_succ_cons, List.drop_zero, List.foldl_cons, List.foldl_nil, dg_nat, Nat.reducePow, Nat.div_one]
  omega
/-- All names are those of segments. -/
def Seg (L : Fs) : Prop := ∀ p ∈ L, ∃ k, isN k ∧ p.1 = nameW k
theorem Seg.num {L : Fs} (h : Seg L) {p : Nm × Fl} (hp : p ∈ L) : isN (numOf p.1) ∧ p.1 = nameW (numOf p.1) := by
  obtain ⟨k, hk, e⟩ := h p hp
  rw [e, numOf_nameW hk.2]
  exact ⟨hk, rfl⟩
theorem Seg.sub {L R : Fs} (h : Seg L) (hs : ∀ p ∈ R, ∃ q ∈ L, q.1 = p.1) : Seg R := fun p hp => by
  obtain ⟨q, hq, e⟩ := hs p hp
  rw [← e]; exact h q hq
theorem Seg.put {L : Fs} (h : Seg L) {k : Nat} (hk : isN k) (f : Fl) : Seg (put L (nameW k) f) := fun p hp => by
  rcases mem_put.1 hp with rfl | hp
  · exact ⟨k, hk, rfl⟩
  · exact h p hp.1
theorem Seg.del {L : Fs} (h : Seg L) (n : Nm) : Seg (del L n) := fun p hp => h p (mem_del.1 hp).1
theorem Seg.crash {L : Fs} (h : Seg L) (ks : List Int) : Seg (crashL L ks) := fun p hp => by
  obtain ⟨f, k, hm, _⟩ := crash_mem hp
  exact h (p.1, f) hm
theorem Seg.nil : Seg [] := fun p hp => by cases hp
theorem Seg.app {s : St} (h : Seg s.files) (k : Int) (p : List Nat) : Seg (appS s (nameI k) p).files := by
  unfold appS
  split
  · rename_i he
    by_cases hk : 1 ≤ k ∧ k ≤ 99999
    · unfold nameI
      rw [if_pos hk]
      exact h.put ⟨by omega, by omega⟩ _
    · exfalso
      rw [nameI_no hk] at he
      unfold appE mayE at he
      by_cases hd : s.down = true
      · simp [hd] at he
      · simp [hd, nameOk] at he
  · exact h
theorem Seg.rem {s : St} (h : Seg s.files) (n : Nm) : Seg (remS s n).files := by
  unfold remS
  split
  · exact h.del n
  · exact h
theorem Seg.sync {s : St} (h : Seg s.files) {k : Nat} (hk : isN k) : Seg (syncS s (nameW k)).files := by
  unfold syncS
  split
  · exact h.put hk _
  · exact h
theorem Seg.cut {s : St} (h : Seg s.files) {k : Nat} (hk : isN k) (n : Int) : Seg (cutS s (nameW k) n).files := by
  unfold cutS
  split
  · exact h.put hk _
  · exact h

/-! ### A log -/
/-- The last segment; has it failed? -/
structure Lg where
  last : Nat
  failed : Bool
/-- What a call answers and leaves. -/
structure Rs where
  s : St
  g : Lg
  e : Nat
/-- How many bytes a segment has, as the disk tells it. -/
def lenS (s : St) (k : Nat) : Nat := (readP s (nameW k)).length
/-- How many of its bytes are safe. -/
def safeS (s : St) (k : Nat) : Nat := (fileOf s (nameW k)).safe
/-- Behind what the disk answered. -/
def note (s : St) (g : Lg) (e : Nat) : Rs := ⟨s, ⟨g.last, g.failed || decide (e = 9)⟩, e⟩
def syncR (s : St) (g : Lg) : Rs :=
  if g.failed then ⟨s, g, 7⟩
  else if s.down then note s g 9
  else if lenS s g.last = (fileOf s (nameW g.last)).safe then ⟨s, g, 0⟩
  else note (syncS s (nameW g.last)) g (findE s (nameW g.last))
/-- Begin; what it answers beside is 'last' of the log, if it answers 0. -/
def beginR (s : St) (g : Lg) : Rs :=
  if (syncR s g).e ≠ 0 then syncR s g
  else if safeS (syncR s g).s (syncR s g).g.last = 0 then syncR s g
  else if (syncR s g).g.last = 99999 then ⟨(syncR s g).s, (syncR s g).g, 1⟩
  else ⟨(syncR s g).s, ⟨(syncR s g).g.last + 1, (syncR s g).g.failed⟩, 0⟩
/-- The bytes are put behind the last segment. -/
def putR (s : St) (g : Lg) (p : List Nat) : Rs := note (appS s (nameW g.last) (recL p)) g (appE s (nameW g.last) (recL p))
/-- Must there be a new segment? -/
def moves (s : St) (g : Lg) (p : List Nat) (size : Nat) : Bool := decide (0 < lenS s g.last) && decide (size < lenS s g.last + (recL p).length)
def appR (s : St) (g : Lg) (p : List Nat) (size : Nat) (pe : Nat) : Rs :=
  if g.failed then ⟨s, g, 7⟩
  else if pe ≠ 0 then ⟨s, g, pe⟩
  else if moves s g p size then
    (if (beginR s g).e ≠ 0 then beginR s g else putR (beginR s g).s (beginR s g).g p)
  else putR s g p

/-! ### What is kept -/
structure Good (s : St) (g : Lg) : Prop where
  ok : s.Ok
  seg : Seg s.files
  num : isN g.last
theorem Good.sync {s : St} {g : Lg} (h : Good s g) : Good (syncR s g).s (syncR s g).g ∧ (syncR s g).g.last = g.last := by
  unfold syncR
  split
  · exact ⟨h, rfl⟩
  · split
    · exact ⟨⟨h.ok, h.seg, h.num⟩, rfl⟩
    · split
      · exact ⟨h, rfl⟩
      · exact ⟨⟨h.ok.sync _, h.seg.sync h.num, h.num⟩, rfl⟩
theorem Good.begin {s : St} {g : Lg} (h : Good s g) : Good (beginR s g).s (beginR s g).g := by
  have hs := h.sync.1
  unfold beginR
  split
  · exact hs
  · split
    · exact hs
    · split
      · exact hs
      · rename_i h9
        refine ⟨hs.ok, hs.seg, ?_⟩
        have := hs.num
        unfold isN at this ⊢
        constructor
        · show 1 ≤ (syncR s g).g.last + 1; omega
        · show (syncR s g).g.last + 1 ≤ 99999; omega
theorem Good.put {s : St} {g : Lg} (h : Good s g) {p : List Nat} (hp : ∀ z ∈ p, z < 256) : Good (putR s g p).s (putR s g p).g := by
  refine ⟨h.ok.app _ (rec_bytes hp), ?_, h.num⟩
  have := h.seg.app (g.last : Int) (recL p)
  rw [nameI_nat h.num] at this
  exact this
theorem Good.app {s : St} {g : Lg} (h : Good s g) {p : List Nat} (hp : ∀ z ∈ p, z < 256) (size pe : Nat) : Good (appR s g p size pe).s (appR s g p size pe).g := by
  unfold appR
  split
  · exact h
  · split
    · exact h
    · split
      · split
        · exact h.begin
        · exact h.begin.put hp
      · exact h.put hp

/-! ### What Open finds on a disk that has power and is not armed -/
/-- It has power, and keeps it. -/
def Calm (s : St) : Prop := s.down = false ∧ s.left = 0
def bytesOf (s : St) (k : Nat) : List Nat := (fileOf s (nameW k)).bytes
def there (s : St) (k : Nat) : Prop := isN k ∧ (Dk.look s.files (nameW k)).isSome = true
def whole (s : St) (k : Nat) : Prop := siz (recs (bytesOf s k)) = (bytesOf s k).length
/-- The payloads of the first m segments. -/
def pays (s : St) : Nat → List (List Nat)
  | 0 => []
  | m + 1 => pays s m ++ recs (bytesOf s (m + 1))
def full (s : St) (m : Nat) : Prop := ∀ i, 1 ≤ i → i ≤ m → there s i ∧ whole s i
/-- Only the files up to a segment. -/
def trim (s : St) (last : Nat) : St := ⟨s.limit, s.files.filter fun p => decide (numOf p.1 ≤ last), s.left, s.down⟩
/-- What load finds from the first segment on. -/
def Loads (s s' : St) (last : Nat) (ps : List (List Nat)) : Prop :=
  ∃ m, full s m ∧ ((¬ there s (m + 1) ∧ last = max 1 m ∧ ps = pays s m ∧ s' = s) ∨ (there s (m + 1) ∧ ¬ whole s (m + 1) ∧ last = m + 1 ∧ ps = pays s (m + 1) ∧ s' = cutS s (nameW (m + 1)) (siz (recs (bytesOf s (m + 1))) : Int)))
def Opens (s s' : St) (last : Nat) (ps : List (List Nat)) : Prop := ∃ s1, Loads s s1 last ps ∧ s' = trim s1 last
end Go.Proofs.YtbacgljeadalbaaGreatDoor.Wl
