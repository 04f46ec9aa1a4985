/- What all layers lean on: unsigned numbers of each size, bytes that lie in memory, lists of them, strings made of them. -/
import Derived.Test.YtbacgljeadalbaaGreatDoorRows
import Derived.WalkKit
import Derived.ProofKit
import Derived.OpenShut
import Derived.Below
import Derived.Lib.Hide
import Derived.Deep.QuietTactic
import Derived.BigQuiet
import Derived.Laws.OwnMore
import Derived.Laws.CopyOwn
import Derived.Laws.AppendOwnNone
import Derived.Laws.BytesString
import Derived.Laws.IdiomStrings
import Derived.Laws.Bits64b
import Derived.Deep.AppendLies
namespace Go.Proofs.YtbacgljeadalbaaGreatDoor.Me
open Go.RowKit
set_option linter.unusedVariables false

/-! ### Numbers -/
def U8 : Nat := 2 ^ 8
def U16 : Nat := 2 ^ 16
def U32 : Nat := 2 ^ 32
theorem wrap8 {n : Nat} (h : n < U8) : IntKind.u8.wrap (n : Int) = n := by unfold U8 at h; simp [IntKind.wrap, IntKind.bits, IntKind.signed]; omega
theorem wrap16 {n : Nat} (h : n < U16) : IntKind.u16.wrap (n : Int) = n := by unfold U16 at h; simp [IntKind.wrap, IntKind.bits, IntKind.signed]; omega
theorem wrap32 {n : Nat} (h : n < U32) : IntKind.u32.wrap (n : Int) = n := by unfold U32 at h; simp [IntKind.wrap, IntKind.bits, IntKind.signed]; omega
theorem ofInt_lt {n a : Nat} (ha : a < 2 ^ n) : (BitVec.ofInt n (a : Int)).toNat = a := by
  rw [BitVec.ofInt_natCast, BitVec.toNat_ofNat]; exact Nat.mod_eq_of_lt ha
theorem xor8 {a b : Nat} (ha : a < U8) (hb : b < U8) : bits .xor .u8 (a : Int) (b : Int) = ((a ^^^ b : Nat) : Int) := by
  show IntKind.u8.wrap ((BitVec.ofInt 8 (a : Int) ^^^ BitVec.ofInt 8 (b : Int)).toNat : Int) = _
  rw [BitVec.toNat_xor, ofInt_lt ha, ofInt_lt hb]; exact wrap8 (Nat.xor_lt_two_pow ha hb)
theorem xor16 {a b : Nat} (ha : a < U16) (hb : b < U16) : bits .xor .u16 (a : Int) (b : Int) = ((a ^^^ b : Nat) : Int) := by
  show IntKind.u16.wrap ((BitVec.ofInt 16 (a : Int) ^^^ BitVec.ofInt 16 (b : Int)).toNat : Int) = _
  rw [BitVec.toNat_xor, ofInt_lt ha, ofInt_lt hb]; exact wrap16 (Nat.xor_lt_two_pow ha hb)
theorem xor32 {a b : Nat} (ha : a < U32) (hb : b < U32) : bits .xor .u32 (a : Int) (b : Int) = ((a ^^^ b : Nat) : Int) := by
  show IntKind.u32.wrap ((BitVec.ofInt 32 (a : Int) ^^^ BitVec.ofInt 32 (b : Int)).toNat : Int) = _
  rw [BitVec.toNat_xor, ofInt_lt ha, ofInt_lt hb]; exact wrap32 (Nat.xor_lt_two_pow ha hb)
theorem and16 {a b : Nat} (ha : a < U16) (hb : b < U16) : bits .and .u16 (a : Int) (b : Int) = ((a &&& b : Nat) : Int) := by
  show IntKind.u16.wrap ((BitVec.ofInt 16 (a : Int) &&& BitVec.ofInt 16 (b : Int)).toNat : Int) = _
  rw [BitVec.toNat_and, ofInt_lt ha, ofInt_lt hb]; exact wrap16 (Nat.lt_of_le_of_lt Nat.and_le_left ha)
theorem and32 {a b : Nat} (ha : a < U32) (hb : b < U32) : bits .and .u32 (a : Int) (b : Int) = ((a &&& b : Nat) : Int) := by
  show IntKind.u32.wrap ((BitVec.ofInt 32 (a : Int) &&& BitVec.ofInt 32 (b : Int)).toNat : Int) = _
  rw [BitVec.toNat_and, ofInt_lt ha, ofInt_lt hb]; exact wrap32 (Nat.lt_of_le_of_lt Nat.and_le_left ha)
theorem ret_b {a b : Bool} (h : a = b) : Ending.returned (.bool a) = .returned (.bool b) := by rw [h]
theorem ret_i {k : IntKind} {a b : Int} (h : a = b) : Ending.returned (.int k a) = .returned (.int k b) := by rw [h]
theorem quiet {P : Program} {f : FuncId} {args : Array Value} {w : World} {v : Value} (h : Calls P f args w fun e w' => e = .returned v ∧ w = w') : Calls P f args w fun e w' => e = .returned v ∧ ∃ m, w' = w.drewN m :=
  h.mono fun _ _ ⟨a, b⟩ => ⟨a, 0, b.symm⟩

/-! ### Bytes in memory -/
/-- Byte i of l. -/
def by_ (l : List Nat) (i : Nat) : Nat := l.getD i 0
theorem by_get {l : List Nat} {i : Nat} (h : i < l.length) : by_ l i = l[i] := by simp [by_, h]
/-- A byte as a cell. -/
def byV (b : Nat) : Value := .int .u8 (b : Int)
/-- A slice's address leads, below block B, to the bytes l (to nothing, where there are none). -/
def Rd (w : World) (B : Nat) (a : Option Addr) (l : List Nat) : Prop :=
  (∀ z ∈ l, z < 256) ∧ (0 < l.length → ∃ b off, a = some ⟨b, off, none⟩ ∧ b < B ∧ ∀ i, i < l.length → w.cell? ⟨b, off + i, none⟩ = some (.int .u8 (by_ l i : Int)))
theorem Rd.lt {w : World} {B : Nat} {a : Option Addr} {l : List Nat} (h : Rd w B a l) {i : Nat} (hi : i < l.length) : by_ l i < 256 := by
  rw [by_get hi]; exact h.1 _ (List.getElem_mem hi)
theorem Rd.keep {w w' : World} {B : Nat} {a : Option Addr} {l : List Nat} (h : Rd w B a l) (hk : ∀ p : Addr, p.block < B → w'.cell? p = w.cell? p) : Rd w' B a l :=
  ⟨h.1, fun hl => by
    obtain ⟨b, off, ha, hb, hc⟩ := h.2 hl
    exact ⟨b, off, ha, hb, fun i hi => (hk ⟨b, off + i, none⟩ hb).trans (hc i hi)⟩⟩
theorem Rd.below {w w' : World} {B : Nat} {a : Option Addr} {l : List Nat} (h : Rd w B a l) (hb : Below B w w') : Rd w' B a l := h.keep fun _ hp => hb.cell hp
theorem Rd.more {w : World} {B B' : Nat} {a : Option Addr} {l : List Nat} (h : Rd w B a l) (hB : B ≤ B') : Rd w B' a l :=
  ⟨h.1, fun hl => by
    obtain ⟨b, off, ha, hb, hc⟩ := h.2 hl
    exact ⟨b, off, ha, by omega, hc⟩⟩
/-- The first k bytes. -/
theorem Rd.take {w : World} {B : Nat} {a : Option Addr} {l : List Nat} (h : Rd w B a l) (k : Nat) : Rd w B a (l.take k) :=
  ⟨fun z hz => h.1 z (List.mem_of_mem_take hz), fun hl => by
    have hl' : 0 < l.length := by simp at hl; omega
    obtain ⟨b, off, ha, hb, hc⟩ := h.2 hl'
    refine ⟨b, off, ha, hb, fun i hi => ?_⟩
    have hi' : i < k ∧ i < l.length := by simp at hi; omega
    rw [hc i hi'.2]
    have : by_ (l.take k) i = by_ l i := by simp [by_, hi'.1]
    rw [this]⟩
theorem Rd.drop {w : World} {B b off : Nat} {l : List Nat} (h : Rd w B (some ⟨b, off, none⟩) l) (k : Nat) : Rd w B (some ⟨b, off + k, none⟩) (l.drop k) :=
  ⟨fun z hz => h.1 z (List.mem_of_mem_drop hz), fun hl => by
    have hl' : 0 < l.length := by simp at hl; omega
    obtain ⟨b', off', ha, hb, hc⟩ := h.2 hl'
    simp only [Option.some.injEq, Addr.mk.injEq, and_true] at ha
    obtain ⟨rfl, rfl⟩ := ha
    refine ⟨b, off + k, rfl, hb, fun i hi => ?_⟩
    have hi' : k + i < l.length := by simp at hi; omega
    rw [Nat.add_assoc, hc _ hi']
    have : by_ (l.drop k) i = by_ l (k + i) := by simp [by_]
    rw [this]⟩
/-- A slice of bytes that came in: the bytes l are its elements. -/
def BySlice (w : World) (a : Option Addr) (len cap : Nat) (l : List Nat) : Prop :=
  len = l.length ∧ l.length ≤ cap ∧ cap ≤ 9223372036854775807 ∧ Rd w w.heap.size a l ∧ (a = none → l.length = 0 ∧ cap = 0)
theorem bySlice_none (w : World) : BySlice w none 0 0 [] := ⟨rfl, Nat.le_refl _, Nat.zero_le _, ⟨by simp, by simp⟩, fun _ => ⟨rfl, rfl⟩⟩
theorem bySlice_some {w : World} {x : Addr} {len cap : Nat} {zs : List Int} (hl : len ≤ cap) (hm : cap ≤ maxLen) (hz : zs.length = cap)
    (hcell : ∀ i, i < zs.length → w.cell? (x.add i) = some (.int .u8 (zs.getD i 0))) (hwz : ∀ n ∈ zs, (Lit.int .u8 n).wf = true) : ∃ l, BySlice w (some x) len cap l := by
  have hlen : ((zs.take len).map Int.toNat).length = len := by simp; omega
  refine ⟨(zs.take len).map Int.toNat, hlen.symm, by omega, by unfold maxLen at hm; omega, ⟨?_, ?_⟩, fun h => by cases h⟩
  · intro z hz'
    obtain ⟨n, hn, rfl⟩ := List.mem_map.mp hz'
    have := bounds_u8 (hwz n (List.mem_of_mem_take hn))
    omega
  · intro h
    rw [hlen] at h
    obtain ⟨b, off, rfl, hc⟩ := ints_at hcell (by omega)
    refine ⟨b, off, rfl, ?_, fun i hi => ?_⟩
    · exact World.block_lt_of_cell? w _ (hc 0 (by omega))
    · rw [hlen] at hi
      rw [hc i (by omega)]
      have hi' : i < zs.length := by omega
      have hb := bounds_u8 (hwz zs[i] (List.getElem_mem hi'))
      have e1 : zs.getD i 0 = zs[i] := by simp [hi']
      have e2 : by_ ((zs.take len).map Int.toNat) i = zs[i].toNat := by simp [by_, hi, hi']
      rw [e1, e2]
      congr 2
      omega
theorem info8 : (Tryz.prog.info? 5).map (fun i => (i.zero, i.size, i.bytes)) = some (some (.int .u8 0), 1, 1) := by kernel_rfl
theorem size8 : (Tryz.prog.info? 5).map (·.size) = some 1 := by kernel_rfl
/-- Block g is just the bytes l, none frozen. -/
def Row (w : World) (g : Nat) (l : List Nat) : Prop := w.heap[g]? = some (.cells (l.map byV).toArray 5 (0, 0))
theorem Row.lt {w : World} {g : Nat} {l : List Nat} (h : Row w g l) : g < w.heap.size := by
  apply Classical.byContradiction
  intro hn
  unfold Row at h; rw [Array.getElem?_eq_none (by omega)] at h; cases h
theorem Row.cell {w : World} {g : Nat} {l : List Nat} (h : Row w g l) {i : Nat} (hi : i < l.length) : w.cell? ⟨g, i, none⟩ = some (.int .u8 (by_ l i : Int)) := by
  rw [cell_of_row w g i _ _ (0, 0) h, by_get hi]
  simp [hi, byV]
theorem Row.frozen {w : World} {g : Nat} {l : List Nat} (h : Row w g l) (i : Nat) : w.frozen? ⟨g, i, none⟩ = false := frozen_of_row w g i _ _ h
theorem Row.store {w : World} {g : Nat} {l : List Nat} (h : Row w g l) (i b : Nat) : Row (w.setCell ⟨g, i, none⟩ (.int .u8 (b : Int))) g (l.set i b) := by
  unfold Row
  rw [heap_setCell_same w g i _ _ _ h]
  simp [List.map_set, byV]
theorem Row.below {w w' : World} {g B : Nat} {l : List Nat} (h : Row w g l) (hb : Below B w w') (hg : g < B) : Row w' g l := (hb.block g hg).trans h
theorem Row.rd {w : World} {g B : Nat} {l : List Nat} (h : Row w g l) (hB : g < B) (hl : ∀ z ∈ l, z < 256) : Rd w B (some ⟨g, 0, none⟩) l :=
  ⟨hl, fun _ => ⟨g, 0, rfl, hB, fun i hi => by rw [Nat.zero_add]; exact h.cell hi⟩⟩
theorem Row.of_own {w : World} {base g n : Nat} {l : List Nat} (h : w.ownsRow base 5 1 (.slice (some ⟨g, 0, none⟩) n n) n (l.map byV)) : Row w g l := by
  rcases h.2 with ⟨h', _⟩ | ⟨g', cap', cur, h', _, hg, _, _, hs, ht⟩
  · simp at h'
  · simp only [Value.slice.injEq, Option.some.injEq, Addr.mk.injEq, and_true, true_and] at h'
    obtain ⟨rfl, rfl⟩ := h'
    have : cur.toList.take (n * 1) = cur.toList := List.take_of_length_le (by rw [Array.length_toList, hs]; exact Nat.le_refl _)
    rw [this] at ht
    unfold Row
    rw [hg, ← ht]
theorem made8 (n : Nat) : (madeCells (Value.int .u8 0).cells (n * 1)).toList = (List.replicate n 0).map byV := by
  rw [show (Value.int .u8 0).cells = #[.int .u8 0] from rfl, Nat.mul_one, toList_madeCells_one, List.map_replicate]; rfl
theorem made_row {w w1 : World} {n : Nat} (h : w1.ownsRow w.heap.size 5 1 (.slice (some ⟨w.heap.size, 0, none⟩) n n) n (madeCells (Value.int .u8 0).cells (n * 1)).toList) (hg : w.grownBy w1 none) :
    Hid (w1.heap[w.heap.size]? = some (.cells ((List.replicate n 0).map byV).toArray 5 (0, 0))) ∧ Below w.heap.size w w1 := by
  rw [made8] at h
  exact ⟨Row.of_own h, (Below.refl _ _).grown hg (Nat.le_refl _) (by simp)⟩
theorem copied (l : List Nat) (s : Nat) : splice ((List.replicate (l.length + s) 0).map byV) 0 (l.map byV) = (l ++ List.replicate s 0).map byV := by
  simp only [splice, List.take_zero, List.nil_append, List.map_append, List.map_replicate, List.length_map, Nat.zero_add, List.drop_replicate]
  congr 2; omega
theorem copied_row {w : World} {g : Nat} {l : List Nat} {s : Nat} (h : Hid (w.heap[g]? = some (.cells (splice ((List.replicate (l.length + s) 0).map byV) 0 (l.map byV)).toArray 5 (0, 0)))) :
    Hid (Row w g (l ++ List.replicate s 0)) := by
  have := h.out
  rw [copied] at this
  exact this
theorem cells_of (l : List Nat) (A : Option Addr) (B : Nat) (w w1 : World) (hr : Rd w B A l) (hb : Below B w w1) :
    0 < (l.map byV).length → ∃ ad, A = some ad ∧ ∀ j v, (l.map byV)[j]? = some v → w1.cell? (ad.add j) = some v := by
  intro hl
  obtain ⟨b, off, rfl, hB, hc⟩ := (hr.below hb).2 (by simpa using hl)
  refine ⟨_, rfl, fun j v hj => ?_⟩
  have hj' : j < l.length := by
    apply Classical.byContradiction
    intro hn
    rw [List.getElem?_eq_none (by simpa using hn)] at hj; cases hj
  have e : (⟨b, off, none⟩ : Addr).add j = ⟨b, off + j, none⟩ := by simp [Addr.add]
  rw [e, hc j hj', ← hj]
  simp [hj', byV, by_]
theorem min_len (l : List Nat) (s : Nat) : (l.map byV).length = Nat.min l.length (l.length + s) := by
  rw [List.length_map]; exact (Nat.min_eq_left (Nat.le_add_right _ _)).symm
theorem fit_len (l : List Nat) (s : Nat) : 0 + (l.map byV).length ≤ ((List.replicate (l.length + s) 0).map byV).length := by simp
theorem len_map (l : List Nat) : (l.map byV).length = l.length * 1 := by simp
theorem one_cells (l : List Nat) : ∀ v ∈ l.map byV, v.oneCell' = true := by
  intro v hv
  obtain ⟨b, _, rfl⟩ := List.mem_map.mp hv
  rfl
theorem row_cells {w : World} {g : Nat} {l : List Nat} (h : Hid (Row w g l)) : ∀ j u, (l.map byV)[j]? = some u → w.cell? ((⟨g, 0, none⟩ : Addr).add j) = some u := by
  intro j u hj
  have hj' : j < l.length := by
    apply Classical.byContradiction
    intro hn
    rw [List.getElem?_eq_none (by simpa using hn)] at hj; cases hj
  have e : (⟨g, 0, none⟩ : Addr).add j = ⟨g, j, none⟩ := by
    unfold Addr.add; split <;> simp_all
  rw [e, h.out.cell hj', ← hj]
  simp [hj', byV, by_]
theorem rd_cells {w w1 : World} {B : Nat} {ad : Addr} {l : List Nat} (hr : Rd w B (some ad) l) (hb : Below B w w1) : ∀ j u, (l.map byV)[j]? = some u → w1.cell? (ad.add j) = some u := by
  intro j u hj
  have hl : 0 < (l.map byV).length := by
    apply Classical.byContradiction
    intro hn
    rw [List.getElem?_eq_none (by omega)] at hj; cases hj
  obtain ⟨ad', e, hc⟩ := cells_of l (some ad) B w w1 hr hb hl
  cases e
  exact hc j u hj
/-- A slice's address leads, from block B on, to the bytes l (to nothing, where there are none). -/
def Held (w : World) (B : Nat) (A : Option Addr) (c : Nat) (l : List Nat) : Prop :=
  (∀ z ∈ l, z < 256) ∧ (0 < l.length → ∃ b, A = some ⟨b, 0, none⟩ ∧ B ≤ b ∧ b < w.heap.size ∧ ∀ i, i < l.length → w.cell? ⟨b, i, none⟩ = some (.int .u8 (by_ l i : Int))) ∧ (A = none → l.length = 0 ∧ c = 0)
theorem Held.nil (w : World) (B : Nat) : Held w B none 0 [] := ⟨by simp, by simp, fun _ => ⟨rfl, rfl⟩⟩
theorem Held.rd {w : World} {B c : Nat} {A : Option Addr} {l : List Nat} (h : Held w B A c l) : Rd w w.heap.size A l :=
  ⟨h.1, fun hl => by
    obtain ⟨b, e, _, hb, hc⟩ := h.2.1 hl
    exact ⟨b, 0, e, hb, fun i hi => by rw [Nat.zero_add]; exact hc i hi⟩⟩
theorem Held.below {w w' : World} {B c : Nat} {A : Option Addr} {l : List Nat} (h : Held w B A c l) (hb : Below w.heap.size w w') : Held w' B A c l :=
  ⟨h.1, fun hl => by
    obtain ⟨b, e, h1, h2, hc⟩ := h.2.1 hl
    exact ⟨b, e, h1, Nat.lt_of_lt_of_le h2 hb.size, fun i hi => (hb.cell (p := ⟨b, i, none⟩) h2).trans (hc i hi)⟩, h.2.2⟩
theorem Held.setCell {w : World} {B c : Nat} {A : Option Addr} {l : List Nat} (h : Held w B A c l) {p : Addr} (hp : p.block < B) (u : Value) : Held (w.setCell p u) B A c l :=
  ⟨h.1, fun hl => by
    obtain ⟨b, e, h1, h2, hc⟩ := h.2.1 hl
    refine ⟨b, e, h1, by simpa using h2, fun i hi => ?_⟩
    have hne : (⟨b, i, none⟩ : Addr) ≠ p := fun e => by subst e; exact absurd hp (Nat.not_lt.mpr h1)
    exact (World.cell?_of_block (w := w) (Below.heap_setCell w p u b (by intro e; subst e; omega))).trans (hc i hi), h.2.2⟩
theorem Row.held {w : World} {g c : Nat} {l : List Nat} (h : Row w g l) (hl : ∀ z ∈ l, z < 256) : Held w g (some ⟨g, 0, none⟩) c l :=
  ⟨hl, fun _ => ⟨g, rfl, Nat.le_refl _, h.lt, fun i hi => h.cell hi⟩, fun e => by cases e⟩
theorem Held.of_own {w : World} {B n c g : Nat} {l : List Nat} (hn : n = l.length) (h : w.ownsRow B 5 1 (.slice (some ⟨g, 0, none⟩) n c) n (l.map byV)) (hl : ∀ z ∈ l, z < 256) (hp : 0 < n) : Held w B (some ⟨g, 0, none⟩) c l := by
  subst hn
  refine ⟨hl, fun _ => ?_, fun e => by cases e⟩
  have hlt := h.lt g rfl
  refine ⟨g, rfl, hlt.1, hlt.2, fun i hi => ?_⟩
  rw [h.cellAt i (by omega)]
  simp [hi, byV, by_]
theorem rd_own {w : World} {B c g : Nat} {l : List Nat} (h : w.ownsRow B 5 1 (.slice (some ⟨g, 0, none⟩) l.length c) l.length (l.map byV)) (hg : g < w.heap.size) (hl : ∀ z ∈ l, z < 256) : Rd w w.heap.size (some ⟨g, 0, none⟩) l :=
  ⟨hl, fun _ => ⟨g, 0, rfl, hg, fun i hi => by
    rw [Nat.zero_add, h.cellAt i (by omega)]
    simp [hi, byV, by_]⟩⟩
theorem own_below {w w' : World} {B c g n : Nat} {xs : List Value} {T : TypeId} (h : w.ownsRow B T 1 (.slice (some ⟨g, 0, none⟩) n c) n xs) (hb : Below w.heap.size w w') : w'.ownsRow B T 1 (.slice (some ⟨g, 0, none⟩) n c) n xs := by
  refine ⟨h.1, ?_⟩
  rcases h.2 with h' | ⟨g', cap', cur, h1, h2, h3, h4⟩
  · exact .inl h'
  · have hlt : g' < w.heap.size := by
      apply Classical.byContradiction
      intro hn
      rw [Array.getElem?_eq_none (by omega)] at h3; cases h3
    exact .inr ⟨g', cap', cur, h1, h2, (hb.block g' hlt).trans h3, h4⟩
/-- The string of the bytes l. -/
def strOf (l : List Nat) : ByteArray := ⟨(l.map fun b => UInt8.ofNat b).toArray⟩
theorem strOf_inj {l r : List Nat} (hl : ∀ z ∈ l, z < 256) (hr : ∀ z ∈ r, z < 256) (h : strOf l = strOf r) : l = r := by
  unfold strOf at h
  have h1 : l.map (fun b => UInt8.ofNat b) = r.map (fun b => UInt8.ofNat b) := by simpa using h
  have h2 : ∀ x : List Nat, (∀ z ∈ x, z < 256) → (x.map fun b => UInt8.ofNat b).map UInt8.toNat = x := by
    intro x hx
    rw [List.map_map]
    conv => rhs; rw [← List.map_id x]
    refine List.map_congr_left fun z hz => ?_
    simp only [Function.comp_apply, id_eq]
    exact UInt8.toNat_ofNat_of_lt' (by simpa using hx z hz)
  rw [← h2 l hl, ← h2 r hr, h1]
theorem conv_rd (w : World) (B : Nat) (A : Option Addr) (l : List Nat) (cap : Nat) (h : Rd w B A l) (hA : A = none → l.length = 0 ∧ cap = 0) :
    (convert 32 9 (.slice A l.length cap)).run Tryz.prog w = .ok (.string (strOf l)) w := by
  rcases A with _ | ad
  · obtain ⟨h1, rfl⟩ := hA rfl
    obtain rfl : l = [] := List.eq_nil_of_length_eq_zero h1
    rw [run_convert_bytes_string w 32 9 5 none _ 0 Tryz.underlying32 Tryz.underlying5 Tryz.underlying9]
    rfl
  · have e : l.length = (l.map fun b => UInt8.ofNat b).length := by simp
    rw [e]
    refine run_convert_bytes_back w 32 9 5 ad cap (l.map fun b => UInt8.ofNat b) Tryz.underlying32 Tryz.underlying5 Tryz.underlying9 fun j hj => ?_
    have hj' : j < l.length := by simpa using hj
    obtain ⟨b, off, hx, _, hc⟩ := h.2 (by omega)
    cases hx
    have ea : (⟨b, off, none⟩ : Addr).add j = ⟨b, off + j, none⟩ := by
      unfold Addr.add; split <;> simp_all
    rw [ea, hc j hj', by_get hj']
    have hlt := h.1 _ (List.getElem_mem hj')
    simp only [List.getElem_map]
    rw [UInt8.toNat_ofNat_of_lt' (by simpa using hlt)]
theorem row_alloc {w : World} {g : Nat} {l : List Nat} {o : Obj} (h : Hid (Row w g l)) : Hid (Row (w.alloc o) g l) := (Below.heap_alloc w o g h.out.lt).trans h.out
theorem below_alloc {w wr : World} {o : Obj} (h : Below w.heap.size w wr) : Below w.heap.size w (wr.alloc o) := h.alloc h.size o
theorem below_drewN {B : Nat} {a w : World} (h : Below B a w) (n : Nat) : Below B a (w.drewN n) := h.trans ⟨rfl, rfl, rfl, Nat.le_refl _, fun _ _ => rfl⟩
/-! ### Bytes that the call itself appends to -/
/-- A slice of the call's own, with these bytes. -/
def Own (w : World) (B : Nat) (v : Value) (l : List Nat) : Prop := w.ownsRow B 5 1 v l.length (l.map byV)
theorem Own.nil (w : World) (B : Nat) : Own w B (.slice none 0 0) [] := ⟨rfl, .inl ⟨rfl, rfl⟩⟩
theorem Own.lit {w0 w : World} (hb : Below w0.heap.size w0 w) : Own (w.alloc (.cells #[] 5)) w0.heap.size (.slice (some ⟨w.heap.size, 0, none⟩) 0 0) [] :=
  World.ownsRow_made w #[] 0 hb.size (by unfold maxLen; omega) rfl
theorem Own.held {w : World} {B : Nat} {v : Value} {l : List Nat} (h : Own w B v l) (hl : ∀ z ∈ l, z < 256) : ∃ A c, v = .slice A l.length c ∧ l.length ≤ c ∧ c ≤ 9223372036854775807 ∧ Held w B A c l := by
  rcases h.2 with ⟨h1, h2⟩ | ⟨g, cap, cur, h1, h2, h3, h4, h5, h6, h7⟩
  · have : l = [] := by simpa using h2
    subst this
    exact ⟨none, 0, h1, Nat.le_refl _, Nat.zero_le _, Held.nil _ _⟩
  · refine ⟨some ⟨g, 0, none⟩, cap, h1, h4, by unfold maxLen at h5; omega, ?_⟩
    by_cases hp : 0 < l.length
    · subst h1; exact Held.of_own rfl h hl hp
    · exact ⟨hl, fun hh => absurd hh hp, fun e => by cases e⟩
theorem Own.alloc {w : World} {B : Nat} {v : Value} {l : List Nat} (h : Own w B v l) (o : Obj) : Own (w.alloc o) B v l := World.ownsRow.kept h (World.grownBy_alloc w o none) (by cases v.ownBlock <;> simp)
theorem rd_lit {w : World} {r : List Nat} (hr : ∀ z ∈ r, z < 256) (T : TypeId) (f : Nat × Nat := (0, 0)) : Rd (w.alloc (.cells (r.map byV).toArray T f)) (w.heap.size + 1) (some ⟨w.heap.size, 0, none⟩) r :=
  ⟨hr, fun _ => ⟨w.heap.size, 0, rfl, Nat.lt_succ_self _, fun i hi => by
    rw [Nat.zero_add, cell_of_row _ w.heap.size i _ T f (heap_alloc_new w _)]
    simp [hi, byV, by_]⟩⟩
/-- Bytes appended to a slice of the call's own. -/
theorem app8 {w0 w : World} {ops : Array Oper} {rest : List Oper} {o : Oper} {a : Act} {Q : Exit → Act → World → Prop} (hgd : o.guard = none) (s x : Operand)
    (ho : o.op = .call { callee := .builtin .append, args := #[s, x], argTypes := #[32, 32] })
    (B Bx : Nat) (v : Value) (l r : List Nat) (hs : a.eval s = v) (hown : Own w B v l) (hb : Below B w0 w) (hB : B ≤ w.heap.size)
    (A : Option Addr) (c : Nat) (hx : a.eval x = .slice A r.length c) (hr : Rd w Bx A r) (hA : A = none → r.length = 0 ∧ c = 0) (hlen : l.length + r.length ≤ 140737488355328)
    (h : ∀ v' w', Own w' B v' (l ++ r) → Below B w0 w' → w.grownBy w' v.ownBlock → wpList Tryz.prog ops Q rest (a.put o.dst v') w') : wpList Tryz.prog ops Q (o :: rest) a w := by
  obtain ⟨i0, hi, hz0, hz1, hz2⟩ := info_parts info8
  rcases A with _ | ad
  · obtain ⟨h1, rfl⟩ := hA rfl
    obtain rfl : r = [] := List.eq_nil_of_length_eq_zero h1
    refine wpList_append_own_none hgd s x 32 ho B 5 i0 1 Tryz.underlying32 hi v l.length (l.map byV) hs hown hx ?_
    exact h v w (by rw [List.append_nil]; exact hown) hb ⟨rfl, rfl, rfl, Nat.le_refl _, fun _ _ _ => rfl⟩
  · refine wpList_append_own w hgd s x 32 ho B 5 i0 (.int .u8 0) 1 1 Tryz.underlying32 hi hz0 hz1 hz2 rfl (by decide) v l.length (l.map byV) hs hown ad r.length c (r.map byV) hx (len_map r) (rd_cells hr (Below.refl _ _)) (one_cells _) (by unfold maxLen; omega) (by omega) hB ?_
    intro v' w' h1 h2 _
    refine h v' w' ?_ (hb.grown h2 hB fun k hk => (hown.lt k hk).1) h2
    unfold Own
    rw [List.length_append, List.map_append]; exact h1
theorem Own.form {w : World} {B : Nat} {v : Value} {l : List Nat} (h : Own w B v l) (hp : 0 < l.length) : ∃ g c, v = .slice (some ⟨g, 0, none⟩) l.length c ∧ B ≤ g ∧ g < w.heap.size := by
  obtain ⟨g, c, h1, h2, h3⟩ := World.ownsRow.form h hp
  exact ⟨g, c, h1, h2, h3⟩
theorem Own.cell {w : World} {B g n c : Nat} {l : List Nat} (h : Own w B (.slice (some ⟨g, 0, none⟩) n c) l) {i : Nat} (hi : i < l.length) : w.cell? ⟨g, i, none⟩ = some (.int .u8 (by_ l i : Int)) ∧ w.frozen? ⟨g, i, none⟩ = false := by
  have hn : n = l.length := by
    rcases h.2 with ⟨h1, _⟩ | ⟨_, _, _, h1, _⟩
    · cases h1
    · injection h1
  subst hn
  refine ⟨?_, h.frozenAt i⟩
  rw [h.cellAt i (by omega)]
  simp [hi, byV, by_]
theorem Own.store {w : World} {B g n c : Nat} {l : List Nat} (h : Own w B (.slice (some ⟨g, 0, none⟩) n c) l) (i y : Nat) : Own (w.setCell ⟨g, i, none⟩ (.int .u8 (y : Int))) B (.slice (some ⟨g, 0, none⟩) n c) (l.set i y) := by
  have hn : n = l.length := by
    rcases h.2 with ⟨h1, _⟩ | ⟨_, _, _, h1, _⟩
    · cases h1
    · injection h1
  subst hn
  have := (h.stored i (.int .u8 (y : Int))).1
  unfold Own
  rw [List.length_set, List.map_set]
  exact this
/-- A law's own copy of bytes, in a block with room to spare. -/
theorem given {w wa wb : World} {l : List Nat} {c : Nat} (h : wa.ownsRow w.heap.size 5 1 (.slice (some ⟨w.heap.size, 0, none⟩) 0 c) 0 []) (hga : w.grownBy wa none)
    (h2 : wb.ownsRow w.heap.size 5 1 (.slice (some ⟨w.heap.size, 0, none⟩) (0 + l.length) c) (0 + l.length) ([] ++ l.map byV)) (hgb : wa.grownBy wb (some w.heap.size)) (hl : ∀ z ∈ l, z < 256) :
    Hid (Own wb w.heap.size (.slice (some ⟨w.heap.size, 0, none⟩) l.length c) l) ∧ Hid (Rd wb wb.heap.size (some ⟨w.heap.size, 0, none⟩) l) ∧ Hid (Below w.heap.size w wb) ∧ w.heap.size < wb.heap.size := by
  rw [Nat.zero_add, List.nil_append] at h2
  have hlt : w.heap.size < wb.heap.size := (h2.lt w.heap.size rfl).2
  refine ⟨h2, rd_own h2 hlt hl, ?_, hlt⟩
  exact ((Below.refl _ w).grown hga (Nat.le_refl _) (by simp)).grown hgb hga.size (fun k hk => by injection hk with hk; omega)
/-- What a call answers that makes new bytes. -/
def NewB (w : World) (l : List Nat) (e : Ending) (w' : World) : Prop :=
  ∃ A c, e = .returned (.slice A l.length c) ∧ l.length ≤ c ∧ c ≤ 9223372036854775807 ∧ Hid (Held w' w.heap.size A c l) ∧ Hid (Below w.heap.size w w')
theorem NewB.mk {w w' : World} {v : Value} {l : List Nat} (h : Own w' w.heap.size v l) (hb : Below w.heap.size w w') (hl : ∀ z ∈ l, z < 256) : NewB w l (.returned v) w' := by
  obtain ⟨A, c, rfl, h1, h2, h3⟩ := h.held hl
  exact ⟨A, c, rfl, h1, h2, h3, hb⟩
end Go.Proofs.YtbacgljeadalbaaGreatDoor.Me
/- Disks as plain data: files by rising names, what each call answers and leaves. -/
namespace Go.Proofs.YtbacgljeadalbaaGreatDoor.Dk
set_option linter.unusedVariables false

abbrev Nm := List UInt8
/-- A file: its bytes, how many of them are safe. -/
structure Fl where
  bytes : List Nat
  safe : Nat
abbrev Fs := List (Nm × Fl)
def look : Fs → Nm → Option Fl
  | [], _ => none
  | (m, f) :: r, n => if m = n then some f else look r n
def del (L : Fs) (n : Nm) : Fs := L.filter fun p => decide (p.1 ≠ n)
def ins : Fs → Nm → Fl → Fs
  | [], n, f => [(n, f)]
  | (m, g) :: r, n, f => if n < m then (n, f) :: (m, g) :: r else (m, g) :: ins r n f
def put (L : Fs) (n : Nm) (f : Fl) : Fs := ins (del L n) n f
def used (L : Fs) : Nat := (L.map fun p => p.2.bytes.length).sum
def Srt (L : Fs) : Prop := L.Pairwise fun p q => p.1 < q.1

/-! ### Names in order -/
theorem nm_irrefl (a : Nm) : ¬ a < a := List.lt_irrefl a
theorem nm_trans {a b c : Nm} (h : a < b) (k : b < c) : a < c := List.lt_trans h k
theorem nm_ne {a b : Nm} (h : a < b) : a ≠ b := fun e => nm_irrefl b (e ▸ h)
theorem nm_conn {a b : Nm} (h : ¬ a < b) (k : a ≠ b) : b < a := by
  have h1 : b ≤ a := List.not_lt.1 h
  apply Classical.byContradiction
  intro h2
  exact k (List.le_antisymm (List.not_lt.1 h2) h1)

/-! ### Files by names -/
theorem look_none {L : Fs} {n : Nm} : look L n = none ↔ ∀ p ∈ L, p.1 ≠ n := by
  induction L with
  | nil => simp [look]
  | cons p r ih =>
    obtain ⟨m, f⟩ := p
    by_cases h : m = n
    · simp [look, h]
    · simp [look, h, ih]
theorem look_mem {L : Fs} {n : Nm} {f : Fl} (h : look L n = some f) : (n, f) ∈ L := by
  induction L with
  | nil => cases h
  | cons p r ih =>
    obtain ⟨m, g⟩ := p
    by_cases e : m = n
    · simp only [look, e, if_true, Option.some.injEq] at h
      simp [h, e]
    · simp only [look, if_neg e] at h
      exact List.mem_cons_of_mem _ (ih h)
theorem look_of_mem {L : Fs} (hs : Srt L) {n : Nm} {f : Fl} (h : (n, f) ∈ L) : look L n = some f := by
  induction L with
  | nil => cases h
  | cons p r ih =>
    obtain ⟨m, g⟩ := p
    rcases List.mem_cons.1 h with h | h
    · cases h; simp [look]
    · have := (List.pairwise_cons.1 hs).1 _ h
      simp only [look, if_neg (nm_ne this)]
      exact ih (List.pairwise_cons.1 hs).2 h
theorem look_at {L : Fs} (hs : Srt L) {i : Nat} (h : i < L.length) : look L L[i].1 = some L[i].2 := look_of_mem hs (List.getElem_mem h)
theorem look_del (L : Fs) (n m : Nm) : look (del L n) m = if m = n then none else look L m := by
  induction L with
  | nil => simp [del, look]
  | cons p r ih =>
    obtain ⟨k, f⟩ := p
    have ih' : look (List.filter (fun p => decide (p.1 ≠ n)) r) m = if m = n then none else look r m := ih
    by_cases hk : k = n
    · subst hk
      simp only [del, List.filter_cons, ne_eq, not_true_eq_false, decide_false, Bool.false_eq_true, if_false, look]
      rw [ih']
      by_cases hm : m = k
      · simp [hm]
      · have hk : k ≠ m := fun h => hm h.symm
        simp [hm, hk]
    · simp only [del, List.filter_cons, ne_eq, hk, not_false_eq_true, decide_true, if_true, look]
      rw [ih']
      by_cases e : k = m
      · subst e; simp [hk]
      · simp [e]
theorem look_ins {L : Fs} {n : Nm} (h : look L n = none) (f : Fl) (m : Nm) : look (ins L n f) m = if m = n then some f else look L m := by
  induction L with
  | nil => simp [ins, look, eq_comm]
  | cons p r ih =>
    obtain ⟨k, g⟩ := p
    have hk : k ≠ n := fun e => by simp [look, e] at h
    have hr : look r n = none := by simpa [look, hk] using h
    unfold ins
    split
    · simp [look, eq_comm]
    · simp only [look, ih hr]
      by_cases e : k = m
      · subst e; simp [hk]
      · simp [e]
theorem look_put (L : Fs) (n : Nm) (f : Fl) (m : Nm) : look (put L n f) m = if m = n then some f else look L m := by
  unfold put
  rw [look_ins (by rw [look_del]; simp), look_del]
  by_cases e : m = n
  · simp [e]
  · simp [e]
theorem mem_ins {L : Fs} {n : Nm} {f : Fl} {p : Nm × Fl} : p ∈ ins L n f ↔ p = (n, f) ∨ p ∈ L := by
  induction L with
  | nil => simp [ins]
  | cons q r ih =>
    obtain ⟨k, g⟩ := q
    unfold ins
    split
    · simp
    · simp only [List.mem_cons, ih]
      constructor
      · rintro (h | h | h)
        · exact .inr (.inl h)
        · exact .inl h
        · exact .inr (.inr h)
      · rintro (h | h | h)
        · exact .inr (.inl h)
        · exact .inl h
        · exact .inr (.inr h)
theorem mem_del {L : Fs} {n : Nm} {p : Nm × Fl} : p ∈ del L n ↔ p ∈ L ∧ p.1 ≠ n := by simp [del]
theorem mem_put {L : Fs} {n : Nm} {f : Fl} {p : Nm × Fl} : p ∈ put L n f ↔ p = (n, f) ∨ (p ∈ L ∧ p.1 ≠ n) := by unfold put; rw [mem_ins, mem_del]
theorem Srt.del {L : Fs} (h : Srt L) (n : Nm) : Srt (del L n) := List.Pairwise.filter _ h
theorem Srt.ins {L : Fs} (h : Srt L) {n : Nm} (hn : look L n = none) (f : Fl) : Srt (ins L n f) := by
  induction L with
  | nil => simp [Dk.ins, Srt]
  | cons p r ih =>
    obtain ⟨k, g⟩ := p
    have hk : k ≠ n := fun e => by simp [look, e] at hn
    have hr : look r n = none := by simpa [look, hk] using hn
    have hc := List.pairwise_cons.1 h
    unfold Dk.ins
    split
    · rename_i hlt
      refine List.pairwise_cons.2 ⟨fun q hq => ?_, h⟩
      rcases List.mem_cons.1 hq with rfl | hq
      · exact hlt
      · exact nm_trans hlt (hc.1 q hq)
    · rename_i hlt
      refine List.pairwise_cons.2 ⟨fun q hq => ?_, ih hc.2 hr⟩
      rcases mem_ins.1 hq with rfl | hq
      · exact nm_conn hlt (fun e => hk e.symm)
      · exact hc.1 q hq
theorem Srt.put {L : Fs} (h : Srt L) (n : Nm) (f : Fl) : Srt (put L n f) := (h.del n).ins (by rw [look_del]; simp) f
theorem length_ins (L : Fs) (n : Nm) (f : Fl) : (ins L n f).length = L.length + 1 := by
  induction L with
  | nil => rfl
  | cons p r ih =>
    obtain ⟨k, g⟩ := p
    unfold ins
    split
    · simp
    · simp [ih]
theorem used_ins (L : Fs) (n : Nm) (f : Fl) : used (ins L n f) = used L + f.bytes.length := by
  induction L with
  | nil => simp [used, ins]
  | cons p r ih =>
    obtain ⟨k, g⟩ := p
    have ih' : ((ins r n f).map fun p => p.2.bytes.length).sum = (r.map fun p => p.2.bytes.length).sum + f.bytes.length := ih
    unfold ins
    split
    · simp [used]; omega
    · simp [used, ih']; omega
theorem del_none {L : Fs} {n : Nm} (h : look L n = none) : del L n = L := by
  refine List.filter_eq_self.2 fun p hp => ?_
  simpa using look_none.1 h p hp
theorem del_some {L : Fs} (hs : Srt L) {n : Nm} {f : Fl} (h : look L n = some f) : (del L n).length + 1 = L.length ∧ used (del L n) + f.bytes.length = used L := by
  induction L with
  | nil => cases h
  | cons p r ih =>
    obtain ⟨k, g⟩ := p
    have hc := List.pairwise_cons.1 hs
    by_cases e : k = n
    · subst e
      simp only [look, if_true, Option.some.injEq] at h
      subst h
      have hr : look r k = none := look_none.2 fun q hq => (nm_ne (hc.1 q hq)).symm
      have e1 : del ((k, g) :: r) k = r := by
        have := del_none hr
        unfold del at this ⊢
        simpa using this
      rw [e1]
      simp [used]; omega
    · simp only [look, if_neg e] at h
      obtain ⟨h1, h2⟩ := ih hc.2 h
      have e1 : del ((k, g) :: r) n = (k, g) :: del r n := by
        unfold del
        simp [e]
      rw [e1]
      have h2' : ((del r n).map fun p => p.2.bytes.length).sum + f.bytes.length = (r.map fun p => p.2.bytes.length).sum := h2
      simp [used]; omega
theorem put_none {L : Fs} {n : Nm} (h : look L n = none) (f : Fl) : (put L n f).length = L.length + 1 ∧ used (put L n f) = used L + f.bytes.length := by
  unfold put
  rw [length_ins, used_ins, del_none h]
  exact ⟨rfl, rfl⟩
theorem put_some {L : Fs} (hs : Srt L) {n : Nm} {g : Fl} (h : look L n = some g) (f : Fl) : (put L n f).length = L.length ∧ used (put L n f) + g.bytes.length = used L + f.bytes.length := by
  unfold put
  rw [length_ins, used_ins]
  have := del_some hs h
  omega
theorem used_mem {L : Fs} {p : Nm × Fl} (h : p ∈ L) : p.2.bytes.length ≤ used L := by
  induction L with
  | nil => cases h
  | cons q r ih =>
    rcases List.mem_cons.1 h with rfl | h
    · simp [used]
    · have := ih h
      simp [used] at this ⊢
      omega
theorem fs_ext {L R : Fs} (h1 : Srt L) (h2 : Srt R) (h : ∀ n, look L n = look R n) : L = R := by
  have mem : ∀ {A B : Fs}, Srt A → Srt B → (∀ n, look A n = look B n) → ∀ p, p ∈ A → p ∈ B := fun {A B} hA hB he p hp => by
    have := look_of_mem hA (n := p.1) (f := p.2) hp
    rw [he] at this
    exact look_mem this
  induction L generalizing R with
  | nil =>
    cases R with
    | nil => rfl
    | cons q r => have := h q.1; simp [look] at this
  | cons p r ih =>
    cases R with
    | nil => have := h p.1; simp [look] at this
    | cons q t =>
      have c1 := List.pairwise_cons.1 h1
      have c2 := List.pairwise_cons.1 h2
      have hpq : p.1 = q.1 := by
        apply Classical.byContradiction
        intro hn
        have a := mem h1 h2 h p (by simp)
        have b := mem h2 h1 (fun n => (h n).symm) q (by simp)
        rcases List.mem_cons.1 a with rfl | a
        · exact hn rfl
        · rcases List.mem_cons.1 b with rfl | b
          · exact hn rfl
          · exact nm_irrefl _ (nm_trans (c1.1 q b) (c2.1 p a))
      have e : p = q := by
        have := h p.1
        obtain ⟨a, b⟩ := p
        obtain ⟨c, d⟩ := q
        simp only at hpq
        subst hpq
        simpa [look] using this
      subst e
      congr 1
      refine ih c1.2 c2.2 fun n => ?_
      have := h n
      obtain ⟨a, b⟩ := p
      by_cases e : a = n
      · subst e
        rw [look_none.2 fun q hq => (nm_ne (c1.1 q hq)).symm, look_none.2 fun q hq => (nm_ne (c2.1 q hq)).symm]
      · simpa [look, e] using this

/-! ### A disk -/
structure St where
  limit : Nat
  files : Fs
  left : Nat
  down : Bool
def chOk (b : UInt8) : Bool := (decide (97 ≤ b.toNat) && decide (b.toNat ≤ 122)) || (decide (48 ≤ b.toNat) && decide (b.toNat ≤ 57)) || decide (b.toNat = 46)
def nameOk (n : Nm) : Bool := decide (1 ≤ n.length) && decide (n.length ≤ 12) && n.all chOk
structure St.Ok (s : St) : Prop where
  srt : Srt s.files
  lim : s.limit ≤ 1048576
  use : used s.files ≤ 1048576
  cnt : s.files.length ≤ 64
  safe : ∀ p ∈ s.files, p.2.safe ≤ p.2.bytes.length
  byte : ∀ p ∈ s.files, ∀ z ∈ p.2.bytes, z < 256
  nm : ∀ p ∈ s.files, nameOk p.1 = true
  left : s.left ≤ 9223372036854775807
  dn : s.down = true → s.left = 0
def newS (limit : Nat) : St := ⟨limit, [], 0, false⟩
/-- What stands against a call about these names. -/
def mayE (s : St) (ns : List Nm) : Nat := if s.down then 9 else if ns.all nameOk then 0 else 2
def findE (s : St) (n : Nm) : Nat := if s.down then 9 else if nameOk n then (if (look s.files n).isSome then 0 else 4) else 2
/-- Behind a change. -/
def chg (s : St) (L : Fs) : St := ⟨s.limit, L, s.left - 1, decide (s.left = 1)⟩
def appE (s : St) (n : Nm) (p : List Nat) : Nat :=
  if mayE s [n] ≠ 0 then mayE s [n] else if (s.limit < used s.files + p.length) ∨ ((look s.files n).isNone = true ∧ s.files.length = 64) then 6 else 0
def appF : Option Fl → List Nat → Fl
  | none, p => ⟨p, 0⟩
  | some f, p => ⟨f.bytes ++ p, f.safe⟩
def appS (s : St) (n : Nm) (p : List Nat) : St := if appE s n p = 0 then chg s (put s.files n (appF (look s.files n) p)) else s
def fileOf (s : St) (n : Nm) : Fl := (look s.files n).getD ⟨[], 0⟩
def syncS (s : St) (n : Nm) : St := if findE s n = 0 then chg s (put s.files n ⟨(fileOf s n).bytes, (fileOf s n).bytes.length⟩) else s
def cutE (s : St) (n : Nm) (k : Int) : Nat := if findE s n ≠ 0 then findE s n else if k < 0 ∨ (fileOf s n).bytes.length < k then 1 else 0
def cutS (s : St) (n : Nm) (k : Int) : St := if cutE s n k = 0 then chg s (put s.files n ⟨(fileOf s n).bytes.take k.toNat, k.toNat⟩) else s
def renE (s : St) (a b : Nm) : Nat :=
  if mayE s [a, b] ≠ 0 then mayE s [a, b] else if (look s.files a).isNone then 4 else if (fileOf s a).safe < (fileOf s a).bytes.length then 7 else 0
def renS (s : St) (a b : Nm) : St := if renE s a b = 0 then chg s (put (del s.files a) b (fileOf s a)) else s
def remS (s : St) (n : Nm) : St := if findE s n = 0 then chg s (del s.files n) else s
def readP (s : St) (n : Nm) : List Nat := if findE s n = 0 then (fileOf s n).bytes else []
def limE (k : Int) : Nat := if k < 0 ∨ 1048576 < k then 1 else 0
def limS (s : St) (k : Int) : St := if limE k = 0 then { s with limit := k.toNat } else s
def armE (s : St) : Nat := if s.down then 9 else 0
def armS (s : St) (k : Int) : St := if s.down then s else { s with left := k.toNat, down := decide (k = 0) }
def crashF (f : Fl) (k : Int) : Fl := ⟨f.bytes.take (f.safe + min k.toNat (f.bytes.length - f.safe)), f.safe + min k.toNat (f.bytes.length - f.safe)⟩
def crashL : Fs → List Int → Fs
  | [], _ => []
  | (n, f) :: r, ks => (n, crashF f (ks.headD 0)) :: crashL r ks.tail
def crashS (s : St) (ks : List Int) : St := ⟨s.limit, crashL s.files ks, 0, false⟩

/-! ### What each call keeps -/
theorem crashF_len {f : Fl} (h : f.safe ≤ f.bytes.length) (k : Int) : (crashF f k).safe = (crashF f k).bytes.length ∧ (crashF f k).bytes.length ≤ f.bytes.length := by
  simp only [crashF, List.length_take]
  omega
theorem crash_names (L : Fs) (ks : List Int) : (crashL L ks).map (·.1) = L.map (·.1) := by
  induction L generalizing ks with
  | nil => rfl
  | cons p r ih => obtain ⟨n, f⟩ := p; simp [crashL, ih]
theorem crash_len (L : Fs) (ks : List Int) : (crashL L ks).length = L.length := by
  have := congrArg List.length (crash_names L ks)
  simpa using this
theorem crash_at (L : Fs) (ks : List Int) {i : Nat} (h : i < L.length) : (crashL L ks)[i]'(by rw [crash_len]; exact h) = (L[i].1, crashF L[i].2 (ks.getD i 0)) := by
  induction L generalizing ks i with
  | nil => simp at h
  | cons p r ih =>
    obtain ⟨n, f⟩ := p
    cases i with
    | zero => cases ks <;> simp [crashL]
    | succ i =>
      have := ih ks.tail (i := i) (by simpa using h)
      simp only [crashL, List.getElem_cons_succ]
      rw [this]
      cases ks <;> simp
theorem crash_srt {L : Fs} (h : Srt L) (ks : List Int) : Srt (crashL L ks) := by
  unfold Srt at h ⊢
  have e := crash_names L ks
  have h1 : (L.map (·.1)).Pairwise (· < ·) := List.pairwise_map.2 h
  rw [← e] at h1
  exact List.pairwise_map.1 h1
theorem crash_used {L : Fs} (h : ∀ p ∈ L, p.2.safe ≤ p.2.bytes.length) (ks : List Int) : used (crashL L ks) ≤ used L := by
  induction L generalizing ks with
  | nil => exact Nat.le_refl _
  | cons p r ih =>
    obtain ⟨n, f⟩ := p
    have h1 := ih (fun q hq => h q (List.mem_cons_of_mem _ hq)) ks.tail
    have h2 : (crashF f (ks.headD 0)).bytes.length ≤ f.bytes.length := (crashF_len (h (n, f) (by simp)) (ks.headD 0)).2
    unfold used at h1 ⊢
    simp only [crashL, List.map_cons, List.sum_cons]
    omega
theorem crash_mem {L : Fs} {ks : List Int} {p : Nm × Fl} (h : p ∈ crashL L ks) : ∃ f k, (p.1, f) ∈ L ∧ p.2 = crashF f k := by
  obtain ⟨i, hi, rfl⟩ := List.mem_iff_getElem.1 h
  have hi' : i < L.length := by rwa [crash_len] at hi
  rw [crash_at L ks hi']
  exact ⟨L[i].2, _, List.getElem_mem hi', rfl⟩
end Go.Proofs.YtbacgljeadalbaaGreatDoor.Dk
/- What each call of a disk keeps; the codes of what it answers. -/
namespace Go.Proofs.YtbacgljeadalbaaGreatDoor.Dk
set_option linter.unusedVariables false

theorem St.Ok.new {n : Nat} (h : n ≤ 1048576) : (newS n).Ok :=
  ⟨List.Pairwise.nil, h, Nat.zero_le _, Nat.zero_le _, (fun p hp => by cases hp), (fun p hp => by cases hp), (fun p hp => by cases hp), Nat.zero_le _, (fun h => by cases h)⟩
theorem St.Ok.file {s : St} (h : s.Ok) {n : Nm} {f : Fl} (hf : look s.files n = some f) : f.safe ≤ f.bytes.length ∧ f.bytes.length ≤ used s.files ∧ (∀ z ∈ f.bytes, z < 256) ∧ nameOk n = true := by
  have hm := look_mem hf
  exact ⟨h.safe _ hm, used_mem hm, h.byte _ hm, h.nm _ hm⟩
theorem St.Ok.fileOf {s : St} (h : s.Ok) (n : Nm) : (fileOf s n).safe ≤ (fileOf s n).bytes.length ∧ (fileOf s n).bytes.length ≤ used s.files ∧ ∀ z ∈ (fileOf s n).bytes, z < 256 := by
  unfold Dk.fileOf
  cases hf : look s.files n with
  | none => simp
  | some f => have := h.file hf; exact ⟨this.1, this.2.1, this.2.2.1⟩
theorem St.Ok.chg {s : St} (h : s.Ok) {L : Fs} (h1 : Srt L) (h2 : used L ≤ 1048576) (h3 : L.length ≤ 64) (h4 : ∀ p ∈ L, p.2.safe ≤ p.2.bytes.length) (h5 : ∀ p ∈ L, ∀ z ∈ p.2.bytes, z < 256) (h6 : ∀ p ∈ L, nameOk p.1 = true) : (chg s L).Ok :=
  ⟨h1, h.lim, h2, h3, h4, h5, h6, by have := h.left; show s.left - 1 ≤ _; omega, fun e => by
    have : s.left = 1 := of_decide_eq_true e
    show s.left - 1 = 0
    omega⟩
theorem St.Ok.put {s : St} (h : s.Ok) {n : Nm} {f : Fl} (h1 : used (put s.files n f) ≤ 1048576) (h2 : (put s.files n f).length ≤ 64) (h3 : f.safe ≤ f.bytes.length) (h4 : ∀ z ∈ f.bytes, z < 256) (h5 : nameOk n = true) : (Dk.chg s (put s.files n f)).Ok :=
  h.chg (h.srt.put n f) h1 h2 (fun p hp => by
    rcases mem_put.1 hp with rfl | hp
    · exact h3
    · exact h.safe p hp.1) (fun p hp => by
    rcases mem_put.1 hp with rfl | hp
    · exact h4
    · exact h.byte p hp.1) (fun p hp => by
    rcases mem_put.1 hp with rfl | hp
    · exact h5
    · exact h.nm p hp.1)
theorem St.Ok.del {s : St} (h : s.Ok) (n : Nm) : used (del s.files n) ≤ used s.files ∧ (del s.files n).length ≤ s.files.length := by
  cases hf : look s.files n with
  | none => rw [del_none hf]; exact ⟨Nat.le_refl _, Nat.le_refl _⟩
  | some f => have := del_some h.srt hf; omega
theorem findE_ok {s : St} {n : Nm} (h : findE s n = 0) : s.down = false ∧ nameOk n = true ∧ look s.files n = some (fileOf s n) := by
  unfold findE at h
  split at h
  · cases h
  · rename_i hd
    split at h
    · rename_i hn
      split at h
      · rename_i hl
        refine ⟨by simpa using hd, hn, ?_⟩
        unfold fileOf
        cases e : look s.files n with
        | none => rw [e] at hl; cases hl
        | some f => rfl
      · cases h
    · cases h
theorem St.Ok.app {s : St} (h : s.Ok) (n : Nm) {p : List Nat} (hp : ∀ z ∈ p, z < 256) : (appS s n p).Ok := by
  unfold appS
  split
  · rename_i he
    unfold appE at he
    split at he
    · rename_i h0; exact absurd he h0
    · rename_i h0
      split at he
      · cases he
      · rename_i h1
        have hn : nameOk n = true := by
          unfold mayE at h0
          apply Classical.byContradiction
          intro hn
          simp [hn] at h0
          split at h0 <;> cases h0
        simp only [not_or, Nat.not_lt, not_and] at h1
        have hl := h.lim
        cases hf : look s.files n with
        | none =>
          have h2 := h1.2 (by simp [hf])
          have h3 := put_none hf (appF none p)
          have h4 := h.cnt
          exact h.put (by rw [h3.2]; show used s.files + p.length ≤ _; omega) (by omega) (Nat.zero_le _) hp hn
        | some f =>
          have h3 := put_some h.srt hf (appF (some f) p)
          have h4 := h.cnt
          have h5 := h.file hf
          have e : (appF (some f) p).bytes.length = f.bytes.length + p.length := by simp [appF]
          refine h.put (by omega) (by omega) (by rw [e]; show f.safe ≤ _; omega) ?_ hn
          intro z hz
          rcases List.mem_append.1 hz with hz | hz
          · exact h5.2.2.1 z hz
          · exact hp z hz
  · exact h
theorem St.Ok.same {s : St} (h : s.Ok) {n : Nm} {f g : Fl} (hf : look s.files n = some g) (h1 : f.bytes.length ≤ g.bytes.length) (h2 : f.safe ≤ f.bytes.length) (h3 : ∀ z ∈ f.bytes, z < 256) : (Dk.chg s (Dk.put s.files n f)).Ok := by
  have h4 := put_some h.srt hf f
  have h5 := h.use
  have h6 := h.cnt
  exact h.put (by omega) (by omega) h2 h3 (h.file hf).2.2.2
theorem St.Ok.sync {s : St} (h : s.Ok) (n : Nm) : (syncS s n).Ok := by
  unfold syncS
  split
  · rename_i he
    obtain ⟨_, _, hf⟩ := findE_ok he
    exact h.same hf (Nat.le_refl _) (Nat.le_refl _) (h.file hf).2.2.1
  · exact h
theorem cutE_ok {s : St} {n : Nm} {k : Int} (h : cutE s n k = 0) : findE s n = 0 ∧ 0 ≤ k ∧ k ≤ (fileOf s n).bytes.length := by
  unfold cutE at h
  split at h
  · rename_i h0; exact absurd h h0
  · rename_i h0
    split at h
    · cases h
    · rename_i h1; exact ⟨by omega, by omega, by omega⟩
theorem St.Ok.cut {s : St} (h : s.Ok) (n : Nm) (k : Int) : (cutS s n k).Ok := by
  unfold cutS
  split
  · rename_i he
    obtain ⟨h1, h2, h3⟩ := cutE_ok he
    obtain ⟨_, _, hf⟩ := findE_ok h1
    refine h.same hf (by simp; omega) (by simp; omega) fun z hz => (h.file hf).2.2.1 z (List.mem_of_mem_take hz)
  · exact h
theorem renE_ok {s : St} {a b : Nm} (h : renE s a b = 0) : s.down = false ∧ nameOk b = true ∧ look s.files a = some (fileOf s a) ∧ (fileOf s a).bytes.length ≤ (fileOf s a).safe := by
  unfold renE at h
  split at h
  · rename_i h0; exact absurd h h0
  · rename_i h0
    split at h
    · cases h
    · rename_i h1
      split at h
      · cases h
      · rename_i h2
        have h0' : mayE s [a, b] = 0 := by omega
        unfold mayE at h0'
        split at h0'
        · cases h0'
        · rename_i hd
          split at h0'
          · rename_i hn
            refine ⟨by simpa using hd, by simp at hn; exact hn.2, ?_, by omega⟩
            unfold fileOf
            cases e : look s.files a with
            | none => rw [e] at h1; simp at h1
            | some f => rfl
          · cases h0'
theorem St.Ok.ren {s : St} (h : s.Ok) (a b : Nm) : (renS s a b).Ok := by
  unfold renS
  split
  · rename_i he
    obtain ⟨_, hb, hf, _⟩ := renE_ok he
    have hd := del_some h.srt hf
    have hs := h.srt.del a
    have h5 := h.use
    have h6 := h.cnt
    have h7 := h.file hf
    have hu : used (Dk.put (Dk.del s.files a) b (Dk.fileOf s a)) ≤ used s.files ∧ (Dk.put (Dk.del s.files a) b (Dk.fileOf s a)).length ≤ s.files.length := by
      cases hg : look (Dk.del s.files a) b with
      | none => have := put_none hg (Dk.fileOf s a); omega
      | some g => have := put_some hs hg (Dk.fileOf s a); omega
    refine h.chg (hs.put _ _) (by omega) (by omega) (fun p hp => ?_) (fun p hp => ?_) fun p hp => ?_
    · rcases mem_put.1 hp with rfl | hp
      · exact h7.1
      · exact h.safe p (mem_del.1 hp.1).1
    · rcases mem_put.1 hp with rfl | hp
      · exact h7.2.2.1
      · exact h.byte p (mem_del.1 hp.1).1
    · rcases mem_put.1 hp with rfl | hp
      · exact hb
      · exact h.nm p (mem_del.1 hp.1).1
  · exact h
theorem St.Ok.rem {s : St} (h : s.Ok) (n : Nm) : (remS s n).Ok := by
  unfold remS
  split
  · have h1 := h.del n
    have h5 := h.use
    have h6 := h.cnt
    exact h.chg (h.srt.del n) (by omega) (by omega) (fun p hp => h.safe p (mem_del.1 hp).1) (fun p hp => h.byte p (mem_del.1 hp).1) fun p hp => h.nm p (mem_del.1 hp).1
  · exact h
theorem St.Ok.lim' {s : St} (h : s.Ok) (k : Int) : (limS s k).Ok := by
  unfold limS
  split
  · rename_i he
    unfold limE at he
    split at he
    · cases he
    · rename_i h1
      exact ⟨h.srt, by show k.toNat ≤ _; omega, h.use, h.cnt, h.safe, h.byte, h.nm, h.left, h.dn⟩
  · exact h
theorem St.Ok.arm {s : St} (h : s.Ok) {k : Int} (hk : k ≤ 9223372036854775807) : (armS s k).Ok := by
  unfold armS
  split
  · exact h
  · exact ⟨h.srt, h.lim, h.use, h.cnt, h.safe, h.byte, h.nm, by show k.toNat ≤ _; omega, fun e => by
      have : k = 0 := of_decide_eq_true e
      show k.toNat = 0
      omega⟩
theorem St.Ok.crash {s : St} (h : s.Ok) (ks : List Int) : (crashS s ks).Ok := by
  have h5 := h.use
  have h6 := crash_used h.safe ks
  refine ⟨crash_srt h.srt ks, h.lim, by show used (crashL s.files ks) ≤ _; omega, by show (crashL s.files ks).length ≤ _; rw [crash_len]; exact h.cnt, fun p hp => ?_, fun p hp => ?_, fun p hp => ?_, Nat.zero_le _, fun e => by cases e⟩
  · obtain ⟨f, k, hm, e⟩ := crash_mem hp
    rw [e]
    exact Nat.le_of_eq (crashF_len (h.safe _ hm) k).1
  · obtain ⟨f, k, hm, e⟩ := crash_mem hp
    rw [e]
    exact fun z hz => h.byte _ hm z (List.mem_of_mem_take hz)
  · obtain ⟨f, k, hm, e⟩ := crash_mem hp
    exact h.nm (p.1, f) hm
end Go.Proofs.YtbacgljeadalbaaGreatDoor.Dk
/- Behind so many rounds of a crash: the first files are cut, the others are as they were. -/
namespace Go.Proofs.YtbacgljeadalbaaGreatDoor.Dk
set_option linter.unusedVariables false

theorem srt_names {L : Fs} : Srt L ↔ (L.map (·.1)).Pairwise (· < ·) := List.pairwise_map.symm
theorem look_set {L : Fs} (hs : Srt L) {i : Nat} (h : i < L.length) (f : Fl) (n : Nm) : look (L.set i (L[i].1, f)) n = if n = L[i].1 then some f else look L n := by
  induction L generalizing i with
  | nil => simp at h
  | cons p r ih =>
    obtain ⟨m, g⟩ := p
    have hc := List.pairwise_cons.1 hs
    cases i with
    | zero =>
      simp only [List.set_cons_zero, List.getElem_cons_zero, look]
      by_cases e : m = n
      · simp [e]
      · have e' : ¬ n = m := fun h => e h.symm
        simp [e, e']
    | succ i =>
      have hi : i < r.length := by simpa using h
      have := ih hc.2 hi
      simp only [List.set_cons_succ, List.getElem_cons_succ, look]
      rw [this]
      by_cases e : m = n
      · have h1 : m < r[i].1 := hc.1 r[i] (List.getElem_mem hi)
        have e' : ¬ n = r[i].1 := fun h => nm_ne h1 (e.trans h)
        simp [e, e']
      · simp [e]
theorem srt_set {L : Fs} (hs : Srt L) {i : Nat} (h : i < L.length) (f : Fl) : Srt (L.set i (L[i].1, f)) := by
  rw [srt_names] at hs ⊢
  rw [List.map_set]
  have : (L.map (·.1)).set i L[i].1 = L.map (·.1) := by
    apply List.ext_getElem (by simp)
    intro j h1 h2
    rw [List.getElem_set]
    split
    · rename_i e; subst e; simp
    · rfl
  rw [this]; exact hs
theorem put_set {L : Fs} (hs : Srt L) {i : Nat} (h : i < L.length) (f : Fl) : put L L[i].1 f = L.set i (L[i].1, f) :=
  fs_ext (hs.put _ _) (srt_set hs h f) fun n => by rw [look_put, look_set hs h]
/-- The files behind k rounds. -/
def crashK (L : Fs) (ks : List Int) (k : Nat) : Fs := (crashL L ks).take k ++ L.drop k
theorem crashK_names (L : Fs) (ks : List Int) (k : Nat) : (crashK L ks k).map (·.1) = L.map (·.1) := by
  unfold crashK
  rw [List.map_append, List.map_take, crash_names, List.map_drop, List.take_append_drop]
theorem crashK_len (L : Fs) (ks : List Int) (k : Nat) : (crashK L ks k).length = L.length := by
  have := congrArg List.length (crashK_names L ks k)
  simpa using this
theorem crashK_srt {L : Fs} (h : Srt L) (ks : List Int) (k : Nat) : Srt (crashK L ks k) := by
  rw [srt_names] at h ⊢
  rw [crashK_names]; exact h
theorem crashK_zero (L : Fs) (ks : List Int) : crashK L ks 0 = L := by simp [crashK]
theorem crashK_all (L : Fs) (ks : List Int) : crashK L ks L.length = crashL L ks := by
  unfold crashK
  rw [List.drop_length, List.append_nil]
  exact List.take_of_length_le (by rw [crash_len]; exact Nat.le_refl _)
theorem crashK_at (L : Fs) (ks : List Int) {k : Nat} (h : k < L.length) : (crashK L ks k)[k]'(by rw [crashK_len]; exact h) = L[k] := by
  have hl : ((crashL L ks).take k).length = k := by rw [List.length_take, crash_len]; omega
  simp only [crashK]
  rw [List.getElem_append_right (by omega)]
  simp [hl]
theorem crashK_step {L : Fs} (hs : Srt L) (ks : List Int) {k : Nat} (h : k < L.length) : put (crashK L ks k) L[k].1 (crashF L[k].2 (ks.getD k 0)) = crashK L ks (k + 1) := by
  have hk : k < (crashK L ks k).length := by rw [crashK_len]; exact h
  have e := put_set (crashK_srt hs ks k) hk (crashF L[k].2 (ks.getD k 0))
  rw [crashK_at L ks h] at e
  rw [e]
  have hc : k < (crashL L ks).length := by rw [crash_len]; exact h
  apply List.ext_getElem
  · rw [List.length_set, crashK_len, crashK_len]
  intro j h1 h2
  rw [List.getElem_set]
  split
  · rename_i e; subst e
    have hl : ((crashL L ks).take (k + 1)).length = k + 1 := by rw [List.length_take, crash_len]; omega
    simp only [crashK]
    rw [List.getElem_append_left (by omega), List.getElem_take]
    exact (crash_at L ks h).symm
  · rename_i e
    simp only [crashK]
    have hl : ((crashL L ks).take k).length = k := by rw [List.length_take, crash_len]; omega
    have hl' : ((crashL L ks).take (k + 1)).length = k + 1 := by rw [List.length_take, crash_len]; omega
    by_cases hj : j < k
    · rw [List.getElem_append_left (by omega), List.getElem_append_left (by omega), List.getElem_take, List.getElem_take]
    · rw [List.getElem_append_right (by omega), List.getElem_append_right (by omega)]
      simp only [hl, hl', List.getElem_drop]
      congr 1
      omega
theorem crashK_look {L : Fs} (hs : Srt L) (ks : List Int) {k : Nat} (h : k < L.length) : look (crashK L ks k) L[k].1 = some L[k].2 := by
  have hk : k < (crashK L ks k).length := by rw [crashK_len]; exact h
  have := look_at (crashK_srt hs ks k) hk
  rwa [crashK_at L ks h] at this
end Go.Proofs.YtbacgljeadalbaaGreatDoor.Dk
