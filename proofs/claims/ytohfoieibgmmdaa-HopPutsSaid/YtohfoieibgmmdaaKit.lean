/- What all layers lean on: unsigned numbers of each size, bytes that lie in memory, lists of them, strings made of them. -/
import Derived.Test.YtohfoieibgmmdaaRows
import Derived.WalkKit
import Derived.ProofKit
import Derived.OpenShut
import Derived.Below
import Derived.Lib.Hide
import Derived.Deep.QuietTactic
import Derived.BigQuiet
import Derived.Laws.OwnMore
import Derived.Laws.CopyOwn
import Derived.Laws.AppendOwnNone
import Derived.Laws.BytesString
import Derived.Laws.IdiomStrings
import Derived.Laws.Bits64b
import Derived.Deep.AppendLies
namespace Go.Proofs.Ytohfoieibgmmdaa.Me
open Go.RowKit
set_option linter.unusedVariables false

/-! ### Numbers -/
def U8 : Nat := 2 ^ 8
def U16 : Nat := 2 ^ 16
def U32 : Nat := 2 ^ 32
theorem wrap8 {n : Nat} (h : n < U8) : IntKind.u8.wrap (n : Int) = n := by unfold U8 at h; simp [IntKind.wrap, IntKind.bits, IntKind.signed]; omega
theorem wrap16 {n : Nat} (h : n < U16) : IntKind.u16.wrap (n : Int) = n := by unfold U16 at h; simp [IntKind.wrap, IntKind.bits, IntKind.signed]; omega
theorem wrap32 {n : Nat} (h : n < U32) : IntKind.u32.wrap (n : Int) = n := by unfold U32 at h; simp [IntKind.wrap, IntKind.bits, IntKind.signed]; omega
theorem ofInt_lt {n a : Nat} (ha : a < 2 ^ n) : (BitVec.ofInt n (a : Int)).toNat = a := by
  rw [BitVec.ofInt_natCast, BitVec.toNat_ofNat]; exact Nat.mod_eq_of_lt ha
theorem xor8 {a b : Nat} (ha : a < U8) (hb : b < U8) : bits .xor .u8 (a : Int) (b : Int) = ((a ^^^ b : Nat) : Int) := by
  show IntKind.u8.wrap ((BitVec.ofInt 8 (a : Int) ^^^ BitVec.ofInt 8 (b : Int)).toNat : Int) = _
  rw [BitVec.toNat_xor, ofInt_lt ha, ofInt_lt hb]; exact wrap8 (Nat.xor_lt_two_pow ha hb)
theorem xor16 {a b : Nat} (ha : a < U16) (hb : b < U16) : bits .xor .u16 (a : Int) (b : Int) = ((a ^^^ b : Nat) : Int) := by
  show IntKind.u16.wrap ((BitVec.ofInt 16 (a : Int) ^^^ BitVec.ofInt 16 (b : Int)).toNat : Int) = _
  rw [BitVec.toNat_xor, ofInt_lt ha, ofInt_lt hb]; exact wrap16 (Nat.xor_lt_two_pow ha hb)
theorem xor32 {a b : Nat} (ha : a < U32) (hb : b < U32) : bits .xor .u32 (a : Int) (b : Int) = ((a ^^^ b : Nat) : Int) := by
  show IntKind.u32.wrap ((BitVec.ofInt 32 (a : Int) ^^^ BitVec.ofInt 32 (b : Int)).toNat : Int) = _
  rw [BitVec.toNat_xor, ofInt_lt ha, ofInt_lt hb]; exact wrap32 (Nat.xor_lt_two_pow ha hb)
theorem and16 {a b : Nat} (ha : a < U16) (hb : b < U16) : bits .and .u16 (a : Int) (b : Int) = ((a &&& b : Nat) : Int) := by
  show IntKind.u16.wrap ((BitVec.ofInt 16 (a : Int) &&& BitVec.ofInt 16 (b : Int)).toNat : Int) = _
  rw [BitVec.toNat_and, ofInt_lt ha, ofInt_lt hb]; exact wrap16 (Nat.lt_of_le_of_lt Nat.and_le_left ha)
theorem and32 {a b : Nat} (ha : a < U32) (hb : b < U32) : bits .and .u32 (a : Int) (b : Int) = ((a &&& b : Nat) : Int) := by
  show IntKind.u32.wrap ((BitVec.ofInt 32 (a : Int) &&& BitVec.ofInt 32 (b : Int)).toNat : Int) = _
  rw [BitVec.toNat_and, ofInt_lt ha, ofInt_lt hb]; exact wrap32 (Nat.lt_of_le_of_lt Nat.and_le_left ha)
theorem ret_b {a b : Bool} (h : a = b) : Ending.returned (.bool a) = .returned (.bool b) := by rw [h]
theorem ret_i {k : IntKind} {a b : Int} (h : a = b) : Ending.returned (.int k a) = .returned (.int k b) := by rw [h]
theorem quiet {P : Program} {f : FuncId} {args : Array Value} {w : World} {v : Value} (h : Calls P f args w fun e w' => e = .returned v ∧ w = w') : Calls P f args w fun e w' => e = .returned v ∧ ∃ m, w' = w.drewN m :=
  h.mono fun _ _ ⟨a, b⟩ => ⟨a, 0, b.symm⟩

/-! ### Bytes in memory -/
/-- Byte i of l. -/
def by_ (l : List Nat) (i : Nat) : Nat := l.getD i 0
theorem by_get {l : List Nat} {i : Nat} (h : i < l.length) : by_ l i = l[i] := by simp [by_, h]
/-- A byte as a cell. -/
def byV (b : Nat) : Value := .int .u8 (b : Int)
/-- A slice's address leads, below block B, to the bytes l (to nothing, where there are none). -/
def Rd (w : World) (B : Nat) (a : Option Addr) (l : List Nat) : Prop :=
  (∀ z ∈ l, z < 256) ∧ (0 < l.length → ∃ b off, a = some ⟨b, off, none⟩ ∧ b < B ∧ ∀ i, i < l.length → w.cell? ⟨b, off + i, none⟩ = some (.int .u8 (by_ l i : Int)))
theorem Rd.lt {w : World} {B : Nat} {a : Option Addr} {l : List Nat} (h : Rd w B a l) {i : Nat} (hi : i < l.length) : by_ l i < 256 := by
  rw [by_get hi]; exact h.1 _ (List.getElem_mem hi)
theorem Rd.keep {w w' : World} {B : Nat} {a : Option Addr} {l : List Nat} (h : Rd w B a l) (hk : ∀ p : Addr, p.block < B → w'.cell? p = w.cell? p) : Rd w' B a l :=
  ⟨h.1, fun hl => by
    obtain ⟨b, off, ha, hb, hc⟩ := h.2 hl
    exact ⟨b, off, ha, hb, fun i hi => (hk ⟨b, off + i, none⟩ hb).trans (hc i hi)⟩⟩
theorem Rd.below {w w' : World} {B : Nat} {a : Option Addr} {l : List Nat} (h : Rd w B a l) (hb : Below B w w') : Rd w' B a l := h.keep fun _ hp => hb.cell hp
theorem Rd.more {w : World} {B B' : Nat} {a : Option Addr} {l : List Nat} (h : Rd w B a l) (hB : B ≤ B') : Rd w B' a l :=
  ⟨h.1, fun hl => by
    obtain ⟨b, off, ha, hb, hc⟩ := h.2 hl
    exact ⟨b, off, ha, by omega, hc⟩⟩
/-- The first k bytes. -/
theorem Rd.take {w : World} {B : Nat} {a : Option Addr} {l : List Nat} (h : Rd w B a l) (k : Nat) : Rd w B a (l.take k) :=
  ⟨fun z hz => h.1 z (List.mem_of_mem_take hz), fun hl => by
    have hl' : 0 < l.length := by simp at hl; omega
    obtain ⟨b, off, ha, hb, hc⟩ := h.2 hl'
    refine ⟨b, off, ha, hb, fun i hi => ?_⟩
    have hi' : i < k ∧ i < l.length := by simp at hi; omega
    rw [hc i hi'.2]
    have : by_ (l.take k) i = by_ l i := by simp [by_, hi'.1]
    rw [this]⟩
theorem Rd.drop {w : World} {B b off : Nat} {l : List Nat} (h : Rd w B (some ⟨b, off, none⟩) l) (k : Nat) : Rd w B (some ⟨b, off + k, none⟩) (l.drop k) :=
  ⟨fun z hz => h.1 z (List.mem_of_mem_drop hz), fun hl => by
    have hl' : 0 < l.length := by simp at hl; omega
    obtain ⟨b', off', ha, hb, hc⟩ := h.2 hl'
    simp only [Option.some.injEq, Addr.mk.injEq, and_true] at ha
    obtain ⟨rfl, rfl⟩ := ha
    refine ⟨b, off + k, rfl, hb, fun i hi => ?_⟩
    have hi' : k + i < l.length := by simp at hi; omega
    rw [Nat.add_assoc, hc _ hi']
    have : by_ (l.drop k) i = by_ l (k + i) := by simp [by_]
    rw [this]⟩
/-- A slice of bytes that came in: the bytes l are its elements. -/
def BySlice (w : World) (a : Option Addr) (len cap : Nat) (l : List Nat) : Prop :=
  len = l.length ∧ l.length ≤ cap ∧ cap ≤ 9223372036854775807 ∧ Rd w w.heap.size a l ∧ (a = none → l.length = 0 ∧ cap = 0)
theorem bySlice_none (w : World) : BySlice w none 0 0 [] := ⟨rfl, Nat.le_refl _, Nat.zero_le _, ⟨by simp, by simp⟩, fun _ => ⟨rfl, rfl⟩⟩
theorem bySlice_some {w : World} {x : Addr} {len cap : Nat} {zs : List Int} (hl : len ≤ cap) (hm : cap ≤ maxLen) (hz : zs.length = cap)
    (hcell : ∀ i, i < zs.length → w.cell? (x.add i) = some (.int .u8 (zs.getD i 0))) (hwz : ∀ n ∈ zs, (Lit.int .u8 n).wf = true) : ∃ l, BySlice w (some x) len cap l := by
  have hlen : ((zs.take len).map Int.toNat).length = len := by simp; omega
  refine ⟨(zs.take len).map Int.toNat, hlen.symm, by omega, by unfold maxLen at hm; omega, ⟨?_, ?_⟩, fun h => by cases h⟩
  · intro z hz'
    obtain ⟨n, hn, rfl⟩ := List.mem_map.mp hz'
    have := bounds_u8 (hwz n (List.mem_of_mem_take hn))
    omega
  · intro h
    rw [hlen] at h
    obtain ⟨b, off, rfl, hc⟩ := ints_at hcell (by omega)
    refine ⟨b, off, rfl, ?_, fun i hi => ?_⟩
    · exact World.block_lt_of_cell? w _ (hc 0 (by omega))
    · rw [hlen] at hi
      rw [hc i (by omega)]
      have hi' : i < zs.length := by omega
      have hb := bounds_u8 (hwz zs[i] (List.getElem_mem hi'))
      have e1 : zs.getD i 0 = zs[i] := by simp [hi']
      have e2 : by_ ((zs.take len).map Int.toNat) i = zs[i].toNat := by simp [by_, hi, hi']
      rw [e1, e2]
      congr 2
      omega
theorem info8 : (Try.prog.info? 5).map (fun i => (i.zero, i.size, i.bytes)) = some (some (.int .u8 0), 1, 1) := by kernel_rfl
theorem size8 : (Try.prog.info? 5).map (·.size) = some 1 := by kernel_rfl
/-- Block g is just the bytes l, none frozen. -/
def Row (w : World) (g : Nat) (l : List Nat) : Prop := w.heap[g]? = some (.cells (l.map byV).toArray 5 (0, 0))
theorem Row.lt {w : World} {g : Nat} {l : List Nat} (h : Row w g l) : g < w.heap.size := by
  apply Classical.byContradiction
  intro hn
  unfold Row at h; rw [Array.getElem?_eq_none (by omega)] at h; cases h
theorem Row.cell {w : World} {g : Nat} {l : List Nat} (h : Row w g l) {i : Nat} (hi : i < l.length) : w.cell? ⟨g, i, none⟩ = some (.int .u8 (by_ l i : Int)) := by
  rw [cell_of_row w g i _ _ (0, 0) h, by_get hi]
  simp [hi, byV]
theorem Row.frozen {w : World} {g : Nat} {l : List Nat} (h : Row w g l) (i : Nat) : w.frozen? ⟨g, i, none⟩ = false := frozen_of_row w g i _ _ h
theorem Row.store {w : World} {g : Nat} {l : List Nat} (h : Row w g l) (i b : Nat) : Row (w.setCell ⟨g, i, none⟩ (.int .u8 (b : Int))) g (l.set i b) := by
  unfold Row
  rw [heap_setCell_same w g i _ _ _ h]
  simp [List.map_set, byV]
theorem Row.below {w w' : World} {g B : Nat} {l : List Nat} (h : Row w g l) (hb : Below B w w') (hg : g < B) : Row w' g l := (hb.block g hg).trans h
theorem Row.rd {w : World} {g B : Nat} {l : List Nat} (h : Row w g l) (hB : g < B) (hl : ∀ z ∈ l, z < 256) : Rd w B (some ⟨g, 0, none⟩) l :=
  ⟨hl, fun _ => ⟨g, 0, rfl, hB, fun i hi => by rw [Nat.zero_add]; exact h.cell hi⟩⟩
theorem Row.of_own {w : World} {base g n : Nat} {l : List Nat} (h : w.ownsRow base 5 1 (.slice (some ⟨g, 0, none⟩) n n) n (l.map byV)) : Row w g l := by
  rcases h.2 with ⟨h', _⟩ | ⟨g', cap', cur, h', _, hg, _, _, hs, ht⟩
  · simp at h'
  · simp only [Value.slice.injEq, Option.some.injEq, Addr.mk.injEq, and_true, true_and] at h'
    obtain ⟨rfl, rfl⟩ := h'
    have : cur.toList.take (n * 1) = cur.toList := List.take_of_length_le (by rw [Array.length_toList, hs]; exact Nat.le_refl _)
    rw [this] at ht
    unfold Row
    rw [hg, ← ht]
theorem made8 (n : Nat) : (madeCells (Value.int .u8 0).cells (n * 1)).toList = (List.replicate n 0).map byV := by
  rw [show (Value.int .u8 0).cells = #[.int .u8 0] from rfl, Nat.mul_one, toList_madeCells_one, List.map_replicate]; rfl
theorem made_row {w w1 : World} {n : Nat} (h : w1.ownsRow w.heap.size 5 1 (.slice (some ⟨w.heap.size, 0, none⟩) n n) n (madeCells (Value.int .u8 0).cells (n * 1)).toList) (hg : w.grownBy w1 none) :
    Hid (w1.heap[w.heap.size]? = some (.cells ((List.replicate n 0).map byV).toArray 5 (0, 0))) ∧ Below w.heap.size w w1 := by
  rw [made8] at h
  exact ⟨Row.of_own h, (Below.refl _ _).grown hg (Nat.le_refl _) (by simp)⟩
theorem copied (l : List Nat) (s : Nat) : splice ((List.replicate (l.length + s) 0).map byV) 0 (l.map byV) = (l ++ List.replicate s 0).map byV := by
  simp only [splice, List.take_zero, List.nil_append, List.map_append, List.map_replicate, List.length_map, Nat.zero_add, List.drop_replicate]
  congr 2; omega
theorem copied_row {w : World} {g : Nat} {l : List Nat} {s : Nat} (h : Hid (w.heap[g]? = some (.cells (splice ((List.replicate (l.length + s) 0).map byV) 0 (l.map byV)).toArray 5 (0, 0)))) :
    Hid (Row w g (l ++ List.replicate s 0)) := by
  have := h.out
  rw [copied] at this
  exact this
theorem cells_of (l : List Nat) (A : Option Addr) (B : Nat) (w w1 : World) (hr : Rd w B A l) (hb : Below B w w1) :
    0 < (l.map byV).length → ∃ ad, A = some ad ∧ ∀ j v, (l.map byV)[j]? = some v → w1.cell? (ad.add j) = some v := by
  intro hl
  obtain ⟨b, off, rfl, hB, hc⟩ := (hr.below hb).2 (by simpa using hl)
  refine ⟨_, rfl, fun j v hj => ?_⟩
  have hj' : j < l.length := by
    apply Classical.byContradiction
    intro hn
    rw [List.getElem?_eq_none (by simpa using hn)] at hj; cases hj
  have e : (⟨b, off, none⟩ : Addr).add j = ⟨b, off + j, none⟩ := by simp [Addr.add]
  rw [e, hc j hj', ← hj]
  simp [hj', byV, by_]
theorem min_len (l : List Nat) (s : Nat) : (l.map byV).length = Nat.min l.length (l.length + s) := by
  rw [List.length_map]; exact (Nat.min_eq_left (Nat.le_add_right _ _)).symm
theorem fit_len (l : List Nat) (s : Nat) : 0 + (l.map byV).length ≤ ((List.replicate (l.length + s) 0).map byV).length := by simp
theorem len_map (l : List Nat) : (l.map byV).length = l.length * 1 := by simp
theorem one_cells (l : List Nat) : ∀ v ∈ l.map byV, v.oneCell' = true := by
  intro v hv
  obtain ⟨b, _, rfl⟩ := List.mem_map.mp hv
  rfl
theorem row_cells {w : World} {g : Nat} {l : List Nat} (h : Hid (Row w g l)) : ∀ j u, (l.map byV)[j]? = some u → w.cell? ((⟨g, 0, none⟩ : Addr).add j) = some u := by
  intro j u hj
  have hj' : j < l.length := by
    apply Classical.byContradiction
    intro hn
    rw [List.getElem?_eq_none (by simpa using hn)] at hj; cases hj
  have e : (⟨g, 0, none⟩ : Addr).add j = ⟨g, j, none⟩ := by
    unfold Addr.add; split <;> simp_all
  rw [e, h.out.cell hj', ← hj]
  simp [hj', byV, by_]
theorem rd_cells {w w1 : World} {B : Nat} {ad : Addr} {l : List Nat} (hr : Rd w B (some ad) l) (hb : Below B w w1) : ∀ j u, (l.map byV)[j]? = some u → w1.cell? (ad.add j) = some u := by
  intro j u hj
  have hl : 0 < (l.map byV).length := by
    apply Classical.byContradiction
    intro hn
    rw [List.getElem?_eq_none (by omega)] at hj; cases hj
  obtain ⟨ad', e, hc⟩ := cells_of l (some ad) B w w1 hr hb hl
  cases e
  exact hc j u hj
/-- A slice's address leads, from block B on, to the bytes l (to nothing, where there are none). -/
def Held (w : World) (B : Nat) (A : Option Addr) (c : Nat) (l : List Nat) : Prop :=
  (∀ z ∈ l, z < 256) ∧ (0 < l.length → ∃ b, A = some ⟨b, 0, none⟩ ∧ B ≤ b ∧ b < w.heap.size ∧ ∀ i, i < l.length → w.cell? ⟨b, i, none⟩ = some (.int .u8 (by_ l i : Int))) ∧ (A = none → l.length = 0 ∧ c = 0)
theorem Held.nil (w : World) (B : Nat) : Held w B none 0 [] := ⟨by simp, by simp, fun _ => ⟨rfl, rfl⟩⟩
theorem Held.rd {w : World} {B c : Nat} {A : Option Addr} {l : List Nat} (h : Held w B A c l) : Rd w w.heap.size A l :=
  ⟨h.1, fun hl => by
    obtain ⟨b, e, _, hb, hc⟩ := h.2.1 hl
    exact ⟨b, 0, e, hb, fun i hi => by rw [Nat.zero_add]; exact hc i hi⟩⟩
theorem Held.below {w w' : World} {B c : Nat} {A : Option Addr} {l : List Nat} (h : Held w B A c l) (hb : Below w.heap.size w w') : Held w' B A c l :=
  ⟨h.1, fun hl => by
    obtain ⟨b, e, h1, h2, hc⟩ := h.2.1 hl
    exact ⟨b, e, h1, Nat.lt_of_lt_of_le h2 hb.size, fun i hi => (hb.cell (p := ⟨b, i, none⟩) h2).trans (hc i hi)⟩, h.2.2⟩
theorem Held.setCell {w : World} {B c : Nat} {A : Option Addr} {l : List Nat} (h : Held w B A c l) {p : Addr} (hp : p.block < B) (u : Value) : Held (w.setCell p u) B A c l :=
  ⟨h.1, fun hl => by
    obtain ⟨b, e, h1, h2, hc⟩ := h.2.1 hl
    refine ⟨b, e, h1, by simpa using h2, fun i hi => ?_⟩
    have hne : (⟨b, i, none⟩ : Addr) ≠ p := fun e => by subst e; exact absurd hp (Nat.not_lt.mpr h1)
    exact (World.cell?_of_block (w := w) (Below.heap_setCell w p u b (by intro e; subst e; omega))).trans (hc i hi), h.2.2⟩
theorem Row.held {w : World} {g c : Nat} {l : List Nat} (h : Row w g l) (hl : ∀ z ∈ l, z < 256) : Held w g (some ⟨g, 0, none⟩) c l :=
  ⟨hl, fun _ => ⟨g, rfl, Nat.le_refl _, h.lt, fun i hi => h.cell hi⟩, fun e => by cases e⟩
theorem Held.of_own {w : World} {B n c g : Nat} {l : List Nat} (hn : n = l.length) (h : w.ownsRow B 5 1 (.slice (some ⟨g, 0, none⟩) n c) n (l.map byV)) (hl : ∀ z ∈ l, z < 256) (hp : 0 < n) : Held w B (some ⟨g, 0, none⟩) c l := by
  subst hn
  refine ⟨hl, fun _ => ?_, fun e => by cases e⟩
  have hlt := h.lt g rfl
  refine ⟨g, rfl, hlt.1, hlt.2, fun i hi => ?_⟩
  rw [h.cellAt i (by omega)]
  simp [hi, byV, by_]
theorem rd_own {w : World} {B c g : Nat} {l : List Nat} (h : w.ownsRow B 5 1 (.slice (some ⟨g, 0, none⟩) l.length c) l.length (l.map byV)) (hg : g < w.heap.size) (hl : ∀ z ∈ l, z < 256) : Rd w w.heap.size (some ⟨g, 0, none⟩) l :=
  ⟨hl, fun _ => ⟨g, 0, rfl, hg, fun i hi => by
    rw [Nat.zero_add, h.cellAt i (by omega)]
    simp [hi, byV, by_]⟩⟩
theorem own_below {w w' : World} {B c g n : Nat} {xs : List Value} {T : TypeId} (h : w.ownsRow B T 1 (.slice (some ⟨g, 0, none⟩) n c) n xs) (hb : Below w.heap.size w w') : w'.ownsRow B T 1 (.slice (some ⟨g, 0, none⟩) n c) n xs := by
  refine ⟨h.1, ?_⟩
  rcases h.2 with h' | ⟨g', cap', cur, h1, h2, h3, h4⟩
  · exact .inl h'
  · have hlt : g' < w.heap.size := by
      apply Classical.byContradiction
      intro hn
      rw [Array.getElem?_eq_none (by omega)] at h3; cases h3
    exact .inr ⟨g', cap', cur, h1, h2, (hb.block g' hlt).trans h3, h4⟩
/-- The string of the bytes l. -/
def strOf (l : List Nat) : ByteArray := ⟨(l.map fun b => UInt8.ofNat b).toArray⟩
theorem strOf_inj {l r : List Nat} (hl : ∀ z ∈ l, z < 256) (hr : ∀ z ∈ r, z < 256) (h : strOf l = strOf r) : l = r := by
  unfold strOf at h
  have h1 : l.map (fun b => UInt8.ofNat b) = r.map (fun b => UInt8.ofNat b) := by simpa using h
  have h2 : ∀ x : List Nat, (∀ z ∈ x, z < 256) → (x.map fun b => UInt8.ofNat b).map UInt8.toNat = x := by
    intro x hx
    rw [List.map_map]
    conv => rhs; rw [← List.map_id x]
    refine List.map_congr_left fun z hz => ?_
    simp only [Function.comp_apply, id_eq]
    exact UInt8.toNat_ofNat_of_lt' (by simpa using hx z hz)
  rw [← h2 l hl, ← h2 r hr, h1]
theorem conv_rd (w : World) (B : Nat) (A : Option Addr) (l : List Nat) (cap : Nat) (h : Rd w B A l) (hA : A = none → l.length = 0 ∧ cap = 0) :
    (convert 24 9 (.slice A l.length cap)).run Try.prog w = .ok (.string (strOf l)) w := by
  rcases A with _ | ad
  · obtain ⟨h1, rfl⟩ := hA rfl
    obtain rfl : l = [] := List.eq_nil_of_length_eq_zero h1
    rw [run_convert_bytes_string w 24 9 5 none _ 0 Try.underlying24 Try.underlying5 Try.underlying9]
    rfl
  · have e : l.length = (l.map fun b => UInt8.ofNat b).length := by simp
    rw [e]
    refine run_convert_bytes_back w 24 9 5 ad cap (l.map fun b => UInt8.ofNat b) Try.underlying24 Try.underlying5 Try.underlying9 fun j hj => ?_
    have hj' : j < l.length := by simpa using hj
    obtain ⟨b, off, hx, _, hc⟩ := h.2 (by omega)
    cases hx
    have ea : (⟨b, off, none⟩ : Addr).add j = ⟨b, off + j, none⟩ := by
      unfold Addr.add; split <;> simp_all
    rw [ea, hc j hj', by_get hj']
    have hlt := h.1 _ (List.getElem_mem hj')
    simp only [List.getElem_map]
    rw [UInt8.toNat_ofNat_of_lt' (by simpa using hlt)]
theorem row_alloc {w : World} {g : Nat} {l : List Nat} {o : Obj} (h : Hid (Row w g l)) : Hid (Row (w.alloc o) g l) := (Below.heap_alloc w o g h.out.lt).trans h.out
theorem below_alloc {w wr : World} {o : Obj} (h : Below w.heap.size w wr) : Below w.heap.size w (wr.alloc o) := h.alloc h.size o
theorem below_drewN {B : Nat} {a w : World} (h : Below B a w) (n : Nat) : Below B a (w.drewN n) := h.trans ⟨rfl, rfl, rfl, Nat.le_refl _, fun _ _ => rfl⟩
/-! ### Bytes that the call itself appends to -/
/-- A slice of the call's own, with these bytes. -/
def Own (w : World) (B : Nat) (v : Value) (l : List Nat) : Prop := w.ownsRow B 5 1 v l.length (l.map byV)
theorem Own.nil (w : World) (B : Nat) : Own w B (.slice none 0 0) [] := ⟨rfl, .inl ⟨rfl, rfl⟩⟩
theorem Own.lit {w0 w : World} (hb : Below w0.heap.size w0 w) : Own (w.alloc (.cells #[] 5)) w0.heap.size (.slice (some ⟨w.heap.size, 0, none⟩) 0 0) [] :=
  World.ownsRow_made w #[] 0 hb.size (by unfold maxLen; omega) rfl
theorem Own.held {w : World} {B : Nat} {v : Value} {l : List Nat} (h : Own w B v l) (hl : ∀ z ∈ l, z < 256) : ∃ A c, v = .slice A l.length c ∧ l.length ≤ c ∧ c ≤ 9223372036854775807 ∧ Held w B A c l := by
  rcases h.2 with ⟨h1, h2⟩ | ⟨g, cap, cur, h1, h2, h3, h4, h5, h6, h7⟩
  · have : l = [] := by simpa using h2
    subst this
    exact ⟨none, 0, h1, Nat.le_refl _, Nat.zero_le _, Held.nil _ _⟩
  · refine ⟨some ⟨g, 0, none⟩, cap, h1, h4, by unfold maxLen at h5; omega, ?_⟩
    by_cases hp : 0 < l.length
    · subst h1; exact Held.of_own rfl h hl hp
    · exact ⟨hl, fun hh => absurd hh hp, fun e => by cases e⟩
theorem Own.alloc {w : World} {B : Nat} {v : Value} {l : List Nat} (h : Own w B v l) (o : Obj) : Own (w.alloc o) B v l := World.ownsRow.kept h (World.grownBy_alloc w o none) (by cases v.ownBlock <;> simp)
theorem rd_lit {w : World} {r : List Nat} (hr : ∀ z ∈ r, z < 256) (T : TypeId) (f : Nat × Nat := (0, 0)) : Rd (w.alloc (.cells (r.map byV).toArray T f)) (w.heap.size + 1) (some ⟨w.heap.size, 0, none⟩) r :=
  ⟨hr, fun _ => ⟨w.heap.size, 0, rfl, Nat.lt_succ_self _, fun i hi => by
    rw [Nat.zero_add, cell_of_row _ w.heap.size i _ T f (heap_alloc_new w _)]
    simp [hi, byV, by_]⟩⟩
/-- Bytes appended to a slice of the call's own. -/
theorem app8 {w0 w : World} {ops : Array Oper} {rest : List Oper} {o : Oper} {a : Act} {Q : Exit → Act → World → Prop} (hgd : o.guard = none) (s x : Operand)
    (ho : o.op = .call { callee := .builtin .append, args := #[s, x], argTypes := #[24, 24] })
    (B Bx : Nat) (v : Value) (l r : List Nat) (hs : a.eval s = v) (hown : Own w B v l) (hb : Below B w0 w) (hB : B ≤ w.heap.size)
    (A : Option Addr) (c : Nat) (hx : a.eval x = .slice A r.length c) (hr : Rd w Bx A r) (hA : A = none → r.length = 0 ∧ c = 0) (hlen : l.length + r.length ≤ 140737488355328)
    (h : ∀ v' w', Own w' B v' (l ++ r) → Below B w0 w' → w.grownBy w' v.ownBlock → wpList Try.prog ops Q rest (a.put o.dst v') w') : wpList Try.prog ops Q (o :: rest) a w := by
  obtain ⟨i0, hi, hz0, hz1, hz2⟩ := info_parts info8
  rcases A with _ | ad
  · obtain ⟨h1, rfl⟩ := hA rfl
    obtain rfl : r = [] := List.eq_nil_of_length_eq_zero h1
    refine wpList_append_own_none hgd s x 24 ho B 5 i0 1 Try.underlying24 hi v l.length (l.map byV) hs hown hx ?_
    exact h v w (by rw [List.append_nil]; exact hown) hb ⟨rfl, rfl, rfl, Nat.le_refl _, fun _ _ _ => rfl⟩
  · refine wpList_append_own w hgd s x 24 ho B 5 i0 (.int .u8 0) 1 1 Try.underlying24 hi hz0 hz1 hz2 rfl (by decide) v l.length (l.map byV) hs hown ad r.length c (r.map byV) hx (len_map r) (rd_cells hr (Below.refl _ _)) (one_cells _) (by unfold maxLen; omega) (by omega) hB ?_
    intro v' w' h1 h2 _
    refine h v' w' ?_ (hb.grown h2 hB fun k hk => (hown.lt k hk).1) h2
    unfold Own
    rw [List.length_append, List.map_append]; exact h1
theorem Own.form {w : World} {B : Nat} {v : Value} {l : List Nat} (h : Own w B v l) (hp : 0 < l.length) : ∃ g c, v = .slice (some ⟨g, 0, none⟩) l.length c ∧ B ≤ g ∧ g < w.heap.size := by
  obtain ⟨g, c, h1, h2, h3⟩ := World.ownsRow.form h hp
  exact ⟨g, c, h1, h2, h3⟩
theorem Own.cell {w : World} {B g n c : Nat} {l : List Nat} (h : Own w B (.slice (some ⟨g, 0, none⟩) n c) l) {i : Nat} (hi : i < l.length) : w.cell? ⟨g, i, none⟩ = some (.int .u8 (by_ l i : Int)) ∧ w.frozen? ⟨g, i, none⟩ = false := by
  have hn : n = l.length := by
    rcases h.2 with ⟨h1, _⟩ | ⟨_, _, _, h1, _⟩
    · cases h1
    · injection h1
  subst hn
  refine ⟨?_, h.frozenAt i⟩
  rw [h.cellAt i (by omega)]
  simp [hi, byV, by_]
theorem Own.store {w : World} {B g n c : Nat} {l : List Nat} (h : Own w B (.slice (some ⟨g, 0, none⟩) n c) l) (i y : Nat) : Own (w.setCell ⟨g, i, none⟩ (.int .u8 (y : Int))) B (.slice (some ⟨g, 0, none⟩) n c) (l.set i y) := by
  have hn : n = l.length := by
    rcases h.2 with ⟨h1, _⟩ | ⟨_, _, _, h1, _⟩
    · cases h1
    · injection h1
  subst hn
  have := (h.stored i (.int .u8 (y : Int))).1
  unfold Own
  rw [List.length_set, List.map_set]
  exact this
/-- A law's own copy of bytes, in a block with room to spare. -/
theorem given {w wa wb : World} {l : List Nat} {c : Nat} (h : wa.ownsRow w.heap.size 5 1 (.slice (some ⟨w.heap.size, 0, none⟩) 0 c) 0 []) (hga : w.grownBy wa none)
    (h2 : wb.ownsRow w.heap.size 5 1 (.slice (some ⟨w.heap.size, 0, none⟩) (0 + l.length) c) (0 + l.length) ([] ++ l.map byV)) (hgb : wa.grownBy wb (some w.heap.size)) (hl : ∀ z ∈ l, z < 256) :
    Hid (Own wb w.heap.size (.slice (some ⟨w.heap.size, 0, none⟩) l.length c) l) ∧ Hid (Rd wb wb.heap.size (some ⟨w.heap.size, 0, none⟩) l) ∧ Hid (Below w.heap.size w wb) ∧ w.heap.size < wb.heap.size := by
  rw [Nat.zero_add, List.nil_append] at h2
  have hlt : w.heap.size < wb.heap.size := (h2.lt w.heap.size rfl).2
  refine ⟨h2, rd_own h2 hlt hl, ?_, hlt⟩
  exact ((Below.refl _ w).grown hga (Nat.le_refl _) (by simp)).grown hgb hga.size (fun k hk => by injection hk with hk; omega)
/-- What a call answers that makes new bytes. -/
def NewB (w : World) (l : List Nat) (e : Ending) (w' : World) : Prop :=
  ∃ A c, e = .returned (.slice A l.length c) ∧ l.length ≤ c ∧ c ≤ 9223372036854775807 ∧ Hid (Held w' w.heap.size A c l) ∧ Hid (Below w.heap.size w w')
theorem NewB.mk {w w' : World} {v : Value} {l : List Nat} (h : Own w' w.heap.size v l) (hb : Below w.heap.size w w') (hl : ∀ z ∈ l, z < 256) : NewB w l (.returned v) w' := by
  obtain ⟨A, c, rfl, h1, h2, h3⟩ := h.held hl
  exact ⟨A, c, rfl, h1, h2, h3, hb⟩
end Go.Proofs.Ytohfoieibgmmdaa.Me
