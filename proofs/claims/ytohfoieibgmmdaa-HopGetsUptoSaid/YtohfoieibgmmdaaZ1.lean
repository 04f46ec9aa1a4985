/- What all layers lean on: unsigned numbers of each size, bytes that lie in memory, lists of them, strings made of them. -/
import Derived.Test.YtohfoieibgmmdaaRows
import Derived.Test.YtohfoieibgmmdaaIKit
import Derived.WalkKit
import Derived.ProofKit
import Derived.OpenShut
import Derived.Below
import Derived.Lib.Hide
import Derived.Deep.QuietTactic
import Derived.BigQuiet
import Derived.Laws.OwnMore
import Derived.Laws.CopyOwn
import Derived.Laws.AppendOwnNone
import Derived.Laws.BytesString
import Derived.Laws.IdiomStrings
import Derived.Laws.Bits64b
import Derived.Deep.AppendLies
import Derived.Lib.SmallJoins
import Derived.Handy
namespace Go.Proofs.Ytohfoieibgmmdaa.Me
open Go.RowKit
set_option linter.unusedVariables false

/-! ### Numbers -/
def U8 : Nat := 2 ^ 8
def U16 : Nat := 2 ^ 16
def U32 : Nat := 2 ^ 32
theorem wrap8 {n : Nat} (h : n < U8) : IntKind.u8.wrap (n : Int) = n := by unfold U8 at h; simp [IntKind.wrap, IntKind.bits, IntKind.signed]; omega
theorem wrap16 {n : Nat} (h : n < U16) : IntKind.u16.wrap (n : Int) = n := by unfold U16 at h; simp [IntKind.wrap, IntKind.bits, IntKind.signed]; omega
theorem wrap32 {n : Nat} (h : n < U32) : IntKind.u32.wrap (n : Int) = n := by unfold U32 at h; simp [IntKind.wrap, IntKind.bits, IntKind.signed]; omega
theorem ofInt_lt {n a : Nat} (ha : a < 2 ^ n) : (BitVec.ofInt n (a : Int)).toNat = a := by
  rw [BitVec.ofInt_natCast, BitVec.toNat_ofNat]; exact Nat.mod_eq_of_lt ha
theorem xor8 {a b : Nat} (ha : a < U8) (hb : b < U8) : bits .xor .u8 (a : Int) (b : Int) = ((a ^^^ b : Nat) : Int) := by
  show IntKind.u8.wrap ((BitVec.ofInt 8 (a : Int) ^^^ BitVec.ofInt 8 (b : Int)).toNat : Int) = _
  rw [BitVec.toNat_xor, ofInt_lt ha, ofInt_lt hb]; exact wrap8 (Nat.xor_lt_two_pow ha hb)
theorem xor16 {a b : Nat} (ha : a < U16) (hb : b < U16) : bits .xor .u16 (a : Int) (b : Int) = ((a ^^^ b : Nat) : Int) := by
  show IntKind.u16.wrap ((BitVec.ofInt 16 (a : Int) ^^^ BitVec.ofInt 16 (b : Int)).toNat : Int) = _
  rw [BitVec.toNat_xor, ofInt_lt ha, ofInt_lt hb]; exact wrap16 (Nat.xor_lt_two_pow ha hb)
theorem xor32 {a b : Nat} (ha : a < U32) (hb : b < U32) : bits .xor .u32 (a : Int) (b : Int) = ((a ^^^ b : Nat) : Int) := by
  show IntKind.u32.wrap ((BitVec.ofInt 32 (a : Int) ^^^ BitVec.ofInt 32 (b : Int)).toNat : Int) = _
  rw [BitVec.toNat_xor, ofInt_lt ha, ofInt_lt hb]; exact wrap32 (Nat.xor_lt_two_pow ha hb)
theorem and16 {a b : Nat} (ha : a < U16) (hb : b < U16) : bits .and .u16 (a : Int) (b : Int) = ((a &&& b : Nat) : Int) := by
  show IntKind.u16.wrap ((BitVec.ofInt 16 (a : Int) &&& BitVec.ofInt 16 (b : Int)).toNat : Int) = _
  rw [BitVec.toNat_and, ofInt_lt ha, ofInt_lt hb]; exact wrap16 (Nat.lt_of_le_of_lt Nat.and_le_left ha)
theorem and32 {a b : Nat} (ha : a < U32) (hb : b < U32) : bits .and .u32 (a : Int) (b : Int) = ((a &&& b : Nat) : Int) := by
  show IntKind.u32.wrap ((BitVec.ofInt 32 (a : Int) &&& BitVec.ofInt 32 (b : Int)).toNat : Int) = _
  rw [BitVec.toNat_and, ofInt_lt ha, ofInt_lt hb]; exact wrap32 (Nat.lt_of_le_of_lt Nat.and_le_left ha)
theorem ret_b {a b : Bool} (h : a = b) : Ending.returned (.bool a) = .returned (.bool b) := by rw [h]
theorem ret_i {k : IntKind} {a b : Int} (h : a = b) : Ending.returned (.int k a) = .returned (.int k b) := by rw [h]
theorem quiet {P : Program} {f : FuncId} {args : Array Value} {w : World} {v : Value} (h : Calls P f args w fun e w' => e = .returned v ∧ w = w') : Calls P f args w fun e w' => e = .returned v ∧ ∃ m, w' = w.drewN m :=
  h.mono fun _ _ ⟨a, b⟩ => ⟨a, 0, b.symm⟩

/-! ### Bytes in memory -/
/-- Byte i of l. -/
def by_ (l : List Nat) (i : Nat) : Nat := l.getD i 0
theorem by_get {l : List Nat} {i : Nat} (h : i < l.length) : by_ l i = l[i] := by simp [by_, h]
/-- A byte as a cell. -/
def byV (b : Nat) : Value := .int .u8 (b : Int)
/-- A slice's address leads, below block B, to the bytes l (to nothing, where there are none). -/
def Rd (w : World) (B : Nat) (a : Option Addr) (l : List Nat) : Prop :=
  (∀ z ∈ l, z < 256) ∧ (0 < l.length → ∃ b off, a = some ⟨b, off, none⟩ ∧ b < B ∧ ∀ i, i < l.length → w.cell? ⟨b, off + i, none⟩ = some (.int .u8 (by_ l i : Int)))
theorem Rd.lt {w : World} {B : Nat} {a : Option Addr} {l : List Nat} (h : Rd w B a l) {i : Nat} (hi : i < l.length) : by_ l i < 256 := by
  rw [by_get hi]; exact h.1 _ (List.getElem_mem hi)
theorem Rd.keep {w w' : World} {B : Nat} {a : Option Addr} {l : List Nat} (h : Rd w B a l) (hk : ∀ p : Addr, p.block < B → w'.cell? p = w.cell? p) : Rd w' B a l :=
  ⟨h.1, fun hl => by
    obtain ⟨b, off, ha, hb, hc⟩ := h.2 hl
    exact ⟨b, off, ha, hb, fun i hi => (hk ⟨b, off + i, none⟩ hb).trans (hc i hi)⟩⟩
theorem Rd.below {w w' : World} {B : Nat} {a : Option Addr} {l : List Nat} (h : Rd w B a l) (hb : Below B w w') : Rd w' B a l := h.keep fun _ hp => hb.cell hp
theorem Rd.more {w : World} {B B' : Nat} {a : Option Addr} {l : List Nat} (h : Rd w B a l) (hB : B ≤ B') : Rd w B' a l :=
  ⟨h.1, fun hl => by
    obtain ⟨b, off, ha, hb, hc⟩ := h.2 hl
    exact ⟨b, off, ha, by omega, hc⟩⟩
/-- The first k bytes. -/
theorem Rd.take {w : World} {B : Nat} {a : Option Addr} {l : List Nat} (h : Rd w B a l) (k : Nat) : Rd w B a (l.take k) :=
  ⟨fun z hz => h.1 z (List.mem_of_mem_take hz), fun hl => by
    have hl' : 0 < l.length := by simp at hl; omega
    obtain ⟨b, off, ha, hb, hc⟩ := h.2 hl'
    refine ⟨b, off, ha, hb, fun i hi => ?_⟩
    have hi' : i < k ∧ i < l.length := by simp at hi; omega
    rw [hc i hi'.2]
    have : by_ (l.take k) i = by_ l i := by simp [by_, hi'.1]
    rw [this]⟩
theorem Rd.drop {w : World} {B b off : Nat} {l : List Nat} (h : Rd w B (some ⟨b, off, none⟩) l) (k : Nat) : Rd w B (some ⟨b, off + k, none⟩) (l.drop k) :=
  ⟨fun z hz => h.1 z (List.mem_of_mem_drop hz), fun hl => by
    have hl' : 0 < l.length := by simp at hl; omega
    obtain ⟨b', off', ha, hb, hc⟩ := h.2 hl'
    simp only [Option.some.injEq, Addr.mk.injEq, and_true] at ha
    obtain ⟨rfl, rfl⟩ := ha
    refine ⟨b, off + k, rfl, hb, fun i hi => ?_⟩
    have hi' : k + i < l.length := by simp at hi; omega
    rw [Nat.add_assoc, hc _ hi']
    have : by_ (l.drop k) i = by_ l (k + i) := by simp [by_]
    rw [this]⟩
/-- A slice of bytes that came in: the bytes l are its elements. -/
def BySlice (w : World) (a : Option Addr) (len cap : Nat) (l : List Nat) : Prop :=
  len = l.length ∧ l.length ≤ cap ∧ cap ≤ 9223372036854775807 ∧ Rd w w.heap.size a l ∧ (a = none → l.length = 0 ∧ cap = 0)
theorem bySlice_none (w : World) : BySlice w none 0 0 [] := ⟨rfl, Nat.le_refl _, Nat.zero_le _, ⟨by simp, by simp⟩, fun _ => ⟨rfl, rfl⟩⟩
theorem bySlice_some {w : World} {x : Addr} {len cap : Nat} {zs : List Int} (hl : len ≤ cap) (hm : cap ≤ maxLen) (hz : zs.length = cap)
    (hcell : ∀ i, i < zs.length → w.cell? (x.add i) = some (.int .u8 (zs.getD i 0))) (hwz : ∀ n ∈ zs, (Lit.int .u8 n).wf = true) : ∃ l, BySlice w (some x) len cap l := by
  have hlen : ((zs.take len).map Int.toNat).length = len := by simp; omega
  refine ⟨(zs.take len).map Int.toNat, hlen.symm, by omega, by unfold maxLen at hm; omega, ⟨?_, ?_⟩, fun h => by cases h⟩
  · intro z hz'
    obtain ⟨n, hn, rfl⟩ := List.mem_map.mp hz'
    have := bounds_u8 (hwz n (List.mem_of_mem_take hn))
    omega
  · intro h
    rw [hlen] at h
    obtain ⟨b, off, rfl, hc⟩ := ints_at hcell (by omega)
    refine ⟨b, off, rfl, ?_, fun i hi => ?_⟩
    · exact World.block_lt_of_cell? w _ (hc 0 (by omega))
    · rw [hlen] at hi
      rw [hc i (by omega)]
      have hi' : i < zs.length := by omega
      have hb := bounds_u8 (hwz zs[i] (List.getElem_mem hi'))
      have e1 : zs.getD i 0 = zs[i] := by simp [hi']
      have e2 : by_ ((zs.take len).map Int.toNat) i = zs[i].toNat := by simp [by_, hi, hi']
      rw [e1, e2]
      congr 2
      omega
theorem info8 : (Try.prog.info? 5).map (fun i => (i.zero, i.size, i.bytes)) = some (some (.int .u8 0), 1, 1) := by kernel_rfl
theorem size8 : (Try.prog.info? 5).map (·.size) = some 1 := by kernel_rfl
/-- Block g is just the bytes l, none frozen. -/
def Row (w : World) (g : Nat) (l : List Nat) : Prop := w.heap[g]? = some (.cells (l.map byV).toArray 5 (0, 0))
theorem Row.lt {w : World} {g : Nat} {l : List Nat} (h : Row w g l) : g < w.heap.size := by
  apply Classical.byContradiction
  intro hn
  unfold Row at h; rw [Array.getElem?_eq_none (by omega)] at h; cases h
theorem Row.cell {w : World} {g : Nat} {l : List Nat} (h : Row w g l) {i : Nat} (hi : i < l.length) : w.cell? ⟨g, i, none⟩ = some (.int .u8 (by_ l i : Int)) := by
  rw [cell_of_row w g i _ _ (0, 0) h, by_get hi]
  simp [hi, byV]
theorem Row.frozen {w : World} {g : Nat} {l : List Nat} (h : Row w g l) (i : Nat) : w.frozen? ⟨g, i, none⟩ = false := frozen_of_row w g i _ _ h
theorem Row.store {w : World} {g : Nat} {l : List Nat} (h : Row w g l) (i b : Nat) : Row (w.setCell ⟨g, i, none⟩ (.int .u8 (b : Int))) g (l.set i b) := by
  unfold Row
  rw [heap_setCell_same w g i _ _ _ h]
  simp [List.map_set, byV]
theorem Row.below {w w' : World} {g B : Nat} {l : List Nat} (h : Row w g l) (hb : Below B w w') (hg : g < B) : Row w' g l := (hb.block g hg).trans h
theorem Row.rd {w : World} {g B : Nat} {l : List Nat} (h : Row w g l) (hB : g < B) (hl : ∀ z ∈ l, z < 256) : Rd w B (some ⟨g, 0, none⟩) l :=
  ⟨hl, fun _ => ⟨g, 0, rfl, hB, fun i hi => by rw [Nat.zero_add]; exact h.cell hi⟩⟩
theorem Row.of_own {w : World} {base g n : Nat} {l : List Nat} (h : w.ownsRow base 5 1 (.slice (some ⟨g, 0, none⟩) n n) n (l.map byV)) : Row w g l := by
  rcases h.2 with ⟨h', _⟩ | ⟨g', cap', cur, h', _, hg, _, _, hs, ht⟩
  · simp at h'
  · simp only [Value.slice.injEq, Option.some.injEq, Addr.mk.injEq, and_true, true_and] at h'
    obtain ⟨rfl, rfl⟩ := h'
    have : cur.toList.take (n * 1) = cur.toList := List.take_of_length_le (by rw [Array.length_toList, hs]; exact Nat.le_refl _)
    rw [this] at ht
    unfold Row
    rw [hg, ← ht]
theorem made8 (n : Nat) : (madeCells (Value.int .u8 0).cells (n * 1)).toList = (List.replicate n 0).map byV := by
  rw [show (Value.int .u8 0).cells = #[.int .u8 0] from rfl, Nat.mul_one, toList_madeCells_one, List.map_replicate]; rfl
theorem made_row {w w1 : World} {n : Nat} (h : w1.ownsRow w.heap.size 5 1 (.slice (some ⟨w.heap.size, 0, none⟩) n n) n (madeCells (Value.int .u8 0).cells (n * 1)).toList) (hg : w.grownBy w1 none) :
    Hid (w1.heap[w.heap.size]? = some (.cells ((List.replicate n 0).map byV).toArray 5 (0, 0))) ∧ Below w.heap.size w w1 := by
  rw [made8] at h
  exact ⟨Row.of_own h, (Below.refl _ _).grown hg (Nat.le_refl _) (by simp)⟩
theorem copied (l : List Nat) (s : Nat) : splice ((List.replicate (l.length + s) 0).map byV) 0 (l.map byV) = (l ++ List.replicate s 0).map byV := by
  simp only [splice, List.take_zero, List.nil_append, List.map_append, List.map_replicate, List.length_map, Nat.zero_add, List.drop_replicate]
  congr 2; omega
theorem copied_row {w : World} {g : Nat} {l : List Nat} {s : Nat} (h : Hid (w.heap[g]? = some (.cells (splice ((List.replicate (l.length + s) 0).map byV) 0 (l.map byV)).toArray 5 (0, 0)))) :
    Hid (Row w g (l ++ List.replicate s 0)) := by
  have := h.out
  rw [copied] at this
  exact this
theorem cells_of (l : List Nat) (A : Option Addr) (B : Nat) (w w1 : World) (hr : Rd w B A l) (hb : Below B w w1) :
    0 < (l.map byV).length → ∃ ad, A = some ad ∧ ∀ j v, (l.map byV)[j]? = some v → w1.cell? (ad.add j) = some v := by
  intro hl
  obtain ⟨b, off, rfl, hB, hc⟩ := (hr.below hb).2 (by simpa using hl)
  refine ⟨_, rfl, fun j v hj => ?_⟩
  have hj' : j < l.length := by
    apply Classical.byContradiction
    intro hn
    rw [List.getElem?_eq_none (by simpa using hn)] at hj; cases hj
  have e : (⟨b, off, none⟩ : Addr).add j = ⟨b, off + j, none⟩ := by simp [Addr.add]
  rw [e, hc j hj', ← hj]
  simp [hj', byV, by_]
theorem min_len (l : List Nat) (s : Nat) : (l.map byV).length = Nat.min l.length (l.length + s) := by
  rw [List.length_map]; exact (Nat.min_eq_left (Nat.le_add_right _ _)).symm
theorem fit_len (l : List Nat) (s : Nat) : 0 + (l.map byV).length ≤ ((List.replicate (l.length + s) 0).map byV).length := by simp
theorem len_map (l : List Nat) : (l.map byV).length = l.length * 1 := by simp
theorem one_cells (l : List Nat) : ∀ v ∈ l.map byV, v.oneCell' = true := by
  intro v hv
  obtain ⟨b, _, rfl⟩ := List.mem_map.mp hv
  rfl
theorem row_cells {w : World} {g : Nat} {l : List Nat} (h : Hid (Row w g l)) : ∀ j u, (l.map byV)[j]? = some u → w.cell? ((⟨g, 0, none⟩ : Addr).add j) = some u := by
  intro j u hj
  have hj' : j < l.length := by
    apply Classical.byContradiction
    intro hn
    rw [List.getElem?_eq_none (by simpa using hn)] at hj; cases hj
  have e : (⟨g, 0, none⟩ : Addr).add j = ⟨g, j, none⟩ := by
    unfold Addr.add; split <;> simp_all
  rw [e, h.out.cell hj', ← hj]
  simp [hj', byV, by_]
theorem rd_cells {w w1 : World} {B : Nat} {ad : Addr} {l : List Nat} (hr : Rd w B (some ad) l) (hb : Below B w w1) : ∀ j u, (l.map byV)[j]? = some u → w1.cell? (ad.add j) = some u := by
  intro j u hj
  have hl : 0 < (l.map byV).length := by
    apply Classical.byContradiction
    intro hn
    rw [List.getElem?_eq_none (by omega)] at hj; cases hj
  obtain ⟨ad', e, hc⟩ := cells_of l (some ad) B w w1 hr hb hl
  cases e
  exact hc j u hj
/-- A slice's address leads, from block B on, to the bytes l (to nothing, where there are none). -/
def Held (w : World) (B : Nat) (A : Option Addr) (c : Nat) (l : List Nat) : Prop :=
  (∀ z ∈ l, z < 256) ∧ (0 < l.length → ∃ b, A = some ⟨b, 0, none⟩ ∧ B ≤ b ∧ b < w.heap.size ∧ ∀ i, i < l.length → w.cell? ⟨b, i, none⟩ = some (.int .u8 (by_ l i : Int))) ∧ (A = none → l.length = 0 ∧ c = 0)
theorem Held.nil (w : World) (B : Nat) : Held w B none 0 [] := ⟨by simp, by simp, fun _ => ⟨rfl, rfl⟩⟩
theorem Held.rd {w : World} {B c : Nat} {A : Option Addr} {l : List Nat} (h : Held w B A c l) : Rd w w.heap.size A l :=
  ⟨h.1, fun hl => by
    obtain ⟨b, e, _, hb, hc⟩ := h.2.1 hl
    exact ⟨b, 0, e, hb, fun i hi => by rw [Nat.zero_add]; exact hc i hi⟩⟩
theorem Held.below {w w' : World} {B c : Nat} {A : Option Addr} {l : List Nat} (h : Held w B A c l) (hb : Below w.heap.size w w') : Held w' B A c l :=
  ⟨h.1, fun hl => by
    obtain ⟨b, e, h1, h2, hc⟩ := h.2.1 hl
    exact ⟨b, e, h1, Nat.lt_of_lt_of_le h2 hb.size, fun i hi => (hb.cell (p := ⟨b, i, none⟩) h2).trans (hc i hi)⟩, h.2.2⟩
theorem Held.setCell {w : World} {B c : Nat} {A : Option Addr} {l : List Nat} (h : Held w B A c l) {p : Addr} (hp : p.block < B) (u : Value) : Held (w.setCell p u) B A c l :=
  ⟨h.1, fun hl => by
    obtain ⟨b, e, h1, h2, hc⟩ := h.2.1 hl
    refine ⟨b, e, h1, by simpa using h2, fun i hi => ?_⟩
    have hne : (⟨b, i, none⟩ : Addr) ≠ p := fun e => by subst e; exact absurd hp (Nat.not_lt.mpr h1)
    exact (World.cell?_of_block (w := w) (Below.heap_setCell w p u b (by intro e; subst e; omega))).trans (hc i hi), h.2.2⟩
theorem Row.held {w : World} {g c : Nat} {l : List Nat} (h : Row w g l) (hl : ∀ z ∈ l, z < 256) : Held w g (some ⟨g, 0, none⟩) c l :=
  ⟨hl, fun _ => ⟨g, rfl, Nat.le_refl _, h.lt, fun i hi => h.cell hi⟩, fun e => by cases e⟩
theorem Held.of_own {w : World} {B n c g : Nat} {l : List Nat} (hn : n = l.length) (h : w.ownsRow B 5 1 (.slice (some ⟨g, 0, none⟩) n c) n (l.map byV)) (hl : ∀ z ∈ l, z < 256) (hp : 0 < n) : Held w B (some ⟨g, 0, none⟩) c l := by
  subst hn
  refine ⟨hl, fun _ => ?_, fun e => by cases e⟩
  have hlt := h.lt g rfl
  refine ⟨g, rfl, hlt.1, hlt.2, fun i hi => ?_⟩
  rw [h.cellAt i (by omega)]
  simp [hi, byV, by_]
theorem rd_own {w : World} {B c g : Nat} {l : List Nat} (h : w.ownsRow B 5 1 (.slice (some ⟨g, 0, none⟩) l.length c) l.length (l.map byV)) (hg : g < w.heap.size) (hl : ∀ z ∈ l, z < 256) : Rd w w.heap.size (some ⟨g, 0, none⟩) l :=
  ⟨hl, fun _ => ⟨g, 0, rfl, hg, fun i hi => by
    rw [Nat.zero_add, h.cellAt i (by omega)]
    simp [hi, byV, by_]⟩⟩
theorem own_below {w w' : World} {B c g n : Nat} {xs : List Value} {T : TypeId} (h : w.ownsRow B T 1 (.slice (some ⟨g, 0, none⟩) n c) n xs) (hb : Below w.heap.size w w') : w'.ownsRow B T 1 (.slice (some ⟨g, 0, none⟩) n c) n xs := by
  refine ⟨h.1, ?_⟩
  rcases h.2 with h' | ⟨g', cap', cur, h1, h2, h3, h4⟩
  · exact .inl h'
  · have hlt : g' < w.heap.size := by
      apply Classical.byContradiction
      intro hn
      rw [Array.getElem?_eq_none (by omega)] at h3; cases h3
    exact .inr ⟨g', cap', cur, h1, h2, (hb.block g' hlt).trans h3, h4⟩
/-- The string of the bytes l. -/
def strOf (l : List Nat) : ByteArray := ⟨(l.map fun b => UInt8.ofNat b).toArray⟩
theorem strOf_inj {l r : List Nat} (hl : ∀ z ∈ l, z < 256) (hr : ∀ z ∈ r, z < 256) (h : strOf l = strOf r) : l = r := by
  unfold strOf at h
  have h1 : l.map (fun b => UInt8.ofNat b) = r.map (fun b => UInt8.ofNat b) := by simpa using h
  have h2 : ∀ x : List Nat, (∀ z ∈ x, z < 256) → (x.map fun b => UInt8.ofNat b).map UInt8.toNat = x := by
    intro x hx
    rw [List.map_map]
    conv => rhs; rw [← List.map_id x]
    refine List.map_congr_left fun z hz => ?_
    simp only [Function.comp_apply, id_eq]
    exact UInt8.toNat_ofNat_of_lt' (by simpa using hx z hz)
  rw [← h2 l hl, ← h2 r hr, h1]
theorem conv_rd (w : World) (B : Nat) (A : Option Addr) (l : List Nat) (cap : Nat) (h : Rd w B A l) (hA : A = none → l.length = 0 ∧ cap = 0) :
    (convert 24 9 (.slice A l.length cap)).run Try.prog w = .ok (.string (strOf l)) w := by
  rcases A with _ | ad
  · obtain ⟨h1, rfl⟩ := hA rfl
    obtain rfl : l = [] := List.eq_nil_of_length_eq_zero h1
    rw [run_convert_bytes_string w 24 9 5 none _ 0 Try.underlying24 Try.underlying5 Try.underlying9]
    rfl
  · have e : l.length = (l.map fun b => UInt8.ofNat b).length := by simp
    rw [e]
    refine run_convert_bytes_back w 24 9 5 ad cap (l.map fun b => UInt8.ofNat b) Try.underlying24 Try.underlying5 Try.underlying9 fun j hj => ?_
    have hj' : j < l.length := by simpa using hj
    obtain ⟨b, off, hx, _, hc⟩ := h.2 (by omega)
    cases hx
    have ea : (⟨b, off, none⟩ : Addr).add j = ⟨b, off + j, none⟩ := by
      unfold Addr.add; split <;> simp_all
    rw [ea, hc j hj', by_get hj']
    have hlt := h.1 _ (List.getElem_mem hj')
    simp only [List.getElem_map]
    rw [UInt8.toNat_ofNat_of_lt' (by simpa using hlt)]
theorem row_alloc {w : World} {g : Nat} {l : List Nat} {o : Obj} (h : Hid (Row w g l)) : Hid (Row (w.alloc o) g l) := (Below.heap_alloc w o g h.out.lt).trans h.out
theorem below_alloc {w wr : World} {o : Obj} (h : Below w.heap.size w wr) : Below w.heap.size w (wr.alloc o) := h.alloc h.size o
theorem below_drewN {B : Nat} {a w : World} (h : Below B a w) (n : Nat) : Below B a (w.drewN n) := h.trans ⟨rfl, rfl, rfl, Nat.le_refl _, fun _ _ => rfl⟩
/-! ### Bytes that the call itself appends to -/
/-- A slice of the call's own, with these bytes. -/
def Own (w : World) (B : Nat) (v : Value) (l : List Nat) : Prop := w.ownsRow B 5 1 v l.length (l.map byV)
theorem Own.nil (w : World) (B : Nat) : Own w B (.slice none 0 0) [] := ⟨rfl, .inl ⟨rfl, rfl⟩⟩
theorem Own.lit {w0 w : World} (hb : Below w0.heap.size w0 w) : Own (w.alloc (.cells #[] 5)) w0.heap.size (.slice (some ⟨w.heap.size, 0, none⟩) 0 0) [] :=
  World.ownsRow_made w #[] 0 hb.size (by unfold maxLen; omega) rfl
theorem Own.held {w : World} {B : Nat} {v : Value} {l : List Nat} (h : Own w B v l) (hl : ∀ z ∈ l, z < 256) : ∃ A c, v = .slice A l.length c ∧ l.length ≤ c ∧ c ≤ 9223372036854775807 ∧ Held w B A c l := by
  rcases h.2 with ⟨h1, h2⟩ | ⟨g, cap, cur, h1, h2, h3, h4, h5, h6, h7⟩
  · have : l = [] := by simpa using h2
    subst this
    exact ⟨none, 0, h1, Nat.le_refl _, Nat.zero_le _, Held.nil _ _⟩
  · refine ⟨some ⟨g, 0, none⟩, cap, h1, h4, by unfold maxLen at h5; omega, ?_⟩
    by_cases hp : 0 < l.length
    · subst h1; exact Held.of_own rfl h hl hp
    · exact ⟨hl, fun hh => absurd hh hp, fun e => by cases e⟩
theorem Own.alloc {w : World} {B : Nat} {v : Value} {l : List Nat} (h : Own w B v l) (o : Obj) : Own (w.alloc o) B v l := World.ownsRow.kept h (World.grownBy_alloc w o none) (by cases v.ownBlock <;> simp)
theorem rd_lit {w : World} {r : List Nat} (hr : ∀ z ∈ r, z < 256) (T : TypeId) (f : Nat × Nat := (0, 0)) : Rd (w.alloc (.cells (r.map byV).toArray T f)) (w.heap.size + 1) (some ⟨w.heap.size, 0, none⟩) r :=
  ⟨hr, fun _ => ⟨w.heap.size, 0, rfl, Nat.lt_succ_self _, fun i hi => by
    rw [Nat.zero_add, cell_of_row _ w.heap.size i _ T f (heap_alloc_new w _)]
    simp [hi, byV, by_]⟩⟩
/-- Bytes appended to a slice of the call's own. -/
theorem app8 {w0 w : World} {ops : Array Oper} {rest : List Oper} {o : Oper} {a : Act} {Q : Exit → Act → World → Prop} (hgd : o.guard = none) (s x : Operand)
    (ho : o.op = .call { callee := .builtin .append, args := #[s, x], argTypes := #[24, 24] })
    (B Bx : Nat) (v : Value) (l r : List Nat) (hs : a.eval s = v) (hown : Own w B v l) (hb : Below B w0 w) (hB : B ≤ w.heap.size)
    (A : Option Addr) (c : Nat) (hx : a.eval x = .slice A r.length c) (hr : Rd w Bx A r) (hA : A = none → r.length = 0 ∧ c = 0) (hlen : l.length + r.length ≤ 140737488355328)
    (h : ∀ v' w', Own w' B v' (l ++ r) → Below B w0 w' → w.grownBy w' v.ownBlock → wpList Try.prog ops Q rest (a.put o.dst v') w') : wpList Try.prog ops Q (o :: rest) a w := by
  obtain ⟨i0, hi, hz0, hz1, hz2⟩ := info_parts info8
  rcases A with _ | ad
  · obtain ⟨h1, rfl⟩ := hA rfl
    obtain rfl : r = [] := List.eq_nil_of_length_eq_zero h1
    refine wpList_append_own_none hgd s x 24 ho B 5 i0 1 Try.underlying24 hi v l.length (l.map byV) hs hown hx ?_
    exact h v w (by rw [List.append_nil]; exact hown) hb ⟨rfl, rfl, rfl, Nat.le_refl _, fun _ _ _ => rfl⟩
  · refine wpList_append_own w hgd s x 24 ho B 5 i0 (.int .u8 0) 1 1 Try.underlying24 hi hz0 hz1 hz2 rfl (by decide) v l.length (l.map byV) hs hown ad r.length c (r.map byV) hx (len_map r) (rd_cells hr (Below.refl _ _)) (one_cells _) (by unfold maxLen; omega) (by omega) hB ?_
    intro v' w' h1 h2 _
    refine h v' w' ?_ (hb.grown h2 hB fun k hk => (hown.lt k hk).1) h2
    unfold Own
    rw [List.length_append, List.map_append]; exact h1
theorem Own.form {w : World} {B : Nat} {v : Value} {l : List Nat} (h : Own w B v l) (hp : 0 < l.length) : ∃ g c, v = .slice (some ⟨g, 0, none⟩) l.length c ∧ B ≤ g ∧ g < w.heap.size := by
  obtain ⟨g, c, h1, h2, h3⟩ := World.ownsRow.form h hp
  exact ⟨g, c, h1, h2, h3⟩
theorem Own.cell {w : World} {B g n c : Nat} {l : List Nat} (h : Own w B (.slice (some ⟨g, 0, none⟩) n c) l) {i : Nat} (hi : i < l.length) : w.cell? ⟨g, i, none⟩ = some (.int .u8 (by_ l i : Int)) ∧ w.frozen? ⟨g, i, none⟩ = false := by
  have hn : n = l.length := by
    rcases h.2 with ⟨h1, _⟩ | ⟨_, _, _, h1, _⟩
    · cases h1
    · injection h1
  subst hn
  refine ⟨?_, h.frozenAt i⟩
  rw [h.cellAt i (by omega)]
  simp [hi, byV, by_]
theorem Own.store {w : World} {B g n c : Nat} {l : List Nat} (h : Own w B (.slice (some ⟨g, 0, none⟩) n c) l) (i y : Nat) : Own (w.setCell ⟨g, i, none⟩ (.int .u8 (y : Int))) B (.slice (some ⟨g, 0, none⟩) n c) (l.set i y) := by
  have hn : n = l.length := by
    rcases h.2 with ⟨h1, _⟩ | ⟨_, _, _, h1, _⟩
    · cases h1
    · injection h1
  subst hn
  have := (h.stored i (.int .u8 (y : Int))).1
  unfold Own
  rw [List.length_set, List.map_set]
  exact this
/-- A law's own copy of bytes, in a block with room to spare. -/
theorem given {w wa wb : World} {l : List Nat} {c : Nat} (h : wa.ownsRow w.heap.size 5 1 (.slice (some ⟨w.heap.size, 0, none⟩) 0 c) 0 []) (hga : w.grownBy wa none)
    (h2 : wb.ownsRow w.heap.size 5 1 (.slice (some ⟨w.heap.size, 0, none⟩) (0 + l.length) c) (0 + l.length) ([] ++ l.map byV)) (hgb : wa.grownBy wb (some w.heap.size)) (hl : ∀ z ∈ l, z < 256) :
    Hid (Own wb w.heap.size (.slice (some ⟨w.heap.size, 0, none⟩) l.length c) l) ∧ Hid (Rd wb wb.heap.size (some ⟨w.heap.size, 0, none⟩) l) ∧ Hid (Below w.heap.size w wb) ∧ w.heap.size < wb.heap.size := by
  rw [Nat.zero_add, List.nil_append] at h2
  have hlt : w.heap.size < wb.heap.size := (h2.lt w.heap.size rfl).2
  refine ⟨h2, rd_own h2 hlt hl, ?_, hlt⟩
  exact ((Below.refl _ w).grown hga (Nat.le_refl _) (by simp)).grown hgb hga.size (fun k hk => by injection hk with hk; omega)
/-- What a call answers that makes new bytes. -/
def NewB (w : World) (l : List Nat) (e : Ending) (w' : World) : Prop :=
  ∃ A c, e = .returned (.slice A l.length c) ∧ l.length ≤ c ∧ c ≤ 9223372036854775807 ∧ Hid (Held w' w.heap.size A c l) ∧ Hid (Below w.heap.size w w')
theorem NewB.mk {w w' : World} {v : Value} {l : List Nat} (h : Own w' w.heap.size v l) (hb : Below w.heap.size w w') (hl : ∀ z ∈ l, z < 256) : NewB w l (.returned v) w' := by
  obtain ⟨A, c, rfl, h1, h2, h3⟩ := h.held hl
  exact ⟨A, c, rfl, h1, h2, h3, hb⟩
end Go.Proofs.Ytohfoieibgmmdaa.Me
/- Ids and messages as plain data: are they right, their bytes, their texts, their order. -/
namespace Go.Proofs.Ytohfoieibgmmdaa.Mg
open Go.RowKit
open Go.Proofs.Ytohfoieibgmmdaa.Me
set_option linter.unusedVariables false

structure Id4 where
  o : Int
  d : Int
  e : Int
  c : Int
def idC (i : Id4) : Array Value := #[.int .i64 i.o, .int .i64 i.d, .int .i64 i.e, .int .i64 i.c]
def nodeB (n : Int) : Bool := decide (0 ≤ n ∧ n < 64)
def numB (n : Int) : Bool := decide (1 ≤ n ∧ n ≤ 65535)
/-- What Check answers. -/
def chkN (i : Id4) : Nat := if nodeB i.o && nodeB i.d && numB i.e && numB i.c then (if i.o = i.d then 2 else 0) else 1
/-- What CheckMsg answers of a message with n bytes. -/
def msgN (i : Id4) (n : Nat) : Nat := if chkN i ≠ 0 then chkN i else if n = 0 then 2 else if 48 < n then 3 else 0
structure Right (i : Id4) : Prop where
  o0 : 0 ≤ i.o
  o1 : i.o < 64
  d0 : 0 ≤ i.d
  d1 : i.d < 64
  e0 : 1 ≤ i.e
  e1 : i.e ≤ 65535
  c0 : 1 ≤ i.c
  c1 : i.c ≤ 65535
  ne : ¬ i.o = i.d
theorem nodeB_iff {n : Int} : nodeB n = true ↔ 0 ≤ n ∧ n < 64 := by simp [nodeB]
theorem numB_iff {n : Int} : numB n = true ↔ 1 ≤ n ∧ n ≤ 65535 := by simp [numB]
theorem right_iff {i : Id4} : chkN i = 0 ↔ Right i := by
  unfold chkN
  constructor
  · intro h
    split at h
    · rename_i hb
      simp only [Bool.and_eq_true, nodeB_iff, numB_iff] at hb
      split at h
      · cases h
      · rename_i hn
        exact ⟨hb.1.1.1.1, hb.1.1.1.2, hb.1.1.2.1, hb.1.1.2.2, hb.1.2.1, hb.1.2.2, hb.2.1, hb.2.2, hn⟩
    · cases h
  · intro h
    rw [if_pos (by simp only [Bool.and_eq_true, nodeB_iff, numB_iff]; exact ⟨⟨⟨⟨h.o0, h.o1⟩, h.d0, h.d1⟩, h.e0, h.e1⟩, h.c0, h.c1⟩), if_neg h.ne]
/-- Is a ahead of b? -/
def ltB (a b : Id4) : Bool := if a.o = b.o then (if a.d = b.d then (if a.e = b.e then decide (a.c < b.c) else decide (a.e < b.e)) else decide (a.d < b.d)) else decide (a.o < b.o)
/-- What slices.Compare answers of two ids' numbers. -/
def cmp1 (x y : Int) : Int := if x < y then -1 else if y < x then 1 else 0
def cmpN (a b : Id4) : Int := if a.o = b.o then (if a.d = b.d then (if a.e = b.e then cmp1 a.c b.c else cmp1 a.e b.e) else cmp1 a.d b.d) else cmp1 a.o b.o
theorem cmp1_neg (x y : Int) : decide (cmp1 x y < 0) = decide (x < y) := by
  unfold cmp1
  split
  · rename_i h; simp [h]
  · rename_i h
    split
    · simp [h]
    · simp [h]
theorem cmpN_neg (a b : Id4) : decide (cmpN a b < 0) = ltB a b := by
  unfold cmpN ltB
  repeat' split
  all_goals exact cmp1_neg _ _
/-- Number k of an id. -/
def ix (i : Id4) (k : Nat) : Int := if k = 0 then i.o else if k = 1 then i.d else if k = 2 then i.e else i.c
theorem cmp1_self (x : Int) : cmp1 x x = 0 := by unfold cmp1; simp
theorem cmp1_ne {x y : Int} (h : ¬ x = y) : ¬ cmp1 x y = 0 := by
  unfold cmp1
  split
  · omega
  · split
    · omega
    · omega
theorem cmpN_at {a b : Id4} {k : Nat} (hk : k < 4) (h : ∀ j, j < k → ix a j = ix b j) (hne : ¬ ix a k = ix b k) : cmpN a b = cmp1 (ix a k) (ix b k) := by
  obtain rfl | rfl | rfl | rfl : k = 0 ∨ k = 1 ∨ k = 2 ∨ k = 3 := by omega
  · have hne : ¬ a.o = b.o := hne
    unfold cmpN; rw [if_neg hne]; rfl
  · have h0 : a.o = b.o := h 0 (by omega)
    have hne : ¬ a.d = b.d := hne
    unfold cmpN; rw [if_pos h0, if_neg hne]; rfl
  · have h0 : a.o = b.o := h 0 (by omega)
    have h1 : a.d = b.d := h 1 (by omega)
    have hne : ¬ a.e = b.e := hne
    unfold cmpN; rw [if_pos h0, if_pos h1, if_neg hne]; rfl
  · have h0 : a.o = b.o := h 0 (by omega)
    have h1 : a.d = b.d := h 1 (by omega)
    have h2 : a.e = b.e := h 2 (by omega)
    unfold cmpN; rw [if_pos h0, if_pos h1, if_pos h2]; rfl
theorem cmpN_eq {a b : Id4} (h : ∀ j, j < 4 → ix a j = ix b j) : cmpN a b = 0 := by
  have h0 : a.o = b.o := h 0 (by omega)
  have h1 : a.d = b.d := h 1 (by omega)
  have h2 : a.e = b.e := h 2 (by omega)
  have h3 : a.c = b.c := h 3 (by omega)
  unfold cmpN; rw [if_pos h0, if_pos h1, if_pos h2, h3, cmp1_self]
theorem ltB_at {a b : Id4} {k : Nat} (hk : k < 4) (h : ∀ j, j < k → ix a j = ix b j) (hne : ¬ ix a k = ix b k) : ltB a b = decide (ix a k < ix b k) := by
  rw [← cmpN_neg, cmpN_at hk h hne, cmp1_neg]
theorem ltB_eq {a b : Id4} (h : ∀ j, j < 4 → ix a j = ix b j) : ltB a b = false := by
  rw [← cmpN_neg, cmpN_eq h]; rfl
end Go.Proofs.Ytohfoieibgmmdaa.Mg
/- Check and CheckMsg of both sides. -/
namespace Go.Proofs.Ytohfoieibgmmdaa.Mg
open Go.RowKit
open Go.Proofs.Ytohfoieibgmmdaa.Me
set_option linter.unusedVariables false
set_option linter.unusedSimpArgs false

theorem isNode_any (n : Int) (w : World) : Calls Try.prog 90 #[.int .i64 n] w fun e w' => e = .returned (.bool (nodeB n)) ∧ w = w' := by
  by_cases a : 0 ≤ n
  · by_cases b : n < 64
    · have HE : Hid (nodeB n = true) := decide_eq_true ⟨a, b⟩
      rw [HE.out]
      go_enter Try.func90, Try.ntmps90
      go_wp2
      go_ret
      exact ⟨rfl, rfl⟩
    · have HE : Hid (nodeB n = false) := decide_eq_false fun h => b h.2
      rw [HE.out]
      go_enter Try.func90, Try.ntmps90
      go_wp2
      go_ret
      exact ⟨rfl, rfl⟩
  · have HE : Hid (nodeB n = false) := decide_eq_false fun h => a h.1
    rw [HE.out]
    go_enter Try.func90, Try.ntmps90
    go_wp2
    go_ret
    exact ⟨rfl, rfl⟩
theorem isNumber_any (n : Int) (w : World) : Calls Try.prog 91 #[.int .i64 n] w fun e w' => e = .returned (.bool (numB n)) ∧ w = w' := by
  by_cases a : 1 ≤ n
  · by_cases b : n ≤ 65535
    · have HE : Hid (numB n = true) := decide_eq_true ⟨a, b⟩
      rw [HE.out]
      go_enter Try.func91, Try.ntmps91
      go_wp2
      go_ret
      exact ⟨rfl, rfl⟩
    · have HE : Hid (numB n = false) := decide_eq_false fun h => b h.2
      rw [HE.out]
      go_enter Try.func91, Try.ntmps91
      go_wp2
      go_ret
      exact ⟨rfl, rfl⟩
  · have HE : Hid (numB n = false) := decide_eq_false fun h => a h.1
    rw [HE.out]
    go_enter Try.func91, Try.ntmps91
    go_wp2
    go_ret
    exact ⟨rfl, rfl⟩
theorem bel_tac {w w' : World} (h : w' = w) : Below w.heap.size w w' := h ▸ Below.refl _ _
set_option maxHeartbeats 4000000 in
theorem Check_any (i : Id4) (w : World) : Calls Try.prog 65 #[.agg (idC i)] w fun e w' => e = .returned (.int .i64 (chkN i : Int)) ∧ Hid (Below w.heap.size w w') := by
  obtain ⟨o, d, ee, c⟩ := i
  have HO : Hid (∀ W, Calls Try.prog 90 #[.int .i64 o] W fun e w' => e = .returned (.bool (nodeB o)) ∧ W = w') := fun W => isNode_any o W
  have HD : Hid (∀ W, Calls Try.prog 90 #[.int .i64 d] W fun e w' => e = .returned (.bool (nodeB d)) ∧ W = w') := fun W => isNode_any d W
  have HE : Hid (∀ W, Calls Try.prog 91 #[.int .i64 ee] W fun e w' => e = .returned (.bool (numB ee)) ∧ W = w') := fun W => isNumber_any ee W
  have HC : Hid (∀ W, Calls Try.prog 91 #[.int .i64 c] W fun e w' => e = .returned (.bool (numB c)) ∧ W = w') := fun W => isNumber_any c W

  simp only [idC]
  unfold chkN
  simp only
  obtain ⟨b1, h1⟩ : ∃ b, nodeB o = b := ⟨_, rfl⟩
  obtain ⟨b2, h2⟩ : ∃ b, nodeB d = b := ⟨_, rfl⟩
  obtain ⟨b3, h3⟩ : ∃ b, numB ee = b := ⟨_, rfl⟩
  obtain ⟨b4, h4⟩ : ∃ b, numB c = b := ⟨_, rfl⟩
  rw [h1] at HO ⊢
  rw [h2] at HD ⊢
  rw [h3] at HE ⊢
  rw [h4] at HC ⊢
  clear h1 h2 h3 h4
  cases b1 with
  | false =>
    simp only [Bool.false_and, Bool.and_false, Bool.false_eq_true, if_false, Bool.true_and, Bool.and_true]
    go_enter Try.func65, Try.ntmps65
    go_wp2_with (first
      | (go_at_call 90; (with_reducible refine (HO.out _).mono ?_); rintro e w' ⟨rfl, rfl⟩)
      | (go_at_call 90; (with_reducible refine (HD.out _).mono ?_); rintro e w' ⟨rfl, rfl⟩)
      | (go_at_call 91; (with_reducible refine (HE.out _).mono ?_); rintro e w' ⟨rfl, rfl⟩)
      | (go_at_call 91; (with_reducible refine (HC.out _).mono ?_); rintro e w' ⟨rfl, rfl⟩))
    go_ret
    exact ⟨rfl, by show Below _ _ _; repeat (first | exact Below.refl _ _ | apply Me.below_alloc)⟩
  | true =>
    cases b2 with
    | false =>
      simp only [Bool.false_and, Bool.and_false, Bool.false_eq_true, if_false, Bool.true_and, Bool.and_true]
      go_enter Try.func65, Try.ntmps65
      go_wp2_with (first
        | (go_at_call 90; (with_reducible refine (HO.out _).mono ?_); rintro e w' ⟨rfl, rfl⟩)
        | (go_at_call 90; (with_reducible refine (HD.out _).mono ?_); rintro e w' ⟨rfl, rfl⟩)
        | (go_at_call 91; (with_reducible refine (HE.out _).mono ?_); rintro e w' ⟨rfl, rfl⟩)
        | (go_at_call 91; (with_reducible refine (HC.out _).mono ?_); rintro e w' ⟨rfl, rfl⟩))
      go_ret
      exact ⟨rfl, by show Below _ _ _; repeat (first | exact Below.refl _ _ | apply Me.below_alloc)⟩
    | true =>
      cases b3 with
      | false =>
        simp only [Bool.false_and, Bool.and_false, Bool.false_eq_true, if_false, Bool.true_and, Bool.and_true]
        go_enter Try.func65, Try.ntmps65
        go_wp2_with (first
          | (go_at_call 90; (with_reducible refine (HO.out _).mono ?_); rintro e w' ⟨rfl, rfl⟩)
          | (go_at_call 90; (with_reducible refine (HD.out _).mono ?_); rintro e w' ⟨rfl, rfl⟩)
          | (go_at_call 91; (with_reducible refine (HE.out _).mono ?_); rintro e w' ⟨rfl, rfl⟩)
          | (go_at_call 91; (with_reducible refine (HC.out _).mono ?_); rintro e w' ⟨rfl, rfl⟩))
        go_ret
        exact ⟨rfl, by show Below _ _ _; repeat (first | exact Below.refl _ _ | apply Me.below_alloc)⟩
      | true =>
        cases b4 with
        | false =>
          simp only [Bool.false_and, Bool.and_false, Bool.false_eq_true, if_false, Bool.true_and, Bool.and_true]
          go_enter Try.func65, Try.ntmps65
          go_wp2_with (first
            | (go_at_call 90; (with_reducible refine (HO.out _).mono ?_); rintro e w' ⟨rfl, rfl⟩)
            | (go_at_call 90; (with_reducible refine (HD.out _).mono ?_); rintro e w' ⟨rfl, rfl⟩)
            | (go_at_call 91; (with_reducible refine (HE.out _).mono ?_); rintro e w' ⟨rfl, rfl⟩)
            | (go_at_call 91; (with_reducible refine (HC.out _).mono ?_); rintro e w' ⟨rfl, rfl⟩))
          go_ret
          exact ⟨rfl, by show Below _ _ _; repeat (first | exact Below.refl _ _ | apply Me.below_alloc)⟩
        | true =>
          simp only [Bool.and_true, if_true]
          by_cases q : o = d
          · subst q
            rw [if_pos rfl]
            go_enter Try.func65, Try.ntmps65
            go_wp2_with (first
              | (go_at_call 90; (with_reducible refine (HO.out _).mono ?_); rintro e w' ⟨rfl, rfl⟩)
              | (go_at_call 90; (with_reducible refine (HD.out _).mono ?_); rintro e w' ⟨rfl, rfl⟩)
              | (go_at_call 91; (with_reducible refine (HE.out _).mono ?_); rintro e w' ⟨rfl, rfl⟩)
              | (go_at_call 91; (with_reducible refine (HC.out _).mono ?_); rintro e w' ⟨rfl, rfl⟩))
            go_ret
            exact ⟨rfl, by show Below _ _ _; repeat (first | exact Below.refl _ _ | apply Me.below_alloc)⟩
          · rw [if_neg q]
            have hq : (o == d) = false := by simpa using q
            go_enter Try.func65, Try.ntmps65
            go_wp2_with (first
              | (go_at_call 90; (with_reducible refine (HO.out _).mono ?_); rintro e w' ⟨rfl, rfl⟩)
              | (go_at_call 90; (with_reducible refine (HD.out _).mono ?_); rintro e w' ⟨rfl, rfl⟩)
              | (go_at_call 91; (with_reducible refine (HE.out _).mono ?_); rintro e w' ⟨rfl, rfl⟩)
              | (go_at_call 91; (with_reducible refine (HC.out _).mono ?_); rintro e w' ⟨rfl, rfl⟩))
            go_ret
            exact ⟨rfl, by show Below _ _ _; repeat (first | exact Below.refl _ _ | apply Me.below_alloc)⟩
set_option maxHeartbeats 4000000 in
theorem RCheck_any (i : Id4) (w : World) : Calls Try.prog 43 #[.agg (idC i)] w fun e w' => e = .returned (.int .i64 (chkN i : Int)) ∧ Hid (Below w.heap.size w w') := by
  obtain ⟨o, d, ee, c⟩ := i
  obtain ⟨r, hr⟩ : ∃ r, chkN ⟨o, d, ee, c⟩ = r := ⟨_, rfl⟩
  rw [hr]
  unfold chkN at hr
  simp only [nodeB, numB, Bool.and_eq_true, decide_eq_true_eq] at hr
  simp only [idC]
  by_cases t0 : 0 ≤ o
  case neg =>
    obtain rfl : r = 1 := by rw [← hr]; exact if_neg fun h => by omega
    clear hr
    go_enter Try.func43, Try.ntmps43
    go_wp2
    go_ret
    exact ⟨rfl, by show Below _ _ _; repeat (first | exact Below.refl _ _ | apply Me.below_alloc)⟩
  by_cases t1 : o < 64
  case neg =>
    obtain rfl : r = 1 := by rw [← hr]; exact if_neg fun h => by omega
    clear hr
    go_enter Try.func43, Try.ntmps43
    go_wp2
    go_ret
    exact ⟨rfl, by show Below _ _ _; repeat (first | exact Below.refl _ _ | apply Me.below_alloc)⟩
  by_cases t2 : 0 ≤ d
  case neg =>
    obtain rfl : r = 1 := by rw [← hr]; exact if_neg fun h => by omega
    clear hr
    go_enter Try.func43, Try.ntmps43
    go_wp2
    go_ret
    exact ⟨rfl, by show Below _ _ _; repeat (first | exact Below.refl _ _ | apply Me.below_alloc)⟩
  by_cases t3 : d < 64
  case neg =>
    obtain rfl : r = 1 := by rw [← hr]; exact if_neg fun h => by omega
    clear hr
    go_enter Try.func43, Try.ntmps43
    go_wp2
    go_ret
    exact ⟨rfl, by show Below _ _ _; repeat (first | exact Below.refl _ _ | apply Me.below_alloc)⟩
  by_cases t4 : 1 ≤ ee
  case neg =>
    obtain rfl : r = 1 := by rw [← hr]; exact if_neg fun h => by omega
    clear hr
    go_enter Try.func43, Try.ntmps43
    go_wp2
    go_ret
    exact ⟨rfl, by show Below _ _ _; repeat (first | exact Below.refl _ _ | apply Me.below_alloc)⟩
  by_cases t5 : ee ≤ 65535
  case neg =>
    obtain rfl : r = 1 := by rw [← hr]; exact if_neg fun h => by omega
    clear hr
    go_enter Try.func43, Try.ntmps43
    go_wp2
    go_ret
    exact ⟨rfl, by show Below _ _ _; repeat (first | exact Below.refl _ _ | apply Me.below_alloc)⟩
  by_cases t6 : 1 ≤ c
  case neg =>
    obtain rfl : r = 1 := by rw [← hr]; exact if_neg fun h => by omega
    clear hr
    go_enter Try.func43, Try.ntmps43
    go_wp2
    go_ret
    exact ⟨rfl, by show Below _ _ _; repeat (first | exact Below.refl _ _ | apply Me.below_alloc)⟩
  by_cases t7 : c ≤ 65535
  case neg =>
    obtain rfl : r = 1 := by rw [← hr]; exact if_neg fun h => by omega
    clear hr
    go_enter Try.func43, Try.ntmps43
    go_wp2
    go_ret
    exact ⟨rfl, by show Below _ _ _; repeat (first | exact Below.refl _ _ | apply Me.below_alloc)⟩
  rw [if_pos ⟨⟨⟨⟨t0, t1⟩, t2, t3⟩, t4, t5⟩, t6, t7⟩] at hr
  by_cases q : o = d
  · subst q
    rw [if_pos rfl] at hr
    subst hr
    go_enter Try.func43, Try.ntmps43
    go_wp2
    go_ret
    exact ⟨rfl, by show Below _ _ _; repeat (first | exact Below.refl _ _ | apply Me.below_alloc)⟩
  · rw [if_neg q] at hr
    subst hr
    have hq : (o == d) = false := by simpa using q
    go_enter Try.func43, Try.ntmps43
    go_wp2
    go_ret
    exact ⟨rfl, by show Below _ _ _; repeat (first | exact Below.refl _ _ | apply Me.below_alloc)⟩
/-- A message as a value. -/
def msgC (i : Id4) (A : Option Addr) (n c : Nat) : Array Value := #[.int .i64 i.o, .int .i64 i.d, .int .i64 i.e, .int .i64 i.c, .slice A n c]
theorem box5 (i : Id4) (A : Option Addr) (n c : Nat) (w : World) : ∀ W, Below (w.alloc (.cells (msgC i A n c) 26 (0, 0))).heap.size (w.alloc (.cells (msgC i A n c) 26 (0, 0))) W → W.cell? ⟨w.heap.size, 0, none⟩ = some (.int .i64 i.o) ∧ W.cell? ⟨w.heap.size, 1, none⟩ = some (.int .i64 i.d) ∧ W.cell? ⟨w.heap.size, 2, none⟩ = some (.int .i64 i.e) ∧ W.cell? ⟨w.heap.size, 3, none⟩ = some (.int .i64 i.c) ∧ W.cell? ⟨w.heap.size, 4, none⟩ = some (.slice A n c) ∧ Below w.heap.size w W := fun W hW => by
  have hl : w.heap.size < (w.alloc (.cells (msgC i A n c) 26 (0, 0))).heap.size := by simp
  have hb := heap_alloc_new w (.cells (msgC i A n c) 26 (0, 0))
  refine ⟨?_, ?_, ?_, ?_, ?_, (Me.below_alloc (Below.refl _ _)).trans (hW.mono (by simp))⟩
  all_goals
    rw [hW.cell hl, cell_of_row _ w.heap.size _ _ _ (0, 0) hb]
    rfl
theorem nz {c : Nat} (h : ¬ c = 0) : ((c : Int) == 0) = false := by
  have : ¬ (c : Int) = 0 := by omega
  simpa using this
set_option maxHeartbeats 4000000 in
theorem CheckMsg_any (i : Id4) (A : Option Addr) (n c : Nat) (w : World) : Calls Try.prog 63 #[.agg (msgC i A n c)] w fun e w' => e = .returned (.int .i64 (msgN i n : Int)) ∧ Hid (Below w.heap.size w w') := by
  have HK := Lib.hid (fun W => Check_any i W)
  obtain ⟨k, hk⟩ : ∃ k, chkN i = k := ⟨_, rfl⟩
  unfold msgN
  rw [hk] at HK ⊢
  clear hk
  have HX := Lib.hid (box5 i A n c w)
  obtain ⟨o, d, ee, cc⟩ := i
  simp only [idC, msgC] at HK HX ⊢
  by_cases h0 : k = 0
  · subst h0
    simp only [ne_eq, not_true, if_false]
    rw [show ((0 : Nat) : Int) = 0 from rfl] at HK
    by_cases hn : n = 0
    · subst hn
      rw [if_pos rfl]
      go_enter Try.func63, Try.ntmps63
      go_wp2_with (go_at_call 65; refine (HK.out _).mono ?_; rintro e w1 ⟨rfl, b1⟩; obtain ⟨x0, x1, x2, x3, x4, bw⟩ := HX.out w1 b1.out)
      go_ret
      exact ⟨rfl, bw⟩
    · rw [if_neg hn]
      have hz := nz hn
      by_cases h48 : 48 < n
      · rw [if_pos h48]
        have h48i : (48 : Int) < (n : Int) := by omega
        go_enter Try.func63, Try.ntmps63
        go_wp2_with (go_at_call 65; refine (HK.out _).mono ?_; rintro e w1 ⟨rfl, b1⟩; obtain ⟨x0, x1, x2, x3, x4, bw⟩ := HX.out w1 b1.out)
        go_ret
        exact ⟨rfl, bw⟩
      · rw [if_neg h48]
        have h48i : ¬ (48 : Int) < (n : Int) := by omega
        go_enter Try.func63, Try.ntmps63
        go_wp2_with (go_at_call 65; refine (HK.out _).mono ?_; rintro e w1 ⟨rfl, b1⟩; obtain ⟨x0, x1, x2, x3, x4, bw⟩ := HX.out w1 b1.out)
        go_ret
        exact ⟨rfl, bw⟩
  · have hz := nz h0
    rw [if_pos h0]
    clear h0
    go_enter Try.func63, Try.ntmps63
    go_wp2_with (go_at_call 65; refine (HK.out _).mono ?_; rintro e w1 ⟨rfl, b1⟩; obtain ⟨x0, x1, x2, x3, x4, bw⟩ := HX.out w1 b1.out)
    go_ret
    exact ⟨rfl, bw⟩

set_option maxHeartbeats 4000000 in
theorem RCheckMsg_any (i : Id4) (A : Option Addr) (n c : Nat) (w : World) : Calls Try.prog 44 #[.agg (msgC i A n c)] w fun e w' => e = .returned (.int .i64 (msgN i n : Int)) ∧ Hid (Below w.heap.size w w') := by
  have HK := Lib.hid (fun W => RCheck_any i W)
  obtain ⟨k, hk⟩ : ∃ k, chkN i = k := ⟨_, rfl⟩
  unfold msgN
  rw [hk] at HK ⊢
  clear hk
  have HX := Lib.hid (box5 i A n c w)
  obtain ⟨o, d, ee, cc⟩ := i
  simp only [idC, msgC] at HK HX ⊢
  by_cases h0 : k = 0
  · subst h0
    simp only [ne_eq, not_true, if_false]
    rw [show ((0 : Nat) : Int) = 0 from rfl] at HK
    by_cases hn : n = 0
    · subst hn
      rw [if_pos rfl]
      go_enter Try.func44, Try.ntmps44
      go_wp2_with (go_at_call 43; refine (HK.out _).mono ?_; rintro e w1 ⟨rfl, b1⟩; obtain ⟨x0, x1, x2, x3, x4, bw⟩ := HX.out w1 b1.out)
      go_ret
      exact ⟨rfl, bw⟩
    · rw [if_neg hn]
      have hz := nz hn
      by_cases h48 : 48 < n
      · rw [if_pos h48]
        have h48i : (48 : Int) < (n : Int) := by omega
        go_enter Try.func44, Try.ntmps44
        go_wp2_with (go_at_call 43; refine (HK.out _).mono ?_; rintro e w1 ⟨rfl, b1⟩; obtain ⟨x0, x1, x2, x3, x4, bw⟩ := HX.out w1 b1.out)
        go_ret
        exact ⟨rfl, bw⟩
      · rw [if_neg h48]
        have h48i : ¬ (48 : Int) < (n : Int) := by omega
        go_enter Try.func44, Try.ntmps44
        go_wp2_with (go_at_call 43; refine (HK.out _).mono ?_; rintro e w1 ⟨rfl, b1⟩; obtain ⟨x0, x1, x2, x3, x4, bw⟩ := HX.out w1 b1.out)
        go_ret
        exact ⟨rfl, bw⟩
  · have hz := nz h0
    rw [if_pos h0]
    clear h0
    go_enter Try.func44, Try.ntmps44
    go_wp2_with (first
      | (go_at_call 43; (with_reducible refine (HK.out (w.alloc _)).mono ?_); rintro e w1 ⟨rfl, b1⟩; obtain ⟨x0, x1, x2, x3, x4, bw⟩ := HX.out w1 b1.out)
      | (go_at_call 43; refine (HK.out _).mono ?_; rintro e w2 ⟨rfl, b2⟩; have bw2 : Below w.heap.size w w2 := bw.trans (b2.out.mono bw.size)))
    go_ret
    exact ⟨rfl, bw2⟩
end Go.Proofs.Ytohfoieibgmmdaa.Mg
