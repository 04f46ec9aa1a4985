/- Contracts of Get, of the program and of its reference, over bytes that lie anywhere in memory. -/
import Derived.Test.YtmdlcbpeblbhjaaNums
import Derived.Laws.OwnMore
import Derived.Laws.CopyOwn
import Derived.Laws.AppendOwnNone
import Derived.Laws.BytesString
import Derived.Laws.IdiomStrings
namespace Go.Proofs.Ytmdlcbpeblbhjaa.Me
open Go.RowKit
open Go.Proofs.Ytmdlcbpeblbhjaa.Ma
open Go.Proofs.Ytmdlcbpeblbhjaa.Ba
open Go.Proofs.Ytmdlcbpeblbhjaa.Nu
set_option linter.unusedVariables false

/-- Byte i of l. -/
def by_ (l : List Nat) (i : Nat) : Nat := l.getD i 0
theorem by_get {l : List Nat} {i : Nat} (h : i < l.length) : by_ l i = l[i] := by simp [by_, h]
/-- A slice's address leads, below block B, to the bytes l (to nothing, where there are none). -/
def Rd (w : World) (B : Nat) (a : Option Addr) (l : List Nat) : Prop :=
  (∀ z ∈ l, z < 256) ∧ (0 < l.length → ∃ b off, a = some ⟨b, off, none⟩ ∧ b < B ∧ ∀ i, i < l.length → w.cell? ⟨b, off + i, none⟩ = some (.int .u8 (by_ l i : Int)))
theorem Rd.lt {w : World} {B : Nat} {a : Option Addr} {l : List Nat} (h : Rd w B a l) {i : Nat} (hi : i < l.length) : by_ l i < 256 := by
  rw [by_get hi]; exact h.1 _ (List.getElem_mem hi)
theorem Rd.keep {w w' : World} {B : Nat} {a : Option Addr} {l : List Nat} (h : Rd w B a l) (hk : ∀ p : Addr, p.block < B → w'.cell? p = w.cell? p) : Rd w' B a l :=
  ⟨h.1, fun hl => by
    obtain ⟨b, off, ha, hb, hc⟩ := h.2 hl
    exact ⟨b, off, ha, hb, fun i hi => (hk ⟨b, off + i, none⟩ hb).trans (hc i hi)⟩⟩
theorem Rd.below {w w' : World} {B : Nat} {a : Option Addr} {l : List Nat} (h : Rd w B a l) (hb : Below B w w') : Rd w' B a l := h.keep fun _ hp => hb.cell hp
theorem Rd.more {w : World} {B B' : Nat} {a : Option Addr} {l : List Nat} (h : Rd w B a l) (hB : B ≤ B') : Rd w B' a l :=
  ⟨h.1, fun hl => by
    obtain ⟨b, off, ha, hb, hc⟩ := h.2 hl
    exact ⟨b, off, ha, by omega, hc⟩⟩
/-- A slice of bytes that came in: the bytes l are its elements. -/
def BySlice (w : World) (a : Option Addr) (len cap : Nat) (l : List Nat) : Prop :=
  len = l.length ∧ l.length ≤ cap ∧ cap ≤ 9223372036854775807 ∧ Rd w w.heap.size a l ∧ (a = none → l.length = 0 ∧ cap = 0)
theorem bySlice_none (w : World) : BySlice w none 0 0 [] := ⟨rfl, Nat.le_refl _, Nat.zero_le _, ⟨by simp, by simp⟩, fun _ => ⟨rfl, rfl⟩⟩
theorem bySlice_some {w : World} {x : Addr} {len cap : Nat} {zs : List Int} (hl : len ≤ cap) (hm : cap ≤ maxLen) (hz : zs.length = cap)
    (hcell : ∀ i, i < zs.length → w.cell? (x.add i) = some (.int .u8 (zs.getD i 0))) (hwz : ∀ n ∈ zs, (Lit.int .u8 n).wf = true) : ∃ l, BySlice w (some x) len cap l := by
  have hlen : ((zs.take len).map Int.toNat).length = len := by simp; omega
  refine ⟨(zs.take len).map Int.toNat, hlen.symm, by omega, by unfold maxLen at hm; omega, ⟨?_, ?_⟩, fun h => by cases h⟩
  · intro z hz'
    obtain ⟨n, hn, rfl⟩ := List.mem_map.mp hz'
    have := bounds_u8 (hwz n (List.mem_of_mem_take hn))
    omega
  · intro h
    rw [hlen] at h
    obtain ⟨b, off, rfl, hc⟩ := ints_at hcell (by omega)
    refine ⟨b, off, rfl, ?_, fun i hi => ?_⟩
    · exact World.block_lt_of_cell? w _ (hc 0 (by omega))
    · rw [hlen] at hi
      rw [hc i (by omega)]
      have hi' : i < zs.length := by omega
      have hb := bounds_u8 (hwz zs[i] (List.getElem_mem hi'))
      have e1 : zs.getD i 0 = zs[i] := by simp [hi']
      have e2 : by_ ((zs.take len).map Int.toNat) i = zs[i].toNat := by simp [by_, hi, hi']
      rw [e1, e2]
      congr 2
      omega

/-- The number of k bytes of l from place a on. -/
def numP (l : List Nat) (a k : Nat) : Nat := num ((l.drop a).take k)
theorem numP_step {l : List Nat} {a k : Nat} (h : a + k < l.length) : numP l a (k + 1) = numP l a k * 256 + by_ l (a + k) := by
  rw [by_get h]; exact num_step h
theorem numP_lt {l : List Nat} (hz : ∀ b ∈ l, b < 256) (a : Nat) {k : Nat} (hk : k ≤ 8) : numP l a k < U := by
  refine Nat.lt_of_lt_of_le (num_part_lt hz a k) ?_
  have e : (256 : Nat) ^ k = 2 ^ (8 * k) := by rw [Nat.pow_mul]
  have h8 : 8 * k ≤ 64 := by omega
  rw [e]; exact Nat.pow_le_pow_right (by decide) h8
theorem or_byte {x b : Nat} (hb : b < 256) (hx : x * 256 + b < U) : bits .or .u64 (IntKind.u64.wrap ((x : Int) * 256)) (b : Int) = ((x * 256 + b : Nat) : Int) := by
  have e1 : ((x : Int) * (256 : Int)) = ((x <<< 8 : Nat) : Int) := by simp [Nat.shiftLeft_eq]
  have hx' : x <<< 8 < U := Nat.lt_of_le_of_lt (show x <<< 8 ≤ x * 256 + b by rw [Nat.shiftLeft_eq]; omega) hx
  rw [e1, wrapU_nat hx', orU hx' (by unfold U; omega)]
  congr 1
  rw [← Nat.shiftLeft_add_eq_or_of_lt (b := b) (i := 8) (by omega) x, Nat.shiftLeft_eq]
/-- The answer of Get. -/
def getE (l : List Nat) (a s : Int) : Value :=
  if sizeB 8 s = true ∧ 0 ≤ a then (if a + s ≤ l.length then .tuple #[.int .u64 (numP l a.toNat s.toNat : Int), .int .i64 0] else .tuple #[.int .u64 0, .int .i64 2]) else .tuple #[.int .u64 0, .int .i64 1]
theorem getE_size {l : List Nat} {a s : Int} (h : ¬ (sizeB 8 s = true ∧ 0 ≤ a)) : getE l a s = .tuple #[.int .u64 0, .int .i64 1] := by unfold getE; rw [if_neg h]
theorem getE_form {l : List Nat} {a s : Int} (h : sizeB 8 s = true) (h0 : 0 ≤ a) (h1 : ¬ a + s ≤ l.length) : getE l a s = .tuple #[.int .u64 0, .int .i64 2] := by unfold getE; rw [if_pos ⟨h, h0⟩, if_neg h1]
theorem getE_ok {l : List Nat} {a s : Nat} (h : sizeB 8 s = true) (h1 : (a : Int) + s ≤ l.length) : getE l a s = .tuple #[.int .u64 (numP l a s : Int), .int .i64 0] := by
  unfold getE; rw [if_pos ⟨h, by omega⟩, if_pos h1]; rfl
theorem Get_any (l : List Nat) (a s : Int) (A : Option Addr) (cap B : Nat) (hl : l.length ≤ cap) (hc : cap ≤ 9223372036854775807) (w : World)
    (hr : Hid (Rd w B A l)) (ha : a ≤ 9223372036854775807) :
    Calls Try.prog 14 #[.slice A l.length cap, .int .i64 a, .int .i64 s] w fun e w' => e = .returned (getE l a s) ∧ w = w' := by
  by_cases hs : sizeB 8 s = true
  · have hsb : 1 ≤ s ∧ s ≤ 8 := of_decide_eq_true hs
    obtain ⟨hs1, hs2⟩ := hsb
    by_cases h0 : 0 ≤ a
    · by_cases h1 : (l.length : Int) - a < s
      · have HE := Lib.hid (getE_form (l := l) hs h0 (by omega))
        go_enter Try.func14, Try.ntmps14
        go_wp2_with (go_at_call 24; refine (sizeInBytes_any _ _).mono ?_; rintro e w' ⟨rfl, rfl⟩)
        go_ret2
        exact ⟨congrArg Ending.returned HE.out.symm, rfl⟩
      · obtain ⟨a, rfl⟩ : ∃ a' : Nat, a = a' := ⟨a.toNat, by omega⟩
        obtain ⟨s, rfl⟩ : ∃ s' : Nat, s = s' := ⟨s.toNat, by omega⟩
        have HE := Lib.hid (getE_ok (l := l) (a := a) (s := s) hs (by omega))
        obtain ⟨b, off, rfl, hb, hcell⟩ := hr.out.2 (by omega)
        have HC := Lib.hid hcell
        clear hcell
        go_enter Try.func14, Try.ntmps14
        go_wp2_with (go_at_call 24; refine (sizeInBytes_any _ _).mono ?_; rintro e w' ⟨rfl, rfl⟩)
        go_loop [8, 31] (fun n i => ∃ k : Nat, k ≤ s ∧ i = .int .i64 k ∧ n = .int .u64 (numP l a k : Int)) (fun _ i => s - (intOf i).toNat)
        case atStart => exact ⟨0, Nat.zero_le _, rfl, rfl⟩
        case round =>
          obtain ⟨k, hk, rfl, rfl⟩ := hrel
          by_cases hlt : k < s
          · have hcell := HC.out (a + k) (by omega)
            rw [← Nat.add_assoc] at hcell
            have HB := hr.out.lt (i := a + k) (by omega)
            have H := Lib.hid (or_byte (x := numP l a k) HB (by rw [← numP_step (by omega)]; exact numP_lt hr.out.1 a (by omega)))
            go_wp2
            go_round
            case rel => exact ⟨k + 1, by omega, by go_num, by rw [H.out, numP_step (by omega)]⟩
            case measure => simp [intOf]; omega
          · obtain rfl : k = s := by omega
            go_wp2
            go_ret2
            exact ⟨congrArg Ending.returned HE.out.symm, rfl⟩
    · have HE := Lib.hid (getE_size (l := l) (a := a) (s := s) (fun h => h0 h.2))
      go_enter Try.func14, Try.ntmps14
      go_wp2_with (go_at_call 24; refine (sizeInBytes_any _ _).mono ?_; rintro e w' ⟨rfl, rfl⟩)
      go_ret2
      exact ⟨congrArg Ending.returned HE.out.symm, rfl⟩
  · have HE := Lib.hid (getE_size (l := l) (a := a) (s := s) (fun h => hs h.1))
    have hs : sizeB 8 s = false := by simpa using hs
    go_enter Try.func14, Try.ntmps14
    go_wp2_with (go_at_call 24; refine (sizeInBytes_any _ _).mono ?_; rintro e w' ⟨rfl, rfl⟩)
    go_ret2
    exact ⟨congrArg Ending.returned HE.out.symm, rfl⟩
theorem mul_byte {x b : Nat} (hx : x * 256 + b < U) : IntKind.u64.wrap (IntKind.u64.wrap (256 * (x : Int)) + (b : Int)) = ((x * 256 + b : Nat) : Int) := by
  have e1 : (256 * (x : Int)) = ((x * 256 : Nat) : Int) := by simp; omega
  rw [e1, wrapU_nat (Nat.lt_of_le_of_lt (Nat.le_add_right _ b) hx), ← Int.natCast_add, wrapU_nat hx]
theorem RGet_any (l : List Nat) (a s : Int) (A : Option Addr) (cap B : Nat) (hl : l.length ≤ cap) (hc : cap ≤ 9223372036854775807) (w : World)
    (hr : Hid (Rd w B A l)) (ha : a ≤ 9223372036854775807) :
    Calls Try.prog 15 #[.slice A l.length cap, .int .i64 a, .int .i64 s] w fun e w' => e = .returned (getE l a s) ∧ w = w' := by
  by_cases hs : sizeB 8 s = true
  · have hsb : 1 ≤ s ∧ s ≤ 8 := of_decide_eq_true hs
    obtain ⟨hs1, hs2⟩ := hsb
    by_cases h0 : 0 ≤ a
    · by_cases h1 : a + s ≤ l.length
      · obtain ⟨a, rfl⟩ : ∃ a' : Nat, a = a' := ⟨a.toNat, by omega⟩
        obtain ⟨s, rfl⟩ : ∃ s' : Nat, s = s' := ⟨s.toNat, by omega⟩
        have HE := Lib.hid (getE_ok (l := l) (a := a) (s := s) hs (by omega))
        obtain ⟨b, off, rfl, hb, hcell⟩ := hr.out.2 (by omega)
        have HC := Lib.hid hcell
        clear hcell
        go_enter Try.func15, Try.ntmps15
        go_wp2
        go_loop [8, 9] (fun n i => ∃ k : Nat, k ≤ s ∧ i = .int .i64 k ∧ n = .int .u64 (numP l a k : Int)) (fun _ i => s - (intOf i).toNat)
        case atStart => exact ⟨0, Nat.zero_le _, rfl, rfl⟩
        case round =>
          obtain ⟨k, hk, rfl, rfl⟩ := hrel
          by_cases hlt : k < s
          · have hcell := HC.out (a + k) (by omega)
            have HB := hr.out.lt (i := a + k) (by omega)
            have H := Lib.hid (mul_byte (x := numP l a k) (b := by_ l (a + k)) (by rw [← numP_step (by omega)]; exact numP_lt hr.out.1 a (by omega)))
            go_wp2
            go_round
            case rel => exact ⟨k + 1, by omega, by go_num, by rw [H.out, numP_step (by omega)]⟩
            case measure => simp [intOf]; omega
          · obtain rfl : k = s := by omega
            go_wp2
            go_ret2
            exact ⟨congrArg Ending.returned HE.out.symm, rfl⟩
      · have HE := Lib.hid (getE_form (l := l) hs h0 h1)
        by_cases h2 : (l.length : Int) < a
        all_goals
          go_enter Try.func15, Try.ntmps15
          go_wp2
          go_ret2
          exact ⟨congrArg Ending.returned HE.out.symm, rfl⟩
    · have HE := Lib.hid (getE_size (l := l) (a := a) (s := s) (fun h => h0 h.2))
      go_enter Try.func15, Try.ntmps15
      go_wp2
      go_ret2
      exact ⟨congrArg Ending.returned HE.out.symm, rfl⟩
  · have HE := Lib.hid (getE_size (l := l) (a := a) (s := s) (fun h => hs h.1))
    have hsb : ¬ (1 ≤ s ∧ s ≤ 8) := fun h => hs (decide_eq_true h)
    by_cases h1 : 1 ≤ s
    all_goals
      go_enter Try.func15, Try.ntmps15
      go_wp2
      go_ret2
      exact ⟨congrArg Ending.returned HE.out.symm, rfl⟩
end Go.Proofs.Ytmdlcbpeblbhjaa.Me
