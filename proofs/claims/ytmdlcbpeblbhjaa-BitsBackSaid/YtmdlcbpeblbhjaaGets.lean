/- The walks of the laws of bits that speak of bytes: BitsGets and BitsBack. -/
import Derived.Test.YtmdlcbpeblbhjaaLaws
import Derived.StillTailTactics
namespace Go.Proofs.Ytmdlcbpeblbhjaa.Wb
open Go.RowKit
open Go.Proofs.Ytmdlcbpeblbhjaa.Ma
open Go.Proofs.Ytmdlcbpeblbhjaa.Ba
open Go.Proofs.Ytmdlcbpeblbhjaa.Nu
open Go.Proofs.Ytmdlcbpeblbhjaa.Me
open Go.Proofs.Ytmdlcbpeblbhjaa.Pu
open Go.Proofs.Ytmdlcbpeblbhjaa.Aw
open Go.Proofs.Ytmdlcbpeblbhjaa.Wa
set_option linter.unusedVariables false

theorem getE_ans (l : List Nat) (a s : Int) : ∃ k e, getE l a s = ans k e := by
  unfold getE; split
  · split
    · exact ⟨_, _, rfl⟩
    · exact ⟨0, 2, rfl⟩
  · exact ⟨0, 1, rfl⟩
theorem gets (A : Option Addr) (len cap : Nat) (l : List Nat) (a s : Int) (w : World) (w0 : BySlice w A len cap l) (c0 : cap ≤ 140737488351232) (w1 : (Lit.int .i64 a).wf = true) (w2 : (Lit.int .i64 s).wf = true) :
    Calls Try.prog 4 #[.slice A len cap, .int .i64 a, .int .i64 s] w fun e w' => e = .returned (.bool true) ∧ Below w.heap.size w w' := by
  obtain ⟨rfl, h1, h2, h3, _⟩ := w0
  obtain ⟨k, x, hk⟩ := getE_ans l a s
  have C1 := Get_any l a s A cap _ h1 h2 w h3 (bounds_i64 w1).2
  have C2 := RGet_any l a s A cap _ h1 h2 w h3 (bounds_i64 w1).2
  rw [hk] at C1 C2
  have D1 := Lib.hid C1
  have D2 := Lib.hid C2
  clear C1 C2 hk w1 w2 h3
  have hb0 : Hid (Below w.heap.size w w) := Below.refl _ _
  unfold ans at D1 D2
  go_enter Try.func4, Try.ntmps4
  go_wp2_with (first
    | (go_at_call 14; refine (D1.out).mono ?_; rintro e w1 ⟨rfl, rfl⟩)
    | (go_at_call 15; refine (D2.out).mono ?_; rintro e w1 ⟨rfl, rfl⟩)
    | (go_at_call 13; refine (awake_below hb0).mono ?_; rintro e w2 ⟨rfl, hb2⟩))
  go_ret
  exact ⟨rfl, hb2.out⟩
/-- The string of the bytes l. -/
def strOf (l : List Nat) : ByteArray := ⟨(l.map fun b => UInt8.ofNat b).toArray⟩
theorem conv_rd (w : World) (B : Nat) (A : Option Addr) (l : List Nat) (cap : Nat) (h : Rd w B A l) (hA : A = none → l.length = 0 ∧ cap = 0) :
    (convert 22 9 (.slice A l.length cap)).run Try.prog w = .ok (.string (strOf l)) w := by
  rcases A with _ | ad
  · obtain ⟨h1, rfl⟩ := hA rfl
    obtain rfl : l = [] := List.eq_nil_of_length_eq_zero h1
    rw [run_convert_bytes_string w 22 9 5 none _ 0 Try.underlying22 Try.underlying5 Try.underlying9]
    rfl
  · have e : l.length = (l.map fun b => UInt8.ofNat b).length := by simp
    rw [e]
    refine run_convert_bytes_back w 22 9 5 ad cap (l.map fun b => UInt8.ofNat b) Try.underlying22 Try.underlying5 Try.underlying9 fun j hj => ?_
    have hj' : j < l.length := by simpa using hj
    obtain ⟨b, off, hx, _, hc⟩ := h.2 (by omega)
    cases hx
    have ea : (⟨b, off, none⟩ : Addr).add j = ⟨b, off + j, none⟩ := by
      unfold Addr.add; split <;> simp_all
    rw [ea, hc j hj', by_get hj']
    have hlt := h.1 _ (List.getElem_mem hj')
    simp only [List.getElem_map]
    rw [UInt8.toNat_ofNat_of_lt' (by simpa using hlt)]
theorem Put_ok (l : List Nat) (n s : Nat) (A : Option Addr) (cap B : Nat) (hs : sizeB 8 s = true) (hn : n < 256 ^ s) (w : World)
    (hr : Hid (Rd w B A l)) (hB : B ≤ w.heap.size) (hl : l.length ≤ 140737488351232) :
    Calls Try.prog 11 #[.slice A l.length cap, .int .u64 (n : Int), .int .i64 (s : Int)] w fun e w' =>
      e = .returned (.tuple #[.slice (some ⟨w.heap.size, 0, none⟩) (l.length + s) (l.length + s), .int .i64 0]) ∧ Hid (Row w' w.heap.size (l ++ byts n s)) ∧ Hid (Below w.heap.size w w') :=
  (Put_any l n s A cap B hs w hr hB hl).mono fun e w' h => by
    rcases h with ⟨_, h2, h3, h4⟩ | ⟨h, _⟩
    · exact ⟨h2, h3, h4⟩
    · exact absurd hn (Nat.not_lt.mpr h)
theorem Put_long (l : List Nat) (n s : Nat) (A : Option Addr) (cap B : Nat) (hs : sizeB 8 s = true) (hn : 256 ^ s ≤ n) (w : World)
    (hr : Hid (Rd w B A l)) (hB : B ≤ w.heap.size) (hl : l.length ≤ 140737488351232) :
    Calls Try.prog 11 #[.slice A l.length cap, .int .u64 (n : Int), .int .i64 (s : Int)] w fun e w' =>
      e = .returned (.tuple #[.slice none 0 0, .int .i64 3]) ∧ Hid (Below w.heap.size w w') :=
  (Put_any l n s A cap B hs w hr hB hl).mono fun e w' h => by
    rcases h with ⟨h, _⟩ | ⟨_, h2, h3⟩
    · exact absurd h (Nat.not_lt.mpr hn)
    · exact ⟨h2, h3⟩
theorem length_put (l : List Nat) (n s : Nat) : (l ++ byts n s).length = l.length + s := by simp [length_byts]
theorem bytes_put {w : World} {B : Nat} {A : Option Addr} {l : List Nat} (h : Rd w B A l) (n s : Nat) : ∀ z ∈ l ++ byts n s, z < 256 := by
  intro z hz
  rcases List.mem_append.mp hz with h1 | h1
  · exact h.1 z h1
  · exact byts_lt n s z h1
theorem getE_put (l : List Nat) (n s : Nat) (hs : sizeB 8 s = true) (hn : n < 256 ^ s) : getE (l ++ byts n s) l.length s = ans n 0 := by
  rw [getE_ok hs (by rw [length_put]; omega)]
  unfold numP ans
  rw [List.drop_left, List.take_of_length_le (by rw [length_byts]; exact Nat.le_refl _), num_byts, Nat.mod_eq_of_lt hn]
/-- What was put is got. -/
theorem Get_back (l : List Nat) (n s : Nat) (g : Nat) (w : World) (hs : sizeB 8 s = true) (hn : n < 256 ^ s) (hb : ∀ z ∈ l ++ byts n s, z < 256) (hl : l.length ≤ 140737488351232)
    (hr : Hid (Row w g (l ++ byts n s))) :
    Calls Try.prog 14 #[.slice (some ⟨g, 0, none⟩) (l.length + s) (l.length + s), .int .i64 (l.length : Int), .int .i64 (s : Int)] w fun e w' => e = .returned (ans n 0) ∧ w = w' := by
  have hs8 : s ≤ 8 := by have := of_decide_eq_true hs; omega
  have h := Get_any (l ++ byts n s) l.length s (some ⟨g, 0, none⟩) (l.length + s) (g + 1) (by rw [length_put]; exact Nat.le_refl _) (by omega) w (hr.out.rd (Nat.lt_succ_self g) hb) (by omega)
  rw [getE_put l n s hs hn, length_put] at h
  exact h
theorem Rd.first {w : World} {g : Nat} {l r : List Nat} (h : Row w g (l ++ r)) (hl : ∀ z ∈ l, z < 256) : Rd w (g + 1) (some ⟨g, 0, none⟩) l :=
  ⟨hl, fun _ => ⟨g, 0, rfl, Nat.lt_succ_self g, fun i hi => by
    rw [Nat.zero_add, h.cell (by rw [List.length_append]; omega)]
    have : by_ (l ++ r) i = by_ l i := by simp [by_, List.getElem?_append_left hi]
    rw [this]⟩⟩
theorem back (A : Option Addr) (len cap : Nat) (l : List Nat) (n s : Int) (w : World) (w0 : BySlice w A len cap l) (c0 : cap ≤ 140737488351232) (w1 : (Lit.int .u64 n).wf = true) (w2 : (Lit.int .i64 s).wf = true) :
    Calls Try.prog 8 #[.slice A len cap, .int .u64 n, .int .i64 s] w fun e w' => e = .returned (.bool true) ∧ Below w.heap.size w w' := by
  obtain ⟨n, rfl, hn⟩ := u64_nat w1
  obtain ⟨rfl, h1, h2, h3, hA⟩ := w0
  have HA := Lib.hid hA
  have HR := Lib.hid h3
  have hb0 : Hid (Below w.heap.size w w) := Below.refl _ _
  by_cases hs : sizeB 8 s = true
  · obtain ⟨s, rfl⟩ : ∃ s' : Nat, s = s' := ⟨s.toNat, by have := of_decide_eq_true hs; omega⟩
    by_cases hf : n < 256 ^ s
    · have D1 := Lib.hid (Put_ok l n s A cap _ hs hf w HR (Nat.le_refl _) (by omega))
      have D2 := Lib.hid (fun w1 hr => Get_back l n s w.heap.size w1 hs hf (bytes_put h3 n s) (by omega) hr)
      have HZ := Lib.hid h3.1
      unfold ans at D2
      clear hf h3 hA w1 w2
      go_enter Try.func8, Try.ntmps8
      go_wp2_with (first
        | (go_at_call 11; refine D1.out.mono ?_; rintro e w1 ⟨rfl, HR1, hb1⟩)
        | (go_at_call 14; refine (D2.out _ HR1).mono ?_; rintro e w1 ⟨rfl, rfl⟩))
      have K1 : (convert 22 9 (.slice (some ⟨w.heap.size, 0, none⟩) l.length (l.length + s))).run Try.prog w1.drew = .ok (.string (strOf l)) w1.drew :=
        conv_rd w1.drew _ (some ⟨w.heap.size, 0, none⟩) l (l.length + s) (Rd.first (g := w.heap.size) (show Row w1.drew w.heap.size (l ++ byts n s) from HR1.out) HZ.out) (fun h => by cases h)
      have K2 : (convert 22 9 (.slice A l.length cap)).run Try.prog w1.drew = .ok (.string (strOf l)) w1.drew :=
        conv_rd w1.drew _ A l cap (HR.out.below hb1.out.drew) HA.out
      have hs8 : s ≤ 8 := by have := of_decide_eq_true hs; omega
      have hwr : IntKind.i64.wrap ((l.length : Int) + s) = (l.length : Int) + s := IntWalk.i64_in _ (by omega)
      have hle : (l.length : Int) ≤ (l.length : Int) + s := by omega
      go_still_tail 27, (by kernel_rfl)
      change wpList _ _ _ _ _ w1.drew
      have hbd := Lib.hid hb1.out.drew
      generalize w1.drew = wd at hbd ⊢
      go_wp2_with (go_at_call 13; refine (awake_below hbd).mono ?_; rintro e w2 ⟨rfl, hb2⟩)
      go_ret
      exact ⟨rfl, hb2.out⟩
    · have D1 := Lib.hid (Put_long l n s A cap _ hs (Nat.not_lt.mp hf) w HR (Nat.le_refl _) (by omega))
      clear hf h3 hA w1 w2
      go_enter Try.func8, Try.ntmps8
      go_wp2_with (first
        | (go_at_call 11; refine D1.out.mono ?_; rintro e w1 ⟨rfl, hb1⟩)
        | (go_at_call 13; refine (awake_below hb1).mono ?_; rintro e w2 ⟨rfl, hb2⟩))
      go_ret
      exact ⟨rfl, hb2.out⟩
  · have D1 := Lib.hid (fun w => Put_size l n s A cap (by simpa using hs) w)
    clear h3 hA w1 w2
    go_enter Try.func8, Try.ntmps8
    go_wp2_with (first
      | (go_at_call 11; refine (D1.out _).mono ?_; rintro e w1 ⟨rfl, rfl⟩)
      | (go_at_call 13; refine (awake_below hb0).mono ?_; rintro e w2 ⟨rfl, hb2⟩))
    go_ret
    exact ⟨rfl, hb2.out⟩
end Go.Proofs.Ytmdlcbpeblbhjaa.Wb
