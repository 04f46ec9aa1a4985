/- The law's own question 'does the program answer at all?' is answered true, whatever the memory. -/
import Derived.Test.YtlkkindahmnoiaaLists
import Derived.Lib.SlBytesConst
import Derived.Deep.RegionHeld
namespace Go.Proofs.Ytlkkindahmnoiaa.Cr
open Go.RowKit
open Go.Proofs.Ytlkkindahmnoiaa.Me
set_option linter.unusedVariables false

def nine : List Nat := [49, 50, 51, 52, 53, 54, 55, 56, 57]
theorem nine_lt : ∀ z ∈ nine, z < 256 := by decide
/-- The nine digits lie in block g. -/
def Nine (g : Nat) (w : World) : Prop := g < w.heap.size ∧ Rd w (g + 1) (some ⟨g, 0, none⟩) nine
theorem nine_alloc {g : Nat} {w : World} {o : Obj} (h : Nine g w.drew) : Nine g (w.alloc o).drew :=
  ⟨Nat.lt_trans h.1 (by simp), h.2.below ((Below.refl (g + 1) w.drew).alloc h.1 o)⟩
theorem lst_nine {g b : Nat} {w : World} (k : Nat) (hk : k ≤ 9) (hn : Nine g w) (c0 : w.cell? ⟨b, 0, none⟩ = some (.slice (some ⟨g, 0, none⟩) k 9)) (c1 : w.cell? ⟨b, 1, none⟩ = some (.slice (some ⟨g, k, none⟩) (9 - k) (9 - k))) :
    Lst w (g + 1) (some ⟨b, 0, none⟩) [nine.take k, nine.drop k] := by
  have l1 : (nine.take k).length = k := by simp [nine]; omega
  have l2 : (nine.drop k).length = 9 - k := by simp [nine]
  intro _
  refine ⟨b, 0, rfl, World.block_lt_of_cell? w _ c0, fun j hj => ?_⟩
  have hj' : j = 0 ∨ j = 1 := by simp at hj; omega
  rcases hj' with rfl | rfl
  · exact ⟨some ⟨g, 0, none⟩, 9, by show w.cell? ⟨b, 0, none⟩ = some (.slice _ (nine.take k).length 9); rw [l1]; exact c0, by show (nine.take k).length ≤ 9; omega, by decide, hn.2.take k⟩
  · refine ⟨some ⟨g, k, none⟩, 9 - k, by show w.cell? ⟨b, 1, none⟩ = some (.slice _ (nine.drop k).length _); rw [l2]; exact c1, by show (nine.drop k).length ≤ _; omega, by omega, ?_⟩
    have := hn.2.drop k
    rwa [Nat.zero_add] at this
theorem Fcs_nine (g b : Nat) (w : World) (hn : Nine g w) (c0 : w.cell? ⟨b, 0, none⟩ = some (.slice (some ⟨g, 0, none⟩) 4 9)) (c1 : w.cell? ⟨b, 1, none⟩ = some (.slice (some ⟨g, 4, none⟩) 5 5)) :
    Calls Try.prog 10 #[.slice (some ⟨b, 0, none⟩) 2 2] w fun e w' => e = .returned (.int .u16 36974) ∧ w = w' := by
  have h := Fcs_any (some ⟨b, 0, none⟩) 2 (g + 1) [nine.take 4, nine.drop 4] w (lst_nine 4 (by decide) hn c0 c1) (by decide)
  rw [show fcs [nine.take 4, nine.drop 4].flatten = 36974 by decide +kernel] at h
  exact h
theorem Sum_nine (g b : Nat) (w : World) (hn : Nine g w) (c0 : w.cell? ⟨b, 0, none⟩ = some (.slice (some ⟨g, 0, none⟩) 2 9)) (c1 : w.cell? ⟨b, 1, none⟩ = some (.slice (some ⟨g, 2, none⟩) 7 7)) :
    Calls Try.prog 12 #[.slice (some ⟨b, 0, none⟩) 2 2] w fun e w' => e = .returned (.int .u32 3421780262) ∧ w = w' := by
  have h := Sum_any (some ⟨b, 0, none⟩) 2 (g + 1) [nine.take 2, nine.drop 2] w (lst_nine 2 (by decide) hn c0 c1) (by decide)
  rw [show sum [nine.take 2, nine.drop 2].flatten = 3421780262 by decide +kernel] at h
  exact h
theorem awake_any (w : World) : Calls Try.prog 14 #[] w fun e w' => e = .returned (.bool true) ∧ Below w.heap.size w w' := by
  have K0 : Hid (Nine w.heap.size (w.alloc (.cells #[.int .u8 49, .int .u8 50, .int .u8 51, .int .u8 52, .int .u8 53, .int .u8 54, .int .u8 55, .int .u8 56, .int .u8 57] 5 (9, 10))).drew) := ⟨by simp, (rd_lit (w := w) (r := nine) nine_lt 5 (9, 10)).below (Below.refl _ _).drew⟩
  have kc := fun (w : World) (C : Array Value) (n c : Nat) => Lib.run_convert_bytes_const (P := Try.prog) w 23 5 C n c Try.underlying23 Try.underlying5
  go_enter Try.func14, Try.ntmps14
  go_wp2
  go_region_held (fun w' => Nine w.heap.size w') (first | exact K0.out | assumption | (refine nine_alloc ?_; assumption))
    (first
      | (go_at_call 10; refine (Fcs_nine w.heap.size _ _ ?_ ?_ ?_).mono ?_; (assumption); (go_simp); (go_simp); rintro e w' ⟨rfl, rfl⟩)
      | (go_at_call 12; refine (Sum_nine w.heap.size _ _ ?_ ?_ ?_).mono ?_; (assumption); (go_simp); (go_simp); rintro e w' ⟨rfl, rfl⟩))
  go_wp2
  go_ret
  exact ⟨rfl, (below_alloc (below_alloc (below_alloc (Below.refl _ _)))).drew⟩
theorem awake_below {w0 w : World} (hb : Hid (Below w0.heap.size w0 w)) : Calls Try.prog 14 #[] w fun e w' => e = .returned (.bool true) ∧ Hid (Below w0.heap.size w0 w') :=
  (awake_any w).mono fun _ _ ⟨he, h⟩ => ⟨he, hb.out.trans (h.mono hb.out.size)⟩
end Go.Proofs.Ytlkkindahmnoiaa.Cr
