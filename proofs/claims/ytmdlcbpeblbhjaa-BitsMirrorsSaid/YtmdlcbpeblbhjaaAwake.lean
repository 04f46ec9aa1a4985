/- The law's own question 'does the program answer at all?' is answered true, whatever the memory. -/
import Derived.Test.YtmdlcbpeblbhjaaRput
namespace Go.Proofs.Ytmdlcbpeblbhjaa.Aw
open Go.RowKit
open Go.Proofs.Ytmdlcbpeblbhjaa.Ma
open Go.Proofs.Ytmdlcbpeblbhjaa.Ba
open Go.Proofs.Ytmdlcbpeblbhjaa.Nu
open Go.Proofs.Ytmdlcbpeblbhjaa.Me
open Go.Proofs.Ytmdlcbpeblbhjaa.Pu
set_option linter.unusedVariables false

theorem Put_258 (w : World) : Calls Try.prog 11 #[.slice none 0 0, .int .u64 258, .int .i64 2] w fun e w' =>
    e = .returned (.tuple #[.slice (some ⟨w.heap.size, 0, none⟩) 2 2, .int .i64 0]) ∧ Hid (Row w' w.heap.size [1, 2]) ∧ Hid (Below w.heap.size w w') := by
  refine (Put_any [] 258 2 none 0 0 (by decide) w ⟨by simp, by simp⟩ (Nat.zero_le _) (by simp)).mono ?_
  rintro e w' (⟨_, h2, h3, h4⟩ | ⟨h, _⟩)
  · exact ⟨h2, h3, h4⟩
  · exact absurd h (by decide)
theorem Get_258 (w : World) (B g : Nat) (h : Hid (Row w g [1, 2])) : Calls Try.prog 14 #[.slice (some ⟨g, 0, none⟩) 2 2, .int .i64 0, .int .i64 2] w fun e w' =>
    e = .returned (.tuple #[.int .u64 258, .int .i64 0]) ∧ w = w' :=
  Get_any [1, 2] 0 2 (some ⟨g, 0, none⟩) 2 (g + 1) (by decide) (by decide) w (h.out.rd (by omega) (by decide)) (by decide)
theorem Count_7 (w : World) : Calls Try.prog 22 #[.int .u64 7] w fun e w' => e = .returned (.int .i64 3) ∧ w = w' :=
  Count_any 7 (by unfold U; exact (by decide : 7 < 2 ^ 64)) w
theorem str_12 (w : World) (g : Nat) (h : Hid (Row w g [1, 2])) : (convert 22 9 (.slice (some ⟨g, 0, none⟩) 2 2)).run Try.prog w = .ok (.string ⟨#[1, 2]⟩) w :=
  run_convert_bytes_back w 22 9 5 ⟨g, 0, none⟩ 2 [1, 2] Try.underlying22 Try.underlying5 Try.underlying9 (fun j hj => by
    have e : (⟨g, 0, none⟩ : Addr).add j = ⟨g, j, none⟩ := by
      unfold Addr.add; split <;> simp_all
    rw [e, h.out.cell (by simpa using hj)]
    rcases j with _ | _ | j
    · rfl
    · rfl
    · exact absurd hj (by simp))
theorem awake_any (w : World) : Calls Try.prog 13 #[] w fun e w' => e = .returned (.bool true) ∧ Below w.heap.size w w' := by
  go_enter Try.func13, Try.ntmps13
  go_wp2_with (first
    | (go_at_call 11; refine (Put_258 _).mono ?_; rintro e w1 ⟨rfl, HR, HB⟩; have hs := str_12 w1 _ HR)
    | (go_at_call 14; refine (Get_258 _ 0 _ HR).mono ?_; rintro e w1 ⟨rfl, rfl⟩)
    | (go_at_call 22; refine (Count_7 _).mono ?_; rintro e w1 ⟨rfl, rfl⟩))
  go_ret
  exact ⟨rfl, HB.out⟩
end Go.Proofs.Ytmdlcbpeblbhjaa.Aw
