/- The law of texts: its walk. -/
import Derived.Test.YtljndfkmppmbkaaDoorMgRParse
import Derived.Test.YtljndfkmppmbkaaDoorMgBackL
namespace Go.Proofs.YtljndfkmppmbkaaDoor.Mg
open Go.RowKit
open Go.Proofs.YtljndfkmppmbkaaDoor.Me Go.Proofs.YtljndfkmppmbkaaDoor.Ba Go.Proofs.YtljndfkmppmbkaaDoor.Ma Go.Proofs.YtljndfkmppmbkaaDoor.Hd
set_option linter.unusedVariables false
set_option linter.unusedSimpArgs false

set_option maxRecDepth 100000 in
set_option maxHeartbeats 8000000 in
theorem texts (o d ee c : Int) (s : ByteArray) (w : World) (q0 : (Lit.int .i64 o).wf = true) (q1 : (Lit.int .i64 d).wf = true) (q2 : (Lit.int .i64 ee).wf = true) (q3 : (Lit.int .i64 c).wf = true) (hs : s.size ≤ 1048576) (hT : Tab w) :
    Calls Tryd.prog 7 #[.agg #[.int .i64 o, .int .i64 d, .int .i64 ee, .int .i64 c], .string s] w fun e w' => e = .returned (.bool true) ∧ Below w.heap.size w w' := by
  obtain ⟨r, rfl⟩ : ∃ r, s = sB r := ⟨s.data.toList, by unfold sB; simp⟩
  rw [sB_size] at hs
  have HT1 : Hid (∀ W, Below w.heap.size w W → Calls Tryd.prog 27 #[.agg (idC ⟨o, d, ee, c⟩)] W fun e w' => e = .returned (.tuple #[.string (if chkN ⟨o, d, ee, c⟩ = 0 then sB (txK ⟨o, d, ee, c⟩ 4) else ⟨#[]⟩), .int .i64 (chkN ⟨o, d, ee, c⟩ : Int)]) ∧ Hid (Below W.heap.size W w')) := fun W hW => by
    by_cases hk : chkN ⟨o, d, ee, c⟩ = 0
    · rw [if_pos hk, hk]
      exact Text_ok _ (right_iff.1 hk) W (it_tab (hT.on hW) (right_iff.1 hk))
    · rw [if_neg hk]
      exact Text_no _ hk W
  have HT2 : Hid (∀ W, Calls Tryd.prog 28 #[.agg (idC ⟨o, d, ee, c⟩)] W fun e w' => e = .returned (.tuple #[.string (if chkN ⟨o, d, ee, c⟩ = 0 then sB (txK ⟨o, d, ee, c⟩ 4) else ⟨#[]⟩), .int .i64 (chkN ⟨o, d, ee, c⟩ : Int)]) ∧ Hid (Below W.heap.size W w')) := fun W => by
    by_cases hk : chkN ⟨o, d, ee, c⟩ = 0
    · rw [if_pos hk, hk]
      exact RText_ok _ (right_iff.1 hk) W
    · rw [if_neg hk]
      exact RText_no _ hk W
  have HP1 : Hid (∀ W, Below w.heap.size w W → Calls Tryd.prog 29 #[.string (sB r)] W (IdP (psI r) (psZ r) W)) := fun W hW => Parse_any r W (by omega) (hT.on hW)
  have HP2 : Hid (∀ W, Calls Tryd.prog 30 #[.string (sB r)] W (IdP (psI r) (psZ r) W)) := fun W => RParse_any r hs W
  unfold IdP at HP1 HP2
  obtain ⟨X, hX⟩ : ∃ X, (if chkN ⟨o, d, ee, c⟩ = 0 then sB (txK ⟨o, d, ee, c⟩ 4) else ⟨#[]⟩) = X := ⟨_, rfl⟩
  obtain ⟨z, hz⟩ : ∃ z, chkN ⟨o, d, ee, c⟩ = z := ⟨_, rfl⟩
  obtain ⟨j, hj⟩ : ∃ j, psI r = j := ⟨_, rfl⟩
  obtain ⟨y, hy⟩ : ∃ y, psZ r = y := ⟨_, rfl⟩
  obtain ⟨S, hS⟩ : ∃ S, sB r = S := ⟨_, rfl⟩
  simp only [hX] at HT1 HT2
  simp only [hz] at HT1 HT2
  rw [hj, hy, hS] at HP1 HP2
  rw [hS]
  obtain ⟨p, q, r1, t⟩ := j
  simp only [idC] at HT1 HT2 HP1 HP2
  have HB4 := Lib.hid (box4 o d ee c w)
  have HB0 := Lib.hid (Me.below_alloc (o := .cells #[.int .i64 o, .int .i64 d, .int .i64 ee, .int .i64 c] 23) (Below.refl w.heap.size w))
  clear hX hz hj hy hS hs hT q0 q1 q2 q3
  go_enter Tryd.func7, Tryd.ntmps7
  go_wp2_with (first
    | (go_at_call 27; refine (HT1.out _ HB0.out).mono ?_; rintro e w1 ⟨rfl, b1⟩; obtain ⟨x0, x1, x2, x3⟩ := HB4.out w1 b1.out; have HB1 := Lib.hid (HB0.out.trans (b1.out.mono HB0.out.size)))
    | (go_at_call 28; refine (HT2.out _).mono ?_; rintro e w2 ⟨rfl, b2⟩; have HB2 := Lib.hid (HB1.out.trans (b2.out.mono HB1.out.size)))
    | (go_at_call 29; refine (HP1.out _ HB2.out).mono ?_; rintro e w3 ⟨rfl, b3⟩; have HB3 := Lib.hid (Me.below_alloc (o := .cells #[.int .i64 p, .int .i64 q, .int .i64 r1, .int .i64 t] 23) (HB2.out.trans (b3.out.mono HB2.out.size))))
    | (go_at_call 30; refine (HP2.out _).mono ?_; rintro e w4 ⟨rfl, b4⟩; have hb := (Below.heap_alloc w4 (.cells #[.int .i64 p, .int .i64 q, .int .i64 r1, .int .i64 t] 23) w3.heap.size (by have h := b4.out.size; simp at h; omega)).trans ((b4.out.block w3.heap.size (by simp)).trans (heap_alloc_new w3 _)); obtain ⟨i0, i1, i2, i3⟩ := id_cells hb; obtain ⟨j0, j1, j2, j3⟩ := id_cells (heap_alloc_new w4 (.cells #[.int .i64 p, .int .i64 q, .int .i64 r1, .int .i64 t] 23)); have HB4' := Lib.hid (Me.below_alloc (o := .cells #[.int .i64 p, .int .i64 q, .int .i64 r1, .int .i64 t] 23) (HB3.out.trans (b4.out.mono HB3.out.size))); clear hb)
    | (go_at_call 14; refine (awake_any _).mono ?_; rintro e w5 ⟨rfl, b5⟩))
  go_ret
  exact ⟨rfl, HB4'.out.trans (b5.out.mono HB4'.out.size)⟩
end Go.Proofs.YtljndfkmppmbkaaDoor.Mg
