/- The reference's Digits, Text, numbers. -/
import Derived.Test.YtljndfkmppmbkaaDoorMgBk
import Derived.Test.YtljndfkmppmbkaaDoorIKit
namespace Go.Proofs.YtljndfkmppmbkaaDoor.Mg
open Go.RowKit
open Go.Proofs.YtljndfkmppmbkaaDoor.Me Go.Proofs.YtljndfkmppmbkaaDoor.Ba Go.Proofs.YtljndfkmppmbkaaDoor.Ma Go.Proofs.YtljndfkmppmbkaaDoor.Hd
set_option linter.unusedVariables false
set_option linter.unusedSimpArgs false

theorem conv_one (W : World) (d : Nat) (h : d < 256) : (convert 24 9 (.slice (some ⟨W.heap.size, 0, none⟩) 1 1)).run Tryd.prog (W.alloc (.cells #[.int .u8 (d : Int)] 5)) = .ok (.string (sB [UInt8.ofNat d])) (W.alloc (.cells #[.int .u8 (d : Int)] 5)) := by
  have hr : Row (W.alloc (.cells #[.int .u8 (d : Int)] 5)) W.heap.size [d] := heap_alloc_new W _
  exact conv_rd _ (W.heap.size + 1) _ [d] 1 (hr.rd (Nat.lt_succ_self _) (by simp; exact h)) (fun e => by cases e)
theorem dec_step {n : Nat} (h : 9 < n) (t : List UInt8) : Lib.decDigits n ++ t = Lib.decDigits (n / 10) ++ (UInt8.ofNat (48 + n % 10) :: t) := by
  rw [Lib.decDigits, dif_neg (by omega), List.append_assoc]
  rfl
theorem dec_len {u : Nat} (h : u ≤ 65535) : (Lib.decDigits u).length ≤ 21 := by
  have := Lib.itoa_length_le (u : Int) (by omega) (by omega)
  rw [Lib.itoa_nonneg] at this
  exact this
set_option maxRecDepth 100000 in
set_option maxHeartbeats 4000000 in
theorem Digits_any (u : Nat) (hu : u ≤ 65535) (w : World) : Calls Tryd.prog 45 #[.int .i64 (u : Int)] w fun e w' => e = .returned (.string (sB (Lib.decDigits u))) ∧ Hid (Below w.heap.size w w') := by
  obtain ⟨L, hL⟩ : ∃ L, Lib.decDigits u = L := ⟨_, rfl⟩
  have HL := Lib.hid hL
  have HLn : Hid (L.length ≤ 21) := by show _; rw [← hL]; exact dec_len hu
  rw [hL]
  clear hL
  have HB := Lib.hid (Below.refl w.heap.size w)
  go_enter Tryd.func45, Tryd.ntmps45
  go_wp2
  go_loopw [0, 3] (fun v0 v3 wr => ∃ (n : Nat) (t : List UInt8), v0 = .int .i64 (n : Int) ∧ v3 = .string (sB t) ∧ Hid (Lib.decDigits n ++ t = L) ∧ n ≤ 65535 ∧ Hid (Below w.heap.size w wr)) (fun v0 _ _ => (intOf v0).toNat)
  case atStart => exact ⟨u, [], rfl, rfl, by show _ = _; rw [List.append_nil]; exact HL.out, hu, HB.out⟩
  case round =>
    obtain ⟨n, t, rfl, rfl, hl, hn, HBr⟩ := hrel
    have ht : t.length ≤ 21 := by
      have h1 := HLn.out
      rw [← hl.out, List.length_append] at h1
      omega
    have HSz : Hid (sB t = sB t ∧ (sB t).size = t.length) := ⟨rfl, sB_size t⟩
    by_cases h9 : 9 < n
    · have g1 : (9 : Int) < (n : Int) := by omega
      have q1 := conv_one wr (48 + n % 10) (by omega)
      rw [show ((48 + n % 10 : Nat) : Int) = 48 + (n : Int) % 10 by omega] at q1
      have HN : Hid (Lib.decDigits (n / 10) ++ (UInt8.ofNat (48 + n % 10) :: t) = L) := by
        show _ = _
        rw [← dec_step h9]
        exact hl.out
      have q2 : sB [UInt8.ofNat (48 + n % 10)] ++ sB t = sB (UInt8.ofNat (48 + n % 10) :: t) := by rw [sB_app]; rfl
      have q3 : ¬ 9223372036854775807 < (sB [UInt8.ofNat (48 + n % 10)]).size + (sB t).size := by rw [sB_size, sB_size]; simp; omega
      obtain ⟨x, hx⟩ : ∃ x, UInt8.ofNat (48 + n % 10) = x := ⟨_, rfl⟩
      rw [hx] at q1 q2 q3 HN
      obtain ⟨X, hX⟩ : ∃ X, sB [x] = X := ⟨_, rfl⟩
      obtain ⟨T, hT⟩ : ∃ T, sB t = T := ⟨_, rfl⟩
      obtain ⟨Y, hY⟩ : ∃ Y, sB (x :: t) = Y := ⟨_, rfl⟩
      rw [hX] at q1 q2 q3
      rw [hT, hY] at q2
      rw [hT] at q3 ⊢
      have HY := Lib.hid hY
      have HBA := Lib.hid (Me.below_alloc (o := .cells #[.int .u8 (48 + (n : Int) % 10)] 5) HBr.out)
      have e2 : (n : Int).tdiv 10 = ((n / 10 : Nat) : Int) := by rw [Int.natCast_ediv]; rfl
      clear hx hX hT hY ht HSz hl HBr
      go_wp2
      go_roundw
      case rel => exact ⟨n / 10, x :: t, by go_num, by rw [HY.out], HN.out, by omega, HBA.out⟩
      case measure => simp [intOf]; omega
    · have g1 : ¬ (9 : Int) < (n : Int) := by omega
      have q1 := conv_one wr (48 + n) (by omega)
      rw [show ((48 + n : Nat) : Int) = 48 + (n : Int) by omega] at q1
      have HN : Hid (UInt8.ofNat (48 + n) :: t = L) := by
        have h := hl.out
        rw [Lib.decDigits, dif_pos (by omega)] at h
        exact h
      have q2 : sB [UInt8.ofNat (48 + n)] ++ sB t = sB (UInt8.ofNat (48 + n) :: t) := by rw [sB_app]; rfl
      have q3 : ¬ 9223372036854775807 < (sB [UInt8.ofNat (48 + n)]).size + (sB t).size := by rw [sB_size, sB_size]; simp; omega
      obtain ⟨x, hx⟩ : ∃ x, UInt8.ofNat (48 + n) = x := ⟨_, rfl⟩
      rw [hx] at q1 q2 q3 HN
      obtain ⟨X, hX⟩ : ∃ X, sB [x] = X := ⟨_, rfl⟩
      obtain ⟨T, hT⟩ : ∃ T, sB t = T := ⟨_, rfl⟩
      obtain ⟨Y, hY⟩ : ∃ Y, sB (x :: t) = Y := ⟨_, rfl⟩
      rw [hX] at q1 q2 q3
      rw [hT, hY] at q2
      rw [hT] at q3 ⊢
      have HY : Hid (Y = sB L) := by show _ = _; rw [← hY, HN.out]
      have HBA := Lib.hid (Me.below_alloc (o := .cells #[.int .u8 (48 + (n : Int))] 5) HBr.out)
      clear hx hX hT hY ht HSz hl HBr HN
      go_wp2
      go_ret
      exact ⟨by rw [← HY.out]; rfl, HBA.out⟩
end Go.Proofs.YtljndfkmppmbkaaDoor.Mg
