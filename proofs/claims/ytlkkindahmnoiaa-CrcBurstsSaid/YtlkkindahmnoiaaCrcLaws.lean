/- The walks of the laws of crc that speak of bytes and registers: CrcSteps, CrcRests, CrcBursts, CrcWide. -/
import Derived.Test.YtlkkindahmnoiaaWoke
import Derived.Test.YtlkkindahmnoiaaTurn
import Derived.Test.YtlkkindahmnoiaaRight
namespace Go.Proofs.Ytlkkindahmnoiaa.Cr
open Go.RowKit
open Go.Proofs.Ytlkkindahmnoiaa.Me
set_option linter.unusedVariables false

theorem u8_nat {n : Int} (h : (Lit.int .u8 n).wf = true) : ∃ m : Nat, n = m ∧ m < 256 := by
  have hb := bounds_u8 h
  exact ⟨n.toNat, by omega, by omega⟩
theorem u16_nat {n : Int} (h : (Lit.int .u16 n).wf = true) : ∃ m : Nat, n = m ∧ m < U16 := by
  have hb := bounds_u16 h
  exact ⟨n.toNat, by omega, by unfold U16; omega⟩
theorem u32_nat {n : Int} (h : (Lit.int .u32 n).wf = true) : ∃ m : Nat, n = m ∧ m < U32 := by
  have hb := bounds_u32 h
  exact ⟨n.toNat, by omega, by unfold U32; omega⟩
theorem steps (x b : Int) (w : World) (w0 : (Lit.int .u16 x).wf = true) (w1 : (Lit.int .u8 b).wf = true) :
    Calls Try.prog 4 #[.int .u16 x, .int .u8 b] w fun e w' => e = .returned (.bool true) ∧ Below w.heap.size w w' := by
  obtain ⟨x, rfl, hx⟩ := u16_nat w0
  obtain ⟨b, rfl, hb⟩ := u8_nat w1
  have hb0 : Hid (Below w.heap.size w w) := Below.refl _ _
  have D1 := Lib.hid (Step_any x b hx hb w)
  have D2 := Lib.hid (take_any x P16 b (Nat.lt_trans hx (by decide)) (by decide) hb w)
  have ht : tak P16 x b < U16 := tak_lt p16_lt hx hb (by decide)
  have c1 : (tak P16 x b : Int) % 65536 = tak P16 x b := by unfold U16 at ht; omega
  have c2 : (x : Int) % 4294967296 = x := by unfold U16 at hx; omega
  obtain ⟨y, hy⟩ : ∃ y, tak P16 x b = y := ⟨_, rfl⟩
  rw [hy] at D1 D2 c1
  clear ht hy w0 w1
  go_enter Try.func4, Try.ntmps4
  go_wp2_with (first
    | (go_at_call 15; refine (D1.out).mono ?_; rintro e w1 ⟨rfl, rfl⟩)
    | (go_at_call 16; refine (D2.out).mono ?_; rintro e w1 ⟨rfl, rfl⟩)
    | (go_at_call 14; refine (awake_below hb0).mono ?_; rintro e w2 ⟨rfl, hb2⟩))
  go_ret
  exact ⟨rfl, hb2.out⟩
/-- Of fewer than two bytes none are right. -/
theorem right_short {l : List Nat} (h : l.length < 2) : rightB l = false := by
  unfold rightB; rw [decide_eq_false (by omega), Bool.false_and]
theorem rests (A : Option Addr) (len cap : Nat) (l : List Nat) (w : World) (w0 : BySlice w A len cap l) (c0 : cap ≤ 140737488351232) :
    Calls Try.prog 6 #[.slice A len cap] w fun e w' => e = .returned (.bool true) ∧ Below w.heap.size w w' := by
  obtain ⟨rfl, h1, h2, h3, hA⟩ := w0
  have HR := Lib.hid h3
  have D1 := Lib.hid (Right_any A cap _ l w h3 (Nat.le_refl _) h1 h2)
  have HT : Hid (∀ k, ¬ k < l.length → reg P16 65535 (l.take k) = reg P16 65535 l) := by
    intro k hk; rw [List.take_of_length_le (by omega)]
  clear h3 hA
  go_enter Try.func6, Try.ntmps6
  go_wp2
  go_loop [3, 4] (fun r i => ∃ k : Nat, k ≤ l.length ∧ i = .int .i64 k ∧ r = .int .u16 (reg P16 65535 (l.take k) : Int)) (fun _ i => l.length - (intOf i).toNat)
  case atStart => exact ⟨0, Nat.zero_le _, rfl, rfl⟩
  case round =>
    obtain ⟨j, hj, rfl, rfl⟩ := hrel
    by_cases hjl : j < l.length
    · obtain ⟨b', off', rfl, _, hd⟩ := HR.out.2 (by omega)
      have hcell2 := hd j hjl
      have HS := Lib.hid (reg_take (p := P16) (x := 65535) hjl)
      have hb := HR.out.lt hjl
      have HZ : Hid (reg P16 65535 (l.take j) < U16) := reg16_lt (take_bytes HR.out.1 j)
      clear hd
      go_wp2_with (go_at_call 15; refine (Step_any _ _ HZ.out hb _).mono ?_; rintro e w' ⟨rfl, rfl⟩)
      go_round
      case rel => exact ⟨j + 1, by omega, by go_num, by rw [HS.out]⟩
      case measure => simp [intOf]; omega
    · have HE := Lib.hid (HT.out j hjl)
      by_cases hs : l.length < 2
      · have D2 := D1.out
        rw [right_short hs] at D2
        have D3 := Lib.hid D2
        clear D2 D1
        go_wp2_with (first
          | (go_at_call 19; refine (D3.out).mono ?_; rintro e w1 ⟨rfl, hb1⟩)
          | (go_at_call 14; refine (awake_below hb1).mono ?_; rintro e w2 ⟨rfl, hb2⟩))
        go_ret
        exact ⟨rfl, hb2.out⟩
      · have hr : rightB l = decide ((reg P16 65535 (l.take j) : Int) = 61624) := by
          rw [HE.out]
          unfold rightB
          rw [decide_eq_true (by omega), Bool.true_and, Bool.eq_iff_iff]; simp; omega
        by_cases hreg : (reg P16 65535 (l.take j) : Int) = 61624
        · have D2 := D1.out
          rw [hr, decide_eq_true hreg] at D2
          have D3 := Lib.hid D2
          clear D2 D1 hr
          go_wp2_with (first
            | (go_at_call 19; refine (D3.out).mono ?_; rintro e w1 ⟨rfl, hb1⟩)
            | (go_at_call 14; refine (awake_below hb1).mono ?_; rintro e w2 ⟨rfl, hb2⟩))
          go_ret
          exact ⟨rfl, hb2.out⟩
        · have hreg' : ((reg P16 65535 (l.take j) : Int) == 61624) = false := by simpa using hreg
          have D2 := D1.out
          rw [hr, decide_eq_false hreg] at D2
          have D3 := Lib.hid D2
          clear D2 D1 hr
          go_wp2_with (first
            | (go_at_call 19; refine (D3.out).mono ?_; rintro e w1 ⟨rfl, hb1⟩)
            | (go_at_call 14; refine (awake_below hb1).mono ?_; rintro e w2 ⟨rfl, hb2⟩))
          go_ret
          exact ⟨rfl, hb2.out⟩
theorem right_turn {l : List Nat} (hl : ∀ z ∈ l, z < 256) (a : Int) (m : Nat) : rightB (turnL (addL l) a m 16) = !turnB (addL l) a m 16 := by
  have h1 := right_add l hl
  cases h : turnB (addL l) a m 16 with
  | false => rw [turn_not h, h1]; rfl
  | true =>
    have h2 := reg_turn (x := 65535) p16_lt p16_top (add_bytes hl) (by decide) h
    unfold rightB at h1 ⊢
    rw [length_turn]
    simp only [Bool.and_eq_true, beq_iff_eq] at h1
    rw [h1.2] at h2
    simp [h2]
theorem bursts (A : Option Addr) (len cap : Nat) (l : List Nat) (a m : Int) (w : World) (w0 : BySlice w A len cap l) (c0 : cap ≤ 140737488351232) (w1 : (Lit.int .i64 a).wf = true) (w2 : (Lit.int .u16 m).wf = true) :
    Calls Try.prog 7 #[.slice A len cap, .int .i64 a, .int .u16 m] w fun e w' => e = .returned (.bool true) ∧ Below w.heap.size w w' := by
  obtain ⟨m, rfl, hm⟩ := u16_nat w2
  obtain ⟨rfl, h1, h2, h3, hA⟩ := w0
  have D1 := Add_any A cap _ l w h3 (Nat.le_refl _) h1 (by omega)
  have hb := add_bytes h3.1
  have hRT := right_turn h3.1 a m
  have hlen : l.length + 2 = (addL l).length := (length_add l).symm
  rw [hlen] at D1
  have hL8 : (addL l).length ≤ 140737488355000 := by rw [← hlen]; omega
  obtain ⟨L, hL⟩ : ∃ L, addL l = L := ⟨_, rfl⟩
  rw [hL] at D1 hb hRT hL8
  clear hL hlen h3 hA
  have D2 : ∀ w1, Hid (Row w1 w.heap.size L) → Calls Try.prog 21 #[.slice (some ⟨w.heap.size, 0, none⟩) L.length L.length, .int .i64 a, .int .u32 (m : Int), .int .i64 (16 : Nat)] w1 (TurnR w1 (turnL L a m 16) (turnB L a m 16)) :=
    fun w1 hr => Turn_any (some ⟨w.heap.size, 0, none⟩) L.length (w.heap.size + 1) L a m 16 w1 (hr.out.rd (Nat.lt_succ_self _) hb) (fun e => by cases e) hr.out.lt hL8 (Nat.lt_trans hm (by decide)) (by decide)
  have D3 : ∀ B w2 A2 c2, Hid (Held w2 B A2 c2 (turnL L a m 16)) → (turnL L a m 16).length ≤ c2 → c2 ≤ 9223372036854775807 → Calls Try.prog 19 #[.slice A2 (turnL L a m 16).length c2] w2 fun e w' => e = .returned (.bool (rightB (turnL L a m 16))) ∧ Hid (Below w2.heap.size w2 w') :=
    fun B w2 A2 c2 h hl hc => Right_any A2 c2 w2.heap.size _ w2 h.out.rd (Nat.le_refl _) hl hc
  rw [hRT] at D3
  obtain ⟨Q, hQ⟩ : ∃ Q, turnL L a m 16 = Q := ⟨_, rfl⟩
  obtain ⟨t, ht⟩ : ∃ t, turnB L a m 16 = t := ⟨_, rfl⟩
  rw [hQ, ht] at D2
  rw [hQ, ht] at D3
  have c2 : (m : Int) % 4294967296 = m := by unfold U16 at hm; omega
  have E1 := Lib.hid D1
  have E2 := Lib.hid D2
  have E3 := Lib.hid D3
  clear D1 D2 D3 hRT hQ ht hb hm w1 w2
  cases t
  all_goals
    go_enter Try.func7, Try.ntmps7
    go_wp2_with (first
      | (go_at_call 17; refine E1.out.mono ?_; rintro e w1 ⟨rfl, HR1, hb1⟩)
      | (go_at_call 21; refine (E2.out _ HR1).mono ?_; rintro e w2 ⟨A2, c2, rfl, hl2, hc2, HH2, hb2⟩; have hb3 := Lib.hid (hb1.out.trans (hb2.out.mono hb1.out.size)))
      | (go_at_call 19; refine (E3.out _ _ _ _ HH2 hl2 hc2).mono ?_; rintro e w3 ⟨rfl, hb4⟩; have hb5 := Lib.hid (hb3.out.trans (hb4.out.mono hb3.out.size)))
      | (go_at_call 14; refine (awake_below hb5).mono ?_; rintro e w4 ⟨rfl, hb6⟩))
    go_ret
    exact ⟨rfl, hb6.out⟩
theorem Sum_one (l : List Nat) (A : Option Addr) (c B : Nat) (w : World) (hr : Hid (Rd w B A l)) (hlc : l.length ≤ c) (hc : c ≤ 9223372036854775807) (hB : B ≤ w.heap.size) (g : Nat) (hg : g = w.heap.size) :
    Calls Try.prog 12 #[.slice (some ⟨g, 0, none⟩) 1 1] (w.alloc (.cells #[.slice A l.length c] 23)) fun e w' => e = .returned (.int .u32 (sum l : Int)) ∧ w.alloc (.cells #[.slice A l.length c] 23) = w' := by
  subst hg
  have h := Sum_any (some ⟨w.heap.size, 0, none⟩) 1 B [l] _ (lst_one (T := 23) hr.out hlc hc hB) (by simp)
  rw [show [l].flatten = l by simp] at h
  exact h
theorem xor_cancel {a b c : Nat} (h : a ^^^ b = a ^^^ c) : b = c := by
  have h1 := congrArg (a ^^^ ·) h
  simp only [← Nat.xor_assoc, Nat.xor_self, Nat.zero_xor] at h1
  exact h1
theorem sum_turn {l : List Nat} (hl : ∀ z ∈ l, z < 256) (a : Int) (m : Nat) : (sum (turnL l a m 32) = sum l) ↔ turnB l a m 32 = false := by
  cases h : turnB l a m 32 with
  | false => rw [turn_not h]; simp
  | true =>
    have h2 := reg_turn (x := 4294967295) p32_lt p32_top hl (by decide) h
    constructor
    · intro h3
      unfold sum at h3
      exact absurd (xor_cancel h3) h2
    · intro h3; cases h3
theorem wide (A : Option Addr) (len cap : Nat) (l : List Nat) (a m : Int) (w : World) (w0 : BySlice w A len cap l) (c0 : cap ≤ 140737488351232) (w1 : (Lit.int .i64 a).wf = true) (w2 : (Lit.int .u32 m).wf = true) :
    Calls Try.prog 8 #[.slice A len cap, .int .i64 a, .int .u32 m] w fun e w' => e = .returned (.bool true) ∧ Below w.heap.size w w' := by
  obtain ⟨m, rfl, hm⟩ := u32_nat w2
  obtain ⟨rfl, h1, h2, h3, hA⟩ := w0
  have D1 := Turn_any A cap _ l a m 32 w h3 hA (Nat.le_refl _) (by omega) hm (by decide)
  unfold TurnA at D1
  have hRT := sum_turn h3.1 a m
  have HR := Lib.hid h3
  have D2 := fun A c B w => Sum_one l A c B w
  have D3 := fun A c B w => Sum_one (turnL l a m 32) A c B w
  have hSl := sum_lt h3.1
  have hSq := sum_lt (turn_bytes h3.1 a m 32)
  obtain ⟨Q, hQ⟩ : ∃ Q, turnL l a m 32 = Q := ⟨_, rfl⟩
  obtain ⟨t, ht⟩ : ∃ t, turnB l a m 32 = t := ⟨_, rfl⟩
  rw [hQ] at D1 D3 hRT hSq
  rw [ht] at D1 hRT
  obtain ⟨x, hx⟩ : ∃ x, sum l = x := ⟨_, rfl⟩
  obtain ⟨y, hy⟩ : ∃ y, sum Q = y := ⟨_, rfl⟩
  rw [hx] at D2 hRT
  rw [hy] at D3 hRT
  have E1 := Lib.hid D1
  have E2 := Lib.hid D2
  have E3 := Lib.hid D3
  clear D1 D2 D3 hQ ht hx hy hSl hSq w1 w2 h3 hA
  have tok : True := trivial
  cases t
  · obtain rfl : y = x := hRT.mpr rfl
    clear hRT
    go_enter Try.func8, Try.ntmps8
    go_wp2_with (first
      | (go_at_call 21; refine E1.out.mono ?_; rintro e w2 ⟨A2, c2, rfl, hl2, hc2, HH2, hb2⟩; have HR2 := Lib.hid (HR.out.below hb2.out); have HR3 := Lib.hid (HH2.out.rd.below ((Below.refl w2.heap.size w2).alloc (Nat.le_refl _) (.cells #[.slice A l.length cap] 23))); have hb3 := Lib.hid (below_alloc (o := .cells #[.slice A2 Q.length c2] 23) (below_alloc (o := .cells #[.slice A l.length cap] 23) hb2.out)))
      | (go_at_call 12; have _t := tok; ((with_reducible refine (E2.out _ _ _ _ HR2 h1 h2 hb2.out.size _ rfl).mono ?_); rintro e w3 ⟨rfl, rfl⟩); clear tok)
      | (go_at_call 12; ((with_reducible refine (E3.out _ _ w2.heap.size _ HR3 hl2 hc2 (by simp) _ (by simp)).mono ?_); rintro e w3 ⟨rfl, rfl⟩))
      | (go_at_call 14; refine (awake_below hb3).mono ?_; rintro e w4 ⟨rfl, hb6⟩))
    go_ret
    exact ⟨rfl, hb6.out⟩
  · have hne : ¬ x = y := fun e => by simpa using hRT.mp e.symm
    have hne1 : ¬ (x : Int) = (y : Int) := by omega
    have hne2 : ((x : Int) == (y : Int)) = false := by simpa using hne1
    have hne3 : ((x : Int) != (y : Int)) = true := by simpa using hne1
    clear hRT hne hne1
    go_enter Try.func8, Try.ntmps8
    go_wp2_with (first
      | (go_at_call 21; refine E1.out.mono ?_; rintro e w2 ⟨A2, c2, rfl, hl2, hc2, HH2, hb2⟩; have HR2 := Lib.hid (HR.out.below hb2.out); have HR3 := Lib.hid (HH2.out.rd.below ((Below.refl w2.heap.size w2).alloc (Nat.le_refl _) (.cells #[.slice A l.length cap] 23))); have hb3 := Lib.hid (below_alloc (o := .cells #[.slice A2 Q.length c2] 23) (below_alloc (o := .cells #[.slice A l.length cap] 23) hb2.out)))
      | (go_at_call 12; have _t := tok; ((with_reducible refine (E2.out _ _ _ _ HR2 h1 h2 hb2.out.size _ rfl).mono ?_); rintro e w3 ⟨rfl, rfl⟩); clear tok)
      | (go_at_call 12; ((with_reducible refine (E3.out _ _ w2.heap.size _ HR3 hl2 hc2 (by simp) _ (by simp)).mono ?_); rintro e w3 ⟨rfl, rfl⟩))
      | (go_at_call 14; refine (awake_below hb3).mono ?_; rintro e w4 ⟨rfl, hb6⟩))
    go_ret
    exact ⟨rfl, hb6.out⟩
end Go.Proofs.Ytlkkindahmnoiaa.Cr
