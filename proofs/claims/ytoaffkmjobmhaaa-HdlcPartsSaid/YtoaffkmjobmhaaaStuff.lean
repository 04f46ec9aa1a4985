/- Contracts of stuff's Stuff, Size and Unstuff, of the program and of its reference. -/
import Derived.Test.YtoaffkmjobmhaaaStMath
namespace Go.Proofs.Ytoaffkmjobmhaaa.St
open Go.RowKit
open Go.Proofs.Ytoaffkmjobmhaaa.Me
set_option linter.unusedVariables false

theorem trn_any (b : Nat) (w : World) : Calls Try.prog 35 #[.int .u8 (b : Int)] w fun e w' => e = .returned (.bool (trn b)) ∧ w = w' := by
  by_cases h1 : b = 126
  · subst h1
    go_enter Try.func35, Try.ntmps35
    go_wp2
    go_ret
    exact ⟨rfl, rfl⟩
  · have e1 : ((b : Int) == 126) = false := by simp; omega
    by_cases h2 : b = 125
    · subst h2
      go_enter Try.func35, Try.ntmps35
      go_wp2
      go_ret
      exact ⟨rfl, rfl⟩
    · have e2 : ((b : Int) == 125) = false := by simp; omega
      have HT := Lib.hid (trn_no h1 h2)
      go_enter Try.func35, Try.ntmps35
      go_wp2
      go_ret
      exact ⟨ret_b HT.out.symm, rfl⟩
theorem Size_any (A : Option Addr) (cap B : Nat) (l : List Nat) (w : World) (hr : Hid (Rd w B A l)) (hc : l.length ≤ 4611686018427387903) :
    Calls Try.prog 31 #[.slice A l.length cap] w fun e w' => e = .returned (.int .i64 ((stuffL l).length : Int)) ∧ w = w' := by
  have HT : Hid (∀ k, ¬ k < l.length → tnL (l.take k) = tnL l) := by
    intro k hk; rw [List.take_of_length_le (by omega)]
  have HL := Lib.hid (stuff_length l)
  have HLE : Hid (∀ k, tnL (l.take k) ≤ l.length) := fun k => Nat.le_trans (tn_le _) (by simp; omega)
  go_enter Try.func31, Try.ntmps31
  go_wp2
  go_loop [3, 10] (fun r i => ∃ k : Nat, k ≤ l.length ∧ i = .int .i64 k ∧ r = .int .i64 ((l.length + tnL (l.take k) : Nat) : Int)) (fun _ i => l.length - (intOf i).toNat)
  case atStart => exact ⟨0, Nat.zero_le _, rfl, rfl⟩
  case round =>
    obtain ⟨k, hk, rfl, rfl⟩ := hrel
    by_cases hlt : k < l.length
    · obtain ⟨b, off, rfl, hbB, hc2⟩ := hr.out.2 (by omega)
      have hcell := hc2 k hlt
      have HS := Lib.hid (tn_snoc hlt)
      have hle := HLE.out k
      obtain ⟨y, hy⟩ : ∃ y, by_ l k = y := ⟨_, rfl⟩
      obtain ⟨t, ht⟩ : ∃ t, tnL (l.take k) = t := ⟨_, rfl⟩
      rw [hy] at hcell HS
      rw [ht] at HS hle ⊢
      clear hc2 hy ht
      cases htr : trn y with
      | true =>
        have D := trn_any y
        rw [htr] at D
        have HTR := Lib.hid htr
        clear htr
        go_wp2_with (go_at_call 35; refine (D _).mono ?_; rintro e w' ⟨rfl, rfl⟩)
        go_round
        case rel => exact ⟨k + 1, by omega, by go_num, by rw [HS.out, HTR.out]; go_num⟩
        case measure => simp [intOf]; omega
      | false =>
        have D := trn_any y
        rw [htr] at D
        have HTR := Lib.hid htr
        clear htr
        go_wp2_with (go_at_call 35; refine (D _).mono ?_; rintro e w' ⟨rfl, rfl⟩)
        go_round
        case rel => exact ⟨k + 1, by omega, by go_num, by rw [HS.out, HTR.out]; rfl⟩
        case measure => simp [intOf]; omega
    · have HK := Lib.hid (HT.out k hlt)
      go_wp2
      go_ret
      exact ⟨ret_i (by rw [HK.out, HL.out]; omega), rfl⟩
theorem st1_yes {b : Nat} (h : b = 126 ∨ b = 125) : st1 b = [125, b ^^^ 32] := if_pos (trn_yes h)
theorem st1_no {b : Nat} (h1 : b ≠ 126) (h2 : b ≠ 125) : st1 b = [b] := by unfold st1; rw [trn_no h1 h2]; rfl
theorem stuff_step {l : List Nat} {k : Nat} (h : k < l.length) : (stuffL (l.take (k + 1))).length ≤ (stuffL l).length := by
  conv => rhs; rw [← List.take_append_drop (k + 1) l, stuff_append, List.length_append]
  omega
theorem Stuff_any (A : Option Addr) (cap B : Nat) (l : List Nat) (w : World) (hr : Hid (Rd w B A l)) (hB : B ≤ w.heap.size) (hc : (stuffL l).length ≤ 140737488355328) :
    Calls Try.prog 22 #[.slice A l.length cap] w (NewB w (stuffL l)) := by
  obtain ⟨i0, hi, hz0, hz1, hz2⟩ := info_parts info8
  have HL := Lib.hid (stuff_lt hr.out.1)
  have HC := Lib.hid hc
  have hm := stuff_more l
  have hlb : l.length ≤ 140737488355328 := by omega
  have D := Size_any A cap B l w hr (by omega)
  obtain ⟨n, hn⟩ : ∃ n, (stuffL l).length = n := ⟨_, rfl⟩
  rw [hn] at D hc
  have HD := Lib.hid D
  clear D hn hm
  go_enter Try.func22, Try.ntmps22
  go_wp2_with (first
    | (go_at_call 31; refine HD.out.mono ?_; rintro e w' ⟨rfl, rfl⟩)
    | (at_make; refine wpList_make_own _ rfl (.const (.int .i64 0)) (.tmp 7) 22 rfl w.heap.size 5 i0 (.int .u8 0) 1 Try.underlying22 hi hz0 hz1 .i64 .i64 _ n rfl rfl (by omega) (by rw [hz2]; omega) (by unfold maxLen; omega) (Nat.le_refl _) ?_; intro wa howna hga))
  have hown0 : Hid (Own wa w.heap.size (.slice (some ⟨w.heap.size, 0, none⟩) 0 n) []) := howna
  have hbel0 : Hid (Below w.heap.size w wa) := (Below.refl _ w).grown hga (Nat.le_refl _) (by simp)
  clear howna hga
  go_loopw [3, 11] (fun v i wr => ∃ k : Nat, k ≤ l.length ∧ i = .int .i64 k ∧ Own wr w.heap.size v (stuffL (l.take k)) ∧ Below w.heap.size w wr) (fun _ i _ => l.length - (intOf i).toNat)
  case atStart => exact ⟨0, Nat.zero_le _, rfl, hown0.out, hbel0.out⟩
  case round =>
    obtain ⟨k, hk, rfl, hown, hbel⟩ := hrel
    have HO := Lib.hid hown
    have HBE := Lib.hid hbel
    clear hown hbel
    by_cases hlt : k < l.length
    · obtain ⟨b, off, rfl, hbB, hcs⟩ := (hr.out.below (HBE.out.mono hB)).2 (by omega)
      have hcell := hcs k hlt
      have hy8 := hr.out.lt hlt
      have HS := Lib.hid (stuff_snoc hlt)
      have HLN : Hid ((stuffL (l.take k)).length + (st1 (by_ l k)).length ≤ 140737488355328) := by
        have h1 := stuff_step hlt
        have h2 := HC.out
        rw [HS.out, List.length_append] at h1
        show _ + _ ≤ _
        omega
      obtain ⟨y, hy⟩ : ∃ y, by_ l k = y := ⟨_, rfl⟩
      obtain ⟨t, ht⟩ : ∃ t, stuffL (l.take k) = t := ⟨_, rfl⟩
      rw [hy] at hcell HS HLN hy8
      rw [ht] at HS HLN HO
      clear hcs hy ht
      by_cases h12 : y = 126 ∨ y = 125
      · have HX := Lib.hid (xor8 (a := y) (b := 32) hy8 (by decide))
        have hxl := xor_lt hy8
        rw [st1_yes h12] at HS HLN
        obtain ⟨x, hx⟩ : ∃ x, y ^^^ 32 = x := ⟨_, rfl⟩
        rw [hx] at HS HLN HX hxl
        have HLN2 : Hid (t.length + 2 ≤ 140737488355328) := HLN.out
        clear hx HLN
        have hfin : Hid (t ++ [125] ++ [x] = stuffL (l.take (k + 1))) := by show _ = _; rw [HS.out]; simp
        rcases h12 with rfl | rfl
        all_goals
          go_wp2_with (first
            | (at_builtin; refine app8 rfl (.tmp 19) (.tmp 20) rfl w.heap.size (wr.heap.size + 1) _ t [125] rfl (HO.out.alloc _) (below_alloc HBE.out) (Nat.le_trans HBE.out.size (by simp)) (some ⟨wr.heap.size, 0, none⟩) 1 rfl (rd_lit (r := [125]) (by simp) 5) (fun h => by cases h) (by have := HLN2.out; simp; omega) ?_; intro v2 w2 ho2 hb2 _; have HO2 := Lib.hid ho2; have HB2 := Lib.hid hb2; clear ho2 hb2)
            | (at_builtin; refine app8 rfl (.tmp 24) (.tmp 26) rfl w.heap.size (w2.heap.size + 1) _ (t ++ [125]) [x] rfl (HO2.out.alloc _) (below_alloc HB2.out) (Nat.le_trans HB2.out.size (by simp)) (some ⟨w2.heap.size, 0, none⟩) 1 rfl (by have := rd_lit (w := w2) (r := [x]) (by simpa using hxl) 5; simp only [List.map_cons, List.map_nil, byV, ← HX.out] at this; exact this) (fun h => by cases h) (by have := HLN2.out; simp; omega) ?_; intro v3 w3 ho3 hb3 _; have HO3 := Lib.hid ho3; have HB3 := Lib.hid hb3; clear ho3 hb3))
          go_roundw
          case rel => exact ⟨k + 1, by omega, by go_num, by rw [← hfin.out]; exact HO3.out, HB3.out⟩
          case measure => simp [intOf]; omega
      · obtain ⟨h1, h2⟩ : y ≠ 126 ∧ y ≠ 125 := by omega
        have e1 : ((y : Int) == 126) = false := by simp; omega
        have e2 : ((y : Int) == 125) = false := by simp; omega
        have hxl : y < 256 := hy8
        rw [st1_no h1 h2] at HS HLN
        go_wp2_with (at_builtin; refine app8 rfl (.tmp 24) (.tmp 26) rfl w.heap.size (wr.heap.size + 1) _ t [y] rfl (HO.out.alloc _) (below_alloc HBE.out) (Nat.le_trans HBE.out.size (by simp)) (some ⟨wr.heap.size, 0, none⟩) 1 rfl (rd_lit (r := [y]) (by simpa using hxl) 5) (fun h => by cases h) HLN.out ?_; intro v2 w2 ho2 hb2 _; have HO2 := Lib.hid ho2; have HB2 := Lib.hid hb2; clear ho2 hb2)
        go_roundw
        case rel => exact ⟨k + 1, by omega, by go_num, by rw [HS.out]; exact HO2.out, HB2.out⟩
        case measure => simp [intOf]; omega
    · have HE : Hid (stuffL (l.take k) = stuffL l) := by show stuffL (l.take k) = stuffL l; rw [List.take_of_length_le (by omega)]
      go_wp2
      go_ret
      have h := HO.out
      rw [HE.out] at h
      exact NewB.mk h HBE.out HL.out
end Go.Proofs.Ytoaffkmjobmhaaa.St
