/- Contracts of the reference of stuff: Stuff, Unstuff, Has. -/
import Derived.Test.YtoaffkmjobmhaaaUnstuff
namespace Go.Proofs.Ytoaffkmjobmhaaa.St
open Go.RowKit
open Go.Proofs.Ytoaffkmjobmhaaa.Me
set_option linter.unusedVariables false

theorem RStuff_any (A : Option Addr) (cap B : Nat) (l : List Nat) (w : World) (hr : Hid (Rd w B A l)) (hB : B ≤ w.heap.size) (hc : (stuffL l).length ≤ 140737488355328) :
    Calls Try.prog 24 #[.slice A l.length cap] w (NewB w (stuffL l)) := by
  have HL := Lib.hid (stuff_lt hr.out.1)
  have HC := Lib.hid hc
  have hlb : l.length ≤ 140737488355328 := Nat.le_trans (stuff_more l) hc
  clear hc
  go_enter Try.func24, Try.ntmps24
  go_wp2
  have hown0 : Hid (Own (w.alloc (.cells #[] 5)) w.heap.size (.slice (some ⟨w.heap.size, 0, none⟩) 0 0) []) := Own.lit (Below.refl _ _)
  have hbel0 : Hid (Below w.heap.size w (w.alloc (.cells #[] 5))) := below_alloc (Below.refl _ _)
  go_loopw [3, 4] (fun v i wr => ∃ k : Nat, k ≤ l.length ∧ i = .int .i64 k ∧ Own wr w.heap.size v (stuffL (l.take k)) ∧ Below w.heap.size w wr) (fun _ i _ => l.length - (intOf i).toNat)
  case atStart => exact ⟨0, Nat.zero_le _, rfl, hown0.out, hbel0.out⟩
  case round =>
    obtain ⟨k, hk, rfl, hown, hbel⟩ := hrel
    have HO := Lib.hid hown
    have HBE := Lib.hid hbel
    clear hown hbel
    by_cases hlt : k < l.length
    · obtain ⟨b, off, rfl, hbB, hcs⟩ := (hr.out.below (HBE.out.mono hB)).2 (by omega)
      have hcell := hcs k hlt
      have hy8 := hr.out.lt hlt
      have HS := Lib.hid (stuff_snoc hlt)
      have HLN : Hid ((stuffL (l.take k)).length + (st1 (by_ l k)).length ≤ 140737488355328) := by
        have h1 := stuff_step hlt
        have h2 := HC.out
        rw [HS.out, List.length_append] at h1
        show _ + _ ≤ _
        omega
      obtain ⟨y, hy⟩ : ∃ y, by_ l k = y := ⟨_, rfl⟩
      obtain ⟨t, ht⟩ : ∃ t, stuffL (l.take k) = t := ⟨_, rfl⟩
      rw [hy] at hcell HS HLN hy8
      rw [ht] at HS HLN HO
      clear hcs hy ht
      by_cases h1 : y = 126
      · subst h1
        have HS2 : Hid (stuffL (l.take (k + 1)) = t ++ [125, 94]) := HS.out
        have HLN2 : Hid (t.length + [125, 94].length ≤ 140737488355328) := HLN.out
        clear HS HLN
        go_wp2_with (at_builtin; refine app8 rfl (.tmp 17) (.tmp 18) rfl w.heap.size (wr.heap.size + 1) _ t [125, 94] rfl (HO.out.alloc _) (below_alloc HBE.out) (Nat.le_trans HBE.out.size (by simp)) (some ⟨wr.heap.size, 0, none⟩) 2 rfl (rd_lit (r := [125, 94]) (by simp) 5) (fun h => by cases h) HLN2.out ?_; intro v2 w2 ho2 hb2 _; have HO2 := Lib.hid ho2; have HB2 := Lib.hid hb2; clear ho2 hb2)
        go_roundw
        case rel => exact ⟨k + 1, by omega, by go_num, by rw [HS2.out]; exact HO2.out, HB2.out⟩
        case measure => simp [intOf]; omega
      · have e1 : ((y : Int) == 126) = false := by simp; omega
        by_cases h2 : y = 125
        · subst h2
          have HS2 : Hid (stuffL (l.take (k + 1)) = t ++ [125, 93]) := HS.out
          have HLN2 : Hid (t.length + [125, 93].length ≤ 140737488355328) := HLN.out
          clear HS HLN
          go_wp2_with (at_builtin; refine app8 rfl (.tmp 25) (.tmp 26) rfl w.heap.size (wr.heap.size + 1) _ t [125, 93] rfl (HO.out.alloc _) (below_alloc HBE.out) (Nat.le_trans HBE.out.size (by simp)) (some ⟨wr.heap.size, 0, none⟩) 2 rfl (rd_lit (r := [125, 93]) (by simp) 5) (fun h => by cases h) HLN2.out ?_; intro v2 w2 ho2 hb2 _; have HO2 := Lib.hid ho2; have HB2 := Lib.hid hb2; clear ho2 hb2)
          go_roundw
          case rel => exact ⟨k + 1, by omega, by go_num, by rw [HS2.out]; exact HO2.out, HB2.out⟩
          case measure => simp [intOf]; omega
        · have e2 : ((y : Int) == 125) = false := by simp; omega
          have hxl : y < 256 := hy8
          rw [st1_no h1 h2] at HS HLN
          go_wp2_with (at_builtin; refine app8 rfl (.tmp 28) (.tmp 33) rfl w.heap.size (wr.heap.size + 1) _ t [y] rfl (HO.out.alloc _) (below_alloc HBE.out) (Nat.le_trans HBE.out.size (by simp)) (some ⟨wr.heap.size, 0, none⟩) 1 rfl (rd_lit (r := [y]) (by simpa using hxl) 5) (fun h => by cases h) HLN.out ?_; intro v2 w2 ho2 hb2 _; have HO2 := Lib.hid ho2; have HB2 := Lib.hid hb2; clear ho2 hb2)
          go_roundw
          case rel => exact ⟨k + 1, by omega, by go_num, by rw [HS.out]; exact HO2.out, HB2.out⟩
          case measure => simp [intOf]; omega
    · have HE : Hid (stuffL (l.take k) = stuffL l) := by show stuffL (l.take k) = stuffL l; rw [List.take_of_length_le (by omega)]
      go_wp2
      go_ret
      have h := HO.out
      rw [HE.out] at h
      exact NewB.mk h HBE.out HL.out
theorem esc_next {y : Nat} (h1 : y ≠ 94) (h2 : y ≠ 93) (hy : y < 256) : trn (y ^^^ 32) = false := by
  have := (xor_turned y hy).mp
  cases h : trn (y ^^^ 32) with
  | false => rfl
  | true => rcases this h with h | h <;> contradiction
set_option maxHeartbeats 2000000 in
theorem RUnstuff_own (A : Option Addr) (cap B : Nat) (l : List Nat) (w : World) (hr : Hid (Rd w B A l)) (hB : B ≤ w.heap.size) (hc : l.length ≤ 140737488355328) :
    Calls Try.prog 42 #[.slice A l.length cap] w (UnsO w (unstuffL l)) := by
  have HF : Hid (∀ k o e, ust (l.take k) = some (o, e) → (∀ z ∈ o, z < 256) ∧ o.length ≤ k) := fun k o e h => by
    obtain ⟨h1, _, h3⟩ := ust_facts _ o e h (take_lt hr.out.1 k)
    exact ⟨h1, Nat.le_trans h3 (by simp; omega)⟩
  have HDd : Hid (∀ k, ust (l.take k) = none → unstuffL l = none) := fun k => ust_dead
  have HUe : Hid (∀ k, ¬ k < l.length → ust (l.take k) = ust l) := fun k => ust_full
  go_enter Try.func42, Try.ntmps42
  go_wp2
  have hown0 : Hid (Own (w.alloc (.cells #[] 5)) w.heap.size (.slice (some ⟨w.heap.size, 0, none⟩) 0 0) []) := Own.lit (Below.refl _ _)
  have hbel0 : Hid (Below w.heap.size w (w.alloc (.cells #[] 5))) := below_alloc (Below.refl _ _)
  go_loopw [4, 5] (fun v i wr => ∃ (k : Nat) (o : List Nat), k ≤ l.length ∧ i = .int .i64 k ∧ ust (l.take k) = some (o, false) ∧ Own wr w.heap.size v o ∧ Below w.heap.size w wr) (fun _ i _ => l.length - (intOf i).toNat)
  case atStart => exact ⟨0, [], Nat.zero_le _, rfl, rfl, hown0.out, hbel0.out⟩
  case round =>
    obtain ⟨k, o, hk, rfl, hst, hown, hbel⟩ := hrel
    have HO := Lib.hid hown
    have HBE := Lib.hid hbel
    have HST := Lib.hid hst
    obtain ⟨hob, hol⟩ := HF.out k o _ hst
    have HOB := Lib.hid hob
    clear hown hbel hst hob
    by_cases hlt : k < l.length
    · obtain ⟨b, off, rfl, hbB, hcs⟩ := (hr.out.below (HBE.out.mono hB)).2 (by omega)
      have hcell := hcs k hlt
      have hy8 := hr.out.lt hlt
      have HS := Lib.hid (ust_snoc hlt)
      obtain ⟨y, hy⟩ : ∃ y, by_ l k = y := ⟨_, rfl⟩
      rw [hy] at hcell HS hy8
      have HS2 : Hid (ust (l.take (k + 1)) = ustep (some (o, false)) y) := by show _ = _; rw [HS.out, HST.out]
      clear hy HS
      by_cases h1 : y = 126
      · subst h1
        have HN : Hid (unstuffL l = none) := HDd.out (k + 1) (by rw [HS2.out, step_flag])
        clear HS2 hcs
        go_wp2
        go_ret2
        exact UnsO.no HN.out HBE.out
      · have e1 : ((y : Int) == 126) = false := by simp; omega
        by_cases h2 : y = 125
        · subst h2
          have HN : Hid (ust (l.take (k + 1)) = some (o, true)) := by show _ = _; rw [HS2.out, step_open]
          have hwr : IntKind.i64.wrap ((k : Int) + 1) = (k : Int) + 1 := IntWalk.i64_in _ (by omega)
          clear HS2
          by_cases hlt2 : k + 1 < l.length
          · have hcell2 := hcs (k + 1) hlt2
            have hz8 := hr.out.lt hlt2
            have HS3 := Lib.hid (ust_snoc hlt2)
            obtain ⟨z, hz⟩ : ∃ z, by_ l (k + 1) = z := ⟨_, rfl⟩
            rw [hz] at hcell2 HS3 hz8
            have HS4 : Hid (ust (l.take (k + 1 + 1)) = ustep (some (o, true)) z) := by show _ = _; rw [HS3.out, HN.out]
            clear hcs hz HS3
            by_cases hz3 : z = 94 ∨ z = 93
            · have HX := Lib.hid (xor8 (a := z) (b := 32) hz8 (by decide))
              have hxl := xor_lt hz8
              have HN4 : Hid (ust (l.take (k + 1 + 1)) = some (o ++ [z ^^^ 32], false)) := by show _ = _; rw [HS4.out, step_esc_ok ((xor_turned z hz8).mpr hz3)]
              obtain ⟨x, hx⟩ : ∃ x, z ^^^ 32 = x := ⟨_, rfl⟩
              rw [hx] at HX HN4 hxl
              clear hx HS4
              rcases hz3 with rfl | rfl
              all_goals
                go_wp2_with (at_builtin; refine app8 rfl (.tmp 51) (.tmp 58) rfl w.heap.size (wr.heap.size + 1) _ o [x] rfl (HO.out.alloc _) (below_alloc HBE.out) (Nat.le_trans HBE.out.size (by simp)) (some ⟨wr.heap.size, 0, none⟩) 1 rfl (by have := rd_lit (w := wr) (r := [x]) (by simpa using hxl) 5; simp only [List.map_cons, List.map_nil, byV, ← HX.out] at this; exact this) (fun h => by cases h) (by simp; omega) ?_; intro v3 w3 ho3 hb3 _; have HO3 := Lib.hid ho3; have HB3 := Lib.hid hb3; clear ho3 hb3)
                go_roundw
                case rel => exact ⟨k + 1 + 1, o ++ [x], by omega, by go_num, HN4.out, HO3.out, HB3.out⟩
                case measure => simp [intOf]; omega
            · obtain ⟨g1, g2⟩ : z ≠ 94 ∧ z ≠ 93 := by omega
              have f1 : ((z : Int) == 94) = false := by simp; omega
              have f2 : ((z : Int) == 93) = false := by simp; omega
              have f3 : ((z : Int) != 94) = true := by simp; omega
              have f4 : ((z : Int) != 93) = true := by simp; omega
              have HN4 : Hid (unstuffL l = none) := HDd.out (k + 1 + 1) (by rw [HS4.out, step_esc_no (esc_next g1 g2 hz8)])
              clear HS4
              go_wp2
              go_ret2
              exact UnsO.no HN4.out HBE.out
          · have hke : k + 1 = l.length := by omega
            have HN4 : Hid (unstuffL l = none) := by
              show unstuffL l = none
              refine unstuff_open (o := o) ?_
              rw [← HN.out, HUe.out _ hlt2]
            clear hcs
            go_wp2
            go_ret2
            exact UnsO.no HN4.out HBE.out
        · have e2 : ((y : Int) == 125) = false := by simp; omega
          have HN : Hid (ust (l.take (k + 1)) = some (o ++ [y], false)) := by show _ = _; rw [HS2.out, step_plain h1 h2]
          have hxl : y < 256 := hy8
          clear HS2 h1 h2 hcs
          go_wp2_with (at_builtin; refine app8 rfl (.tmp 23) (.tmp 28) rfl w.heap.size (wr.heap.size + 1) _ o [y] rfl (HO.out.alloc _) (below_alloc HBE.out) (Nat.le_trans HBE.out.size (by simp)) (some ⟨wr.heap.size, 0, none⟩) 1 rfl (rd_lit (r := [y]) (by simpa using hxl) 5) (fun h => by cases h) (by simp; omega) ?_; intro v3 w3 ho3 hb3 _; have HO3 := Lib.hid ho3; have HB3 := Lib.hid hb3; clear ho3 hb3)
          go_roundw
          case rel => exact ⟨k + 1, o ++ [y], by omega, by go_num, HN.out, HO3.out, HB3.out⟩
          case measure => simp [intOf]; omega
    · have HE : Hid (ust l = some (o, false)) := by show ust l = _; rw [← HUe.out k hlt, HST.out]
      have HN := Lib.hid (unstuff_some HE.out)
      go_wp2
      go_ret2
      exact UnsO.ok HN.out HO.out HBE.out HOB.out
theorem RUnstuff_any (A : Option Addr) (cap B : Nat) (l : List Nat) (w : World) (hr : Hid (Rd w B A l)) (hB : B ≤ w.heap.size) (hc : l.length ≤ 140737488355328) :
    Calls Try.prog 42 #[.slice A l.length cap] w (UnsP w (unstuffL l)) :=
  (RUnstuff_own A cap B l w hr hB hc).mono fun _ _ h => h.to
end Go.Proofs.Ytoaffkmjobmhaaa.St
