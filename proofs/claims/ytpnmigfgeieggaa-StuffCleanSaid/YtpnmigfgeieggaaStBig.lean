/- Contracts of stuff's Stuff and Unstuff for bytes of any size that a slice may have: they fit the room that was made. -/
import Derived.Test.YtpnmigfgeieggaaStWoke
namespace Go.Proofs.Ytpnmigfgeieggaa.St
open Go.RowKit
open Go.Proofs.Ytpnmigfgeieggaa.Me
set_option linter.unusedVariables false

/-- Bytes appended where there is room. -/
theorem app8f {w0 w : World} {ops : Array Oper} {rest : List Oper} {o : Oper} {a : Act} {Q : Exit → Act → World → Prop} (hgd : o.guard = none) (s x : Operand)
    (ho : o.op = .call { callee := .builtin .append, args := #[s, x], argTypes := #[22, 22] })
    (B Bx g k cap : Nat) (l r : List Nat) (hk : k = l.length) (hs : a.eval s = .slice (some ⟨g, 0, none⟩) k cap) (hown : Own w B (.slice (some ⟨g, 0, none⟩) k cap) l) (hb : Below B w0 w) (hB : B ≤ w.heap.size)
    (A : Option Addr) (c : Nat) (hx : a.eval x = .slice A r.length c) (hr : Rd w Bx A r) (hA : A = none → r.length = 0 ∧ c = 0) (hfit : k + r.length ≤ cap)
    (h : ∀ w', Own w' B (.slice (some ⟨g, 0, none⟩) (k + r.length) cap) (l ++ r) → Below B w0 w' → wpList Try.prog ops Q rest (a.put o.dst (.slice (some ⟨g, 0, none⟩) (k + r.length) cap)) w') : wpList Try.prog ops Q (o :: rest) a w := by
  obtain ⟨i0, hi, hz0, hz1, hz2⟩ := info_parts info8
  subst hk
  refine wpList_append_fits_any w hgd s x 22 ho B 5 i0 1 Try.underlying22 hi hz1 g l.length cap (l.map byV) hs hown A r.length c (r.map byV) hx (len_map r) hA (fun ad e => rd_cells (by rw [← e]; exact hr) (Below.refl _ _)) (one_cells _) hfit ?_
  intro w' h1 h2
  refine h w' ?_ (hb.grown h2 hB fun b e => by cases e; exact (hown.lt g rfl).1)
  unfold Own
  rw [List.length_append, List.map_append]; exact h1
set_option maxHeartbeats 1000000 in
theorem Stuff_big (A : Option Addr) (cap B : Nat) (l : List Nat) (w : World) (hr : Hid (Rd w B A l)) (hB : B ≤ w.heap.size) (hc : (stuffL l).length ≤ 281474976710656) :
    Calls Try.prog 10 #[.slice A l.length cap] w (NewB w (stuffL l)) := by
  obtain ⟨i0, hi, hz0, hz1, hz2⟩ := info_parts info8
  have HL := Lib.hid (stuff_lt hr.out.1)
  have HC := Lib.hid hc
  have hm := stuff_more l
  have hlb : l.length ≤ 281474976710656 := by omega
  have D := Size_any A cap B l w hr (by omega)
  have HTE : Hid (∀ k, (stuffL (l.take k)).length ≤ (stuffL l).length) := fun k => by
    show _ ≤ _
    conv => rhs; rw [← List.take_append_drop k l, stuff_append, List.length_append]
    omega
  obtain ⟨n, hn⟩ : ∃ n, (stuffL l).length = n := ⟨_, rfl⟩
  have HNn := Lib.hid hn
  rw [hn] at D hc
  have HD := Lib.hid D
  clear D hn hm
  go_enter Try.func10, Try.ntmps10
  go_wp2_with (first
    | (go_at_call 12; refine HD.out.mono ?_; rintro e w' ⟨rfl, rfl⟩)
    | (at_make; refine wpList_make_own _ rfl (.const (.int .i64 0)) (.tmp 7) 22 rfl w.heap.size 5 i0 (.int .u8 0) 1 Try.underlying22 hi hz0 hz1 .i64 .i64 _ n rfl rfl (by omega) (by rw [hz2]; omega) (by unfold maxLen; omega) (Nat.le_refl _) ?_; intro wa howna hga))
  have hown0 : Hid (Own wa w.heap.size (.slice (some ⟨w.heap.size, 0, none⟩) 0 n) []) := howna
  have hbel0 : Hid (Below w.heap.size w wa) := (Below.refl _ w).grown hga (Nat.le_refl _) (by simp)
  clear howna hga
  go_loopw [3, 11] (fun v i wr => ∃ k j : Nat, k ≤ l.length ∧ i = .int .i64 k ∧ j = (stuffL (l.take k)).length ∧ v = .slice (some ⟨w.heap.size, 0, none⟩) j n ∧ Own wr w.heap.size (.slice (some ⟨w.heap.size, 0, none⟩) j n) (stuffL (l.take k)) ∧ Below w.heap.size w wr) (fun _ i _ => l.length - (intOf i).toNat)
  case atStart => exact ⟨0, 0, Nat.zero_le _, rfl, rfl, rfl, hown0.out, hbel0.out⟩
  case round =>
    obtain ⟨k, j, hk, rfl, hj, rfl, hown, hbel⟩ := hrel
    have HO := Lib.hid hown
    have HBE := Lib.hid hbel
    clear hown hbel
    by_cases hlt : k < l.length
    · obtain ⟨b, off, rfl, hbB, hcs⟩ := (hr.out.below (HBE.out.mono hB)).2 (by omega)
      have hcell := hcs k hlt
      have hy8 := hr.out.lt hlt
      have HS := Lib.hid (stuff_snoc hlt)
      have HLN : Hid (j + (st1 (by_ l k)).length ≤ n) := by
        have h1 := HTE.out (k + 1)
        rw [HS.out, List.length_append, HNn.out, ← hj] at h1
        exact h1
      obtain ⟨y, hy⟩ : ∃ y, by_ l k = y := ⟨_, rfl⟩
      obtain ⟨t, ht⟩ : ∃ t, stuffL (l.take k) = t := ⟨_, rfl⟩
      rw [hy] at hcell HS HLN hy8
      rw [ht] at HS HO hj
      have HJ := Lib.hid hj
      clear hcs hy ht hj
      by_cases h12 : y = 126 ∨ y = 125
      · have HX := Lib.hid (xor8 (a := y) (b := 32) hy8 (by decide))
        have hxl := xor_lt hy8
        rw [st1_yes h12] at HS HLN
        obtain ⟨x, hx⟩ : ∃ x, y ^^^ 32 = x := ⟨_, rfl⟩
        rw [hx] at HS HLN HX hxl
        have HLN2 : Hid (j + 2 ≤ n) := HLN.out
        clear hx HLN
        have hfin : Hid (t ++ [125] ++ [x] = stuffL (l.take (k + 1))) := by show _ = _; rw [HS.out]; simp
        have HJ1 : Hid (j + 1 = (t ++ [125]).length) := by show _ = _; rw [HJ.out]; simp
        rcases h12 with rfl | rfl
        all_goals
          go_wp2_with (first
            | (at_builtin; refine app8f rfl (.tmp 19) (.tmp 20) rfl w.heap.size (wr.heap.size + 1) w.heap.size j n t [125] HJ.out rfl (HO.out.alloc _) (below_alloc HBE.out) (Nat.le_trans HBE.out.size (by simp)) (some ⟨wr.heap.size, 0, none⟩) 1 rfl (rd_lit (r := [125]) (by simp) 5) (fun h => by cases h) (by have := HLN2.out; simp; omega) ?_; intro w2 ho2 hb2; have HO2 := Lib.hid ho2; have HB2 := Lib.hid hb2; clear ho2 hb2)
            | (at_builtin; refine app8f rfl (.tmp 24) (.tmp 26) rfl w.heap.size (w2.heap.size + 1) w.heap.size (j + 1) n (t ++ [125]) [x] HJ1.out rfl (HO2.out.alloc _) (below_alloc HB2.out) (Nat.le_trans HB2.out.size (by simp)) (some ⟨w2.heap.size, 0, none⟩) 1 rfl (by have := rd_lit (w := w2) (r := [x]) (by simpa using hxl) 5; simp only [List.map_cons, List.map_nil, byV, ← HX.out] at this; exact this) (fun h => by cases h) (by have := HLN2.out; simp; omega) ?_; intro w3 ho3 hb3; have HO3 := Lib.hid ho3; have HB3 := Lib.hid hb3; clear ho3 hb3))
          go_roundw
          case rel => exact ⟨k + 1, j + 1 + 1, by omega, by go_num, by rw [← hfin.out, HJ.out]; simp, rfl, by rw [← hfin.out]; exact HO3.out, HB3.out⟩
          case measure => simp [intOf]; omega
      · obtain ⟨h1, h2⟩ : y ≠ 126 ∧ y ≠ 125 := by omega
        have e1 : ((y : Int) == 126) = false := by simp; omega
        have e2 : ((y : Int) == 125) = false := by simp; omega
        have hxl : y < 256 := hy8
        rw [st1_no h1 h2] at HS HLN
        go_wp2_with (at_builtin; refine app8f rfl (.tmp 24) (.tmp 26) rfl w.heap.size (wr.heap.size + 1) w.heap.size j n t [y] HJ.out rfl (HO.out.alloc _) (below_alloc HBE.out) (Nat.le_trans HBE.out.size (by simp)) (some ⟨wr.heap.size, 0, none⟩) 1 rfl (rd_lit (r := [y]) (by simpa using hxl) 5) (fun h => by cases h) HLN.out ?_; intro w2 ho2 hb2; have HO2 := Lib.hid ho2; have HB2 := Lib.hid hb2; clear ho2 hb2)
        go_roundw
        case rel => exact ⟨k + 1, j + 1, by omega, by go_num, by rw [HS.out, HJ.out]; simp, rfl, by rw [HS.out]; exact HO2.out, HB2.out⟩
        case measure => simp [intOf]; omega
    · have HE : Hid (stuffL (l.take k) = stuffL l) := by show stuffL (l.take k) = stuffL l; rw [List.take_of_length_le (by omega)]
      clear hj
      go_wp2
      go_ret
      have h := HO.out
      rw [HE.out] at h
      exact NewB.mk h HBE.out HL.out
set_option maxHeartbeats 1000000 in
theorem Unstuff_big (A : Option Addr) (cap B : Nat) (l : List Nat) (w : World) (hr : Hid (Rd w B A l)) (hB : B ≤ w.heap.size) (hc : l.length ≤ 281474976710656) :
    Calls Try.prog 14 #[.slice A l.length cap] w (UnsP w (unstuffL l)) := by
  obtain ⟨i0, hi, hz0, hz1, hz2⟩ := info_parts info8
  have HF : Hid (∀ k o e, ust (l.take k) = some (o, e) → (∀ z ∈ o, z < 256) ∧ o.length ≤ k) := fun k o e h => by
    obtain ⟨h1, _, h3⟩ := ust_facts _ o e h (take_lt hr.out.1 k)
    exact ⟨h1, Nat.le_trans h3 (by simp; omega)⟩
  have HDd : Hid (∀ k, ust (l.take k) = none → unstuffL l = none) := fun k => ust_dead
  have HUe : Hid (∀ k, ¬ k < l.length → ust (l.take k) = ust l) := fun k => ust_full
  go_enter Try.func14, Try.ntmps14
  go_wp2_with (at_make; refine wpList_make_own _ rfl (.const (.int .i64 0)) (.tmp 9) 22 rfl w.heap.size 5 i0 (.int .u8 0) 1 Try.underlying22 hi hz0 hz1 .i64 .i64 _ l.length rfl rfl (by omega) (by rw [hz2]; omega) (by unfold maxLen; omega) (Nat.le_refl _) ?_; intro wa howna hga)
  have hown0 : Hid (Own wa w.heap.size (.slice (some ⟨w.heap.size, 0, none⟩) 0 l.length) []) := howna
  have hbel0 : Hid (Below w.heap.size w wa) := (Below.refl _ w).grown hga (Nat.le_refl _) (by simp)
  clear howna hga
  go_loopw [4, 5, 13] (fun v s i wr => ∃ (k : Nat) (o : List Nat) (e : Bool), k ≤ l.length ∧ i = .int .i64 k ∧ s = .bool e ∧ ust (l.take k) = some (o, e) ∧ v = .slice (some ⟨w.heap.size, 0, none⟩) o.length l.length ∧ Own wr w.heap.size (.slice (some ⟨w.heap.size, 0, none⟩) o.length l.length) o ∧ Below w.heap.size w wr) (fun _ _ i _ => l.length - (intOf i).toNat)
  case atStart => exact ⟨0, [], false, Nat.zero_le _, rfl, rfl, rfl, rfl, hown0.out, hbel0.out⟩
  case round =>
    obtain ⟨k, o, e, hk, rfl, rfl, hst, rfl, hown, hbel⟩ := hrel
    have HO := Lib.hid hown
    have HBE := Lib.hid hbel
    have HST := Lib.hid hst
    obtain ⟨hob, hol⟩ := HF.out k o e hst
    have HOB := Lib.hid hob
    clear hown hbel hst hob
    by_cases hlt : k < l.length
    · obtain ⟨b, off, rfl, hbB, hcs⟩ := (hr.out.below (HBE.out.mono hB)).2 (by omega)
      have hcell := hcs k hlt
      have hy8 := hr.out.lt hlt
      have HS := Lib.hid (ust_snoc hlt)
      obtain ⟨y, hy⟩ : ∃ y, by_ l k = y := ⟨_, rfl⟩
      rw [hy] at hcell HS hy8
      have HS2 : Hid (ust (l.take (k + 1)) = ustep (some (o, e)) y) := by show _ = _; rw [HS.out, HST.out]
      clear hcs hy HS
      cases e with
      | true =>
        have HX := Lib.hid (xor8 (a := y) (b := 32) hy8 (by decide))
        have hxl := xor_lt hy8
        cases ht : trn (y ^^^ 32) with
        | true =>
          have HN : Hid (ust (l.take (k + 1)) = some (o ++ [y ^^^ 32], false)) := by show _ = _; rw [HS2.out, step_esc_ok ht]
          have D := trn_any (y ^^^ 32)
          rw [ht, ← HX.out] at D
          obtain ⟨x, hx⟩ : ∃ x, y ^^^ 32 = x := ⟨_, rfl⟩
          rw [hx] at HX HN hxl
          clear ht hx HS2
          go_wp2_with (first
            | (go_at_call 19; refine (D _).mono ?_; rintro e w' ⟨rfl, rfl⟩)
            | (at_builtin; refine app8f rfl (.tmp 31) (.tmp 33) rfl w.heap.size (wr.heap.size + 1) w.heap.size o.length l.length o [x] rfl rfl (HO.out.alloc _) (below_alloc HBE.out) (Nat.le_trans HBE.out.size (by simp)) (some ⟨wr.heap.size, 0, none⟩) 1 rfl (by have := rd_lit (w := wr) (r := [x]) (by simpa using hxl) 5; simp only [List.map_cons, List.map_nil, byV, ← HX.out] at this; exact this) (fun h => by cases h) (by simp; omega) ?_; intro w3 ho3 hb3; have HO3 := Lib.hid ho3; have HB3 := Lib.hid hb3; clear ho3 hb3))
          go_roundw
          case rel => exact ⟨k + 1, o ++ [x], false, by omega, by go_num, rfl, HN.out, by simp, by simpa using HO3.out, HB3.out⟩
          case measure => simp [intOf]; omega
        | false =>
          have HN : Hid (unstuffL l = none) := HDd.out (k + 1) (by rw [HS2.out, step_esc_no ht])
          have D := trn_any (y ^^^ 32)
          rw [ht, ← HX.out] at D
          clear ht HS2
          go_wp2_with (go_at_call 19; refine (D _).mono ?_; rintro e w' ⟨rfl, rfl⟩)
          go_ret2
          exact UnsP.no HN.out HBE.out
      | false =>
        by_cases h1 : y = 126
        · subst h1
          have HN : Hid (unstuffL l = none) := HDd.out (k + 1) (by rw [HS2.out, step_flag])
          have D := trn_any 126
          rw [show trn 126 = true from rfl] at D
          clear HS2
          go_wp2_with (go_at_call 19; refine (D _).mono ?_; rintro e w' ⟨rfl, rfl⟩)
          go_ret2
          exact UnsP.no HN.out HBE.out
        · by_cases h2 : y = 125
          · subst h2
            have HN : Hid (ust (l.take (k + 1)) = some (o, true)) := by show _ = _; rw [HS2.out, step_open]
            have D := trn_any 125
            rw [show trn 125 = true from rfl] at D
            clear HS2
            go_wp2_with (go_at_call 19; refine (D _).mono ?_; rintro e w' ⟨rfl, rfl⟩)
            go_roundw
            case rel => exact ⟨k + 1, o, true, by omega, by go_num, rfl, HN.out, rfl, HO.out, HBE.out⟩
            case measure => simp [intOf]; omega
          · have HN : Hid (ust (l.take (k + 1)) = some (o ++ [y], false)) := by show _ = _; rw [HS2.out, step_plain h1 h2]
            have D := trn_any y
            rw [trn_no h1 h2] at D
            have hxl : y < 256 := hy8
            clear HS2 h1 h2
            go_wp2_with (first
              | (go_at_call 19; refine (D _).mono ?_; rintro e w' ⟨rfl, rfl⟩)
              | (at_builtin; refine app8f rfl (.tmp 31) (.tmp 33) rfl w.heap.size (wr.heap.size + 1) w.heap.size o.length l.length o [y] rfl rfl (HO.out.alloc _) (below_alloc HBE.out) (Nat.le_trans HBE.out.size (by simp)) (some ⟨wr.heap.size, 0, none⟩) 1 rfl (rd_lit (r := [y]) (by simpa using hxl) 5) (fun h => by cases h) (by simp; omega) ?_; intro w3 ho3 hb3; have HO3 := Lib.hid ho3; have HB3 := Lib.hid hb3; clear ho3 hb3))
            go_roundw
            case rel => exact ⟨k + 1, o ++ [y], false, by omega, by go_num, rfl, HN.out, by simp, by simpa using HO3.out, HB3.out⟩
            case measure => simp [intOf]; omega
    · have HE : Hid (ust l = some (o, e)) := by show ust l = _; rw [← HUe.out k hlt, HST.out]
      cases e with
      | true =>
        have HN := Lib.hid (unstuff_open HE.out)
        go_wp2
        go_ret2
        exact UnsP.no HN.out HBE.out
      | false =>
        have HN := Lib.hid (unstuff_some HE.out)
        go_wp2
        go_ret2
        exact UnsP.ok HN.out HO.out HBE.out HOB.out
end Go.Proofs.Ytpnmigfgeieggaa.St
