/- Contracts of stuff's Unstuff, of the program and of its reference; of the reference's Stuff and Has. -/
import Derived.Test.YtoaffkmjobmhaaaStuff
namespace Go.Proofs.Ytoaffkmjobmhaaa.St
open Go.RowKit
open Go.Proofs.Ytoaffkmjobmhaaa.Me
set_option linter.unusedVariables false

/-- What Unstuff answers. -/
def UnsP (w : World) (r : Option (List Nat)) (e : Ending) (w' : World) : Prop :=
  match r with
  | some o => ∃ A c, e = .returned (.tuple #[.slice A o.length c, .int .i64 0]) ∧ o.length ≤ c ∧ c ≤ 9223372036854775807 ∧ Hid (Held w' w.heap.size A c o) ∧ Hid (Below w.heap.size w w')
  | none => e = .returned (.tuple #[.slice none 0 0, .int .i64 2]) ∧ Hid (Below w.heap.size w w')
/-- What Unstuff answers, its bytes one's own. -/
def UnsO (w : World) (r : Option (List Nat)) (e : Ending) (w' : World) : Prop :=
  match r with
  | some o => ∃ A c, e = .returned (.tuple #[.slice A o.length c, .int .i64 0]) ∧ Hid (Own w' w.heap.size (.slice A o.length c) o) ∧ (∀ z ∈ o, z < 256) ∧ Hid (Below w.heap.size w w')
  | none => e = .returned (.tuple #[.slice none 0 0, .int .i64 2]) ∧ Hid (Below w.heap.size w w')
theorem UnsO.ok {w w' : World} {v : Value} {r : Option (List Nat)} {o : List Nat} (hr : r = some o) (h : Own w' w.heap.size v o) (hb : Below w.heap.size w w') (hl : ∀ z ∈ o, z < 256) : UnsO w r (.returned (.tuple #[v, .int .i64 0])) w' := by
  subst hr
  obtain ⟨A, c, rfl, h1, h2, h3⟩ := h.held hl
  exact ⟨A, c, rfl, h, hl, hb⟩
theorem UnsO.no {w w' : World} {r : Option (List Nat)} (hr : r = none) (hb : Below w.heap.size w w') : UnsO w r (.returned (.tuple #[.slice none 0 0, .int .i64 2])) w' := by
  subst hr
  exact ⟨rfl, hb⟩
theorem UnsO.to {w w' : World} {r : Option (List Nat)} {e : Ending} (h : UnsO w r e w') : UnsP w r e w' := by
  cases r with
  | none => exact h
  | some o =>
    obtain ⟨A, c, rfl, ho, hl, hb⟩ := h
    obtain ⟨A', c', e', h1, h2, h3⟩ := ho.out.held hl
    injection e' with e1 e2 e3
    subst e1 e3
    exact ⟨A, c, rfl, h1, h2, h3, hb⟩
theorem UnsP.ok {w w' : World} {v : Value} {r : Option (List Nat)} {o : List Nat} (hr : r = some o) (h : Own w' w.heap.size v o) (hb : Below w.heap.size w w') (hl : ∀ z ∈ o, z < 256) : UnsP w r (.returned (.tuple #[v, .int .i64 0])) w' := by
  subst hr
  obtain ⟨A, c, rfl, h1, h2, h3⟩ := h.held hl
  exact ⟨A, c, rfl, h1, h2, h3, hb⟩
theorem UnsP.no {w w' : World} {r : Option (List Nat)} (hr : r = none) (hb : Below w.heap.size w w') : UnsP w r (.returned (.tuple #[.slice none 0 0, .int .i64 2])) w' := by
  subst hr
  exact ⟨rfl, hb⟩
set_option maxHeartbeats 1000000 in
theorem Unstuff_own (A : Option Addr) (cap B : Nat) (l : List Nat) (w : World) (hr : Hid (Rd w B A l)) (hB : B ≤ w.heap.size) (hc : l.length ≤ 140737488355328) :
    Calls Try.prog 27 #[.slice A l.length cap] w (UnsO w (unstuffL l)) := by
  obtain ⟨i0, hi, hz0, hz1, hz2⟩ := info_parts info8
  have HF : Hid (∀ k o e, ust (l.take k) = some (o, e) → (∀ z ∈ o, z < 256) ∧ o.length ≤ k) := fun k o e h => by
    obtain ⟨h1, _, h3⟩ := ust_facts _ o e h (take_lt hr.out.1 k)
    exact ⟨h1, Nat.le_trans h3 (by simp; omega)⟩
  have HDd : Hid (∀ k, ust (l.take k) = none → unstuffL l = none) := fun k => ust_dead
  have HUe : Hid (∀ k, ¬ k < l.length → ust (l.take k) = ust l) := fun k => ust_full
  go_enter Try.func27, Try.ntmps27
  go_wp2_with (at_make; refine wpList_make_own _ rfl (.const (.int .i64 0)) (.tmp 9) 22 rfl w.heap.size 5 i0 (.int .u8 0) 1 Try.underlying22 hi hz0 hz1 .i64 .i64 _ l.length rfl rfl (by omega) (by rw [hz2]; omega) (by unfold maxLen; omega) (Nat.le_refl _) ?_; intro wa howna hga)
  have hown0 : Hid (Own wa w.heap.size (.slice (some ⟨w.heap.size, 0, none⟩) 0 l.length) []) := howna
  have hbel0 : Hid (Below w.heap.size w wa) := (Below.refl _ w).grown hga (Nat.le_refl _) (by simp)
  clear howna hga
  go_loopw [4, 5, 13] (fun v s i wr => ∃ (k : Nat) (o : List Nat) (e : Bool), k ≤ l.length ∧ i = .int .i64 k ∧ s = .bool e ∧ ust (l.take k) = some (o, e) ∧ Own wr w.heap.size v o ∧ Below w.heap.size w wr) (fun _ _ i _ => l.length - (intOf i).toNat)
  case atStart => exact ⟨0, [], false, Nat.zero_le _, rfl, rfl, rfl, hown0.out, hbel0.out⟩
  case round =>
    obtain ⟨k, o, e, hk, rfl, rfl, hst, hown, hbel⟩ := hrel
    have HO := Lib.hid hown
    have HBE := Lib.hid hbel
    have HST := Lib.hid hst
    obtain ⟨hob, hol⟩ := HF.out k o e hst
    have HOB := Lib.hid hob
    clear hown hbel hst hob
    by_cases hlt : k < l.length
    · obtain ⟨b, off, rfl, hbB, hcs⟩ := (hr.out.below (HBE.out.mono hB)).2 (by omega)
      have hcell := hcs k hlt
      have hy8 := hr.out.lt hlt
      have HS := Lib.hid (ust_snoc hlt)
      obtain ⟨y, hy⟩ : ∃ y, by_ l k = y := ⟨_, rfl⟩
      rw [hy] at hcell HS hy8
      have HS2 : Hid (ust (l.take (k + 1)) = ustep (some (o, e)) y) := by show _ = _; rw [HS.out, HST.out]
      clear hcs hy HS
      cases e with
      | true =>
        have HX := Lib.hid (xor8 (a := y) (b := 32) hy8 (by decide))
        have hxl := xor_lt hy8
        cases ht : trn (y ^^^ 32) with
        | true =>
          have HN : Hid (ust (l.take (k + 1)) = some (o ++ [y ^^^ 32], false)) := by show _ = _; rw [HS2.out, step_esc_ok ht]
          have D := trn_any (y ^^^ 32)
          rw [ht, ← HX.out] at D
          obtain ⟨x, hx⟩ : ∃ x, y ^^^ 32 = x := ⟨_, rfl⟩
          rw [hx] at HX HN hxl
          clear ht hx HS2
          go_wp2_with (first
            | (go_at_call 35; refine (D _).mono ?_; rintro e w' ⟨rfl, rfl⟩)
            | (at_builtin; refine app8 rfl (.tmp 31) (.tmp 33) rfl w.heap.size (wr.heap.size + 1) _ o [x] rfl (HO.out.alloc _) (below_alloc HBE.out) (Nat.le_trans HBE.out.size (by simp)) (some ⟨wr.heap.size, 0, none⟩) 1 rfl (by have := rd_lit (w := wr) (r := [x]) (by simpa using hxl) 5; simp only [List.map_cons, List.map_nil, byV, ← HX.out] at this; exact this) (fun h => by cases h) (by simp; omega) ?_; intro v3 w3 ho3 hb3 _; have HO3 := Lib.hid ho3; have HB3 := Lib.hid hb3; clear ho3 hb3))
          go_roundw
          case rel => exact ⟨k + 1, o ++ [x], false, by omega, by go_num, rfl, HN.out, HO3.out, HB3.out⟩
          case measure => simp [intOf]; omega
        | false =>
          have HN : Hid (unstuffL l = none) := HDd.out (k + 1) (by rw [HS2.out, step_esc_no ht])
          have D := trn_any (y ^^^ 32)
          rw [ht, ← HX.out] at D
          clear ht HS2
          go_wp2_with (go_at_call 35; refine (D _).mono ?_; rintro e w' ⟨rfl, rfl⟩)
          go_ret2
          exact UnsO.no HN.out HBE.out
      | false =>
        by_cases h1 : y = 126
        · subst h1
          have HN : Hid (unstuffL l = none) := HDd.out (k + 1) (by rw [HS2.out, step_flag])
          have D := trn_any 126
          rw [show trn 126 = true from rfl] at D
          clear HS2
          go_wp2_with (go_at_call 35; refine (D _).mono ?_; rintro e w' ⟨rfl, rfl⟩)
          go_ret2
          exact UnsO.no HN.out HBE.out
        · by_cases h2 : y = 125
          · subst h2
            have HN : Hid (ust (l.take (k + 1)) = some (o, true)) := by show _ = _; rw [HS2.out, step_open]
            have D := trn_any 125
            rw [show trn 125 = true from rfl] at D
            clear HS2
            go_wp2_with (go_at_call 35; refine (D _).mono ?_; rintro e w' ⟨rfl, rfl⟩)
            go_roundw
            case rel => exact ⟨k + 1, o, true, by omega, by go_num, rfl, HN.out, HO.out, HBE.out⟩
            case measure => simp [intOf]; omega
          · have HN : Hid (ust (l.take (k + 1)) = some (o ++ [y], false)) := by show _ = _; rw [HS2.out, step_plain h1 h2]
            have D := trn_any y
            rw [trn_no h1 h2] at D
            have hxl : y < 256 := hy8
            clear HS2 h1 h2
            go_wp2_with (first
              | (go_at_call 35; refine (D _).mono ?_; rintro e w' ⟨rfl, rfl⟩)
              | (at_builtin; refine app8 rfl (.tmp 31) (.tmp 33) rfl w.heap.size (wr.heap.size + 1) _ o [y] rfl (HO.out.alloc _) (below_alloc HBE.out) (Nat.le_trans HBE.out.size (by simp)) (some ⟨wr.heap.size, 0, none⟩) 1 rfl (rd_lit (r := [y]) (by simpa using hxl) 5) (fun h => by cases h) (by simp; omega) ?_; intro v3 w3 ho3 hb3 _; have HO3 := Lib.hid ho3; have HB3 := Lib.hid hb3; clear ho3 hb3))
            go_roundw
            case rel => exact ⟨k + 1, o ++ [y], false, by omega, by go_num, rfl, HN.out, HO3.out, HB3.out⟩
            case measure => simp [intOf]; omega
    · have HE : Hid (ust l = some (o, e)) := by show ust l = _; rw [← HUe.out k hlt, HST.out]
      cases e with
      | true =>
        have HN := Lib.hid (unstuff_open HE.out)
        go_wp2
        go_ret2
        exact UnsO.no HN.out HBE.out
      | false =>
        have HN := Lib.hid (unstuff_some HE.out)
        go_wp2
        go_ret2
        exact UnsO.ok HN.out HO.out HBE.out HOB.out
theorem Unstuff_any (A : Option Addr) (cap B : Nat) (l : List Nat) (w : World) (hr : Hid (Rd w B A l)) (hB : B ≤ w.heap.size) (hc : l.length ≤ 140737488355328) :
    Calls Try.prog 27 #[.slice A l.length cap] w (UnsP w (unstuffL l)) :=
  (Unstuff_own A cap B l w hr hB hc).mono fun _ _ h => h.to
end Go.Proofs.Ytoaffkmjobmhaaa.St
