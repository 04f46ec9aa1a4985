/- The contracts of the reference's Sort and Missing. -/
import Derived.Test.YtbfboiakhkojnaaWList
namespace Go.Proofs.Ytbfboiakhkojnaa.Wn
open Go.RowKit
open Go.Proofs.Ytbfboiakhkojnaa.Mi
set_option linter.unusedVariables false
set_option linter.unusedSimpArgs false

theorem pick_step {p : Int → Bool} {base x : Int} {m : Nat} (hx : (base + (m : Int)) % 128 = x) : pick p base (m + 1) = if p x = true then pick p base m ++ [x] else pick p base m := by
  by_cases h : p x = true
  · rw [if_pos h, pick_yes (by rw [hx]; exact h), hx]
  · rw [if_neg h, pick_no (by rw [hx]; simpa using h)]
set_option maxRecDepth 100000 in
set_option maxHeartbeats 1000000 in
theorem RSort_any (base : Int) (A : Option Addr) (c : Nat) (l : List Int) (w : World) (hr : Hid (Rd w w.heap.size A l)) (hc : l.length ≤ 9223372036854775807) : Calls Try.prog 24 #[.int .i64 base, .slice A l.length c] w (NewI w (pick (has l) base 128)) := by
  have hE := Lib.hid (fun (w1 : World) => REach_any base 128 w1 ⟨by decide, by decide⟩)
  have hcut : cut 128 = 128 := by decide
  rw [hcut] at hE
  clear hcut
  have hH := Lib.hid (fun (n : Int) (w' : World) (hw' : Hid (Below w.heap.size w w')) => Has_any A c w.heap.size l n w' (hr.out.below hw'.out) hc)
  go_enter Try.func24, Try.ntmps24
  go_wp2_with (go_at_call 21; refine (hE.out _).mono ?_; rintro e w1 ⟨v1, rfl, ho1, hb1⟩; obtain ⟨A1, c1, rfl, g1, g2, g3, g4, g5⟩ := ho1.out.form; rw [goes_length]; rw [goes_length] at g1; have HR1 := Lib.hid g3; have HA1 := Lib.hid g5; clear g3 g4 g5)
  have hown0 : Hid (Own w1 0 (.slice (some ⟨w.heap.size, 0, none⟩) 0 0) []) := (Own.lit (Below.refl _ w)).zero.below hb1.out
  have hbel0 : Hid (Below w.heap.size w w1) := (below_alloc (Below.refl _ w)).trans (hb1.out.mono (by simp))
  have hsz1 : Hid (w.heap.size + 1 ≤ w1.heap.size) := by have := hb1.out.size; rw [World.size_alloc] at this; exact this
  have hA1 : Hid (∀ a, A1 = some a → w.heap.size + 1 ≤ a.block) := fun a e => by have := (HA1.out a e).1; rw [World.size_alloc] at this; exact this
  clear ho1 hb1
  go_loopw [5, 7] (fun v k wr => ∃ i : Nat, i ≤ 128 ∧ k = .int .i64 i ∧ Own wr 0 v (pick (has l) base i) ∧ Below w.heap.size w wr ∧ Rd wr w1.heap.size A1 (goes base 128) ∧ w1.heap.size ≤ wr.heap.size ∧ (∀ q, v.ownBlock = some q → q = w.heap.size ∨ w1.heap.size ≤ q)) (fun _ k _ => 128 - (intOf k).toNat)
  case atStart => exact ⟨0, Nat.zero_le _, rfl, hown0.out, hbel0.out, HR1.out, Nat.le_refl _, fun q e => by cases e; exact .inl rfl⟩
  case round =>
    obtain ⟨i, hi, rfl, hown, hbel, hrd, hsz, hob⟩ := hrel
    have HO := Lib.hid hown
    have HB := Lib.hid hbel
    have HRD := Lib.hid hrd
    have HSZ := Lib.hid hsz
    have HOB := Lib.hid hob
    clear hown0 hbel0 HR1 hown hbel
    by_cases hlt : i < 128
    · obtain ⟨b, off, rfl, hbB, hcs⟩ := hrd (by rw [goes_length]; omega)
      have hcell := hcs i (by rw [goes_length]; exact hlt)
      rw [goes_at hlt] at hcell
      have hps := pick_le (has l) base i
      obtain ⟨x, hx⟩ : ∃ x, (base + (i : Int)) % 128 = x := ⟨_, rfl⟩
      have HS := Lib.hid (pick_step (p := has l) hx)
      rw [hx] at hcell
      clear hcs hrd hsz hob hx
      obtain ⟨q, hq⟩ : ∃ q, pick (has l) base i = q := ⟨_, rfl⟩
      rw [hq] at HS HO hps
      have hX := Lib.hid (hH.out x wr HB)
      clear hq
      by_cases hp : has l x = true
      · have HS' : Hid (pick (has l) base (i + 1) = q ++ [x]) := by show _ = _; rw [HS.out, if_pos hp]
        rw [hp] at hX
        clear hp HS
        have HQ : Hid ((q.length + 1) * 8 ≤ 140737488355328) := by show _ ≤ _; omega
        clear hps
        go_wp2_with (first
          | (go_at_call 29; refine hX.out.mono ?_; rintro e w' ⟨rfl, rfl⟩)
          | (at_builtin; refine app1q (wl := wr) rfl (.tmp 23) (.tmp 28) rfl u5 q x rfl rfl HO.out _ rfl rfl HQ.out ?_; intro v2 w2 ho2 hg2 hl2; have HO2 := Lib.hid ho2; have HG2 := Lib.hid hg2; have HL2 := Lib.hid hl2; clear ho2 hg2 hl2))
        go_roundw
        case rel =>
          have hne : ∀ k, k < w1.heap.size → k ≠ w.heap.size → some k ≠ u5.ownBlock := fun k h1 h2 e => by have := HOB.out k e.symm; omega
          refine ⟨i + 1, by omega, by go_num, by rw [HS'.out]; exact HO2.out, HB.out.grown HG2.out HB.out.size fun k hk => by have := HOB.out k hk; have := hsz1.out; omega, HRD.out.block fun b' off' e hb' => ?_, Nat.le_trans HSZ.out HG2.out.size, fun k e => ?_⟩
          · have : w.heap.size + 1 ≤ b' := hA1.out _ e
            exact HG2.out.block b' (Nat.lt_of_lt_of_le hb' HSZ.out) (hne _ hb' (by omega))
          · rcases HL2.out k e with h | h
            · exact HOB.out k h
            · exact .inr (Nat.le_trans HSZ.out h)
        case measure => simp [intOf]; omega
      · have HS' : Hid (pick (has l) base (i + 1) = q) := by show _ = _; rw [HS.out, if_neg hp]
        rw [show has l x = false by simpa using hp] at hX
        clear hp HS hps
        go_wp2_with (go_at_call 29; refine hX.out.mono ?_; rintro e w' ⟨rfl, rfl⟩)
        go_roundw
        case rel => exact ⟨i + 1, by omega, by go_num, by rw [HS'.out]; exact HO.out, HB.out, HRD.out, HSZ.out, HOB.out⟩
        case measure => simp [intOf]; omega
    · obtain rfl : i = 128 := by omega
      clear hrd hsz hob
      go_wp2
      go_ret
      exact ⟨_, rfl, HO.out.base fun k e => by have := HOB.out k e; have := hsz1.out; omega, HB⟩
set_option maxRecDepth 100000 in
set_option maxHeartbeats 1000000 in
theorem RMissing_any (base to : Int) (A : Option Addr) (c : Nat) (l : List Int) (w : World) (hr : Hid (Rd w w.heap.size A l)) (hc : l.length ≤ 9223372036854775807) : Calls Try.prog 26 #[.int .i64 base, .int .i64 to, .slice A l.length c] w (NewI w (pick (fun n => !has l n) base ((to - base) % 128).toNat)) := by
  have hB := Lib.hid (RReduce_any base)
  have hT := Lib.hid (RReduce_any to)
  have hN := Lib.hid RNext_any
  have hH := Lib.hid (fun (n : Int) (w' : World) (hw' : Hid (Below w.heap.size w w')) => Has_any A c w.heap.size l n w' (hr.out.below hw'.out) hc)
  obtain ⟨m, hm⟩ : ∃ m, ((to - base) % 128).toNat = m := ⟨_, rfl⟩
  obtain ⟨t, ht⟩ : ∃ t, to % 128 = t := ⟨_, rfl⟩
  rw [hm]
  rw [ht] at hT
  have HM : Hid ((m : Int) < 128 ∧ (base + (m : Int)) % 128 = t ∧ ∀ i : Nat, i < m → (base + (i : Int)) % 128 ≠ t) := by
    refine ⟨by omega, by omega, fun i hi => by omega⟩
  clear hm ht
  go_enter Try.func26, Try.ntmps26
  go_wp2_with (go_at_call 12; refine (hB.out _).mono ?_; rintro e w' ⟨rfl, rfl⟩)
  have hown0 : Hid (Own (w.alloc (.cells #[] 3)) w.heap.size (.slice (some ⟨w.heap.size, 0, none⟩) 0 0) []) := Own.lit (Below.refl _ _)
  have hbel0 : Hid (Below w.heap.size w (w.alloc (.cells #[] 3))) := below_alloc (Below.refl _ _)
  go_loopw [7, 8] (fun v n wr => ∃ i : Nat, i ≤ m ∧ n = .int .i64 ((base + (i : Int)) % 128) ∧ Own wr w.heap.size v (pick (fun n => !has l n) base i) ∧ Below w.heap.size w wr) (fun _ n _ => m - ((intOf n - base) % 128).toNat)
  case atStart => exact ⟨0, Nat.zero_le _, by simp, hown0.out, hbel0.out⟩
  case round =>
    obtain ⟨i, hi, rfl, hown, hbel⟩ := hrel
    have HO := Lib.hid hown
    have HB := Lib.hid hbel
    clear hown0 hbel0 hown hbel
    have hps := pick_le (fun n => !has l n) base i
    have him : i < m ∨ i = m := by omega
    have hi128 : (i : Int) < 128 := by have := HM.out.1; omega
    obtain ⟨x, hx⟩ : ∃ x, (base + (i : Int)) % 128 = x := ⟨_, rfl⟩
    have hx0 : (x - base) % 128 = (i : Int) := by omega
    have hxn : (x + 1) % 128 = (base + ((i + 1 : Nat) : Int)) % 128 := by omega
    rcases him with hlt | rfl
    · have hne := HM.out.2.2 i hlt
      have HS := Lib.hid (pick_step (p := fun n => !has l n) hx)
      rw [hx] at hne ⊢
      have HX0 := Lib.hid hx0
      have HXN := Lib.hid hxn
      clear hx hx0 hxn
      obtain ⟨q, hq⟩ : ∃ q, pick (fun n => !has l n) base i = q := ⟨_, rfl⟩
      rw [hq] at HS HO hps
      have hX := Lib.hid (hH.out x wr HB)
      clear hq
      have HE : Hid (((((base + ((i + 1 : Nat) : Int)) % 128) - base) % 128).toNat = if i + 1 < 128 then i + 1 else 0) := by show _ = _; split <;> omega
      have HI : Hid (i < m ∧ i + 1 < 128) := by have := HM.out.1; exact ⟨hlt, by omega⟩
      cases hp : has l x with
      | false =>
        have HS' : Hid (pick (fun n => !has l n) base (i + 1) = q ++ [x]) := by show _ = _; rw [HS.out, if_pos (by rw [hp]; rfl)]
        rw [hp] at hX
        clear hp HS
        have HQ : Hid ((q.length + 1) * 8 ≤ 140737488355328) := by show _ ≤ _; omega
        clear hps
        go_wp2_with (first
          | (go_at_call 12; refine (hT.out _).mono ?_; rintro e w' ⟨rfl, rfl⟩)
          | (go_at_call 29; refine hX.out.mono ?_; rintro e w' ⟨rfl, rfl⟩)
          | (at_builtin; refine app1 (wl := wr) rfl (.tmp 20) (.tmp 22) rfl w.heap.size u7 q x rfl rfl HO.out HB.out HB.out.size _ rfl rfl HQ.out ?_; intro v2 w2 ho2 hb2 _; have HO2 := Lib.hid ho2; have HB2 := Lib.hid hb2; clear ho2 hb2)
          | (go_at_call 14; refine (hN.out _ _).mono ?_; rintro e w' ⟨rfl, rfl⟩))
        go_roundw
        case rel => exact ⟨i + 1, by omega, by rw [HXN.out], by rw [HS'.out]; exact HO2.out, HB2.out⟩
        case measure => rw [HXN.out]; simp only [intOf]; rw [HX0.out, HE.out, if_pos HI.out.2]; omega
      | true =>
        have HS' : Hid (pick (fun n => !has l n) base (i + 1) = q) := by show _ = _; rw [HS.out, if_neg (by rw [hp]; decide)]
        rw [hp] at hX
        clear hp HS hps
        go_wp2_with (first
          | (go_at_call 12; refine (hT.out _).mono ?_; rintro e w' ⟨rfl, rfl⟩)
          | (go_at_call 29; refine hX.out.mono ?_; rintro e w' ⟨rfl, rfl⟩)
          | (go_at_call 14; refine (hN.out _ _).mono ?_; rintro e w' ⟨rfl, rfl⟩))
        go_roundw
        case rel => exact ⟨i + 1, by omega, by rw [HXN.out], by rw [HS'.out]; exact HO.out, HB.out⟩
        case measure => rw [HXN.out]; simp only [intOf]; rw [HX0.out, HE.out, if_pos HI.out.2]; omega
    · have hxt : t = x := by have := HM.out.2.1; omega
      subst hxt
      rw [hx]
      clear hx hx0 hxn hps
      go_wp2_with (go_at_call 12; refine (hT.out _).mono ?_; rintro e w' ⟨rfl, rfl⟩)
      go_ret
      exact ⟨_, rfl, HO, HB⟩
end Go.Proofs.Ytbfboiakhkojnaa.Wn
