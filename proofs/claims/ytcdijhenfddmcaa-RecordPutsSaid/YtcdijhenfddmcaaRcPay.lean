/- Contracts of record's payload and First. -/
import Derived.Test.YtcdijhenfddmcaaRcPut
namespace Go.Proofs.Ytcdijhenfddmcaa.Rc
open Go.RowKit
open Go.Proofs.Ytcdijhenfddmcaa.Me Go.Proofs.Ytcdijhenfddmcaa.Ma Go.Proofs.Ytcdijhenfddmcaa.Hd Go.Proofs.Ytcdijhenfddmcaa.Bt
open Go.Proofs.Ytcdijhenfddmcaa.Cr (sum sum_lt Sum_any RSum_any)
open Go.Proofs.Ytcdijhenfddmcaa.Ba (U wrapU_nat sizeB)
set_option linter.unusedVariables false
set_option linter.unusedSimpArgs false

/-- The piece of a row that is the payload of its first record. -/
def payV (A : Option Addr) (l : List Nat) (cap : Nat) : Value := if payOk l then .slice (A.map fun x => x.add 8) (payL l).length (cap - 8) else .slice none 0 0
theorem payV_ok {A : Option Addr} {l : List Nat} {cap : Nat} (h : payOk l) : payV A l cap = .slice (A.map fun x => x.add 8) (payL l).length (cap - 8) := if_pos h
theorem payV_no {A : Option Addr} {l : List Nat} {cap : Nat} (h : ¬ payOk l) : payV A l cap = .slice none 0 0 := if_neg h
theorem Get_ok (l : List Nat) (a : Nat) (A : Option Addr) (cap : Nat) (hl : l.length ≤ cap) (hc : cap ≤ 9223372036854775807) (w : World) (hr : Hid (Rd w w.heap.size A l)) (h : a + 4 ≤ l.length) (x : Int) (hx : x = (a : Int)) :
    Calls Try.prog 34 #[.slice A l.length cap, .int .i64 x, .int .i64 4] w fun e w' => e = .returned (.tuple #[.int .u64 (num ((l.drop a).take 4) : Int), .int .i64 0]) ∧ w = w' := by
  subst hx
  have := Get_any l (a : Int) (4 : Int) A cap w.heap.size hl hc w hr (by omega)
  rw [show (4 : Int) = ((4 : Nat) : Int) from rfl, getE_ok (by decide) (by omega)] at this
  exact this
theorem payN_lt {l : List Nat} (h : ∀ z ∈ l, z < 256) (a : Nat) : num ((l.drop a).take 4) < 4294967296 := num_part_lt h a 4
set_option maxHeartbeats 1000000 in
theorem payload_in (A : Option Addr) (cap : Nat) (l : List Nat) (w : World) (hr : Hid (Rd w w.heap.size A l)) (hlc : l.length ≤ cap) (hc : cap ≤ 9223372036854775807) (h8 : 8 ≤ l.length) (h1 : 1 ≤ payN l) (h2 : payN l ≤ 65536) (h3 : payN l ≤ l.length - 8) :
    Calls Try.prog 24 #[.slice A l.length cap] w fun e w' => e = .returned (payV A l cap) ∧ Hid (Below w.heap.size w w') := by
  obtain ⟨b, off, rfl, hb, _⟩ := hr.out.2 (by omega)
  have HB := Lib.hid hr.out.1
  have hr8 : Rd w w.heap.size (some ⟨b, off + 8, none⟩) ((l.drop 8).take (payN l)) := (hr.out.drop 8).take _
  have hr4 : Rd w w.heap.size (some ⟨b, off, none⟩) (l.take 4) := hr.out.take 4
  have hl8 : ((l.drop 8).take (payN l)).length = payN l := by simp; omega
  have hl4 : (l.take 4).length = 4 := by simp; omega
  have D1 := Lib.hid (Get_ok l 0 (some ⟨b, off, none⟩) cap hlc hc w hr (by omega) 0 rfl)
  have D2 := Lib.hid (Get_ok l 4 (some ⟨b, off, none⟩) cap hlc hc w hr (by omega) 4 rfl)
  have D3 : Hid (∀ g, g = w.heap.size → Calls Try.prog 20 #[.slice (some ⟨g, 0, none⟩) 2 2] (w.alloc (.cells #[.slice (some ⟨b, off, none⟩) 4 cap, .slice (some ⟨b, off + 8, none⟩) (payN l) (cap - 8)] 22))
      fun e w' => e = .returned (.int .u64 (sum (l.take 4 ++ (l.drop 8).take (payN l)) : Int)) ∧ w.alloc (.cells #[.slice (some ⟨b, off, none⟩) 4 cap, .slice (some ⟨b, off + 8, none⟩) (payN l) (cap - 8)] 22) = w') := by
    rintro g rfl
    have hl := lst_two (T := 22) hl4.symm hl8.symm hr4 hr8 (by omega : 4 ≤ cap) (by omega : payN l ≤ cap - 8) hc (by omega) (Nat.le_refl _)
    have := sumOf_any (some ⟨w.heap.size, 0, none⟩) 2 _ [l.take 4, (l.drop 8).take (payN l)] _ hl (by simp)
    simpa using this
  have HOK : Hid (payOk l ↔ sum (l.take 4 ++ (l.drop 8).take (payN l)) = num ((l.drop 4).take 4)) := ⟨fun h => h.2.2.2.2, fun h => ⟨h8, h1, h2, h3, h⟩⟩
  have HPL : Hid (payOk l → (payL l).length = payN l) := fun h => pay_ok_len h
  have e1 : num ((l.drop 0).take 4) = payN l := by simp [payN]
  rw [e1] at D1
  obtain ⟨s, hs⟩ : ∃ s, num ((l.drop 4).take 4) = s := ⟨_, rfl⟩
  obtain ⟨t, ht⟩ : ∃ t, sum (l.take 4 ++ (l.drop 8).take (payN l)) = t := ⟨_, rfl⟩
  rw [hs] at D2 HOK
  rw [ht] at D3 HOK
  obtain ⟨n, hn⟩ : ∃ n, payN l = n := ⟨_, rfl⟩
  rw [hn] at D1 D3 HPL h1 h2 h3
  clear hr8 hr4 hl8 hl4 hs ht hn e1 hb
  have q1 : ((n : Int) == 0) = false := by rw [beq_eq_false_iff_ne]; omega
  have q2 : decide ((65536 : Int) < (n : Int)) = false := decide_eq_false (by omega)
  have q3 : decide ((l.length : Int) - 8 < (n : Int)) = false := decide_eq_false (by omega)
  have q4 : ¬ cap = 8 := by omega
  by_cases hst : t = s
  · have HP := Lib.hid (HOK.out.mpr hst)
    have HE : Hid (payV (some ⟨b, off, none⟩) l cap = .slice (some ⟨b, off + 8, none⟩) n (cap - 8)) := by
      show _ = _
      rw [payV_ok HP.out, HPL.out HP.out]
      rfl
    subst hst
    clear HOK HPL
    go_enter Try.func24, Try.ntmps24
    go_wp2_with (first
      | (go_at_call 34; ((with_reducible refine D1.out.mono ?_); rintro e w1 ⟨rfl, rfl⟩))
      | (go_at_call 34; ((with_reducible refine D2.out.mono ?_); rintro e w1 ⟨rfl, rfl⟩))
      | (go_at_call 20; ((with_reducible refine (D3.out _ rfl).mono ?_); rintro e w1 ⟨rfl, rfl⟩)))
    go_ret
    exact ⟨congrArg Ending.returned HE.out.symm, (Below.refl _ _).alloc (Nat.le_refl _) _⟩
  · have HE : Hid (payV (some ⟨b, off, none⟩) l cap = .slice none 0 0) := payV_no fun h => hst (HOK.out.mp h)
    have q5 : ((t : Int) == (s : Int)) = false := by rw [beq_eq_false_iff_ne]; omega
    have q6 : ((t : Int) != (s : Int)) = true := by rw [bne_iff_ne]; omega
    clear HOK HPL
    go_enter Try.func24, Try.ntmps24
    go_wp2_with (first
      | (go_at_call 34; ((with_reducible refine D1.out.mono ?_); rintro e w1 ⟨rfl, rfl⟩))
      | (go_at_call 34; ((with_reducible refine D2.out.mono ?_); rintro e w1 ⟨rfl, rfl⟩))
      | (go_at_call 20; ((with_reducible refine (D3.out _ rfl).mono ?_); rintro e w1 ⟨rfl, rfl⟩)))
    go_ret
    exact ⟨congrArg Ending.returned HE.out.symm, (Below.refl _ _).alloc (Nat.le_refl _) _⟩
theorem payload_out (A : Option Addr) (cap : Nat) (l : List Nat) (w : World) (hr : Hid (Rd w w.heap.size A l)) (hlc : l.length ≤ cap) (hc : cap ≤ 9223372036854775807) (h8 : 8 ≤ l.length) (h1 : ¬ (1 ≤ payN l ∧ payN l ≤ 65536 ∧ payN l ≤ l.length - 8)) :
    Calls Try.prog 24 #[.slice A l.length cap] w fun e w' => e = .returned (payV A l cap) ∧ Hid (Below w.heap.size w w') := by
  obtain ⟨b, off, rfl, hb, _⟩ := hr.out.2 (by omega)
  have D1 := Lib.hid (Get_ok l 0 (some ⟨b, off, none⟩) cap hlc hc w hr (by omega) 0 rfl)
  have D2 := Lib.hid (Get_ok l 4 (some ⟨b, off, none⟩) cap hlc hc w hr (by omega) 4 rfl)
  have HE : Hid (payV (some ⟨b, off, none⟩) l cap = .slice none 0 0) := payV_no fun h => h1 ⟨h.2.1, h.2.2.1, h.2.2.2.1⟩
  have e1 : num ((l.drop 0).take 4) = payN l := by simp [payN]
  rw [e1] at D1
  obtain ⟨s, hs⟩ : ∃ s, num ((l.drop 4).take 4) = s := ⟨_, rfl⟩
  rw [hs] at D2
  obtain ⟨n, hn⟩ : ∃ n, payN l = n := ⟨_, rfl⟩
  rw [hn] at D1 h1
  clear hs hn e1 hb hr
  by_cases h0 : n = 0
  · have q1 : ((n : Int) == 0) = true := by rw [beq_iff_eq]; omega
    clear h1
    by_cases hc8 : cap = 8
    all_goals
      try subst hc8
      go_enter Try.func24, Try.ntmps24
      go_wp2_with (first
        | (go_at_call 34; ((with_reducible refine D1.out.mono ?_); rintro e w1 ⟨rfl, rfl⟩))
        | (go_at_call 34; ((with_reducible refine D2.out.mono ?_); rintro e w1 ⟨rfl, rfl⟩)))
      go_ret
      exact ⟨congrArg Ending.returned HE.out.symm, Below.refl _ _⟩
  · have q1 : ((n : Int) == 0) = false := by rw [beq_eq_false_iff_ne]; omega
    by_cases h6 : 65536 < n
    · have q2 : decide ((65536 : Int) < (n : Int)) = true := decide_eq_true (by omega)
      clear h1
      by_cases hc8 : cap = 8
      all_goals
        try subst hc8
        go_enter Try.func24, Try.ntmps24
        go_wp2_with (first
          | (go_at_call 34; ((with_reducible refine D1.out.mono ?_); rintro e w1 ⟨rfl, rfl⟩))
          | (go_at_call 34; ((with_reducible refine D2.out.mono ?_); rintro e w1 ⟨rfl, rfl⟩)))
        go_ret
        exact ⟨congrArg Ending.returned HE.out.symm, Below.refl _ _⟩
    · have q2 : decide ((65536 : Int) < (n : Int)) = false := decide_eq_false (by omega)
      have q3 : decide ((l.length : Int) - 8 < (n : Int)) = true := decide_eq_true (by omega)
      have q4 : l.length - 8 < n := by omega
      clear h1
      by_cases hc8 : cap = 8
      all_goals
        try subst hc8
        go_enter Try.func24, Try.ntmps24
        go_wp2_with (first
          | (go_at_call 34; ((with_reducible refine D1.out.mono ?_); rintro e w1 ⟨rfl, rfl⟩))
          | (go_at_call 34; ((with_reducible refine D2.out.mono ?_); rintro e w1 ⟨rfl, rfl⟩)))
        go_ret
        exact ⟨congrArg Ending.returned HE.out.symm, Below.refl _ _⟩
theorem payload_any (A : Option Addr) (cap : Nat) (l : List Nat) (w : World) (hr : Hid (Rd w w.heap.size A l)) (hlc : l.length ≤ cap) (hc : cap ≤ 9223372036854775807) :
    Calls Try.prog 24 #[.slice A l.length cap] w fun e w' => e = .returned (payV A l cap) ∧ Hid (Below w.heap.size w w') := by
  by_cases h8 : 8 ≤ l.length
  · by_cases h1 : 1 ≤ payN l ∧ payN l ≤ 65536 ∧ payN l ≤ l.length - 8
    · exact payload_in A cap l w hr hlc hc h8 h1.1 h1.2.1 h1.2.2
    · exact payload_out A cap l w hr hlc hc h8 h1
  · have HE : Hid (payV A l cap = .slice none 0 0) := payV_no fun h => h8 h.1
    go_enter Try.func24, Try.ntmps24
    go_wp2
    go_ret
    exact ⟨congrArg Ending.returned HE.out.symm, Below.refl _ _⟩
/-- What First answers: the payload in new memory, and how many bytes its record has; nothing and 0, if there is none. -/
def FirstQ (l : List Nat) (w : World) (e : Ending) (w' : World) : Prop :=
  ∃ A k, e = .returned (.tuple #[.slice A (payL l).length k, .int .i64 (if payOk l then 8 + ((payL l).length : Int) else 0)]) ∧ Hid (Me.Own w' w.heap.size (.slice A (payL l).length k) (payL l)) ∧ Hid (Below w.heap.size w w')
theorem pay_piece {A : Option Addr} {l : List Nat} {w : World} {B : Nat} (hr : Rd w B A l) (h : payOk l) : Rd w B (A.map fun x => x.add 8) (payL l) ∧ A ≠ none := by
  obtain ⟨b, off, rfl, hb, hc⟩ := hr.2 (by have := h.1; omega)
  refine ⟨?_, by simp⟩
  rw [pay_ok h]
  exact (Rd.drop ⟨hr.1, fun _ => ⟨b, off, rfl, hb, hc⟩⟩ 8).take _
theorem First_any (A : Option Addr) (cap : Nat) (l : List Nat) (w : World) (hr : Hid (Rd w w.heap.size A l)) (hlc : l.length ≤ cap) (hc : cap ≤ 9223372036854775807) :
    Calls Try.prog 12 #[.slice A l.length cap] w (FirstQ l w) := by
  have D := Lib.hid (payload_any A cap l w hr hlc hc)
  by_cases hok : payOk l
  · obtain ⟨hp, hn⟩ := pay_piece hr.out hok
    have hl := pay_ok_len hok
    have hb := pay_bytes hr.out.1
    rw [payV_ok hok] at D
    have D2 := Lib.hid (fun (W : World) (hW : Below w.heap.size w W) => BClone_any (A.map fun x => x.add 8) (cap - 8) w.heap.size (payL l) W (hp.below hW) (fun e => by cases A with | none => exact absurd rfl hn | some a => cases e) hW.size (by rw [hl]; have := hok.2.2.1; omega))
    have HQ : Hid (∀ (v : Value) (W W' : World), Below w.heap.size w W → Me.Own W' W.heap.size v (payL l) → Below W.heap.size W W' → FirstQ l w (.returned (.tuple #[v, .int .i64 (8 + ((payL l).length : Int))])) W') := by
      intro v W W' h1 h2 h3
      obtain ⟨A2, c2, rfl, _, _, _⟩ := h2.held hb
      unfold FirstQ
      rw [if_pos hok]
      exact ⟨A2, c2, rfl, own_base h2 fun k hk => Nat.le_trans h1.size (h2.lt k hk).1, h1.trans (h3.mono h1.size)⟩
    have h1 : 1 ≤ (payL l).length := by rw [hl]; exact hok.2.1
    have h2 : (payL l).length ≤ 65536 := by rw [hl]; exact hok.2.2.1
    obtain ⟨p, hpd⟩ : ∃ p, payL l = p := ⟨_, rfl⟩
    rw [hpd] at D D2 HQ h1 h2
    have q1 : ((p.length : Int) == 0) = false := by rw [beq_eq_false_iff_ne]; omega
    obtain ⟨A1, hA1⟩ : ∃ A1, (A.map fun x => x.add 8) = A1 := ⟨_, rfl⟩
    obtain ⟨c1, hc1⟩ : ∃ c1, cap - 8 = c1 := ⟨_, rfl⟩
    rw [hA1, hc1] at D D2
    clear hp hl hb hpd hA1 hc1 hn
    go_enter Try.func12, Try.ntmps12
    go_wp2_with (first
      | (go_at_call 24; refine D.out.mono ?_; rintro e w1 ⟨rfl, hb1⟩)
      | (go_at_call 25; refine (D2.out _ hb1.out).mono ?_; rintro e w2 ⟨v2, rfl, HO2, HB2⟩))
    go_ret2
    exact HQ.out _ _ _ hb1.out HO2.out HB2.out
  · rw [payV_no hok] at D
    have HQ : Hid (∀ W, Below w.heap.size w W → FirstQ l w (.returned (.tuple #[.slice none 0 0, .int .i64 0])) W) := by
      intro W hW
      unfold FirstQ
      rw [if_neg hok, pay_no hok]
      exact ⟨none, 0, rfl, Me.Own.nil _ _, hW⟩
    go_enter Try.func12, Try.ntmps12
    go_wp2_with (go_at_call 24; refine D.out.mono ?_; rintro e w1 ⟨rfl, hb1⟩)
    go_ret2
    exact HQ.out _ hb1.out
end Go.Proofs.Ytcdijhenfddmcaa.Rc
