/- Contracts of the reference of record: First. -/
import Derived.Test.YtcdijhenfddmcaaRcPay
import Derived.Test.YtcdijhenfddmcaaSameL
namespace Go.Proofs.Ytcdijhenfddmcaa.Rc
open Go.RowKit
open Go.Proofs.Ytcdijhenfddmcaa.Me Go.Proofs.Ytcdijhenfddmcaa.Ma Go.Proofs.Ytcdijhenfddmcaa.Hd Go.Proofs.Ytcdijhenfddmcaa.Bt
open Go.Proofs.Ytcdijhenfddmcaa.Cr (sum sum_lt)
open Go.Proofs.Ytcdijhenfddmcaa.Ba (U wrapU_nat sizeB)
set_option linter.unusedVariables false
set_option linter.unusedSimpArgs false

theorem RGet_ok (l : List Nat) (A : Option Addr) (cap : Nat) (hl : l.length ≤ cap) (hc : cap ≤ 9223372036854775807) (w : World) (hr : Hid (Rd w w.heap.size A l)) (h : 4 ≤ l.length) :
    Calls Try.prog 26 #[.slice A l.length cap, .int .i64 0, .int .i64 4] w fun e w' => e = .returned (.tuple #[.int .u64 (payN l : Int), .int .i64 0]) ∧ w = w' := by
  have := RGet_any l ((0 : Nat) : Int) (4 : Int) A cap w.heap.size hl hc w hr (by omega)
  rw [show (4 : Int) = ((4 : Nat) : Int) from rfl, getE_ok (by decide) (by omega)] at this
  simpa [numP, payN] using this
theorem RGet_no (l : List Nat) (A : Option Addr) (cap : Nat) (hl : l.length ≤ cap) (hc : cap ≤ 9223372036854775807) (w : World) (hr : Hid (Rd w w.heap.size A l)) (h : ¬ 4 ≤ l.length) :
    Calls Try.prog 26 #[.slice A l.length cap, .int .i64 0, .int .i64 4] w fun e w' => e = .returned (.tuple #[.int .u64 0, .int .i64 2]) ∧ w = w' := by
  have := RGet_any l 0 4 A cap w.heap.size hl hc w hr (by omega)
  rw [getE_form (by decide) (by omega) (by omega)] at this
  exact this
theorem FirstQ.no {l : List Nat} {w w' : World} (h : ¬ payOk l) (hb : Below w.heap.size w w') : FirstQ l w (.returned (.tuple #[.slice none 0 0, .int .i64 0])) w' := by
  unfold FirstQ
  rw [if_neg h, pay_no h]
  exact ⟨none, 0, rfl, Me.Own.nil _ _, hb⟩
theorem FirstQ.yes {l : List Nat} {w w' : World} {v : Value} {p : List Nat} {x : Int} (h : payOk l) (hb : ∀ z ∈ l, z < 256) (hp : payL l = p) (hx : x = 8 + (p.length : Int)) (ho : Me.Own w' w.heap.size v p) (hbe : Below w.heap.size w w') : FirstQ l w (.returned (.tuple #[v, .int .i64 x])) w' := by
  subst hp hx
  obtain ⟨A2, c2, rfl, _, _, _⟩ := ho.held (pay_bytes hb)
  unfold FirstQ
  rw [if_pos h]
  exact ⟨A2, c2, rfl, ho, hbe⟩
set_option maxHeartbeats 2000000 in
theorem RFirst_in (A : Option Addr) (cap : Nat) (l : List Nat) (w : World) (hr : Hid (Rd w w.heap.size A l)) (hlc : l.length ≤ cap) (hc : cap ≤ 9223372036854775807) (h8 : 8 ≤ l.length) (h1 : 1 ≤ payN l) (h2 : payN l ≤ 65536) (h3 : payN l ≤ l.length - 8) :
    Calls Try.prog 13 #[.slice A l.length cap] w (FirstQ l w) := by
  obtain ⟨b, off, rfl, hb, _⟩ := hr.out.2 (by omega)
  have HB := Lib.hid hr.out.1
  have D1 := Lib.hid (RGet_ok l (some ⟨b, off, none⟩) cap hlc hc w hr (by omega))
  have hr8 : Rd w w.heap.size (some ⟨b, off + 8, none⟩) ((l.drop 8).take (payN l)) := (hr.out.drop 8).take _
  have hl8 : ((l.drop 8).take (payN l)).length = payN l := by simp; omega
  have hfit : fitR ((l.drop 8).take (payN l)) = true := by rw [fit_iff, hl8]; omega
  have hiff := ok_iff hr.out.1 h8 h1 h2 h3
  have hpb : ∀ z ∈ (l.drop 8).take (payN l), z < 256 := hr8.1
  have hpl : payOk l → payL l = (l.drop 8).take (payN l) := pay_ok
  obtain ⟨n, hn⟩ : ∃ n, payN l = n := ⟨_, rfl⟩
  rw [hn] at D1 h1 h2 h3
  obtain ⟨p, hp⟩ : ∃ p, (l.drop 8).take (payN l) = p := ⟨_, rfl⟩
  rw [hp] at hr8 hl8 hfit hiff hpb hpl
  rw [hn] at hl8 hiff
  have HR8 := Lib.hid hr8
  have D2 := RPut_any (some ⟨b, off + 8, none⟩) (cap - 8) p w hr8 (fun e => by cases e)
  have hqb := rec_bytes hpb
  have hql := rec_len p
  rw [hl8] at D2 hql
  have D3 : Hid (Calls Try.prog 10 #[.slice (some ⟨b, off + 8, none⟩) n (cap - 8)] w fun e w1 => ∃ A3 k, e = .returned (.tuple #[.slice A3 (8 + n) k, .int .i64 0]) ∧ Hid (Below w.heap.size w w1) ∧
      (∀ m, (convert 22 9 (.slice A3 (8 + n) k)).run Try.prog (w1.drewN m) = .ok (.string (strOf (recL p))) (w1.drewN m)) ∧
      (∀ m, (convert 22 9 (.slice (some ⟨b, off, none⟩) (8 + n) cap)).run Try.prog (w1.drewN m) = .ok (.string (strOf (l.take (8 + n)))) (w1.drewN m))) := by
    refine D2.mono ?_
    rintro e w1 ⟨A3, k, he, hO, hB⟩
    rw [(put_fit hfit).1, (put_fit hfit).2, hql] at he
    rw [(put_fit hfit).1] at hO
    obtain ⟨r1, r2, _, _⟩ := own_rd hO.out hqb
    refine ⟨A3, k, he, hB, fun m => ?_, fun m => ?_⟩
    · have := conv_rd (w1.drewN m) _ A3 (recL p) k (r1.below (below_drewN (Below.refl _ w1) m)) r2
      rwa [hql] at this
    · have ht : (l.take (8 + n)).length = 8 + n := by simp; omega
      have := conv_rd (w1.drewN m) w.heap.size (some ⟨b, off, none⟩) (l.take (8 + n)) cap ((hr.out.take (8 + n)).below (below_drewN hB.out m)) (fun e => by cases e)
      rwa [ht] at this
  have q2 : decide ((65536 : Int) < (n : Int)) = false := decide_eq_false (by omega)
  have q3 : decide ((l.length : Int) < 8 + (n : Int)) = false := decide_eq_false (by omega)
  have q4 : ¬ cap = 8 := by omega
  clear D2 hr8 hfit hp hn hb
  by_cases hok : payOk l
  · have heq : l.take (8 + n) = recL p := (hiff.mp hok).symm
    rw [heq] at D3
    have HP := Lib.hid (hpl hok)
    have HL8 := Lib.hid hl8
    obtain ⟨S, hS⟩ : ∃ S, strOf (recL p) = S := ⟨_, rfl⟩
    rw [hS] at D3
    clear hiff hqb hql heq hS hl8 hpl
    go_enter Try.func13, Try.ntmps13
    go_wp2_with (first
      | (go_at_call 26; ((with_reducible refine D1.out.mono ?_); rintro e w1 ⟨rfl, rfl⟩))
      | (go_at_call 10; ((with_reducible refine D3.out.mono ?_); rintro e w1 ⟨A3, k3, rfl, HB1, k1, k2⟩)))
    go_quiet (fail)
    go_wp2_with (at_builtin; refine app8 (w0 := w) rfl (.tmp 50) (.tmp 51) rfl w.heap.size w.heap.size _ [] p rfl (Own.lit (below_drewN HB1.out _)) (below_alloc (below_drewN HB1.out _)) (below_alloc (below_drewN HB1.out _)).size (some ⟨b, off + 8, none⟩) (cap - 8) (by rw [HL8.out]; rfl) (HR8.out.below (below_alloc (below_drewN HB1.out _))) (fun e => by cases e) (by rw [HL8.out]; simp; omega) ?_; intro v2 w2 ho2 hb2 _; rw [List.nil_append] at ho2; have HO2 := Lib.hid ho2; have HB2 := Lib.hid hb2; clear ho2 hb2)
    go_ret2
    exact FirstQ.yes hok HB.out HP.out (by rw [HL8.out]) HO2.out HB2.out
  · have hne : ¬ recL p = l.take (8 + n) := fun e => hok (hiff.mpr e)
    have hs : ¬ strOf (recL p) = strOf (l.take (8 + n)) := fun e => hne (strOf_inj hqb (bytes_take HB.out _) e)
    have hs3 : ((strOf (recL p)).toList == (strOf (l.take (8 + n))).toList) = false := by
      rw [beq_eq_false_iff_ne]
      exact fun e => hs (by rw [bytes_list, bytes_list] at e; unfold strOf; rw [e])
    obtain ⟨S1, hS1⟩ : ∃ S, strOf (recL p) = S := ⟨_, rfl⟩
    obtain ⟨S2, hS2⟩ : ∃ S, strOf (l.take (8 + n)) = S := ⟨_, rfl⟩
    rw [hS1, hS2] at D3 hs hs3
    have HOK := Lib.hid hok
    clear hiff hqb hql hne hS1 hS2 hl8 hpl hok
    go_enter Try.func13, Try.ntmps13
    go_wp2_with (first
      | (go_at_call 26; ((with_reducible refine D1.out.mono ?_); rintro e w1 ⟨rfl, rfl⟩))
      | (go_at_call 10; ((with_reducible refine D3.out.mono ?_); rintro e w1 ⟨A3, k3, rfl, HB1, k1, k2⟩)))
    go_quiet (fail)
    go_wp2
    go_ret2
    exact FirstQ.no HOK.out (below_drewN HB1.out _)
set_option maxHeartbeats 2000000 in
theorem RFirst_zero (A : Option Addr) (cap : Nat) (l : List Nat) (w : World) (hr : Hid (Rd w w.heap.size A l)) (hlc : l.length ≤ cap) (hc : cap ≤ 9223372036854775807) (h8 : 8 ≤ l.length) (h1 : payN l = 0) :
    Calls Try.prog 13 #[.slice A l.length cap] w (FirstQ l w) := by
  obtain ⟨b, off, rfl, hb, _⟩ := hr.out.2 (by omega)
  have D1 := Lib.hid (RGet_ok l (some ⟨b, off, none⟩) cap hlc hc w hr (by omega))
  have HOK : Hid (¬ payOk l) := fun h => by have := h.2.1; omega
  rw [h1] at D1
  have D2 : Hid (∀ (a2 : Addr) (c2 : Nat), Calls Try.prog 10 #[.slice (some a2) 0 c2] w fun e w1 => ∃ A3 k, e = .returned (.tuple #[.slice A3 0 k, .int .i64 2]) ∧ Hid (Below w.heap.size w w1)) := fun a2 c2 => by
    refine (RPut_any (some a2) c2 [] w ⟨by simp, by simp⟩ (fun e => by cases e)).mono ?_
    rintro e w1 ⟨A3, k, he, hO, hB⟩
    exact ⟨A3, k, he, hB⟩
  simp only [show ((0 : Nat) : Int) = 0 from rfl] at D1
  clear hb h1 hr
  by_cases hc8 : cap = 8
  all_goals
    try subst hc8
    go_enter Try.func13, Try.ntmps13
    go_wp2_with (first
      | (go_at_call 26; ((with_reducible refine D1.out.mono ?_); rintro e w1 ⟨rfl, rfl⟩))
      | (go_at_call 10; ((with_reducible refine (D2.out _ _).mono ?_); rintro e w1 ⟨A3, k3, rfl, HB1⟩)))
    go_quiet (fail)
    go_wp2
    go_ret2
    exact FirstQ.no HOK.out (below_drewN HB1.out _)
theorem RFirst_any (A : Option Addr) (cap : Nat) (l : List Nat) (w : World) (hr : Hid (Rd w w.heap.size A l)) (hlc : l.length ≤ cap) (hc : cap ≤ 9223372036854775807) :
    Calls Try.prog 13 #[.slice A l.length cap] w (FirstQ l w) := by
  by_cases h4 : 4 ≤ l.length
  · by_cases h8 : payN l ≤ 65536 ∧ 8 + payN l ≤ l.length
    · rcases Nat.eq_zero_or_pos (payN l) with h0 | hp
      · exact RFirst_zero A cap l w hr hlc hc (by omega) h0
      · exact RFirst_in A cap l w hr hlc hc (by omega) hp h8.1 (by omega)
    · have D1 := Lib.hid (RGet_ok l A cap hlc hc w hr h4)
      have HOK : Hid (¬ payOk l) := fun h => h8 ⟨h.2.2.1, by have := h.1; have := h.2.2.2.1; omega⟩
      have hlt : payN l < 4294967296 := by have := payN_lt hr.out.1 0; simpa [payN] using this
      obtain ⟨n, hn⟩ : ∃ n, payN l = n := ⟨_, rfl⟩
      rw [hn] at D1 h8 hlt
      clear hn
      by_cases h6 : 65536 < n
      · have q2 : decide ((65536 : Int) < (n : Int)) = true := decide_eq_true (by omega)
        clear h8
        go_enter Try.func13, Try.ntmps13
        go_wp2_with (go_at_call 26; ((with_reducible refine D1.out.mono ?_); rintro e w1 ⟨rfl, rfl⟩))
        go_ret2
        exact FirstQ.no HOK.out (Below.refl _ _)
      · have q2 : decide ((65536 : Int) < (n : Int)) = false := decide_eq_false (by omega)
        have q3 : decide ((l.length : Int) < 8 + (n : Int)) = true := decide_eq_true (by omega)
        clear h8
        go_enter Try.func13, Try.ntmps13
        go_wp2_with (go_at_call 26; ((with_reducible refine D1.out.mono ?_); rintro e w1 ⟨rfl, rfl⟩))
        go_ret2
        exact FirstQ.no HOK.out (Below.refl _ _)
  · have D1 := Lib.hid (RGet_no l A cap hlc hc w hr h4)
    have HOK : Hid (¬ payOk l) := fun h => h4 (by have := h.1; omega)
    go_enter Try.func13, Try.ntmps13
    go_wp2_with (go_at_call 26; ((with_reducible refine D1.out.mono ?_); rintro e w1 ⟨rfl, rfl⟩))
    go_ret2
    exact FirstQ.no HOK.out (Below.refl _ _)
end Go.Proofs.Ytcdijhenfddmcaa.Rc
