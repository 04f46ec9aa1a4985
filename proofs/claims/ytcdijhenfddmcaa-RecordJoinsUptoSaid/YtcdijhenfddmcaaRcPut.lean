/- Contracts of record's Put and of its reference's. -/
import Derived.Test.YtcdijhenfddmcaaRcFun
namespace Go.Proofs.Ytcdijhenfddmcaa.Rc
open Go.RowKit
open Go.Proofs.Ytcdijhenfddmcaa.Me Go.Proofs.Ytcdijhenfddmcaa.Ma Go.Proofs.Ytcdijhenfddmcaa.Hd Go.Proofs.Ytcdijhenfddmcaa.Bt
open Go.Proofs.Ytcdijhenfddmcaa.Cr (sum sum_lt Sum_any RSum_any)
open Go.Proofs.Ytcdijhenfddmcaa.Ba (U wrapU_nat sizeB)
set_option linter.unusedVariables false
set_option linter.unusedSimpArgs false

/-- Put's bytes and its error. -/
def putL (p : List Nat) : List Nat := if fitR p = true then recL p else []
def putE (p : List Nat) : Int := if p.length = 0 then 2 else if 65536 < p.length then 3 else 0
theorem put_fit {p : List Nat} (h : fitR p = true) : putL p = recL p ∧ putE p = 0 := by
  obtain ⟨h1, h2⟩ := fit_iff.mp h
  exact ⟨if_pos h, by unfold putE; rw [if_neg (by omega), if_neg (by omega)]⟩
theorem put_nofit {p : List Nat} (h : ¬ fitR p = true) : putL p = [] ∧ putE p ≠ 0 := by
  refine ⟨if_neg h, ?_⟩
  rw [fit_iff] at h
  unfold putE
  split
  · decide
  · split
    · decide
    · omega
theorem putL_bytes {p : List Nat} (h : ∀ z ∈ p, z < 256) : ∀ z ∈ putL p, z < 256 := by
  unfold putL
  split
  · exact rec_bytes h
  · simp
/-- What both answer. -/
def PutQ (p : List Nat) (w : World) (e : Ending) (w' : World) : Prop :=
  ∃ A k, e = .returned (.tuple #[.slice A (putL p).length k, .int .i64 (putE p)]) ∧ Hid (Me.Own w' w.heap.size (.slice A (putL p).length k) (putL p)) ∧ Hid (Below w.heap.size w w')
theorem PutQ.q {p : List Nat} {w w' : World} {e : Ending} (h : PutQ p w e w') : ∃ A k, e = .returned (.tuple #[.slice A (putL p).length k, .int .i64 (putE p)]) ∧ Hid (Me.Own w' w.heap.size (.slice A (putL p).length k) (putL p)) ∧ Hid (Below w.heap.size w w') := h
theorem PutQ.ok {p : List Nat} {w w' : World} {v : Value} (hf : fitR p = true) (hp : ∀ z ∈ p, z < 256) (h : Me.Own w' w.heap.size v (recL p)) (hb : Below w.heap.size w w') : PutQ p w (.returned (.tuple #[v, .int .i64 0])) w' := by
  obtain ⟨e1, e2⟩ := put_fit hf
  obtain ⟨A, c, rfl, h1, h2, h3⟩ := h.held (rec_bytes hp)
  unfold PutQ
  rw [e1, e2]
  exact ⟨A, c, rfl, h, hb⟩
theorem PutQ.no {p : List Nat} {w : World} {x : Int} (h : putL p = []) (hx : x = putE p) : PutQ p w (.returned (.tuple #[.slice none 0 0, .int .i64 x])) w := by
  unfold PutQ
  rw [h, hx]
  exact ⟨none, 0, rfl, Me.Own.nil _ _, Below.refl _ _⟩
theorem u32_in {x : Nat} (h : x < 4294967296) : x < 256 ^ 4 := h
theorem u32_U {x : Nat} (h : x < 4294967296) : x < U := Nat.lt_trans h (by decide)
theorem rd_nil (w : World) (B : Nat) : Rd w B none [] := ⟨by simp, by simp⟩
set_option maxHeartbeats 1000000 in
theorem Put_fit (A : Option Addr) (cap : Nat) (l : List Nat) (w : World) (hr : Hid (Rd w w.heap.size A l)) (hA : Hid (A = none → l.length = 0 ∧ cap = 0)) (hlc : l.length ≤ cap) (hc : cap ≤ 9223372036854775807) (hf : fitR l = true) :
    Calls Try.prog 9 #[.slice A l.length cap] w (PutQ l w) := by
  have HF := Lib.hid hf
  have HB := Lib.hid hr.out.1
  obtain ⟨f1, f2⟩ := fit_iff.mp hf
  have hs4 : sizeB 8 (4 : Int) = true := by decide
  -- the length's bytes
  have D1 := Lib.hid (Put_ok [] l.length 4 none 0 0 hs4 (u32_in (by omega)) w (rd_nil _ _) (Nat.zero_le _) (by simp))
  -- the sum
  have D2 : Hid (∀ (W : World), Hid (Row W w.heap.size (byts l.length 4)) → Rd W W.heap.size A l → ∀ g, g = W.heap.size →
      Calls Try.prog 20 #[.slice (some ⟨g, 0, none⟩) 2 2] (W.alloc (.cells #[.slice (some ⟨w.heap.size, 0, none⟩) 4 4, .slice A l.length cap] 22)) fun e w' => e = .returned (.int .u64 (sum (sumL l) : Int)) ∧ W.alloc (.cells #[.slice (some ⟨w.heap.size, 0, none⟩) 4 4, .slice A l.length cap] 22) = w') := by
    rintro W h4 h5 g rfl
    have hl := lst_two (T := 22) (n1 := 4) (c1 := 4) (length_byts l.length 4).symm rfl (h4.out.rd (B := W.heap.size) h4.out.lt (byts_lt _ _)) h5 (Nat.le_refl _) hlc (by decide) hc (Nat.le_refl _)
    have := sumOf_any (some ⟨W.heap.size, 0, none⟩) 2 _ [byts l.length 4, l] _ hl (by simp)
    rw [show ([byts l.length 4, l] : List (List Nat)).flatten = sumL l by simp [sumL]] at this
    exact this
  have hsl := sum_lt4 hr.out.1
  have HBY : Hid (∀ z ∈ byts l.length 4, z < 256) := byts_lt _ _
  have HLY : Hid ((byts l.length 4).length = 4) := length_byts _ _
  have HREC : Hid ([byts l.length 4, byts (sum (sumL l)) 4, l].flatten = recL l) := by show _ = _; simp [recL]
  obtain ⟨x, hx⟩ : ∃ x, sum (sumL l) = x := ⟨_, rfl⟩
  rw [hx] at D2 hsl HREC
  have D3 := Lib.hid (fun (W : World) => Put_ok [] x 4 none 0 0 hs4 (u32_in hsl) W (rd_nil _ _) (Nat.zero_le _) (by simp))
  have HXY : Hid (∀ z ∈ byts x 4, z < 256) := byts_lt _ _
  have HXL : Hid ((byts x 4).length = 4) := length_byts _ _
  obtain ⟨b1, hb1⟩ : ∃ b, byts l.length 4 = b := ⟨_, rfl⟩
  obtain ⟨b2, hb2⟩ : ∃ b, byts x 4 = b := ⟨_, rfl⟩
  simp only [hb1, List.nil_append, List.length_nil, Nat.zero_add] at D1 D2 HBY HLY HREC
  simp only [hb2, List.nil_append, List.length_nil, Nat.zero_add] at D3 HXY HXL HREC
  clear hx hb1 hb2
  have e0 : ((l.length : Int) == 0) = false := by rw [beq_eq_false_iff_ne]; omega
  have e1 : decide ((65536 : Int) < (l.length : Int)) = false := decide_eq_false (by omega)
  have hw1 : (l.length : Int) % 18446744073709551616 = (l.length : Int) := by omega
  have D4 : Hid (∀ (W : World) (g2 : Nat), Hid (Row W w.heap.size b1) → Hid (Row W g2 b2) → Rd W W.heap.size A l → ∀ g, g = W.heap.size →
      Calls Try.prog 21 #[.slice (some ⟨g, 0, none⟩) 3 3] (W.alloc (.cells #[.slice (some ⟨w.heap.size, 0, none⟩) 4 4, .slice (some ⟨g2, 0, none⟩) 4 4, .slice A l.length cap] 22)) (OwnB (W.alloc (.cells #[.slice (some ⟨w.heap.size, 0, none⟩) 4 4, .slice (some ⟨g2, 0, none⟩) 4 4, .slice A l.length cap] 22)) (recL l))) := by
    rintro W g2 h4 h5 h6 g rfl
    obtain ⟨k1, k2⟩ := lst_three (T := 22) (n1 := 4) (n2 := 4) (c1 := 4) (c2 := 4) HLY.out.symm HXL.out.symm rfl (h4.out.rd h4.out.lt HBY.out) (h5.out.rd h5.out.lt HXY.out) h6 (Nat.le_refl _) (Nat.le_refl _) hlc (by decide) (by decide) hc (fun e => by cases e) (fun e => by cases e) hA.out (Nat.le_refl _)
    have k1' : Me.Lst (W.alloc (.cells #[.slice (some ⟨w.heap.size, 0, none⟩) 4 4, .slice (some ⟨g2, 0, none⟩) 4 4, .slice A l.length cap] 22)) (W.alloc (.cells #[.slice (some ⟨w.heap.size, 0, none⟩) 4 4, .slice (some ⟨g2, 0, none⟩) 4 4, .slice A l.length cap] 22)).heap.size (some ⟨W.heap.size, 0, none⟩) [b1, b2, l] := fun hp => by
      obtain ⟨b, off, e, hlt, hcs⟩ := k1 hp
      refine ⟨b, off, e, hlt, fun j hj => ?_⟩
      obtain ⟨A', c', q1, q2, q3, q4⟩ := hcs j hj
      exact ⟨A', c', q1, q2, q3, q4.more (by simp)⟩
    have hlen : [b1, b2, l].flatten.length = 8 + l.length := by rw [HREC.out, rec_len]
    have := Concat_any (some ⟨W.heap.size, 0, none⟩) 3 [b1, b2, l] _ k1' k2 (by simp) (by rw [hlen]; omega) (by rw [hlen]; omega)
    rw [HREC.out] at this
    exact this
  simp only [show ((4 : Nat) : Int) = 4 from rfl] at D1 D3
  have HRB := Lib.hid (rec_bytes hr.out.1)
  go_enter Try.func9, Try.ntmps9
  go_wp2_with (first
    | (go_at_call 19; have _t := e0; ((with_reducible refine D1.out.mono ?_); rintro e w1 ⟨rfl, HR1, HB1⟩); clear e0; have HL1 := Lib.hid ((hr.out.below HB1.out).more HB1.out.size))
    | (go_at_call 20; ((with_reducible refine (D2.out w1 HR1 HL1.out _ rfl).mono ?_); rintro e w2 ⟨rfl, rfl⟩))
    | (go_at_call 19; ((with_reducible refine (D3.out _).mono ?_); rintro e w3 ⟨rfl, HR3, HB3⟩))
    | (go_at_call 21; have hb3 := Lib.hid ((below_alloc HB1.out).trans (HB3.out.mono (by have := HB1.out.size; simp; omega))); have HR3' : Hid (Row w3 (w1.heap.size + 1) b2) := Lib.hid (by simpa using HR3.out); have hk : Hid (Row w3 w.heap.size b1) := ((HR1.out.below ((Below.refl _ _).alloc (Nat.le_refl _) _) HR1.out.lt).below HB3.out (by have := HR1.out.lt; simp; omega)); have hq : Hid (Rd w3 w3.heap.size A l) := ((hr.out.below hb3.out).more hb3.out.size); ((with_reducible refine (D4.out w3 (w1.heap.size + 1) hk HR3' hq.out _ rfl).mono ?_); rintro e w5 ⟨v5, rfl, HO5, HB5⟩)))
  go_ret2
  exact PutQ.ok HF.out HB.out (own_base HO5.out fun k hk => by have h1 := (HO5.out.lt k hk).1; have h2 := hb3.out.size; simp at h1; omega) ((below_alloc hb3.out).trans (HB5.out.mono (by have := hb3.out.size; simp; omega)))
theorem Put_any (A : Option Addr) (cap : Nat) (l : List Nat) (w : World) (hr : Hid (Rd w w.heap.size A l)) (hA : Hid (A = none → l.length = 0 ∧ cap = 0)) (hlc : l.length ≤ cap) (hc : cap ≤ 9223372036854775807) :
    Calls Try.prog 9 #[.slice A l.length cap] w (PutQ l w) := by
  by_cases hf : fitR l = true
  · exact Put_fit A cap l w hr hA hlc hc hf
  · obtain ⟨q1, _⟩ := put_nofit hf
    rw [fit_iff] at hf
    rcases Nat.eq_zero_or_pos l.length with h0 | hp
    · have HQ : Hid (putL l = [] ∧ (2 : Int) = putE l) := ⟨q1, by unfold putE; rw [if_pos h0]⟩
      have e0 : ((l.length : Int) == 0) = true := by rw [beq_iff_eq]; omega
      rw [h0] at e0 ⊢
      clear h0 hlc hr hA
      go_enter Try.func9, Try.ntmps9
      go_wp2
      go_ret2
      exact PutQ.no HQ.out.1 HQ.out.2
    · have HQ : Hid (putL l = [] ∧ (3 : Int) = putE l) := ⟨q1, by unfold putE; rw [if_neg (by omega), if_pos (by omega)]⟩
      have e0 : ((l.length : Int) == 0) = false := by rw [beq_eq_false_iff_ne]; omega
      have e1 : decide ((65536 : Int) < (l.length : Int)) = true := decide_eq_true (by omega)
      clear hr hA
      go_enter Try.func9, Try.ntmps9
      go_wp2
      go_ret2
      exact PutQ.no HQ.out.1 HQ.out.2
/-! ### The reference -/
set_option maxHeartbeats 1000000 in
theorem RPut_fit (A : Option Addr) (cap : Nat) (l : List Nat) (w : World) (hr : Hid (Rd w w.heap.size A l)) (hA : Hid (A = none → l.length = 0 ∧ cap = 0)) (hf : fitR l = true) :
    Calls Try.prog 10 #[.slice A l.length cap] w (PutQ l w) := by
  have HF := Lib.hid hf
  have HB := Lib.hid hr.out.1
  obtain ⟨f1, f2⟩ := fit_iff.mp hf
  have hs4 : sizeB 8 (4 : Int) = true := by decide
  have D1 := Lib.hid (RPut_ok [] l.length 4 none 0 0 hs4 (u32_U (by omega)) (u32_in (by omega)) w (rd_nil _ _) (fun _ => ⟨rfl, rfl⟩) (Nat.zero_le _) (by simp))
  have hsl := sum_lt4 hr.out.1
  have D2 := Lib.hid (fun (W : World) (A2 : Option Addr) (c2 : Nat) (h : Hid (Rd W W.heap.size A2 (sumL l))) => RSum_any A2 c2 W.heap.size (sumL l) W h (by simp [sumL, length_byts]; omega))
  have hlen : (sumL l).length = 4 + l.length := by simp [sumL, length_byts]
  have HS : Hid ([] ++ byts l.length 4 ++ l = sumL l) := by show _ = _; simp [sumL]
  have HSB := Lib.hid (sumL_bytes hr.out.1)
  have HREC : Hid (byts l.length 4 ++ byts (sum (sumL l)) 4 ++ l = recL l) := by show _ = _; simp [recL]
  obtain ⟨x, hx⟩ : ∃ x, sum (sumL l) = x := ⟨_, rfl⟩
  rw [hx] at D2 hsl HREC
  have HBY : Hid (∀ z ∈ byts l.length 4, z < 256) := byts_lt _ _
  have HLY : Hid ((byts l.length 4).length = 4) := length_byts _ _
  have HXY : Hid (∀ z ∈ byts x 4, z < 256) := byts_lt _ _
  have HXL : Hid ((byts x 4).length = 4) := length_byts _ _
  have D3 := Lib.hid (fun (b1 : List Nat) (A1 : Option Addr) (c1 : Nat) (h4 : b1.length = 4) (W : World) (hr1 : Hid (Rd W W.heap.size A1 b1)) (hA1 : Hid (A1 = none → b1.length = 0 ∧ c1 = 0)) => RPut_ok b1 x 4 A1 c1 W.heap.size hs4 (u32_U hsl) (u32_in hsl) W hr1 hA1 (Nat.le_refl _) (by omega))
  obtain ⟨b1, hb1⟩ : ∃ b, byts l.length 4 = b := ⟨_, rfl⟩
  obtain ⟨b2, hb2⟩ : ∃ b, byts x 4 = b := ⟨_, rfl⟩
  simp only [hb1, List.nil_append, List.length_nil, Nat.zero_add] at D1 HBY HLY HREC HS
  simp only [hb2] at D3 HXY HXL HREC
  simp only [show ((4 : Nat) : Int) = 4 from rfl] at D1 D3
  have HRB := Lib.hid (rec_bytes hr.out.1)
  have e0 : ((l.length : Int) == 0) = false := by rw [beq_eq_false_iff_ne]; omega
  have e1 : decide ((65536 : Int) < (l.length : Int)) = false := decide_eq_false (by omega)
  have hw1 : (l.length : Int) % 18446744073709551616 = (l.length : Int) := by omega
  obtain ⟨sl, hsd⟩ : ∃ s, sumL l = s := ⟨_, rfl⟩
  rw [hsd] at D2 HS HSB hlen
  clear hx hb1 hb2 hsd hlen
  go_enter Try.func10, Try.ntmps10
  go_wp2_with (first
    | (go_at_call 22; have _t := e0; ((with_reducible refine D1.out.mono ?_); rintro e w1 ⟨v1, rfl, ho1, hb1⟩); clear e0; have o1 : Me.Own w1 w.heap.size v1 b1 := (by unfold Me.Own; rw [HLY.out]; exact ho1); obtain ⟨A1, c1, rfl, p1, p2, p3⟩ := o1.held HBY.out; rw [HLY.out] at p1 o1 ⊢; have HO1 := Lib.hid o1; have HB1 := Lib.hid hb1; have R1 := Lib.hid p3.rd; have N1 := Lib.hid p3.2.2; clear ho1 hb1 o1 p3)
    | (at_builtin; refine app8 (w0 := w1) rfl (.tmp 22) (.tmp 23) rfl w1.heap.size w1.heap.size _ [] b1 rfl (Own.lit (Below.refl _ _)) (below_alloc (Below.refl _ _)) (below_alloc (Below.refl _ _)).size A1 c1 (by rw [HLY.out]; rfl) (R1.out.below (below_alloc (Below.refl _ _))) N1.out (by rw [HLY.out]; decide) ?_; intro v2 w2 ho2 hb2 hg2; rw [List.nil_append] at ho2; have HO2 := Lib.hid ho2; have HB2 := Lib.hid hb2; clear ho2 hb2 hg2)
    | (at_builtin; refine app8 (w0 := w1) rfl (.tmp 25) (.tmp 26) rfl w1.heap.size w.heap.size _ b1 l rfl HO2.out HB2.out HB2.out.size A cap rfl (hr.out.below (HB1.out.trans (HB2.out.mono HB1.out.size))) hA.out (by rw [HLY.out]; omega) ?_; intro v3 w3 ho3 hb3 hg3; rw [HS.out] at ho3; obtain ⟨A3, c3, rfl, p4, p5, p6⟩ := ho3.held HSB.out; have HB3 := Lib.hid hb3; have R3 := Lib.hid p6.rd; have R1' : Hid (Rd w3 w3.heap.size A1 b1) := (R1.out.below hb3).more hb3.size; have HBW : Hid (Below w.heap.size w w3) := HB1.out.trans (hb3.mono HB1.out.size); clear ho3 hb3 hg3 p6)
    | (go_at_call 23; ((with_reducible refine (D2.out w3 A3 c3 R3).mono ?_); rintro e w4 ⟨rfl, rfl⟩))
    | (go_at_call 22; have h := D3.out b1 A1 c1 HLY.out w3 R1' N1.out; rw [HLY.out] at h; ((with_reducible refine h.mono ?_); rintro e w5 ⟨v5, rfl, ho5, hb5⟩; have HO5 : Hid (Me.Own w5 w3.heap.size v5 (b1 ++ b2)) := (by show Me.Own _ _ _ _; unfold Me.Own; rw [List.length_append, HLY.out, HXL.out]; exact ho5); have HB5 := Lib.hid hb5; clear ho5 hb5 h))
    | (at_builtin; refine app8 (w0 := w3) rfl (.tmp 36) (.tmp 37) rfl w3.heap.size w.heap.size _ (b1 ++ b2) l rfl HO5.out HB5.out HB5.out.size A cap rfl (hr.out.below (HBW.out.trans (HB5.out.mono HBW.out.size))) hA.out (by rw [List.length_append, HLY.out, HXL.out]; omega) ?_; intro v6 w6 ho6 hb6 hg6; rw [HREC.out] at ho6; have HO6 := Lib.hid ho6; have HB6 := Lib.hid hb6; clear ho6 hb6 hg6))
  go_ret2
  exact PutQ.ok HF.out HB.out (own_base HO6.out fun k hk => Nat.le_trans HBW.out.size (HO6.out.lt k hk).1) (HBW.out.trans (HB6.out.mono HBW.out.size))
theorem RPut_any (A : Option Addr) (cap : Nat) (l : List Nat) (w : World) (hr : Hid (Rd w w.heap.size A l)) (hA : Hid (A = none → l.length = 0 ∧ cap = 0)) :
    Calls Try.prog 10 #[.slice A l.length cap] w (PutQ l w) := by
  by_cases hf : fitR l = true
  · exact RPut_fit A cap l w hr hA hf
  · obtain ⟨q1, _⟩ := put_nofit hf
    rw [fit_iff] at hf
    rcases Nat.eq_zero_or_pos l.length with h0 | hp
    · have HQ : Hid (putL l = [] ∧ (2 : Int) = putE l) := ⟨q1, by unfold putE; rw [if_pos h0]⟩
      have e0 : ((l.length : Int) == 0) = true := by rw [beq_iff_eq]; omega
      rw [h0] at e0 ⊢
      clear h0 hr hA
      go_enter Try.func10, Try.ntmps10
      go_wp2
      go_ret2
      exact PutQ.no HQ.out.1 HQ.out.2
    · have HQ : Hid (putL l = [] ∧ (3 : Int) = putE l) := ⟨q1, by unfold putE; rw [if_neg (by omega), if_pos (by omega)]⟩
      have e0 : ((l.length : Int) == 0) = false := by rw [beq_eq_false_iff_ne]; omega
      have e1 : decide ((65536 : Int) < (l.length : Int)) = true := decide_eq_true (by omega)
      clear hr hA
      go_enter Try.func10, Try.ntmps10
      go_wp2
      go_ret2
      exact PutQ.no HQ.out.1 HQ.out.2
end Go.Proofs.Ytcdijhenfddmcaa.Rc
