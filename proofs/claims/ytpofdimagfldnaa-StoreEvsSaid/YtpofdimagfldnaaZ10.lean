/- Are two messages the same? Both sides. -/
import Derived.Test.YtpofdimagfldnaaZ2
import Derived.Test.YtpofdimagfldnaaZ8
import Derived.Test.YtpofdimagfldnaaZ9
import Derived.Test.YtpofdimagfldnaaZ7
namespace Go.Proofs.Ytpofdimagfldnaa.Mg
open Go.RowKit
open Go.Proofs.Ytpofdimagfldnaa.Me
set_option linter.unusedVariables false
set_option linter.unusedSimpArgs false

def eqS (l r : List Nat) : Bool := (strOf l).toList == (strOf r).toList
theorem eqS_self (l : List Nat) : eqS l l = true := by simp [eqS]
theorem MsIn.below {w W : World} {A : Option Addr} {n c : Nat} {l : List Nat} (h : MsIn w A n c l) (hb : Below w.heap.size w W) : MsIn W A n c l := ⟨⟨h.1.1, h.1.2.1, h.1.2.2.1, (h.1.2.2.2.1.below hb).more hb.size, h.1.2.2.2.2⟩, h.2⟩
def eqI (i j : Id4) : Bool := decide (i.o = j.o) && (decide (i.d = j.d) && (decide (i.e = j.e) && decide (i.c = j.c)))
def sm (i j : Id4) (l r : List Nat) : Bool := eqI i j && eqS l r
theorem eqI_self (i : Id4) : eqI i i = true := by simp [eqI]
theorem eqI_eq {i j : Id4} (h : eqI i j = true) : i = j := by
  obtain ⟨o, d, e, c⟩ := i
  obtain ⟨p, q, r, s⟩ := j
  simp only [eqI, Bool.and_eq_true, decide_eq_true_eq] at h
  obtain ⟨rfl, rfl, rfl, rfl⟩ := h
  rfl
theorem sm_self (i : Id4) (l : List Nat) : sm i i l l = true := by unfold sm; rw [eqI_self, eqS_self]; rfl
theorem two_boxes (w : World) (x y : Array Value) : Below w.heap.size w ((w.alloc (.cells x 46 (0, 0))).alloc (.cells y 46 (0, 0))) := Me.below_alloc (Me.below_alloc (Below.refl _ _))
set_option maxRecDepth 100000 in
theorem RSame_any (i j : Id4) (A B : Option Addr) (n m c d : Nat) (l r : List Nat) (w : World) (h1 : Hid (MsIn w A n c l)) (h2 : Hid (MsIn w B m d r)) : Calls Try.prog 14 #[.agg (msgC i A n c), .agg (msgC j B m d)] w fun e w' => e = .returned (.bool (sm i j l r)) ∧ Hid (Below w.heap.size w w') := by
  obtain ⟨b, hb⟩ : ∃ b, sm i j l r = b := ⟨_, rfl⟩
  have HB := Lib.hid hb
  rw [hb]
  clear hb
  by_cases hE : eqI i j = true
  · have hij := eqI_eq hE
    subst hij
    have hb2 : eqS l r = b := by
      have := HB.out
      unfold sm at this
      rw [hE, Bool.true_and] at this
      exact this
    have HT := Lib.hid (two_boxes w)
    have k1 := fun W (hW : Below w.heap.size w W) => conv_rd W _ A l c (h1.out.below hW).1.2.2.2.1 (h1.out.below hW).1.2.2.2.2
    have k2 := fun W (hW : Below w.heap.size w W) => conv_rd W _ B r d (h2.out.below hW).1.2.2.2.1 (h2.out.below hW).1.2.2.2.2
    rw [← h1.out.1.1] at k1
    rw [← h2.out.1.1] at k2
    unfold eqS at hb2
    obtain ⟨s, hs⟩ : ∃ s, strOf l = s := ⟨_, rfl⟩
    obtain ⟨t, ht⟩ : ∃ t, strOf r = t := ⟨_, rfl⟩
    rw [hs] at k1 hb2
    rw [ht] at k2 hb2
    obtain ⟨o, dd, ee, cc⟩ := i
    simp only [msgC]
    have q1 := k1 _ (HT.out #[.int .i64 o, .int .i64 dd, .int .i64 ee, .int .i64 cc, .slice A n c] #[.int .i64 o, .int .i64 dd, .int .i64 ee, .int .i64 cc, .slice B m d])
    have q2 := k2 _ (HT.out #[.int .i64 o, .int .i64 dd, .int .i64 ee, .int .i64 cc, .slice A n c] #[.int .i64 o, .int .i64 dd, .int .i64 ee, .int .i64 cc, .slice B m d])
    clear HB hE k1 k2 hs ht h1 h2
    go_enter Try.func14, Try.ntmps14
    go_wp2
    go_ret
    exact ⟨by first | rfl | rw [hb2], HT.out _ _⟩
  · have hb2 : b = false := by
      have := HB.out
      unfold sm at this
      rw [Bool.eq_false_iff.2 hE, Bool.false_and] at this
      exact this.symm
    subst hb2
    have HT := Lib.hid (two_boxes w)
    obtain ⟨o, dd, ee, cc⟩ := i
    obtain ⟨p, q, s, t⟩ := j
    have HN : Hid (¬ (o = p ∧ dd = q ∧ ee = s ∧ cc = t)) := fun h => hE (by simp [eqI, h])
    clear hE HB h1 h2
    simp only [msgC]
    go_enter Try.func14, Try.ntmps14
    go_wp2
    all_goals first
      | (exfalso; apply HN.out; refine ⟨?_, ?_, ?_, ?_⟩ <;> assumption)
      | (go_ret
         exact ⟨rfl, HT.out _ _⟩)
end Go.Proofs.Ytpofdimagfldnaa.Mg
/- A message's bytes, both sides. -/
namespace Go.Proofs.Ytpofdimagfldnaa.Mg
open Go.RowKit
open Go.Proofs.Ytpofdimagfldnaa.Me Go.Proofs.Ytpofdimagfldnaa.Ba Go.Proofs.Ytpofdimagfldnaa.Ma
set_option linter.unusedVariables false
set_option linter.unusedSimpArgs false

theorem row_own {w : World} {g B : Nat} {l : List Nat} (h : Row w g l) (hB : B ≤ g) (hl : l.length ≤ 140737488355328) : Own w B (.slice (some ⟨g, 0, none⟩) l.length l.length) l := by
  refine ⟨by simp, .inr ⟨g, l.length, (l.map byV).toArray, rfl, hB, h, Nat.le_refl _, by unfold maxLen; omega, by simp, ?_⟩⟩
  rw [Nat.mul_one]
  exact List.take_of_length_le (by simp)
theorem by_below {w W : World} {A : Option Addr} {n c : Nat} {l : List Nat} (h : BySlice w A n c l) (hb : Below w.heap.size w W) : BySlice W A n c l := ⟨h.1, h.2.1, h.2.2.1, (h.2.2.2.1.below hb).more hb.size, h.2.2.2.2⟩
theorem msgN_zero {i : Id4} {n : Nat} (h : msgN i n = 0) : Right i ∧ 1 ≤ n ∧ n ≤ 48 := by
  unfold msgN at h
  by_cases h0 : chkN i = 0
  · rw [if_neg (by simp [h0])] at h
    refine ⟨right_iff.1 h0, ?_, ?_⟩
    · apply Classical.byContradiction
      intro hn
      rw [if_pos (by omega)] at h
      cases h
    · apply Classical.byContradiction
      intro hn
      rw [if_neg (by omega), if_pos (by omega)] at h
      cases h
  · rw [if_pos h0] at h
    exact absurd h h0
/-- What a Put answers. -/
def PutM (i : Id4) (n : Nat) (l : List Nat) (w : World) (e : Ending) (w' : World) : Prop :=
  (msgN i n ≠ 0 ∧ e = .returned (.tuple #[.slice none 0 0, .int .i64 (msgN i n : Int)]) ∧ Below w.heap.size w w') ∨
  (msgN i n = 0 ∧ ∃ v, e = .returned (.tuple #[v, .int .i64 0]) ∧ Own w' w.heap.size v (idL i ++ l) ∧ Below w.heap.size w w')
set_option maxRecDepth 100000 in
set_option maxHeartbeats 4000000 in
theorem Put_any (i : Id4) (A : Option Addr) (n c : Nat) (l : List Nat) (w : World) (hi : Hid (BySlice w A n c l)) : Calls Try.prog 49 #[.agg (msgC i A n c)] w (PutM i n l w) := by
  have HK := Lib.hid (fun W => CheckMsg_any i A n c W)
  have HX := Lib.hid (box5 i A n c w)
  unfold PutM
  by_cases hm : msgN i n = 0
  · obtain ⟨hr, h1, h48⟩ := msgN_zero hm
    have HP := Lib.hid (fun W => PutId_ok i hr W)
    rw [hm] at HK
    rw [hm]
    obtain rfl : n = l.length := hi.out.1
    have HL6 : Hid ((idL i).length + l.length ≤ 140737488355328) := by show _ + _ ≤ _; rw [idL_len]; omega
    have HOW : Hid (∀ W g, Row W g (idL i) → w.heap.size ≤ g → Own W w.heap.size (.slice (some ⟨g, 0, none⟩) 6 6) (idL i)) := fun W g h hg => by
      have := row_own h hg (by rw [idL_len]; omega)
      rw [idL_len] at this
      exact this
    have HRD : Hid (∀ W, Below w.heap.size w W → Rd W W.heap.size A l) := fun W hW => (by_below hi.out hW).2.2.2.1
    have HA : Hid (A = none → l.length = 0 ∧ c = 0) := hi.out.2.2.2.2
    have HS0 : Hid ((w.alloc (.cells (msgC i A l.length c) 46 (0, 0))).heap.size = w.heap.size + 1) := by show _ = _; simp
    clear hm hr hi
    obtain ⟨k, hk⟩ : ∃ k, idL i = k := ⟨_, rfl⟩
    rw [hk] at HP HL6 HOW ⊢
    clear hk
    rw [show ((0 : Nat) : Int) = 0 from rfl] at HK
    obtain ⟨o, dd, ee, cc⟩ := i
    simp only [msgC, idC] at HK HX HP HS0 ⊢
    go_enter Try.func49, Try.ntmps49
    go_wp2_with (first
      | (go_at_call 80; refine (HK.out _).mono ?_; rintro e w1 ⟨rfl, b1⟩; obtain ⟨x0, x1, x2, x3, x4, bw⟩ := HX.out w1 b1.out)
      | (go_at_call 50; refine (HP.out _).mono ?_; rintro e w2 ⟨g, rfl, hg, hrow, b2⟩; have hb12 := Lib.hid (b1.out.trans (b2.out.mono b1.out.size)); obtain ⟨y0, y1, y2, y3, y4, bw2⟩ := HX.out w2 hb12.out; have HBW := Lib.hid bw2; have HO := Lib.hid (HOW.out w2 g hrow.out (Nat.le_trans (by have := HS0.out; have := b1.out.size; omega) hg)); clear hg hrow)
      | (at_builtin; refine app8 rfl (.tmp 18) (.tmp 20) rfl w.heap.size w2.heap.size _ k l rfl HO.out HBW.out HBW.out.size A c rfl (HRD.out _ HBW.out) HA.out HL6.out ?_; intro v3 w3 ho3 hb3 _; have HO3 := Lib.hid ho3; have HB3 := Lib.hid hb3; clear ho3 hb3))
    go_ret2
    exact .inr ⟨trivial, _, rfl, HO3.out, HB3.out⟩
  · have hn := Lib.hid hm
    obtain ⟨z, hz⟩ : ∃ z, msgN i n = z := ⟨_, rfl⟩
    rw [hz] at HK hn ⊢
    have hz0 := nz hn.out
    clear hm hz hi
    obtain ⟨o, dd, ee, cc⟩ := i
    simp only [msgC] at HK HX ⊢
    go_enter Try.func49, Try.ntmps49
    go_wp2_with (go_at_call 80; refine (HK.out _).mono ?_; rintro e w1 ⟨rfl, b1⟩; obtain ⟨x0, x1, x2, x3, x4, bw⟩ := HX.out w1 b1.out)
    go_ret2
    exact .inl ⟨hn.out, rfl, bw⟩
set_option maxRecDepth 100000 in
set_option maxHeartbeats 4000000 in
theorem RPut_any (i : Id4) (A : Option Addr) (n c : Nat) (l : List Nat) (w : World) (hi : Hid (BySlice w A n c l)) : Calls Try.prog 52 #[.agg (msgC i A n c)] w (PutM i n l w) := by
  have HK := Lib.hid (fun W => RCheckMsg_any i A n c W)
  have HX := Lib.hid (box5 i A n c w)
  unfold PutM
  by_cases hm : msgN i n = 0
  · obtain ⟨hr, h1, h48⟩ := msgN_zero hm
    have HP := Lib.hid (fun W => RPutId_ok i hr W)
    rw [hm] at HK
    rw [hm]
    obtain rfl : n = l.length := hi.out.1
    have HL6 : Hid ((idL i).length + l.length ≤ 140737488355328) := by show _ + _ ≤ _; rw [idL_len]; omega
    have HOW : Hid (∀ W g, Row W g (idL i) → w.heap.size ≤ g → Own W w.heap.size (.slice (some ⟨g, 0, none⟩) 6 6) (idL i)) := fun W g h hg => by
      have := row_own h hg (by rw [idL_len]; omega)
      rw [idL_len] at this
      exact this
    have HRD : Hid (∀ W, Below w.heap.size w W → Rd W W.heap.size A l) := fun W hW => (by_below hi.out hW).2.2.2.1
    have HA : Hid (A = none → l.length = 0 ∧ c = 0) := hi.out.2.2.2.2
    have HS0 : Hid ((w.alloc (.cells (msgC i A l.length c) 46 (0, 0))).heap.size = w.heap.size + 1) := by show _ = _; simp
    clear hm hr hi
    obtain ⟨k, hk⟩ : ∃ k, idL i = k := ⟨_, rfl⟩
    rw [hk] at HP HL6 HOW ⊢
    clear hk
    rw [show ((0 : Nat) : Int) = 0 from rfl] at HK
    obtain ⟨o, dd, ee, cc⟩ := i
    simp only [msgC, idC] at HK HX HP HS0 ⊢
    go_enter Try.func52, Try.ntmps52
    go_wp2_with (first
      | (go_at_call 84; refine (HK.out _).mono ?_; rintro e w1 ⟨rfl, b1⟩; obtain ⟨x0, x1, x2, x3, x4, bw⟩ := HX.out w1 b1.out)
      | (go_at_call 53; refine (HP.out _).mono ?_; rintro e w2 ⟨g, rfl, hg, hrow, b2⟩; have hb12 := Lib.hid (b1.out.trans (b2.out.mono b1.out.size)); obtain ⟨y0, y1, y2, y3, y4, bw2⟩ := HX.out w2 hb12.out; have HBW := Lib.hid bw2; have HO := Lib.hid (HOW.out w2 g hrow.out (Nat.le_trans (by have := HS0.out; have := b1.out.size; omega) hg)); clear hg hrow)
      | (at_builtin; refine app8 rfl (.tmp 17) (.tmp 19) rfl w.heap.size w2.heap.size _ k l rfl HO.out HBW.out HBW.out.size A c rfl (HRD.out _ HBW.out) HA.out HL6.out ?_; intro v3 w3 ho3 hb3 _; have HO3 := Lib.hid ho3; have HB3 := Lib.hid hb3; clear ho3 hb3))
    go_ret2
    exact .inr ⟨trivial, _, rfl, HO3.out, HB3.out⟩
  · have hn := Lib.hid hm
    obtain ⟨z, hz⟩ : ∃ z, msgN i n = z := ⟨_, rfl⟩
    rw [hz] at HK hn ⊢
    have hz0 := nz hn.out
    clear hm hz hi
    obtain ⟨o, dd, ee, cc⟩ := i
    simp only [msgC] at HK HX ⊢
    go_enter Try.func52, Try.ntmps52
    go_wp2_with (first
    | (go_at_call 84; refine (HK.out _).mono ?_; rintro e w1 ⟨rfl, b1⟩; first
        | (have hb2 := Lib.hid (hb1.out.trans (b1.out.mono hb1.out.size)))
        | (have hb1 := b1; obtain ⟨x0, x1, x2, x3, x4, bw⟩ := HX.out w1 hb1.out)))
    go_ret2
    exact .inl ⟨hn.out, rfl, (HX.out _ hb2.out).2.2.2.2.2⟩
/-- An answer: bytes in new memory, and a number. -/
def OwP (L : List Nat) (z : Nat) (w : World) (e : Ending) (w' : World) : Prop := ∃ A c, e = .returned (.tuple #[.slice A L.length c, .int .i64 (z : Int)]) ∧ Hid (Own w' w.heap.size (.slice A L.length c) L) ∧ Hid (Below w.heap.size w w')
/-- A message's bytes, an id's, none where there is no right one. -/
def putL (i : Id4) (n : Nat) (l : List Nat) : List Nat := if msgN i n = 0 then idL i ++ l else []
def pidL (i : Id4) : List Nat := if chkN i = 0 then idL i else []
theorem putL_lt {i : Id4} {n : Nat} {l : List Nat} (h : ∀ z ∈ l, z < 256) : ∀ z ∈ putL i n l, z < 256 := by
  unfold putL
  split
  · intro z hz
    rw [List.mem_append] at hz
    exact hz.elim (bytK_lt i 4 z) (h z)
  · simp
theorem pidL_lt (i : Id4) : ∀ z ∈ pidL i, z < 256 := by
  unfold pidL
  split
  · exact bytK_lt i 4
  · simp
theorem PutM.ow {i : Id4} {n : Nat} {l : List Nat} {w w' : World} {e : Ending} (h : PutM i n l w e w') : OwP (putL i n l) (msgN i n) w e w' := by
  rcases h with ⟨h1, he, hb⟩ | ⟨h1, v, he, ho, hb⟩
  · unfold putL
    rw [if_neg h1]
    exact ⟨none, 0, he, Own.nil _ _, hb⟩
  · unfold putL
    rw [if_pos h1, h1]
    obtain ⟨g, c, rfl, _, _⟩ := ho.form (by rw [List.length_append, idL_len]; omega)
    exact ⟨_, c, he, ho, hb⟩
theorem Pid_any (i : Id4) (w : World) : Calls Try.prog 50 #[.agg (idC i)] w (OwP (pidL i) (chkN i) w) := by
  by_cases h : chkN i = 0
  · refine (PutId_ok i (right_iff.1 h) w).mono fun e w' ⟨g, he, hg, hr, hb⟩ => ?_
    have := row_own hr.out hg (by rw [idL_len]; omega)
    unfold pidL
    rw [if_pos h, h]
    rw [idL_len] at this
    exact ⟨_, 6, by rw [idL_len]; exact he, by rw [idL_len]; exact this, hb⟩
  · refine (PutId_no i h w).mono fun e w' ⟨he, hb⟩ => ?_
    unfold pidL
    rw [if_neg h]
    exact ⟨none, 0, he, Own.nil _ _, hb⟩
theorem RPid_any (i : Id4) (w : World) : Calls Try.prog 53 #[.agg (idC i)] w (OwP (pidL i) (chkN i) w) := by
  by_cases h : chkN i = 0
  · refine (RPutId_ok i (right_iff.1 h) w).mono fun e w' ⟨g, he, hg, hr, hb⟩ => ?_
    have := row_own hr.out hg (by rw [idL_len]; omega)
    unfold pidL
    rw [if_pos h, h]
    rw [idL_len] at this
    exact ⟨_, 6, by rw [idL_len]; exact he, by rw [idL_len]; exact this, hb⟩
  · refine (RPutId_no i h w).mono fun e w' ⟨he, hb⟩ => ?_
    unfold pidL
    rw [if_neg h]
    exact ⟨none, 0, he, Own.nil _ _, hb⟩
end Go.Proofs.Ytpofdimagfldnaa.Mg
/- The id of bytes: the closure that reads, GetId. -/
namespace Go.Proofs.Ytpofdimagfldnaa.Mg
open Go.RowKit
open Go.Proofs.Ytpofdimagfldnaa.Me Go.Proofs.Ytpofdimagfldnaa.Ba Go.Proofs.Ytpofdimagfldnaa.Ma Go.Proofs.Ytpofdimagfldnaa.Bt Go.Proofs.Ytpofdimagfldnaa.Hd
set_option linter.unusedVariables false
set_option linter.unusedSimpArgs false

set_option maxRecDepth 100000 in
set_option maxHeartbeats 4000000 in
theorem getc (fb : ByteArray) (s a : Nat) (A : Option Addr) (cap : Nat) (l : List Nat) (P Q : Nat) (W : World) (hs : sizeB 8 s = true) (ha : a + s ≤ l.length) (hl : l.length ≤ 100) (hlc : l.length ≤ cap) (hcm : cap ≤ 9223372036854775807)
    (hP : Hid (W.heap[P]? = some (.cells #[.slice A l.length cap] 44 (0, 0)))) (hQ : Hid (W.heap[Q]? = some (.cells #[.int .i64 (a : Int)] 3 (0, 0)))) (hr : Hid (Rd W W.heap.size A l)) (hPQ : P ≠ Q) (hs2 : s ≤ 2) :
    Calls Try.prog 106 #[.agg #[.string fb, .int .i64 (s : Int)], .pointer (some ⟨P, 0, none⟩), .pointer (some ⟨Q, 0, none⟩)] W fun e w' => e = .returned (.int .i64 (numP l a s : Int)) ∧ Hid (w'.heap[Q]? = some (.cells #[.int .i64 ((a + s : Nat) : Int)] 3 (0, 0))) ∧ Hid (But (fun b => b = Q) W w') := by
  have hPl := (Array.getElem?_eq_some_iff.1 hP.out).1
  have hQl := (Array.getElem?_eq_some_iff.1 hQ.out).1
  obtain ⟨W1, hW1⟩ : ∃ W1, W.alloc (.cells #[.string fb, .int .i64 (s : Int)] 143) = W1 := ⟨_, rfl⟩
  have hb : Below W.heap.size W W1 := by rw [← hW1]; exact Me.below_alloc (Below.refl _ _)
  have hs1 : W1.heap.size = W.heap.size + 1 := by rw [← hW1]; simp
  have hP1 : W1.cell? ⟨P, 0, none⟩ = some (.slice A l.length cap) := cell_of_row W1 P 0 _ _ (0, 0) ((hb.block P hPl).trans hP.out)
  have hQ1h := (hb.block Q hQl).trans hQ.out
  have hQ1 : W1.cell? ⟨Q, 0, none⟩ = some (.int .i64 (a : Int)) := cell_of_row W1 Q 0 _ _ (0, 0) hQ1h
  have hQf : W1.frozen? ⟨Q, 0, none⟩ = false := frozen_of_row W1 Q 0 _ _ hQ1h
  have hF1 : W1.cell? ⟨W.heap.size, 1, none⟩ = some (.int .i64 (s : Int)) := by
    rw [← hW1, cell_of_row _ _ _ _ _ (0, 0) (heap_alloc_new W _)]
    rfl
  have hsb : 1 ≤ s ∧ s ≤ 8 := by have := of_decide_eq_true hs; omega
  have HG : Hid (Calls Try.prog 107 #[.slice A l.length cap, .int .i64 (a : Int), .int .i64 (s : Int)] W1 fun e w' => e = .returned (.tuple #[.int .u64 (numP l a s : Int), .int .i64 0]) ∧ W1 = w') := by
    have := Get_any l a s A cap W1.heap.size hlc hcm W1 ((hr.out.below hb).more hb.size) (by omega)
    rw [getE_ok hs (by omega)] at this
    exact this
  have HN : Hid (numP l a s < U) := numP_lt hr.out.1 a hsb.2
  have HQ9 : Hid ((W1.setCell ⟨Q, 0, none⟩ (.int .i64 ((a + s : Nat) : Int))).heap[Q]? = some (.cells #[.int .i64 ((a + s : Nat) : Int)] 3 (0, 0))) := by
    show _ = _
    rw [heap_setCell_same W1 Q 0 _ _ _ hQ1h]
    rfl
  have HB9 : Hid (But (fun b => b = Q) W (W1.setCell ⟨Q, 0, none⟩ (.int .i64 ((a + s : Nat) : Int)))) := But.set (S := fun b => b = Q) (X := W1) (But.of_below hb) (p := ⟨Q, 0, none⟩) (.inl rfl) _
  have hw : wrap64 ((a : Int) + (s : Int)) = ((a + s : Nat) : Int) := (Mi.fits (Mi.small (by omega) (by omega))).trans (by omega)
  have hn : numP l a s < 65536 := by
    refine Nat.lt_of_lt_of_le (num_part_lt hr.out.1 a s) ?_
    obtain rfl | rfl : s = 1 ∨ s = 2 := by omega
    · decide
    · decide
  obtain ⟨N, hN⟩ : ∃ N, numP l a s = N := ⟨_, rfl⟩
  rw [hN] at HG hn ⊢
  have hw2 : wrap64 (N : Int) = N := Mi.fits (Mi.small (by omega) (by omega))
  obtain ⟨z, hz⟩ : ∃ z : Nat, a + s = z := ⟨_, rfl⟩
  rw [hz] at hw HQ9 HB9 ⊢
  clear hP hQ hr hb hs1 hQ1h hPl hQl HN hN hz ha hl hlc hcm hs hs2 hsb hPQ
  go_enter Try.func106, Try.ntmps106
  go_wp2_with (first
    | (rw [hW1])
    | (go_at_call 107; refine HG.out.mono ?_; rintro e w' ⟨rfl, rfl⟩))
  go_ret
  exact ⟨rfl, HQ9.out, HB9.out⟩
/-- The id that bytes tell, and what is answered beside it. -/
def idOf (l : List Nat) : Id4 := ⟨numP l 0 1, numP l 1 1, numP l 2 2, numP l 4 2⟩
def getI (l : List Nat) : Id4 := if l.length = 6 ∧ chkN (idOf l) = 0 then idOf l else ⟨0, 0, 0, 0⟩
def getZ (l : List Nat) : Nat := if l.length = 6 ∧ chkN (idOf l) = 0 then 0 else 2
end Go.Proofs.Ytpofdimagfldnaa.Mg
/- The id of bytes: GetId. -/
namespace Go.Proofs.Ytpofdimagfldnaa.Mg
open Go.RowKit
open Go.Proofs.Ytpofdimagfldnaa.Me Go.Proofs.Ytpofdimagfldnaa.Ba Go.Proofs.Ytpofdimagfldnaa.Ma Go.Proofs.Ytpofdimagfldnaa.Bt Go.Proofs.Ytpofdimagfldnaa.Hd
set_option linter.unusedVariables false
set_option linter.unusedSimpArgs false

/-- A return of a struct that lies in a block, and of a temporary. -/
theorem ret_box2 {fn : Func} {R : Ending → World → Prop} {a : Act} {w : World} {g : Nat} {cs : Array Value} {p u : Tmp} {ty t : TypeId} {fr : Nat × Nat} {d : TypeDesc} (hres : fn.results = #[.cell p ty, .tmp u]) (hp : a.tmps.getD p undef = .pointer (some ⟨g, 0, none⟩)) (hg : w.heap[g]? = some (.cells cs t fr))
    (hd : d.isRow = true) (hu : Try.prog.underlying ty = some d) (hi : (Try.prog.info? ty).map (·.size) = some cs.size) (hdef : a.defers = [])
    (hR : R (.returned (.tuple #[.agg cs, a.tmps.getD u undef])) w) : bodyPost Try.prog fn R .ret a w :=
  bodyPost_ret (v := .tuple #[.agg cs, a.tmps.getD u undef]) (by rw [results_cell_tmp hres, hp]; simp only [asAddr, Sem.run_pure, Result.andThen_ok, run_loadVar_row w g t ty cs fr d hg hu (by cases d <;> first | rfl | cases hd) hi]) hdef hR
/-- Where the reading stands. -/
def JG (A : Option Addr) (cap : Nat) (l : List Nat) (P Q : Nat) (W3 : World) (k : Nat) (W : World) : Prop :=
  W.heap[P]? = some (.cells #[.slice A l.length cap] 44 (0, 0)) ∧ W.heap[Q]? = some (.cells #[.int .i64 (lnK k : Int)] 3 (0, 0)) ∧ But (fun b => b = Q) W3 W
theorem jg_below {A : Option Addr} {cap : Nat} {l : List Nat} {P Q : Nat} {W3 : World} (hP : P < W3.heap.size) (hQ : Q < W3.heap.size) : ∀ k W W', JG A cap l P Q W3 k W → Below W3.heap.size W W' → JG A cap l P Q W3 k W' :=
  fun k W W' ⟨a, b, h⟩ hb => ⟨(hb.block P hP).trans a, (hb.block Q hQ).trans b, ⟨hb.os.trans h.os, hb.tape.trans h.tape, hb.output.trans h.output, Nat.le_trans h.size hb.size, fun c hc hn => (hb.block c hc).trans (h.same c hc hn)⟩⟩
theorem jg_reads {A : Option Addr} {cap : Nat} {l : List Nat} {P Q : Nat} {W3 : World} (hP : P < W3.heap.size) (hQ : Q < W3.heap.size) (hPQ : P ≠ Q) (hl : l.length = 6) (hlc : l.length ≤ cap) (hcm : cap ≤ 9223372036854775807) (hr : Rd W3 W3.heap.size A l) (hA : ∀ a, A = some a → ¬ a.block = Q) :
    Reads 106 (.pointer (some ⟨P, 0, none⟩)) (.pointer (some ⟨Q, 0, none⟩)) W3.heap.size (fun k => (numP l (lnK k) (szk k) : Int)) (JG A cap l P Q W3) := by
  intro k hk W ⟨ha, hb, h⟩ hB
  have hs : sizeB 8 (szk k) = true ∧ lnK k + szk k ≤ 6 ∧ szk k ≤ 2 ∧ lnK (k + 1) = lnK k + szk k := by
    obtain rfl | rfl | rfl | rfl : k = 0 ∨ k = 1 ∨ k = 2 ∨ k = 3 := by omega
    all_goals decide
  refine (getc (fmB k) (szk k) (lnK k) A cap l P Q W hs.1 (by omega) (by omega) hlc hcm ha hb (h.rd hr hA) hPQ hs.2.2.1).mono fun e w' ⟨he, hq, hbt⟩ => ?_
  refine ⟨he, ⟨(hbt.out.same P (Array.getElem?_eq_some_iff.1 ha).1 hPQ).trans ha, by rw [hs.2.2.2]; exact hq.out, h.trans hbt.out fun b _ e => e⟩, hbt.out.size, fun b hb1 hb2 => hbt.out.same b hb2 (by omega)⟩
end Go.Proofs.Ytpofdimagfldnaa.Mg
/- GetId of any bytes. -/
namespace Go.Proofs.Ytpofdimagfldnaa.Mg
open Go.RowKit
open Go.Proofs.Ytpofdimagfldnaa.Me Go.Proofs.Ytpofdimagfldnaa.Ba Go.Proofs.Ytpofdimagfldnaa.Ma Go.Proofs.Ytpofdimagfldnaa.Bt Go.Proofs.Ytpofdimagfldnaa.Hd
set_option linter.unusedVariables false
set_option linter.unusedSimpArgs false

theorem id_one (a b c d : Int) : (#[.int .i64 a, .int .i64 b, .int .i64 c, .int .i64 d] : Array Value).all (·.oneCell') = true := by simp [Value.oneCell']
set_option maxRecDepth 100000 in
set_option maxHeartbeats 8000000 in
theorem GetId_any (A : Option Addr) (n cap : Nat) (l : List Nat) (w : World) (hi : Hid (BySlice w A n cap l)) :
    Calls Try.prog 87 #[.slice A n cap] w fun e w' => e = .returned (.tuple #[.agg (idC (getI l)), .int .i64 (getZ l : Int)]) ∧ Hid (Below w.heap.size w w') := by
  obtain rfl : n = l.length := hi.out.1
  obtain ⟨W1, hW1⟩ : ∃ W, w.alloc (.cells #[.slice A l.length cap] 44) = W := ⟨_, rfl⟩
  obtain ⟨W2, hW2⟩ : ∃ W, W1.alloc (.cells #[.int .i64 0, .int .i64 0, .int .i64 0, .int .i64 0] 28) = W := ⟨_, rfl⟩
  have b1 : Below w.heap.size w W1 := by rw [← hW1]; exact Me.below_alloc (Below.refl _ _)
  have z1 : W1.heap.size = w.heap.size + 1 := by rw [← hW1]; simp
  have b2 : Below W1.heap.size W1 W2 := by rw [← hW2]; exact Me.below_alloc (Below.refl _ _)
  have z2 : W2.heap.size = w.heap.size + 1 + 1 := by rw [← hW2, World.size_alloc, z1]
  have p2 : W2.heap[w.heap.size]? = some (.cells #[.slice A l.length cap] 44 (0, 0)) := (b2.block _ (by omega)).trans (by rw [← hW1]; exact heap_alloc_new w _)
  have r2 : W2.heap[w.heap.size + 1]? = some (.cells #[.int .i64 0, .int .i64 0, .int .i64 0, .int .i64 0] 28 (0, 0)) := by
    rw [← hW2, ← z1]
    exact heap_alloc_new W1 _
  have b12 : Below w.heap.size w W2 := b1.trans (b2.mono b1.size)
  have c2 : W2.cell? ⟨w.heap.size, 0, none⟩ = some (.slice A l.length cap) := cell_of_row W2 w.heap.size 0 _ _ (0, 0) p2
  have hW : (w.alloc (.cells #[.slice A l.length cap] 44)).alloc (.cells #[.int .i64 0, .int .i64 0, .int .i64 0, .int .i64 0] 28) = W2 := by rw [hW1, hW2]
  have HW := Lib.hid hW
  have P2 := Lib.hid p2; have R2 := Lib.hid r2; have B12 := Lib.hid b12; have Z2 := Lib.hid z2
  clear hW1 hW2 b1 z1 b2 z2 p2 r2 b12 hW c2
  by_cases h6 : l.length = 6
  · have hlen : ((l.length : Int) == 6) = true := by simp [h6]
    obtain ⟨W3, hW3⟩ : ∃ W, W2.alloc (.cells #[.int .i64 0] 3) = W := ⟨_, rfl⟩
    have b3 : Below W2.heap.size W2 W3 := by rw [← hW3]; exact Me.below_alloc (Below.refl _ _)
    have z3 : W3.heap.size = w.heap.size + 1 + 1 + 1 := by rw [← hW3, World.size_alloc, Z2.out]
    have q3 : W3.heap[w.heap.size + 1 + 1]? = some (.cells #[.int .i64 ((lnK 0 : Nat) : Int)] 3 (0, 0)) := by
      rw [← hW3, ← Z2.out]
      exact heap_alloc_new W2 _
    have b13 : Below w.heap.size w W3 := B12.out.trans (b3.mono B12.out.size)
    have hr3 : Rd W3 W3.heap.size A l := (by_below hi.out b13).2.2.2.1
    have hA : ∀ a, A = some a → ¬ a.block = w.heap.size + 1 + 1 := by
      intro a ha e
      obtain ⟨b, off, e2, hb, _⟩ := hi.out.2.2.2.1.2 (by omega)
      rw [ha] at e2
      cases e2
      simp only at e
      omega
    have hG := gath2 w.heap.size (w.heap.size + 1 + 1) (fun k => (numP l (lnK k) (szk k) : Int)) (JG A cap l w.heap.size (w.heap.size + 1 + 1) W3) W3 ⟨(b3.block _ (by have := Z2.out; omega)).trans P2.out, q3, But.refl _ _⟩ (jg_below (by omega) (by omega)) (jg_reads (by omega) (by omega) (by omega) h6 hi.out.2.1 hi.out.2.2.1 hr3 hA)
    have HG : Hid (Calls Try.prog 105 #[.func (.func 106) #[] #[.pointer (some ⟨w.heap.size, 0, none⟩), .pointer (some ⟨w.heap.size + 1 + 1, 0, none⟩)]] W3 fun e w' => e = .returned (.agg (idC (idOf l))) ∧ But (fun b => b = w.heap.size + 1 + 1) W3 w') := hG.mono fun e w' ⟨he, hj, _⟩ => ⟨he, hj.2.2⟩
    have HR3 : Hid (W3.heap[w.heap.size + 1]? = some (.cells #[.int .i64 0, .int .i64 0, .int .i64 0, .int .i64 0] 28 (0, 0))) := (b3.block _ (by have := Z2.out; omega)).trans R2.out
    have HB3 := Lib.hid b13; have HZ3 := Lib.hid z3; have HW3 := Lib.hid hW3
    have HK := Lib.hid (fun W => Check_any (idOf l) W)
    have HBW : Hid (∀ w4 w5 cs x, But (fun b => b = w.heap.size + 1 + 1) W3 w4 → Below (w4.alloc x).heap.size (w4.alloc x) w5 → Below w.heap.size w (w5.setRow (w.heap.size + 1) cs)) := fun w4 w5 cs x h1 h2 => by
      have e1 := b13.trans (h1.below b13.size fun k e => by omega)
      have e2 := (Me.below_alloc (o := x) e1)
      have e3 := e2.trans (h2.mono e2.size)
      exact ⟨e3.os, e3.tape, e3.output, by simpa using e3.size, fun b hb => (setRow_other _ _ b _ (by omega)).trans (e3.block b hb)⟩
    have HRR : Hid (∀ w4 w5 x, But (fun b => b = w.heap.size + 1 + 1) W3 w4 → Below (w4.alloc x).heap.size (w4.alloc x) w5 → w5.heap[w.heap.size + 1]? = some (.cells #[.int .i64 0, .int .i64 0, .int .i64 0, .int .i64 0] 28 (0, 0))) := fun w4 w5 x h1 h2 => by
      have hlt : w.heap.size + 1 < w4.heap.size := by have := h1.size; omega
      exact (h2.block _ (by simp; omega)).trans ((Below.heap_alloc _ _ _ hlt).trans ((h1.same _ (by omega) (by omega)).trans HR3.out))
    obtain ⟨j, hj⟩ : ∃ j, idOf l = j := ⟨_, rfl⟩
    by_cases hk : chkN (idOf l) = 0
    · have hI : getI l = idOf l := by unfold getI; rw [if_pos ⟨h6, hk⟩]
      have hZ : getZ l = 0 := by unfold getZ; rw [if_pos ⟨h6, hk⟩]
      rw [hI, hZ]
      rw [hk] at HK
      rw [show ((0 : Nat) : Int) = 0 from rfl] at HK
      rw [hj] at HG HK ⊢
      clear hI hZ hk hG hA hr3 b3 z3 q3 b13 hW3 h6 P2 R2 hi hj
      obtain ⟨o, d, ee, c⟩ := j
      simp only [idC] at HG HK ⊢
      go_enter Try.func87, Try.ntmps87
      go_wp2_with (first
        | (go_at_call 105; rw [HW.out, HW3.out]; with_reducible refine HG.out.mono ?_; rintro e w4 ⟨rfl, hb4⟩; have HB4 := Lib.hid hb4)
        | (go_at_call 67; refine (HK.out _).mono ?_; rintro e w5 ⟨rfl, hb5⟩; obtain ⟨e0, e1, e2, e3⟩ := box4 o d ee c w4 w5 hb5.out; have HR5 := Lib.hid (HRR.out w4 w5 _ HB4.out hb5.out))
        | (refine wpList_store_row rfl 28 (.tmp 2) (.tmp 16) rfl (w.heap.size + 1) #[.int .i64 o, .int .i64 d, .int .i64 ee, .int .i64 c] rfl rfl 28 _ HR5.out (by kernel_rfl) rfl (id_one _ _ _ _) ?_))
      exact ret_box2 (g := w.heap.size + 1) rfl (by rfl) (setRow_heap _ _ _ _ _ _ HR5.out) rfl Try.underlying28 (by kernel_rfl) rfl ⟨rfl, HBW.out _ _ _ _ HB4.out hb5.out⟩
    · have hI : getI l = ⟨0, 0, 0, 0⟩ := by unfold getI; rw [if_neg (by simp [hk])]
      have hZ : getZ l = 2 := by unfold getZ; rw [if_neg (by simp [hk])]
      rw [hI, hZ]
      obtain ⟨x, hx⟩ : ∃ x, chkN (idOf l) = x := ⟨_, rfl⟩
      rw [hx] at HK hk
      have hne := nz hk
      rw [hj] at HG HK
      clear hI hZ hk hG hA hr3 b3 z3 q3 b13 hW3 h6 P2 R2 hi hj hx
      obtain ⟨o, d, ee, c⟩ := j
      simp only [idC] at HG HK ⊢
      go_enter Try.func87, Try.ntmps87
      go_wp2_with (first
        | (go_at_call 105; rw [HW.out, HW3.out]; with_reducible refine HG.out.mono ?_; rintro e w4 ⟨rfl, hb4⟩; have HB4 := Lib.hid hb4)
        | (go_at_call 67; refine (HK.out _).mono ?_; rintro e w5 ⟨rfl, hb5⟩; obtain ⟨e0, e1, e2, e3⟩ := box4 o d ee c w4 w5 hb5.out; have HR5 := Lib.hid (HRR.out w4 w5 _ HB4.out hb5.out))
        | (refine wpList_store_row rfl 28 (.tmp 2) (.tmp 15) rfl (w.heap.size + 1) #[.int .i64 0, .int .i64 0, .int .i64 0, .int .i64 0] rfl rfl 28 _ HR5.out (by kernel_rfl) rfl (id_one _ _ _ _) ?_))
      exact ret_box2 (g := w.heap.size + 1) rfl (by rfl) (setRow_heap _ _ _ _ _ _ HR5.out) rfl Try.underlying28 (by kernel_rfl) rfl ⟨rfl, HBW.out _ _ _ _ HB4.out hb5.out⟩
  · have hlen : ((l.length : Int) == 6) = false := by
      have : ¬ (l.length : Int) = 6 := by omega
      simpa using this
    have hI : getI l = ⟨0, 0, 0, 0⟩ := by unfold getI; rw [if_neg (by simp [h6])]
    have hZ : getZ l = 2 := by unfold getZ; rw [if_neg (by simp [h6])]
    rw [hI, hZ]
    simp only [idC]
    have HBE : Hid (Below w.heap.size w (W2.setRow (w.heap.size + 1) #[.int .i64 0, .int .i64 0, .int .i64 0, .int .i64 0])) := ⟨B12.out.os, B12.out.tape, B12.out.output, by simpa using B12.out.size, fun b hb => (setRow_other _ _ b _ (by omega)).trans (B12.out.block b hb)⟩
    have HRE := Lib.hid (setRow_heap W2 (w.heap.size + 1) _ #[.int .i64 0, .int .i64 0, .int .i64 0, .int .i64 0] _ _ R2.out)
    clear hI hZ h6 hi P2
    go_enter Try.func87, Try.ntmps87
    go_wp2_with (refine wpList_store_row rfl 28 (.tmp 2) (.tmp 9) rfl (w.heap.size + 1) #[.int .i64 0, .int .i64 0, .int .i64 0, .int .i64 0] rfl rfl 28 _ (by rw [HW.out]; exact R2.out) (by kernel_rfl) rfl (id_one _ _ _ _) ?_)
    first
      | (rw [HW.out]; exact ret_box2 (g := w.heap.size + 1) rfl (by rfl) HRE.out rfl Try.underlying28 (by kernel_rfl) rfl ⟨rfl, HBE.out⟩)
      | (rw [HW.out]; exact ret_box2 (g := w.heap.size + 1) rfl (by rfl) R2.out rfl Try.underlying28 (by kernel_rfl) rfl ⟨rfl, B12.out⟩)
end Go.Proofs.Ytpofdimagfldnaa.Mg
