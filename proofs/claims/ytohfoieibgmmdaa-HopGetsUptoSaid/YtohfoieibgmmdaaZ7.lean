/- A message's bytes, both sides. -/
import Derived.Test.YtohfoieibgmmdaaZ6
import Derived.Test.YtohfoieibgmmdaaZ3
namespace Go.Proofs.Ytohfoieibgmmdaa.Mg
open Go.RowKit
open Go.Proofs.Ytohfoieibgmmdaa.Me Go.Proofs.Ytohfoieibgmmdaa.Ba Go.Proofs.Ytohfoieibgmmdaa.Ma
set_option linter.unusedVariables false
set_option linter.unusedSimpArgs false

theorem row_own {w : World} {g B : Nat} {l : List Nat} (h : Row w g l) (hB : B ≤ g) (hl : l.length ≤ 140737488355328) : Own w B (.slice (some ⟨g, 0, none⟩) l.length l.length) l := by
  refine ⟨by simp, .inr ⟨g, l.length, (l.map byV).toArray, rfl, hB, h, Nat.le_refl _, by unfold maxLen; omega, by simp, ?_⟩⟩
  rw [Nat.mul_one]
  exact List.take_of_length_le (by simp)
theorem by_below {w W : World} {A : Option Addr} {n c : Nat} {l : List Nat} (h : BySlice w A n c l) (hb : Below w.heap.size w W) : BySlice W A n c l := ⟨h.1, h.2.1, h.2.2.1, (h.2.2.2.1.below hb).more hb.size, h.2.2.2.2⟩
theorem msgN_zero {i : Id4} {n : Nat} (h : msgN i n = 0) : Right i ∧ 1 ≤ n ∧ n ≤ 48 := by
  unfold msgN at h
  by_cases h0 : chkN i = 0
  · rw [if_neg (by simp [h0])] at h
    refine ⟨right_iff.1 h0, ?_, ?_⟩
    · apply Classical.byContradiction
      intro hn
      rw [if_pos (by omega)] at h
      cases h
    · apply Classical.byContradiction
      intro hn
      rw [if_neg (by omega), if_pos (by omega)] at h
      cases h
  · rw [if_pos h0] at h
    exact absurd h h0
/-- What a Put answers. -/
def PutM (i : Id4) (n : Nat) (l : List Nat) (w : World) (e : Ending) (w' : World) : Prop :=
  (msgN i n ≠ 0 ∧ e = .returned (.tuple #[.slice none 0 0, .int .i64 (msgN i n : Int)]) ∧ Below w.heap.size w w') ∨
  (msgN i n = 0 ∧ ∃ v, e = .returned (.tuple #[v, .int .i64 0]) ∧ Own w' w.heap.size v (idL i ++ l) ∧ Below w.heap.size w w')
set_option maxRecDepth 100000 in
set_option maxHeartbeats 4000000 in
theorem Put_any (i : Id4) (A : Option Addr) (n c : Nat) (l : List Nat) (w : World) (hi : Hid (BySlice w A n c l)) : Calls Try.prog 39 #[.agg (msgC i A n c)] w (PutM i n l w) := by
  have HK := Lib.hid (fun W => CheckMsg_any i A n c W)
  have HX := Lib.hid (box5 i A n c w)
  unfold PutM
  by_cases hm : msgN i n = 0
  · obtain ⟨hr, h1, h48⟩ := msgN_zero hm
    have HP := Lib.hid (fun W => PutId_ok i hr W)
    rw [hm] at HK
    rw [hm]
    obtain rfl : n = l.length := hi.out.1
    have HL6 : Hid ((idL i).length + l.length ≤ 140737488355328) := by show _ + _ ≤ _; rw [idL_len]; omega
    have HOW : Hid (∀ W g, Row W g (idL i) → w.heap.size ≤ g → Own W w.heap.size (.slice (some ⟨g, 0, none⟩) 6 6) (idL i)) := fun W g h hg => by
      have := row_own h hg (by rw [idL_len]; omega)
      rw [idL_len] at this
      exact this
    have HRD : Hid (∀ W, Below w.heap.size w W → Rd W W.heap.size A l) := fun W hW => (by_below hi.out hW).2.2.2.1
    have HA : Hid (A = none → l.length = 0 ∧ c = 0) := hi.out.2.2.2.2
    have HS0 : Hid ((w.alloc (.cells (msgC i A l.length c) 26 (0, 0))).heap.size = w.heap.size + 1) := by show _ = _; simp
    clear hm hr hi
    obtain ⟨k, hk⟩ : ∃ k, idL i = k := ⟨_, rfl⟩
    rw [hk] at HP HL6 HOW ⊢
    clear hk
    rw [show ((0 : Nat) : Int) = 0 from rfl] at HK
    obtain ⟨o, dd, ee, cc⟩ := i
    simp only [msgC, idC] at HK HX HP HS0 ⊢
    go_enter Try.func39, Try.ntmps39
    go_wp2_with (first
      | (go_at_call 63; refine (HK.out _).mono ?_; rintro e w1 ⟨rfl, b1⟩; obtain ⟨x0, x1, x2, x3, x4, bw⟩ := HX.out w1 b1.out)
      | (go_at_call 40; refine (HP.out _).mono ?_; rintro e w2 ⟨g, rfl, hg, hrow, b2⟩; have hb12 := Lib.hid (b1.out.trans (b2.out.mono b1.out.size)); obtain ⟨y0, y1, y2, y3, y4, bw2⟩ := HX.out w2 hb12.out; have HBW := Lib.hid bw2; have HO := Lib.hid (HOW.out w2 g hrow.out (Nat.le_trans (by have := HS0.out; have := b1.out.size; omega) hg)); clear hg hrow)
      | (at_builtin; refine app8 rfl (.tmp 18) (.tmp 20) rfl w.heap.size w2.heap.size _ k l rfl HO.out HBW.out HBW.out.size A c rfl (HRD.out _ HBW.out) HA.out HL6.out ?_; intro v3 w3 ho3 hb3 _; have HO3 := Lib.hid ho3; have HB3 := Lib.hid hb3; clear ho3 hb3))
    go_ret2
    exact .inr ⟨trivial, _, rfl, HO3.out, HB3.out⟩
  · have hn := Lib.hid hm
    obtain ⟨z, hz⟩ : ∃ z, msgN i n = z := ⟨_, rfl⟩
    rw [hz] at HK hn ⊢
    have hz0 := nz hn.out
    clear hm hz hi
    obtain ⟨o, dd, ee, cc⟩ := i
    simp only [msgC] at HK HX ⊢
    go_enter Try.func39, Try.ntmps39
    go_wp2_with (go_at_call 63; refine (HK.out _).mono ?_; rintro e w1 ⟨rfl, b1⟩; obtain ⟨x0, x1, x2, x3, x4, bw⟩ := HX.out w1 b1.out)
    go_ret2
    exact .inl ⟨hn.out, rfl, bw⟩
/-- An answer: bytes in new memory, and a number. -/
def OwP (L : List Nat) (z : Nat) (w : World) (e : Ending) (w' : World) : Prop := ∃ A c, e = .returned (.tuple #[.slice A L.length c, .int .i64 (z : Int)]) ∧ Hid (Own w' w.heap.size (.slice A L.length c) L) ∧ Hid (Below w.heap.size w w')
/-- A message's bytes, an id's, none where there is no right one. -/
def putL (i : Id4) (n : Nat) (l : List Nat) : List Nat := if msgN i n = 0 then idL i ++ l else []
def pidL (i : Id4) : List Nat := if chkN i = 0 then idL i else []
theorem putL_lt {i : Id4} {n : Nat} {l : List Nat} (h : ∀ z ∈ l, z < 256) : ∀ z ∈ putL i n l, z < 256 := by
  unfold putL
  split
  · intro z hz
    rw [List.mem_append] at hz
    exact hz.elim (bytK_lt i 4 z) (h z)
  · simp
theorem pidL_lt (i : Id4) : ∀ z ∈ pidL i, z < 256 := by
  unfold pidL
  split
  · exact bytK_lt i 4
  · simp
theorem PutM.ow {i : Id4} {n : Nat} {l : List Nat} {w w' : World} {e : Ending} (h : PutM i n l w e w') : OwP (putL i n l) (msgN i n) w e w' := by
  rcases h with ⟨h1, he, hb⟩ | ⟨h1, v, he, ho, hb⟩
  · unfold putL
    rw [if_neg h1]
    exact ⟨none, 0, he, Own.nil _ _, hb⟩
  · unfold putL
    rw [if_pos h1, h1]
    obtain ⟨g, c, rfl, _, _⟩ := ho.form (by rw [List.length_append, idL_len]; omega)
    exact ⟨_, c, he, ho, hb⟩
theorem Pid_any (i : Id4) (w : World) : Calls Try.prog 40 #[.agg (idC i)] w (OwP (pidL i) (chkN i) w) := by
  by_cases h : chkN i = 0
  · refine (PutId_ok i (right_iff.1 h) w).mono fun e w' ⟨g, he, hg, hr, hb⟩ => ?_
    have := row_own hr.out hg (by rw [idL_len]; omega)
    unfold pidL
    rw [if_pos h, h]
    rw [idL_len] at this
    exact ⟨_, 6, by rw [idL_len]; exact he, by rw [idL_len]; exact this, hb⟩
  · refine (PutId_no i h w).mono fun e w' ⟨he, hb⟩ => ?_
    unfold pidL
    rw [if_neg h]
    exact ⟨none, 0, he, Own.nil _ _, hb⟩
theorem RPid_any (i : Id4) (w : World) : Calls Try.prog 41 #[.agg (idC i)] w (OwP (pidL i) (chkN i) w) := by
  by_cases h : chkN i = 0
  · refine (RPutId_ok i (right_iff.1 h) w).mono fun e w' ⟨g, he, hg, hr, hb⟩ => ?_
    have := row_own hr.out hg (by rw [idL_len]; omega)
    unfold pidL
    rw [if_pos h, h]
    rw [idL_len] at this
    exact ⟨_, 6, by rw [idL_len]; exact he, by rw [idL_len]; exact this, hb⟩
  · refine (RPutId_no i h w).mono fun e w' ⟨he, hb⟩ => ?_
    unfold pidL
    rw [if_neg h]
    exact ⟨none, 0, he, Own.nil _ _, hb⟩
end Go.Proofs.Ytohfoieibgmmdaa.Mg
/- The document's Check of a word. -/
namespace Go.Proofs.Ytohfoieibgmmdaa.Hp
open Go.RowKit Go.Shelf
open Go.Proofs.Ytohfoieibgmmdaa.Me Go.Proofs.Ytohfoieibgmmdaa.Sb Go.Proofs.Ytohfoieibgmmdaa.Mg
set_option linter.unusedVariables false
set_option linter.unusedSimpArgs false

theorem eqS_nil (l : List Nat) (h : ∀ z ∈ l, z < 256) : eqS l [] = decide (l.length = 0) := by
  cases l with
  | nil => rw [eqS_self]; rfl
  | cons a l =>
    have : (strOf (a :: l)).toList ≠ (strOf []).toList := by
      intro e
      have := congrArg List.length e
      simp [strOf] at this
    unfold eqS
    rw [beq_eq_false_iff_ne.2 this]
    simp
theorem sm_zero (i : Id4) (l : List Nat) (h : ∀ z ∈ l, z < 256) : sm i ⟨0, 0, 0, 0⟩ l [] = (zeroB i && decide (l.length = 0)) := by
  unfold sm
  rw [eqS_nil l h]
  rfl
set_option maxRecDepth 100000 in
theorem RSameB_any (i j : Id4) (A B : Option Addr) (n m c d : Nat) (l r : List Nat) (w : World) (h1 : Hid (BySlice w A n c l)) (h2 : Hid (BySlice w B m d r)) : Calls Try.prog 47 #[.agg (msgC i A n c), .agg (msgC j B m d)] w fun e w' => e = .returned (.bool (sm i j l r)) ∧ Hid (Below w.heap.size w w') := by
  obtain ⟨b, hb⟩ : ∃ b, sm i j l r = b := ⟨_, rfl⟩
  have HB := Lib.hid hb
  rw [hb]
  clear hb
  by_cases hE : eqI i j = true
  · have hij := eqI_eq hE
    subst hij
    have hb2 : eqS l r = b := by
      have := HB.out
      unfold sm at this
      rw [hE, Bool.true_and] at this
      exact this
    have HT := Lib.hid (two_boxes w)
    have k1 := fun W (hW : Below w.heap.size w W) => conv_rd W _ A l c (by_below h1.out hW).2.2.2.1 (by_below h1.out hW).2.2.2.2
    have k2 := fun W (hW : Below w.heap.size w W) => conv_rd W _ B r d (by_below h2.out hW).2.2.2.1 (by_below h2.out hW).2.2.2.2
    rw [← h1.out.1] at k1
    rw [← h2.out.1] at k2
    unfold eqS at hb2
    obtain ⟨s, hs⟩ : ∃ s, strOf l = s := ⟨_, rfl⟩
    obtain ⟨t, ht⟩ : ∃ t, strOf r = t := ⟨_, rfl⟩
    rw [hs] at k1 hb2
    rw [ht] at k2 hb2
    obtain ⟨o, dd, ee, cc⟩ := i
    simp only [msgC]
    have q1 := k1 _ (HT.out #[.int .i64 o, .int .i64 dd, .int .i64 ee, .int .i64 cc, .slice A n c] #[.int .i64 o, .int .i64 dd, .int .i64 ee, .int .i64 cc, .slice B m d])
    have q2 := k2 _ (HT.out #[.int .i64 o, .int .i64 dd, .int .i64 ee, .int .i64 cc, .slice A n c] #[.int .i64 o, .int .i64 dd, .int .i64 ee, .int .i64 cc, .slice B m d])
    clear HB hE k1 k2 hs ht h1 h2
    go_enter Try.func47, Try.ntmps47
    go_wp2
    go_ret
    exact ⟨by first | rfl | rw [hb2], HT.out _ _⟩
  · have hb2 : b = false := by
      have := HB.out
      unfold sm at this
      rw [Bool.eq_false_iff.2 hE, Bool.false_and] at this
      exact this.symm
    subst hb2
    have HT := Lib.hid (two_boxes w)
    obtain ⟨o, dd, ee, cc⟩ := i
    obtain ⟨p, q, s, t⟩ := j
    have HN : Hid (¬ (o = p ∧ dd = q ∧ ee = s ∧ cc = t)) := fun h => hE (by simp [eqI, h])
    clear hE HB h1 h2
    simp only [msgC]
    go_enter Try.func47, Try.ntmps47
    go_wp2
    all_goals first
      | (exfalso; apply HN.out; refine ⟨?_, ?_, ?_, ?_⟩ <;> assumption)
      | (go_ret
         exact ⟨rfl, HT.out _ _⟩)
theorem RRoutes_any (k n : Int) (i : Id4) (A : Option Addr) (dn dc : Nat) (l : List Nat) (B : Option Addr) (cs : List Int) (cc : Nat) (w : World) (hi : Hid (BySlice w A dn dc l)) (hr : Hid (Mi.Rd w w.heap.size B cs)) (hc : cs.length ≤ 9223372036854775806) :
    Calls Try.prog 42 #[.agg (hopC k n i A dn dc B cs.length cc)] w fun e w' => e = .returned (.int .i64 (rouN n i dn cs : Int)) ∧ Hid (Below w.heap.size w w') := by
  have HC : Hid (∀ W, Below w.heap.size w W → Calls Try.prog 71 #[.slice B cs.length cc] W fun e w' => e = .returned (.bool (rightB cs)) ∧ W = w') := fun W hW => RRight_any B cc w.heap.size cs W (hr.out.below hW) hc
  have HS : Hid (∀ W, Below w.heap.size w W → Calls Try.prog 47 #[.agg (msgC i A dn dc), .agg (msgC ⟨0, 0, 0, 0⟩ none 0 0)] W fun e w' => e = .returned (.bool (zeroB i && decide (dn = 0))) ∧ Hid (Below W.heap.size W w')) := fun W hW => by
    have := RSameB_any i ⟨0, 0, 0, 0⟩ A none dn 0 dc 0 l [] W (by_below hi.out hW) (bySlice_none _)
    rw [sm_zero i l hi.out.2.2.2.1.1, ← hi.out.1] at this
    exact this
  have HB0 : Hid (Below w.heap.size w (w.alloc (.cells (hopC k n i A dn dc B cs.length cc) 29 (0, 0)))) := Me.below_alloc (Below.refl _ _)
  have hb := HB0.out
  have HB : Hid (∀ W, Below (w.alloc (.cells (hopC k n i A dn dc B cs.length cc) 29 (0, 0))).heap.size (w.alloc (.cells (hopC k n i A dn dc B cs.length cc) 29 (0, 0))) W → Below w.heap.size w W) := fun W hW => hb.trans (hW.mono hb.size)
  have HX := Lib.hid (box8 k n i A dn dc B cs.length cc w)
  clear hr hc hi hb
  have e : rouN n i dn cs = fe (rightB cs && ((zeroB i && decide (dn = 0)) && n == 0)) := by
    unfold rouN rouB rightB
    cases cs.any badC <;> cases n == 0 <;> cases zeroB i <;> cases decide (dn = 0) <;> cases decide (cs.length = 64) <;> rfl
  rw [e]
  obtain ⟨qa, hqa⟩ : ∃ q, rightB cs = q := ⟨_, rfl⟩
  obtain ⟨N, hN⟩ : ∃ q, cs.length = q := ⟨_, rfl⟩
  obtain ⟨qs, hqs⟩ : ∃ q, (zeroB i && decide (dn = 0)) = q := ⟨_, rfl⟩
  rw [hqa, hN] at HC
  rw [hqs] at HS
  rw [hN] at HX HB HB0
  rw [hqa, hN, hqs]
  clear hqa hN hqs e
  obtain ⟨o, d, ee, c⟩ := i
  simp only [hopC, msgC, Hx] at HX HB HB0 HS ⊢
  obtain ⟨qn, gn⟩ : ∃ q, (n == 0) = q := ⟨_, rfl⟩
  have gm : (n != 0) = !qn := by rw [← gn]; rfl
  rw [gn]
  cases qa
  case' true => cases qs
  case' true.true => cases qn
  all_goals
    simp only [Bool.true_and, Bool.false_and, Bool.and_false, Bool.not_true, Bool.not_false] at gm ⊢
    go_enter Try.func42, Try.ntmps42
    go_wp2_with (first
      | (go_at_call 71; refine (HC.out _ HB0.out).mono ?_; rintro e w1 ⟨rfl, rfl⟩)
      | (go_at_call 47; refine (HS.out _ HB0.out).mono ?_; rintro e w1 ⟨rfl, b1⟩; obtain ⟨⟨x0, x1, x2, x3, x4, x5, x6, x7⟩, bw⟩ := HX.out w1 b1.out))
    go_ret
    first
      | exact ⟨rfl, bw⟩
      | exact ⟨rfl, HB0.out⟩
set_option maxHeartbeats 1000000 in
theorem RCheck_any (k n : Int) (i : Id4) (A : Option Addr) (dn dc : Nat) (l : List Nat) (B : Option Addr) (cs : List Int) (cc : Nat) (w : World) (hi : Hid (BySlice w A dn dc l)) (hr : Hid (Mi.Rd w w.heap.size B cs)) (hc : cs.length ≤ 9223372036854775806) :
    Calls Try.prog 13 #[.agg (hopC k n i A dn dc B cs.length cc)] w fun e w' => e = .returned (.int .i64 (hopN k n i dn cs : Int)) ∧ Hid (Below w.heap.size w w') := by
  have H1 := Lib.hid (fun W => RCheckMsg_any i A dn dc W)
  have H2 := Lib.hid (fun W => Mg.RCheck_any i W)
  have H3 : Hid (∀ W, Below w.heap.size w W → Calls Try.prog 42 #[.agg (hopC k n i A dn dc B cs.length cc)] W fun e w' => e = .returned (.int .i64 (rouN n i dn cs : Int)) ∧ Hid (Below W.heap.size W w')) := fun W hW => RRoutes_any k n i A dn dc l B cs cc W (by_below hi.out hW) ((hr.out.below hW).more hW.size) hc
  have hb : Below w.heap.size w (w.alloc (.cells (hopC k n i A dn dc B cs.length cc) 29 (0, 0))) := Me.below_alloc (Below.refl _ _)
  have HB : Hid (∀ W, Below (w.alloc (.cells (hopC k n i A dn dc B cs.length cc) 29 (0, 0))).heap.size (w.alloc (.cells (hopC k n i A dn dc B cs.length cc) 29 (0, 0))) W → Below w.heap.size w W) := fun W hW => hb.trans (hW.mono hb.size)
  have HB0 := Lib.hid hb
  have HX := Lib.hid (box8 k n i A dn dc B cs.length cc w)
  clear hr hc hb hi
  unfold hopN
  obtain ⟨r3, h3⟩ : ∃ q, rouN n i dn cs = q := ⟨_, rfl⟩
  obtain ⟨N, hN⟩ : ∃ q, cs.length = q := ⟨_, rfl⟩
  unfold offN ansN
  obtain ⟨m1, h1⟩ : ∃ q, msgN i dn = q := ⟨_, rfl⟩
  obtain ⟨m2, h2⟩ : ∃ q, chkN i = q := ⟨_, rfl⟩
  have hz : chkN i ≠ 0 → msgN i dn ≠ 0 := fun h => by unfold msgN; rw [if_pos h]; exact h
  simp only [h1, h2, h3] at H1 H2 H3 hz ⊢
  simp only [hN] at H1 H2 H3 HB HB0 HX ⊢
  clear h1 h2 h3 hN
  obtain ⟨o, d, ee, c⟩ := i
  simp only [hopC, msgC, idC, Hx] at H1 H2 H3 HB HB0 HX ⊢
  obtain ⟨qn, gn⟩ : ∃ q, decide (n < 0) = q := ⟨_, rfl⟩
  obtain ⟨qm, gm⟩ : ∃ q, decide (65535 < n) = q := ⟨_, rfl⟩
  by_cases hk : 1 ≤ k ∧ k ≤ 4
  · have gk1 : decide (k < 1) = false := decide_eq_false (by omega)
    have gk2 : decide (4 < k) = false := decide_eq_false (by omega)
    by_cases hbad : n < 0 ∨ 65535 < n
    · rw [if_pos hbad]
      cases qn
      case' false => cases qm
      case false.false =>
        exfalso
        have a1 := of_decide_eq_false gn
        have a2 := of_decide_eq_false gm
        omega
      all_goals
        clear hbad hk
        go_enter Try.func13, Try.ntmps13
        go_wp2
        go_ret
        exact ⟨rfl, HB0.out⟩
    · rw [if_neg hbad]
      rw [decide_eq_false (by omega)] at gn gm
      subst gn gm
      have gn : decide (n < 0) = false := decide_eq_false (by omega)
      have gm : decide (65535 < n) = false := decide_eq_false (by omega)
      clear hbad
      by_cases k4 : k = 4
      · subst k4
        rw [if_neg (by omega), if_neg (by omega), if_pos rfl]
        clear hk
        go_enter Try.func13, Try.ntmps13
        go_wp2_with (go_at_call 42; refine (H3.out _ HB0.out).mono ?_; rintro e w1 ⟨rfl, b1⟩)
        go_ret
        exact ⟨rfl, HB.out _ b1.out⟩
      · have g4 : (k == 4) = false := beq_eq_false_iff_ne.mpr k4
        have gN := zq N
        have gD := zq dn
        by_cases k1 : k = 1
        · subst k1
          rw [if_pos rfl]
          clear hk g4 k4
          by_cases z : m1 = 0
          · subst z
            obtain rfl : m2 = 0 := Classical.byContradiction fun h => hz h rfl
            rw [if_neg (by simp)]
            rw [show ((0 : Nat) : Int) = 0 from rfl] at H1 H2
            by_cases hN : N = 0
            · subst hN
              go_enter Try.func13, Try.ntmps13
              go_wp2_with (first
              | (go_at_call 43; refine (H2.out _).mono ?_; rintro e w1 ⟨rfl, b1⟩; obtain ⟨⟨x0, x1, x2, x3, x4, x5, x6, x7⟩, bw⟩ := HX.out w1 b1.out)
              | (go_at_call 44; refine (H1.out _).mono ?_; rintro e w2 ⟨rfl, b2⟩; obtain ⟨⟨y0, y1, y2, y3, y4, y5, y6, y7⟩, bw2⟩ := HX.out w2 ((b1.out.trans (b2.out.mono b1.out.size)))))
              go_ret
              exact ⟨rfl, bw2⟩
            · rw [decide_eq_false hN]
              have g0 : (0 : Int) < (N : Int) := by omega
              go_enter Try.func13, Try.ntmps13
              go_wp2_with (first
              | (go_at_call 43; refine (H2.out _).mono ?_; rintro e w1 ⟨rfl, b1⟩; obtain ⟨⟨x0, x1, x2, x3, x4, x5, x6, x7⟩, bw⟩ := HX.out w1 b1.out)
              | (go_at_call 44; refine (H1.out _).mono ?_; rintro e w2 ⟨rfl, b2⟩; obtain ⟨⟨y0, y1, y2, y3, y4, y5, y6, y7⟩, bw2⟩ := HX.out w2 ((b1.out.trans (b2.out.mono b1.out.size)))))
              go_ret
              exact ⟨rfl, bw2⟩
          · have z1 := nz z
            rw [if_pos z]
            clear hz
            go_enter Try.func13, Try.ntmps13
            go_wp2_with (first
              | (go_at_call 43; refine (H2.out _).mono ?_; rintro e w1 ⟨rfl, b1⟩; obtain ⟨⟨x0, x1, x2, x3, x4, x5, x6, x7⟩, bw⟩ := HX.out w1 b1.out)
              | (go_at_call 44; refine (H1.out _).mono ?_; rintro e w2 ⟨rfl, b2⟩; obtain ⟨⟨y0, y1, y2, y3, y4, y5, y6, y7⟩, bw2⟩ := HX.out w2 ((b1.out.trans (b2.out.mono b1.out.size)))))
            go_ret
            exact ⟨rfl, bw2⟩
        · have g1 : (k == 1) = false := beq_eq_false_iff_ne.mpr k1
          have g1n : (k != 1) = true := by rw [bne, g1]; rfl
          rw [if_neg k1, if_pos (by omega)]
          clear k1 k4 hz
          have hk2 := hk
          clear hk
          by_cases z : m2 = 0
          · subst z
            rw [if_neg (by simp)]
            rw [show ((0 : Nat) : Int) = 0 from rfl] at H2
            by_cases hN : N = 0
            · subst hN
              by_cases hD : dn = 0
              · subst hD
                clear hk2
                go_enter Try.func13, Try.ntmps13
                go_wp2_with (go_at_call 43; refine (H2.out _).mono ?_; rintro e w1 ⟨rfl, b1⟩; obtain ⟨⟨x0, x1, x2, x3, x4, x5, x6, x7⟩, bw⟩ := HX.out w1 b1.out)
                go_ret
                exact ⟨rfl, bw⟩
              · rw [decide_eq_false hD]
                have g0 : (0 : Int) < (dn : Int) := by omega
                clear hk2
                go_enter Try.func13, Try.ntmps13
                go_wp2_with (go_at_call 43; refine (H2.out _).mono ?_; rintro e w1 ⟨rfl, b1⟩; obtain ⟨⟨x0, x1, x2, x3, x4, x5, x6, x7⟩, bw⟩ := HX.out w1 b1.out)
                go_ret
                exact ⟨rfl, bw⟩
            · rw [decide_eq_false hN, Bool.and_false]
              have g0 : (0 : Int) < (N : Int) := by omega
              clear hk2
              go_enter Try.func13, Try.ntmps13
              go_wp2_with (go_at_call 43; refine (H2.out _).mono ?_; rintro e w1 ⟨rfl, b1⟩; obtain ⟨⟨x0, x1, x2, x3, x4, x5, x6, x7⟩, bw⟩ := HX.out w1 b1.out)
              go_ret
              exact ⟨rfl, bw⟩
          · have z1 := nz z
            rw [if_pos z]
            clear hk2
            go_enter Try.func13, Try.ntmps13
            go_wp2_with (go_at_call 43; refine (H2.out _).mono ?_; rintro e w1 ⟨rfl, b1⟩; obtain ⟨⟨x0, x1, x2, x3, x4, x5, x6, x7⟩, bw⟩ := HX.out w1 b1.out)
            go_ret
            exact ⟨rfl, bw⟩
  · have e1 : (if n < 0 ∨ 65535 < n then 1 else if k = 1 then (if m1 ≠ 0 then m1 else fe (decide (N = 0))) else if k = 2 ∨ k = 3 then (if m2 ≠ 0 then m2 else fe (decide (dn = 0) && decide (N = 0))) else if k = 4 then r3 else 1) = 1 := by
      split
      · rfl
      · rw [if_neg (by omega), if_neg (by omega), if_neg (by omega)]
    rw [e1]
    by_cases h1 : k < 1
    · have gk1 : decide (k < 1) = true := decide_eq_true h1
      clear hk e1 hz
      go_enter Try.func13, Try.ntmps13
      go_wp2
      go_ret
      exact ⟨rfl, HB0.out⟩
    · have gk1 : decide (k < 1) = false := decide_eq_false h1
      have gk2 : decide (4 < k) = true := decide_eq_true (by omega)
      clear hk e1 hz
      go_enter Try.func13, Try.ntmps13
      go_wp2
      go_ret
      exact ⟨rfl, HB0.out⟩
end Go.Proofs.Ytohfoieibgmmdaa.Hp
