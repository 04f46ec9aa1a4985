/- A sender and a receiver: what both hold of all that was pushed. -/
import Derived.Test.YtnfjfcoonabmmaaRvWin
import Derived.Test.YtnfjfcoonabmmaaSnGone
namespace Go.Proofs.Ytnfjfcoonabmmaa.Rv
open Go.RowKit
open Go.Proofs.Ytnfjfcoonabmmaa.Me Go.Proofs.Ytnfjfcoonabmmaa.Hd Go.Proofs.Ytnfjfcoonabmmaa.Sn
set_option linter.unusedVariables false

/-- A sender, a receiver, what was pushed, how many are acknowledged, how many were told. -/
structure Pr where
  s : Snd
  r : Rcv
  ps : List (List Nat)
  g : Nat
  W : Nat
/-- How many were sent. -/
def Pr.S (x : Pr) : Nat := x.g + x.s.under
structure Pst (n : Nat) (x : Pr) : Prop where
  n63 : n ≤ 63
  sok : x.s.Ok
  rok : x.r.Ok
  ss : x.s.size = n
  rs : x.r.size = n
  gone : Gone x.s x.ps x.g
  gw : x.g ≤ x.W
  wS : x.W ≤ x.S
  wt : x.r.waits = x.W % 128
  kp : ∀ k p, x.r.kept k = some p → ∃ m, x.W ≤ m ∧ m < x.S ∧ k = m % 128 ∧ p = lsAt x.ps m
  kw : x.r.kept (x.W % 128) = none
  by_ : ∀ p ∈ x.ps, p.length = 2 ∧ ∀ z ∈ p, z < 256
def newP (n : Nat) : Pr := ⟨newS n, newR n, [], 0, 0⟩
theorem Pst.new {n : Nat} (h1 : 1 ≤ n) (h2 : n ≤ 63) : Pst n (newP n) :=
  ⟨h2, Snd.Ok.new h1 h2, Rcv.Ok.new h1 h2, rfl, rfl, Gone.new n, Nat.le_refl _, Nat.zero_le _, rfl, fun k p h => (by cases h), rfl, fun p h => (by cases h)⟩
section
variable {n : Nat} {x : Pr}
theorem Pst.len (h : Pst n x) : x.g + x.s.l.length = x.ps.length := h.gone.1
theorem Pst.under (h : Pst n x) : x.s.under ≤ n := by have := h.sok.u; rw [h.ss] at this; exact this
theorem Pst.Sle (h : Pst n x) : x.S ≤ x.ps.length := by have := h.len; have := h.sok.ul; unfold Pr.S; omega
theorem Pst.at_ (h : Pst n x) {m : Nat} (hm : m < x.ps.length) : (lsAt x.ps m).length = 2 ∧ ∀ z ∈ lsAt x.ps m, z < 256 := h.by_ _ (lsAt_mem hm)
theorem Pst.win (h : Pst n x) : Win x.r := fun k p hk => by
  obtain ⟨m, h1, h2, rfl, _⟩ := h.kp k p hk
  have := h.under
  have := h.gw
  have := h.n63
  rw [h.rs, h.wt]
  unfold Pr.S at h2
  unfold way
  omega
theorem Pst.push (h : Pst n x) {b : List Nat} (hb : b.length = 2 ∧ ∀ z ∈ b, z < 256) (he : pushE x.s b = 0) : Pst n ⟨pushS x.s b, x.r, x.ps ++ [b], x.g, x.W⟩ := by
  obtain ⟨q1, q2, q3⟩ := h.gone.push b he
  have hS := h.Sle
  refine ⟨h.n63, h.sok.push hb.2, h.rok, q2.trans h.ss, h.rs, q1, h.gw, by show x.W ≤ x.g + _; rw [q3]; exact h.wS, h.wt, fun k p hk => ?_, h.kw, fun p hp => ?_⟩
  · obtain ⟨m, h1, h2, h3, h4⟩ := h.kp k p hk
    refine ⟨m, h1, by show m < x.g + _; rw [q3]; exact h2, h3, ?_⟩
    rw [h4]
    exact (lsAt_append_left (by omega)).symm
  · rcases List.mem_append.1 hp with hp | hp
    · exact h.by_ p hp
    · obtain rfl : p = b := by simpa using hp
      exact hb
theorem Pst.send (h : Pst n x) : Pst n ⟨sendS x.s, x.r, x.ps, x.g, x.W⟩ := by
  obtain ⟨q1, q2, q3⟩ := h.gone.send
  have hle : x.S ≤ x.g + (sendS x.s).under := by rw [q3]; unfold Pr.S; omega
  refine ⟨h.n63, h.sok.send, h.rok, q2.trans h.ss, h.rs, q1, h.gw, Nat.le_trans h.wS hle, h.wt, fun k p hk => ?_, h.kw, h.by_⟩
  obtain ⟨m, h1, h2, h3, h4⟩ := h.kp k p hk
  exact ⟨m, h1, Nat.lt_of_lt_of_le h2 hle, h3, h4⟩
/-- The receiver's number is acknowledged. -/
theorem Pst.ack (h : Pst n x) : Pst n ⟨ackS x.s (x.r.waits : Int), x.r, x.ps, x.W, x.W⟩ ∧ (ackS x.s (x.r.waits : Int)).l.length + (x.W - x.g) = x.s.l.length ∧ x.W + (ackS x.s (x.r.waits : Int)).under = x.S := by
  have hu := h.under
  have h63 := h.n63
  have hgw := h.gw
  have hwS := h.wS
  unfold Pr.S at hwS
  have hb := h.gone.2.2
  have hway : wayOf x.s (x.r.waits : Int) = x.W - x.g := by
    unfold wayOf
    rw [h.wt, hb]
    omega
  have he : ackE x.s (x.r.waits : Int) = 0 := by
    have := h.rok.w
    unfold ackE
    rw [if_neg (by omega), if_neg (by rw [hway]; omega)]
  have hN : ackN x.s (x.r.waits : Int) = x.W - x.g := by unfold ackN; rw [if_pos he, hway]
  obtain ⟨q1, q2, q3⟩ := h.gone.ack h.sok (x.r.waits : Int)
  rw [hN] at q1 q3
  have hg : x.g + (x.W - x.g) = x.W := by omega
  rw [hg] at q1
  have hS : x.W + (ackS x.s (x.r.waits : Int)).under = x.S := by unfold Pr.S; omega
  refine ⟨⟨h63, h.sok.ack _, h.rok, q2.trans h.ss, h.rs, q1, Nat.le_refl _, Nat.le_add_right _ _, h.wt, fun k p hk => ?_, h.kw, h.by_⟩, ?_, hS⟩
  · obtain ⟨m, h1, h2, h3, h4⟩ := h.kp k p hk
    refine ⟨m, h1, ?_, h3, h4⟩
    show m < x.W + _
    rw [hS]; exact h2
  · have e1 := q1.1
    have e2 := h.len
    omega
/-- May number m be taken? -/
theorem Pst.may (h : Pst n x) {m : Nat} (hm : m < x.S) (hm63 : x.S ≤ m + 63) (he : mayE x.r ((m % 128 : Nat) : Int) (lsAt x.ps m) = 0) : x.W ≤ m := by
  obtain ⟨k, hk, hk1, _, _, hw, _⟩ := may_ok he
  obtain rfl : k = m % 128 := by omega
  rw [h.rs, h.wt] at hw
  have hwS := h.wS
  have h63 := h.n63
  unfold way at hw
  omega
theorem Pst.may_at (h : Pst n x) {m : Nat} (hm : m < x.S) (hw : m = x.W) : mayE x.r ((m % 128 : Nat) : Int) (lsAt x.ps m) = 0 := by
  have hS := h.Sle
  obtain ⟨a1, a2⟩ := h.at_ (m := m) (by omega)
  have hu := h.under
  have hgw := h.gw
  unfold Pr.S at hm
  unfold mayE
  rw [if_neg (by omega), if_neg (by omega), if_neg (by omega), Int.toNat_natCast, if_neg (by rw [h.rs, h.wt, hw]; unfold way; omega), hw, h.kw]
  rfl
/-- What is told is what was pushed. -/
theorem Pst.take (h : Pst n x) {m i : Nat} (hm : m < x.S) (hm63 : x.S ≤ m + 63) (he : mayE x.r ((m % 128 : Nat) : Int) (lsAt x.ps m) = 0) (ht : Tells (keepR x.r (m % 128) (lsAt x.ps m)) i) :
    Pst n ⟨x.s, takeR x.r (m % 128) (lsAt x.ps m) i, x.ps, x.g, x.W + i⟩ ∧ x.ps.take (x.W + i) = x.ps.take x.W ++ toldR (keepR x.r (m % 128) (lsAt x.ps m)) i ∧ (m = x.W → 1 ≤ i) := by
  have hWm := h.may hm hm63 he
  have hS := h.Sle
  have hu := h.under
  have hgw := h.gw
  have h63 := h.n63
  have hwS := h.wS
  obtain ⟨a1, a2⟩ := h.at_ (m := m) (by omega)
  obtain ⟨k0, hk0, hk1, _, _, hway, _⟩ := may_ok he
  obtain rfl : k0 = m % 128 := by omega
  have ok2 : (keepR x.r (m % 128) (lsAt x.ps m)).Ok := h.rok.keep (by omega) a2
  have hw2 : Win (keepR x.r (m % 128) (lsAt x.ps m)) := h.win.keep hway _
  have hin := ht.small ok2 hw2
  have hin' : i ≤ n := by rw [← h.rs]; exact hin
  have hSd : x.S = x.g + x.s.under := rfl
  -- what is kept now
  have kp2 : ∀ k p, (keepR x.r (m % 128) (lsAt x.ps m)).kept k = some p → ∃ q, x.W ≤ q ∧ q < x.S ∧ k = q % 128 ∧ p = lsAt x.ps q := fun k p hk => by
    simp only [keepR] at hk
    split at hk
    · rename_i e
      cases hk
      exact ⟨m, hWm, hm, e, rfl⟩
    · exact h.kp k p hk
  have hwt2 : (keepR x.r (m % 128) (lsAt x.ps m)).waits = x.W % 128 := h.wt
  have hall : ∀ j, j < i → x.W + j < x.S ∧ (keepR x.r (m % 128) (lsAt x.ps m)).kept ((x.W % 128 + j) % 128) = some (lsAt x.ps (x.W + j)) := fun j hj => by
    have h1 := ht.all j hj
    rw [hwt2] at h1
    cases hq : (keepR x.r (m % 128) (lsAt x.ps m)).kept ((x.W % 128 + j) % 128) with
    | none => rw [hq] at h1; cases h1
    | some p =>
      obtain ⟨q, q1, q2, q3, q4⟩ := kp2 _ p hq
      obtain rfl : q = x.W + j := by omega
      exact ⟨q2, by rw [q4]⟩
  have htold : ∀ j, j ≤ i → x.ps.take (x.W + j) = x.ps.take x.W ++ toldR (keepR x.r (m % 128) (lsAt x.ps m)) j := by
    intro j
    induction j with
    | zero => intro _; simp [toldR]
    | succ j ih =>
      intro hj
      obtain ⟨b1, b2⟩ := hall j (by omega)
      rw [toldR_succ, ← List.append_assoc, ← ih (by omega), hwt2, b2]
      have hlt : x.W + j < x.ps.length := by omega
      rw [← Nat.add_assoc, List.take_succ_eq_append_getElem hlt]
      simp [lsAt, hlt]
  have hWi : x.W + i ≤ x.S := by
    by_cases h0 : i = 0
    · omega
    · have := (hall (i - 1) (by omega)).1; omega
  have hend := ht.end_
  rw [hwt2] at hend
  refine ⟨⟨h63, h.sok, h.rok.take (by omega) a2 i, h.ss, h.rs, h.gone, by show x.g ≤ x.W + i; omega, by show x.W + i ≤ x.S; exact hWi, by show ((keepR x.r (m % 128) (lsAt x.ps m)).waits + i) % 128 = _; rw [hwt2]; show _ = (x.W + i) % 128; omega, fun k p hk => ?_, ?_, h.by_⟩, htold i (Nat.le_refl _), fun e => ?_⟩
  · have hk' : (goneR (keepR x.r (m % 128) (lsAt x.ps m)) i).kept k = some p := hk
    simp only [goneR] at hk'
    split at hk'
    · cases hk'
    · rename_i hnk
      obtain ⟨q, q1, q2, q3, q4⟩ := kp2 k p hk'
      refine ⟨q, ?_, q2, q3, q4⟩
      show x.W + i ≤ q
      rw [hwt2] at hnk
      apply Classical.byContradiction
      intro hc
      refine hnk ⟨by omega, ?_⟩
      unfold way
      omega
  · show (goneR (keepR x.r (m % 128) (lsAt x.ps m)) i).kept ((x.W + i) % 128) = none
    rw [show (x.W + i) % 128 = (x.W % 128 + i) % 128 by omega]
    exact hend
  · apply Classical.byContradiction
    intro hc
    obtain rfl : i = 0 := by omega
    rw [goneR_zero ok2, Nat.add_zero, Nat.mod_mod, ← e] at hend
    simp [keepR] at hend
/-- Nothing is left: all was told, nothing is kept. -/
theorem Pst.done (h : Pst n x) (h0 : x.s.l.length = 0) : x.W = x.ps.length ∧ numsR x.r = [] := by
  have h1 := h.len
  have h2 := h.sok.ul
  have h3 := h.gw
  have h4 := h.wS
  unfold Pr.S at h4
  refine ⟨by omega, ?_⟩
  unfold numsR
  refine List.filter_eq_nil_iff.2 fun k hk => ?_
  cases hq : x.r.kept k.toNat with
  | none => simp
  | some p =>
    obtain ⟨m, m1, m2, _⟩ := h.kp _ p hq
    unfold Pr.S at m2
    omega
end
end Go.Proofs.Ytnfjfcoonabmmaa.Rv
