/- What a sender's list is of all that was pushed. -/
import Derived.Test.YtnfjfcoonabmmaaSnState
namespace Go.Proofs.Ytnfjfcoonabmmaa.Sn
open Go.RowKit
open Go.Proofs.Ytnfjfcoonabmmaa.Me Go.Proofs.Ytnfjfcoonabmmaa.Hd
set_option linter.unusedVariables false
set_option linter.unusedSimpArgs false

/-- g payloads of ps are gone, the others are the sender's. -/
def Gone (s : Snd) (ps : List (List Nat)) (g : Nat) : Prop := g + s.l.length = ps.length ∧ s.l = ps.drop g ∧ s.base = g % 128
theorem Gone.new (n : Nat) : Gone (newS n) [] 0 := ⟨rfl, rfl, rfl⟩
theorem Gone.push {s : Snd} {ps : List (List Nat)} {g : Nat} (h : Gone s ps g) (p : List Nat) (he : pushE s p = 0) : Gone (pushS s p) (ps ++ [p]) g ∧ (pushS s p).size = s.size ∧ (pushS s p).under = s.under := by
  obtain ⟨h1, h2, h3⟩ := h
  unfold pushS
  rw [if_pos he]
  refine ⟨⟨by simp; omega, ?_, h3⟩, rfl, rfl⟩
  show s.l ++ [p] = (ps ++ [p]).drop g
  rw [List.drop_append_of_le_length (by omega), h2]
theorem Gone.keep {s : Snd} {p : List Nat} (he : pushE s p ≠ 0) : pushS s p = s := by unfold pushS; rw [if_neg he]
theorem Gone.ack {s : Snd} {ps : List (List Nat)} {g : Nat} (h : Gone s ps g) (ok : s.Ok) (n : Int) : Gone (ackS s n) ps (g + ackN s n) ∧ (ackS s n).size = s.size ∧ (ackS s n).under + ackN s n = s.under := by
  unfold ackS ackN
  by_cases he : ackE s n = 0
  · rw [if_pos he, if_pos he]
    obtain ⟨h1, h2, h3⟩ := h
    obtain ⟨e1, e2, e3⟩ := ack_ok he
    have hul := ok.ul
    refine ⟨⟨by simp only [List.length_drop]; omega, ?_, ?_⟩, rfl, by simp only; omega⟩
    · show s.l.drop (wayOf s n) = ps.drop (g + wayOf s n)
      rw [h2, List.drop_drop]
    · show n.toNat = (g + wayOf s n) % 128
      unfold wayOf at e3 ⊢
      rw [h3] at e3 ⊢
      omega
  · rw [if_neg he, if_neg he]
    exact ⟨h, rfl, rfl⟩
theorem Gone.send {s : Snd} {ps : List (List Nat)} {g : Nat} (h : Gone s ps g) : Gone (sendS s) ps g ∧ (sendS s).size = s.size ∧ (sendS s).under = s.under + (if sendOk s then 1 else 0) := by
  unfold sendS
  by_cases hs : sendOk s = true
  · rw [if_pos hs, if_pos hs]
    exact ⟨h, rfl, rfl⟩
  · rw [if_neg hs, if_neg hs]
    exact ⟨h, rfl, rfl⟩
theorem Gone.sent {s : Snd} {ps : List (List Nat)} {g : Nat} (h : Gone s ps g) (hs : sendOk s = true) : g + s.under < ps.length ∧ sendN s = (g + s.under) % 128 ∧ sendP s = lsAt ps (g + s.under) := by
  obtain ⟨h1, h2, h3⟩ := h
  have hlt := (of_decide_eq_true hs).2
  refine ⟨by omega, ?_, ?_⟩
  · unfold sendN; rw [if_pos hs, h3]; omega
  · unfold sendP; rw [if_pos hs, h2, lsAt_drop]
/-- The sender behind an append to other memory. -/
theorem Sn.swap {M : Nat} {O O' : Nat → Prop} {w w' : World} {D : Nat} {s : Snd} {row : Option Nat} (h : Sn M O w D s) (hg : w.grownBy w' row) (hrow : ∀ k, row = some k → O k ∨ w.heap.size ≤ k) (hO' : ∀ k, O' k → O k ∨ w.heap.size ≤ k) : Sn M O' w' D s := by
  obtain ⟨F, A, c, hq, hF⟩ := h
  refine ⟨F, A, c, hq.kept fun k hk hf => ⟨hg.block k hk fun e => ?_, hf⟩, fun k hk => ⟨(hF k hk).1, Nat.lt_of_lt_of_le (hF k hk).2.1 hg.size, fun ho => ?_⟩⟩
  · rcases hrow k e.symm with h' | h'
    · exact (hF k hf).2.2 h'
    · omega
  · obtain ⟨f1, f2, f3⟩ := hF k hk
    rcases hO' k ho with h' | h'
    · exact f3 h'
    · omega
end Go.Proofs.Ytnfjfcoonabmmaa.Sn
