/- A receiver: the model of its calls. -/
import Derived.Test.YtnfjfcoonabmmaaSnDef
import Derived.Test.YtnfjfcoonabmmaaWSort
namespace Go.Proofs.Ytnfjfcoonabmmaa.Rv
open Go.RowKit
open Go.Proofs.Ytnfjfcoonabmmaa.Me Go.Proofs.Ytnfjfcoonabmmaa.Hd Go.Proofs.Ytnfjfcoonabmmaa.Sn
set_option linter.unusedVariables false

/-- A receiver: its size, the number it waits for, what it keeps, what it asked for. -/
structure Rcv where
  size : Nat
  waits : Nat
  kept : Nat → Option (List Nat)
  asked : Nat → Bool
structure Rcv.Ok (r : Rcv) : Prop where
  s1 : 1 ≤ r.size
  s63 : r.size ≤ 63
  w : r.waits < 128
  kn : ∀ n p, r.kept n = some p → n < 128 ∧ ∀ z ∈ p, z < 256
def newR (n : Nat) : Rcv := ⟨n, 0, fun _ => none, fun _ => false⟩
theorem Rcv.Ok.new {n : Nat} (h1 : 1 ≤ n) (h2 : n ≤ 63) : (newR n).Ok := ⟨h1, h2, by simp [newR], fun _ _ h => by cases h⟩
/-- How far n is ahead of b. -/
def way (b n : Nat) : Nat := (n + 128 - b) % 128
theorem way_lt (b n : Nat) : way b n < 128 := by unfold way; omega
theorem way_at {b i : Nat} (hb : b < 128) (hi : i < 128) : way b ((b + i) % 128) = i := by unfold way; omega
def mayE (r : Rcv) (n : Int) (p : List Nat) : Nat :=
  if n < 0 ∨ 127 < n then 1 else if p.length = 0 then 2 else if 121 < p.length then 3 else if r.size ≤ way r.waits n.toNat then 7 else if (r.kept n.toNat).isSome = true then 5 else 0
theorem mayE_le (r : Rcv) (n : Int) (p : List Nat) : mayE r n p ≤ 7 := by unfold mayE; (repeat' split) <;> omega
/-- Behind the keeping of p. -/
def keepR (r : Rcv) (n : Nat) (p : List Nat) : Rcv := ⟨r.size, r.waits, fun k => if k = n then some p else r.kept k, r.asked⟩
/-- Behind the telling of i payloads. -/
def goneR (r : Rcv) (i : Nat) : Rcv := ⟨r.size, (r.waits + i) % 128, fun k => if k < 128 ∧ way r.waits k < i then none else r.kept k, fun k => if k < 128 ∧ way r.waits k < i then false else r.asked k⟩
def toldR (r : Rcv) (i : Nat) : List (List Nat) := (List.range i).map fun j => (r.kept ((r.waits + j) % 128)).getD []
theorem toldR_succ (r : Rcv) (i : Nat) : toldR r (i + 1) = toldR r i ++ [(r.kept ((r.waits + i) % 128)).getD []] := by simp [toldR, List.range_succ]
theorem toldR_length (r : Rcv) (i : Nat) : (toldR r i).length = i := by simp [toldR]
/-- i payloads are to be told, and no more. -/
structure Tells (r : Rcv) (i : Nat) : Prop where
  le : i ≤ 128
  all : ∀ j, j < i → (r.kept ((r.waits + j) % 128)).isSome = true
  end_ : (goneR r i).kept ((r.waits + i) % 128) = none
theorem goneR_zero {r : Rcv} (h : r.Ok) : goneR r 0 = r := by
  have := h.w
  obtain ⟨s, b, k, a⟩ := r
  simp only [goneR, Nat.not_lt_zero, and_false, if_false, Nat.add_zero]
  simp only at this
  rw [Nat.mod_eq_of_lt this]
theorem goneR_kept {r : Rcv} (h : r.Ok) {i : Nat} (hi : i < 128) : (goneR r i).kept ((r.waits + i) % 128) = r.kept ((r.waits + i) % 128) := by
  have := h.w
  simp only [goneR]
  rw [way_at h.w hi, if_neg (by omega)]
theorem goneR_kept' {r : Rcv} (h : r.Ok) {i n : Nat} (hi : i < 128) (hn : (r.waits + i) % 128 = n) : (goneR r i).kept n = r.kept n := by
  subst hn; exact goneR_kept h hi
theorem Rcv.Ok.gone {r : Rcv} (h : r.Ok) (i : Nat) : (goneR r i).Ok := by
  refine ⟨h.s1, h.s63, by simp only [goneR]; omega, fun n p hp => ?_⟩
  simp only [goneR] at hp
  split at hp
  · cases hp
  · exact h.kn n p hp
theorem Rcv.Ok.keep {r : Rcv} (h : r.Ok) {n : Nat} {p : List Nat} (hn : n < 128) (hp : ∀ z ∈ p, z < 256) : (keepR r n p).Ok := by
  refine ⟨h.s1, h.s63, h.w, fun k q hq => ?_⟩
  simp only [keepR] at hq
  split at hq
  · rename_i e
    cases hq
    exact ⟨by omega, hp⟩
  · exact h.kn k q hq
theorem goneR_succ {r : Rcv} (h : r.Ok) {i : Nat} (hi : i < 128) : goneR r (i + 1) =
    ⟨r.size, ((r.waits + i) % 128 + 1) % 128, fun k => if k = (r.waits + i) % 128 then none else (goneR r i).kept k, fun k => if k = (r.waits + i) % 128 then false else (goneR r i).asked k⟩ := by
  have hw := h.w
  have hway : ∀ k, (k < 128 ∧ way r.waits k < i + 1) ↔ (k = (r.waits + i) % 128 ∨ (k < 128 ∧ way r.waits k < i)) := fun k => by unfold way; omega
  have hm : (r.waits + (i + 1)) % 128 = ((r.waits + i) % 128 + 1) % 128 := by omega
  have key : ∀ {α : Type} (z : α) (f : Nat → α) k, (if k < 128 ∧ way r.waits k < i + 1 then z else f k) = if k = (r.waits + i) % 128 then z else if k < 128 ∧ way r.waits k < i then z else f k := fun z f k => by
    by_cases h1 : k = (r.waits + i) % 128
    · rw [if_pos ((hway k).2 (.inl h1)), if_pos h1]
    · rw [if_neg h1]
      by_cases h2 : k < 128 ∧ way r.waits k < i
      · rw [if_pos ((hway k).2 (.inr h2)), if_pos h2]
      · rw [if_neg (fun h => ((hway k).1 h).elim h1 h2), if_neg h2]
  unfold goneR
  rw [hm]
  congr 1
  · exact funext fun k => key none r.kept k
  · exact funext fun k => key false r.asked k
/-- The kept numbers, in order. -/
def numsR (r : Rcv) : List Int := Wn.pick (fun n => (r.kept n.toNat).isSome) (r.waits : Int) 128
/-- The missing ones. -/
def missR (r : Rcv) : List Int := if numsR r = [] then [] else Wn.pick (fun n => !Wn.has (numsR r) n) (r.waits : Int) ((((numsR r).getLastD 0) - (r.waits : Int)) % 128).toNat
/-- What is asked for of l, where a was asked for; what was asked for then. -/
def askL (a : Nat → Bool) : List Int → List Int
  | [] => []
  | n :: l => if a n.toNat then askL a l else n :: askL (fun k => if k = n.toNat then true else a k) l
def askA (a : Nat → Bool) : List Int → Nat → Bool
  | [] => a
  | n :: l => askA (fun k => if k = n.toNat then true else a k) l
end Go.Proofs.Ytnfjfcoonabmmaa.Rv
