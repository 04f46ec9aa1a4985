/- Stuffed bytes, as lists: stuffing, how many they are, getting back, parts between flags. -/
import Derived.Test.YtoaffkmjobmhaaaKit
namespace Go.Proofs.Ytoaffkmjobmhaaa.St
open Go.RowKit
open Go.Proofs.Ytoaffkmjobmhaaa.Me
set_option linter.unusedVariables false

/-- Is a byte turned? -/
def trn (b : Nat) : Bool := decide (b = 126) || decide (b = 125)
theorem trn_yes {b : Nat} (h : b = 126 ∨ b = 125) : trn b = true := by rcases h with rfl | rfl <;> rfl
theorem trn_no {b : Nat} (h1 : b ≠ 126) (h2 : b ≠ 125) : trn b = false := by simp [trn, h1, h2]
/-- One byte stuffed. -/
def st1 (b : Nat) : List Nat := if trn b then [125, b ^^^ 32] else [b]
/-- Stuffed bytes. -/
def stuffL (l : List Nat) : List Nat := l.flatMap st1
/-- How many are turned. -/
def tnL : List Nat → Nat
  | [] => 0
  | b :: l => (if trn b then 1 else 0) + tnL l
theorem stuff_append (l r : List Nat) : stuffL (l ++ r) = stuffL l ++ stuffL r := by simp [stuffL]
theorem tn_append (l r : List Nat) : tnL (l ++ r) = tnL l + tnL r := by
  induction l with
  | nil => simp [tnL]
  | cons b l ih => simp only [List.cons_append, tnL, ih]; omega
theorem tn_le (l : List Nat) : tnL l ≤ l.length := by
  induction l with
  | nil => exact Nat.le_refl _
  | cons b l ih => simp only [tnL, List.length_cons]; split <;> omega
theorem stuff_length (l : List Nat) : (stuffL l).length = l.length + tnL l := by
  induction l with
  | nil => rfl
  | cons b l ih =>
    have e : stuffL (b :: l) = st1 b ++ stuffL l := rfl
    rw [e, List.length_append, ih, tnL, List.length_cons]
    unfold st1
    split <;> simp <;> omega
theorem stuff_two (l : List Nat) : (stuffL l).length ≤ 2 * l.length := by rw [stuff_length]; have := tn_le l; omega
theorem stuff_more (l : List Nat) : l.length ≤ (stuffL l).length := by rw [stuff_length]; omega
theorem stuff_snoc {l : List Nat} {k : Nat} (h : k < l.length) : stuffL (l.take (k + 1)) = stuffL (l.take k) ++ st1 (by_ l k) := by
  rw [List.take_succ_eq_append_getElem h, stuff_append, by_get h]; simp [stuffL]
theorem tn_snoc {l : List Nat} {k : Nat} (h : k < l.length) : tnL (l.take (k + 1)) = tnL (l.take k) + (if trn (by_ l k) then 1 else 0) := by
  rw [List.take_succ_eq_append_getElem h, tn_append, by_get h]; simp [tnL]
theorem xor_lt {b : Nat} (h : b < 256) : b ^^^ 32 < 256 := Nat.xor_lt_two_pow (n := 8) h (by decide)
theorem st1_lt {b : Nat} (h : b < 256) : ∀ z ∈ st1 b, z < 256 := by
  intro z hz
  unfold st1 at hz
  have := xor_lt h
  split at hz
  · simp at hz; omega
  · simp at hz; omega
theorem stuff_lt {l : List Nat} (h : ∀ z ∈ l, z < 256) : ∀ z ∈ stuffL l, z < 256 := by
  intro z hz
  obtain ⟨b, hb, hz⟩ := List.mem_flatMap.mp hz
  exact st1_lt (h b hb) z hz
theorem take_lt {l : List Nat} (h : ∀ z ∈ l, z < 256) (k : Nat) : ∀ z ∈ l.take k, z < 256 := fun z hz => h z (List.mem_of_mem_take hz)
theorem drop_lt {l : List Nat} (h : ∀ z ∈ l, z < 256) (k : Nat) : ∀ z ∈ l.drop k, z < 256 := fun z hz => h z (List.mem_of_mem_drop hz)
theorem xor_turned : ∀ b, b < 256 → (trn (b ^^^ 32) = true ↔ b = 94 ∨ b = 93) := by decide +kernel
theorem st1_flag : ∀ b, b < 256 → 126 ∉ st1 b := by decide +kernel
/-- No flag stands in stuffed bytes. -/
theorem stuff_clean {l : List Nat} (h : ∀ z ∈ l, z < 256) : 126 ∉ stuffL l := by
  intro hz
  obtain ⟨b, hb, hz⟩ := List.mem_flatMap.mp hz
  exact st1_flag b (h b hb) hz
/-! ### Getting back -/
/-- What has been got behind some bytes, and whether an escape stands last; nothing, where they can't be stuffed ones. -/
def ustep (s : Option (List Nat × Bool)) (b : Nat) : Option (List Nat × Bool) :=
  match s with
  | none => none
  | some (o, true) => if trn (b ^^^ 32) then some (o ++ [b ^^^ 32], false) else none
  | some (o, false) => if b = 126 then none else if b = 125 then some (o, true) else some (o ++ [b], false)
def urun (s : Option (List Nat × Bool)) (l : List Nat) : Option (List Nat × Bool) := l.foldl ustep s
def ust (l : List Nat) : Option (List Nat × Bool) := urun (some ([], false)) l
def unstuffL (l : List Nat) : Option (List Nat) :=
  match ust l with
  | some (o, false) => some o
  | _ => none
theorem urun_none (l : List Nat) : urun none l = none := by
  induction l with
  | nil => rfl
  | cons b l ih => exact ih
theorem urun_append (s : Option (List Nat × Bool)) (l r : List Nat) : urun s (l ++ r) = urun (urun s l) r := by simp [urun]
theorem ust_snoc {l : List Nat} {k : Nat} (h : k < l.length) : ust (l.take (k + 1)) = ustep (ust (l.take k)) (by_ l k) := by
  unfold ust
  rw [List.take_succ_eq_append_getElem h, urun_append, by_get h]; rfl
theorem ust_dead {l : List Nat} {k : Nat} (h : ust (l.take k) = none) : unstuffL l = none := by
  have e : ust l = none := by
    have : ust l = urun (ust (l.take k)) (l.drop k) := by
      unfold ust
      rw [← urun_append, List.take_append_drop]
    rw [this, h, urun_none]
  unfold unstuffL
  rw [e]
theorem ust_full {l : List Nat} {k : Nat} (h : ¬ k < l.length) : ust (l.take k) = ust l := by rw [List.take_of_length_le (by omega)]
theorem unstuff_some {l o : List Nat} (h : ust l = some (o, false)) : unstuffL l = some o := by unfold unstuffL; rw [h]
theorem unstuff_open {l o : List Nat} (h : ust l = some (o, true)) : unstuffL l = none := by unfold unstuffL; rw [h]
theorem step_esc_ok {o : List Nat} {b : Nat} (h : trn (b ^^^ 32) = true) : ustep (some (o, true)) b = some (o ++ [b ^^^ 32], false) := if_pos h
theorem step_esc_no {o : List Nat} {b : Nat} (h : trn (b ^^^ 32) = false) : ustep (some (o, true)) b = none := if_neg (by simp [h])
theorem step_plain {o : List Nat} {b : Nat} (h1 : b ≠ 126) (h2 : b ≠ 125) : ustep (some (o, false)) b = some (o ++ [b], false) := by simp [ustep, h1, h2]
theorem step_open (o : List Nat) : ustep (some (o, false)) 125 = some (o, true) := rfl
theorem step_flag (o : List Nat) : ustep (some (o, false)) 126 = none := rfl
theorem ust_facts : ∀ (l o : List Nat) (e : Bool), ust l = some (o, e) → (∀ z ∈ l, z < 256) → (∀ z ∈ o, z < 256) ∧ l = stuffL o ++ (if e then [125] else []) ∧ o.length ≤ l.length := by
  intro l
  generalize hr : l.reverse = r
  induction r generalizing l with
  | nil =>
    obtain rfl : l = [] := by simpa using hr
    intro o e h _
    simp [ust, urun] at h
    obtain ⟨rfl, rfl⟩ := h
    exact ⟨by simp, by simp [stuffL], by simp⟩
  | cons b r ih =>
    obtain ⟨l', rfl⟩ : ∃ l', l = l' ++ [b] := ⟨r.reverse, by rw [← List.reverse_reverse l, hr]; simp⟩
    have hr' : l'.reverse = r := by simpa using hr
    intro o e h hl
    have hb : b < 256 := hl b (by simp)
    have h' : ustep (ust l') b = some (o, e) := by
      rw [← h]; unfold ust; rw [urun_append]; rfl
    match hs : ust l' with
    | none => rw [hs] at h'; cases h'
    | some (o', true) =>
      obtain ⟨h1, h2, h3⟩ := ih l' hr' o' true hs (fun z hz => hl z (by simp [hz]))
      rw [hs] at h'
      by_cases ht : trn (b ^^^ 32) = true
      · rw [step_esc_ok ht] at h'
        simp only [Option.some.injEq, Prod.mk.injEq] at h'
        obtain ⟨rfl, rfl⟩ := h'
        refine ⟨?_, ?_, by simp; omega⟩
        · intro z hz
          rcases List.mem_append.mp hz with hz | hz
          · exact h1 z hz
          · simp at hz; subst hz; exact xor_lt hb
        · have e1 : st1 (b ^^^ 32) = [125, b] := by
            unfold st1
            rw [if_pos ht, Nat.xor_assoc, Nat.xor_self, Nat.xor_zero]
          rw [stuff_append, h2]
          have e2 : stuffL [b ^^^ 32] = [125, b] := by simp [stuffL, e1]
          rw [e2]; simp
      · rw [step_esc_no (by simpa using ht)] at h'; cases h'
    | some (o', false) =>
      obtain ⟨h1, h2, h3⟩ := ih l' hr' o' false hs (fun z hz => hl z (by simp [hz]))
      rw [hs] at h'
      by_cases hf : b = 126
      · subst hf; rw [step_flag] at h'; cases h'
      · by_cases he : b = 125
        · subst he
          rw [step_open] at h'
          simp only [Option.some.injEq, Prod.mk.injEq] at h'
          obtain ⟨rfl, rfl⟩ := h'
          refine ⟨h1, ?_, by simp; omega⟩
          rw [h2]; simp
        · rw [step_plain hf he] at h'
          simp only [Option.some.injEq, Prod.mk.injEq] at h'
          obtain ⟨rfl, rfl⟩ := h'
          refine ⟨?_, ?_, by simp; omega⟩
          · intro z hz
            rcases List.mem_append.mp hz with hz | hz
            · exact h1 z hz
            · simp at hz; subst hz; exact hb
          · have e1 : stuffL [b] = [b] := by simp [stuffL, st1, trn_no hf he]
            rw [stuff_append, e1, h2]; simp
/-- What can be got back is what would be stuffed. -/
theorem stuff_unstuff {l o : List Nat} (hl : ∀ z ∈ l, z < 256) (h : unstuffL l = some o) : stuffL o = l ∧ (∀ z ∈ o, z < 256) ∧ o.length ≤ l.length := by
  unfold unstuffL at h
  match hs : ust l with
  | none => rw [hs] at h; cases h
  | some (o', true) => rw [hs] at h; cases h
  | some (o', false) =>
    rw [hs] at h
    simp only [Option.some.injEq] at h
    subst h
    obtain ⟨h1, h2, h3⟩ := ust_facts l o' false hs hl
    exact ⟨by rw [h2]; simp, h1, h3⟩
theorem urun_st1 (o : List Nat) (b : Nat) (hb : b < 256) : urun (some (o, false)) (st1 b) = some (o ++ [b], false) := by
  by_cases ht : trn b = true
  · have e : st1 b = [125, b ^^^ 32] := if_pos ht
    have e2 : b ^^^ 32 ^^^ 32 = b := by rw [Nat.xor_assoc, Nat.xor_self, Nat.xor_zero]
    rw [e]
    show ustep (ustep (some (o, false)) 125) (b ^^^ 32) = _
    rw [step_open, step_esc_ok (by rw [e2]; exact ht), e2]
  · have e : st1 b = [b] := if_neg ht
    rw [e]
    simp [trn] at ht
    exact step_plain ht.1 ht.2
theorem ust_stuff (l : List Nat) (hl : ∀ z ∈ l, z < 256) : ∀ o, urun (some (o, false)) (stuffL l) = some (o ++ l, false) := by
  induction l with
  | nil => intro o; simp [stuffL, urun]
  | cons b l ih =>
    intro o
    have e : stuffL (b :: l) = st1 b ++ stuffL l := rfl
    rw [e, urun_append, urun_st1 o b (hl b (by simp)), ih (fun z hz => hl z (by simp [hz]))]
    simp
/-- What was stuffed is got back. -/
theorem unstuff_stuff {l : List Nat} (hl : ∀ z ∈ l, z < 256) : unstuffL (stuffL l) = some l := by
  refine unstuff_some ?_
  have := ust_stuff l hl []
  rw [List.nil_append] at this
  exact this
end Go.Proofs.Ytoaffkmjobmhaaa.St
