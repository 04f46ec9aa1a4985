/- The reference's disk over the same plain data; strings of bytes. -/
import Derived.Test.YtdjgkoklkoahbaaDkRMem
import Derived.Sort.Walk0
namespace Go.Proofs.Ytdjgkoklkoahbaa.Dk
open Go.RowKit
open Go.Proofs.Ytdjgkoklkoahbaa.Me Go.Proofs.Ytdjgkoklkoahbaa.Hd
set_option linter.unusedVariables false
set_option linter.unusedSimpArgs false

/-! ### Strings -/
theorem nm_beq (a b : Nm) : ((⟨a.toArray⟩ : ByteArray).toList == (⟨b.toArray⟩ : ByteArray).toList) = decide (a = b) := by
  rw [Lib.toList_data, Lib.toList_data]
  exact Bool.eq_iff_iff.2 (by rw [beq_iff_eq, decide_eq_true_iff])
theorem nm_less (a b : Nm) : Op.bytesLess (⟨a.toArray⟩ : ByteArray).toList (⟨b.toArray⟩ : ByteArray).toList = decide (a < b) := by
  rw [bytesLess_eq, Lib.toList_data, Lib.toList_data]
theorem str_size (l : List Nat) : (Me.strOf l).size = l.length := by simp [Me.strOf, ByteArray.size]
theorem str_app (l r : List Nat) : Me.strOf l ++ Me.strOf r = Me.strOf (l ++ r) := by
  unfold Me.strOf
  rw [ByteArray.mk_append_mk, List.map_append]
/-! ### A place -/
/-- Where the reference finds a name. -/
def Pl (L : Fs) (n : Nm) (z : Int) : Prop := (look L n = none ∧ z = -1) ∨ ∃ i : Nat, z = (i : Int) ∧ i < L.length ∧ flAt L i = (n, (look L n).getD ⟨[], 0⟩) ∧ (look L n).isSome = true
theorem Pl.none_of {L : Fs} {n : Nm} (h : ∀ j, j < L.length → (flAt L j).1 ≠ n) : Pl L n (-1) := .inl ⟨look_none.2 fun p hp => by
  obtain ⟨j, hj, rfl⟩ := List.mem_iff_getElem.1 hp
  rw [← flAt_get hj]
  exact h j hj, rfl⟩
theorem Pl.some_of {L : Fs} (hs : Srt L) {n : Nm} {i : Nat} (hi : i < L.length) (e : (flAt L i).1 = n) : Pl L n (i : Int) := by
  have h1 := look_at hs hi
  rw [← flAt_get hi, e] at h1
  refine .inr ⟨i, rfl, hi, ?_, by rw [h1]; rfl⟩
  rw [h1, ← e]; rfl
theorem Pl.neg {L : Fs} {n : Nm} {z : Int} (h : Pl L n z) : decide (z < 0) = (look L n).isNone := by
  rcases h with ⟨h, rfl⟩ | ⟨i, rfl, _, _, h⟩
  · rw [h]; rfl
  · cases e : look L n with
    | none => rw [e] at h; cases h
    | some f => simp
theorem Pl.lim {L : Fs} {n : Nm} {z : Int} (h : Pl L n z) (hL : L.length ≤ 1000) : -1 ≤ z ∧ z ≤ 1000 := by
  rcases h with ⟨_, rfl⟩ | ⟨i, rfl, h, _⟩ <;> omega
/-! ### What the loops make -/
theorem del_snoc (L : Fs) (p : Nm × Fl) (n : Nm) : del (L ++ [p]) n = if p.1 = n then del L n else del L n ++ [p] := by
  unfold del
  rw [List.filter_append]
  by_cases h : p.1 = n
  · simp [h]
  · simp [h]
theorem take_succ {L : Fs} {k : Nat} (h : k < L.length) : L.take (k + 1) = L.take k ++ [flAt L k] := by
  rw [flAt_get h, List.take_add_one]; simp [h]
theorem drop_cons {L : Fs} {k : Nat} (h : k < L.length) : L.drop k = flAt L k :: L.drop (k + 1) := by
  rw [flAt_get h, List.drop_eq_getElem_cons h]
theorem del_len (L : Fs) (n : Nm) : (del L n).length ≤ L.length := List.length_filter_le ..
theorem ins_cons (m : Nm) (g : Fl) (r : Fs) (n : Nm) (f : Fl) : ins ((m, g) :: r) n f = if n < m then (n, f) :: (m, g) :: r else (m, g) :: ins r n f := rfl
/-- The loop of 'with' behind k rounds. -/
def Wi (R : Fs) (p : Nm × Fl) (k : Nat) (d : Bool) (out : Fs) : Prop := out.length ≤ k + 1 ∧ if d then out ++ R.drop k = ins R p.1 p.2 else out = R.take k ∧ ins R p.1 p.2 = R.take k ++ ins (R.drop k) p.1 p.2
theorem Wi.new (R : Fs) (p : Nm × Fl) : Wi R p 0 false [] := ⟨by simp, by simp⟩
theorem Wi.more {R : Fs} {p : Nm × Fl} {k : Nat} {out : Fs} (h : Wi R p k true out) (hk : k < R.length) : Wi R p (k + 1) true (out ++ [flAt R k]) := by
  obtain ⟨h1, h2⟩ := h
  refine ⟨by simp; omega, ?_⟩
  simp only [if_true] at h2 ⊢
  rw [← h2, drop_cons hk, List.append_assoc]; rfl
theorem Wi.step {R : Fs} {p : Nm × Fl} {k : Nat} {out : Fs} (h : Wi R p k false out) (hk : k < R.length) (hn : ¬ p.1 < (flAt R k).1) : Wi R p (k + 1) false (out ++ [flAt R k]) := by
  obtain ⟨h1, h2⟩ := h
  refine ⟨by simp; omega, ?_⟩
  simp only [Bool.false_eq_true, if_false] at h2 ⊢
  obtain ⟨rfl, h3⟩ := h2
  refine ⟨(take_succ hk).symm, ?_⟩
  rw [h3, take_succ hk, drop_cons hk]
  obtain ⟨⟨a, b⟩, hq⟩ : ∃ q, flAt R k = q := ⟨_, rfl⟩
  rw [hq] at hn ⊢
  rw [ins_cons, if_neg hn, List.append_assoc]
  rfl
theorem Wi.here {R : Fs} {p : Nm × Fl} {k : Nat} {out : Fs} (h : Wi R p k false out) (hk : k < R.length) (hn : p.1 < (flAt R k).1) : Wi R p (k + 1) true ((out ++ [p]) ++ [flAt R k]) := by
  obtain ⟨h1, h2⟩ := h
  simp only [Bool.false_eq_true, if_false] at h2
  obtain ⟨rfl, h3⟩ := h2
  refine ⟨by simp; omega, ?_⟩
  simp only [if_true]
  rw [h3, drop_cons hk]
  obtain ⟨⟨a, b⟩, hq⟩ : ∃ q, flAt R k = q := ⟨_, rfl⟩
  rw [hq] at hn ⊢
  rw [ins_cons, if_pos hn, List.append_assoc, List.append_assoc]
  rfl
theorem Wi.end_ {R : Fs} {p : Nm × Fl} {out : Fs} (h : Wi R p R.length true out) : out = ins R p.1 p.2 := by
  have h2 := h.2
  simp only [if_true] at h2
  rw [← h2]; simp
theorem Wi.last {R : Fs} {p : Nm × Fl} {out : Fs} (h : Wi R p R.length false out) : out ++ [p] = ins R p.1 p.2 := by
  have h2 := h.2
  simp only [Bool.false_eq_true, if_false] at h2
  obtain ⟨rfl, h3⟩ := h2
  rw [h3]; simp [ins]
/-! ### The reference's disk -/
def leftI (s : St) : Int := if s.left = 0 then (if s.down then 0 else -1) else (s.left : Int)
def rcs (s : St) (v : Value) : Array Value := #[.int .i64 (s.limit : Int), v, .int .i64 (leftI s), .bool s.down]
theorem leftI_new (n : Nat) : leftI (newS n) = -1 := rfl
theorem leftI_chg {s : St} (hd : s.down = false) (L : Fs) : leftI (chg s L) = (if 0 < leftI s then leftI s - 1 else leftI s) ∧ (chg s L).down = decide (leftI s = 1) := by
  unfold leftI chg
  simp only [hd]
  by_cases h0 : s.left = 0
  · simp [h0]
  · by_cases h1 : s.left = 1
    · simp [h1]
    · have h2 : s.left - 1 ≠ 0 := by omega
      simp only [if_neg h0, if_neg h2, h1, decide_false]
      refine ⟨?_, ?_⟩
      · rw [if_pos (by omega)]; omega
      · symm; simp; omega
theorem leftI_arm {s : St} (hd : s.down = false) (k : Int) : leftI (armS s k) = (if k < 0 then -1 else k) ∧ (armS s k).down = decide (k = 0) := by
  unfold armS
  rw [hd]
  simp only [Bool.false_eq_true, if_false, and_true]
  unfold leftI
  simp only
  by_cases h0 : k < 0
  · have e : k.toNat = 0 := by omega
    have e2 : ¬ k = 0 := by omega
    simp [e, h0, e2]
  · by_cases h1 : k = 0
    · subst h1; simp
    · have e : ¬ k.toNat = 0 := by omega
      rw [if_neg e, if_neg h0]; omega
theorem leftI_lim {s : St} (h : s.left ≤ 9223372036854775807) : -1 ≤ leftI s ∧ leftI s ≤ 9223372036854775807 := by
  unfold leftI
  split
  · split <;> omega
  · omega
/-! ### Files behind each call, as strings -/
theorem fl_app (f : Option Fl) (p : List Nat) (h : ∀ g, f = some g → g.safe ≤ g.bytes.length) : (appF f p).bytes.take (appF f p).safe = (f.getD ⟨[], 0⟩).bytes.take (f.getD ⟨[], 0⟩).safe ∧ (appF f p).bytes.drop (appF f p).safe = (f.getD ⟨[], 0⟩).bytes.drop (f.getD ⟨[], 0⟩).safe ++ p := by
  cases f with
  | none => simp [appF]
  | some g =>
    have := h g rfl
    simp only [appF, Option.getD_some]
    rw [List.take_append_of_le_length this, List.drop_append_of_le_length this]
    exact ⟨rfl, rfl⟩
theorem fl_whole (b : List Nat) : b.take b.length = b ∧ b.drop b.length = [] := by simp
theorem fl_cut (b : List Nat) {k : Nat} (h : k ≤ b.length) : (b.take k).take k = b.take k ∧ (b.take k).drop k = [] := by
  have : (b.take k).length = k := by simp; omega
  refine ⟨List.take_of_length_le (by omega), List.drop_eq_nil_of_le (by omega)⟩
theorem fl_crash {f : Fl} (h : f.safe ≤ f.bytes.length) (k : Int) : (crashF f k).bytes.take (crashF f k).safe = f.bytes.take f.safe ++ (f.bytes.drop f.safe).take (min k.toNat (f.bytes.length - f.safe)) ∧ (crashF f k).bytes.drop (crashF f k).safe = [] := by
  unfold crashF
  refine ⟨?_, List.drop_eq_nil_of_le (by simp; omega)⟩
  rw [List.take_of_length_le (by simp; omega), List.take_add]
end Go.Proofs.Ytdjgkoklkoahbaa.Dk
