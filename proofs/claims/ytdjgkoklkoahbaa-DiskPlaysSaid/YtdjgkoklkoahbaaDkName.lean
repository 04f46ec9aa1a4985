/- Which texts are names: the program's question and the reference's; what stands against a call. -/
import Derived.Test.YtdjgkoklkoahbaaDkMem
import Derived.Test.YtdjgkoklkoahbaaLay
namespace Go.Proofs.Ytdjgkoklkoahbaa.Dk
open Go.RowKit Go.Maps Go.WideElems
open Go.Proofs.Ytdjgkoklkoahbaa.Me Go.Proofs.Ytdjgkoklkoahbaa.Hd
set_option linter.unusedVariables false
set_option linter.unusedSimpArgs false

/-! ### Runes of names -/
def strR (r : Nat) : Bool := !((decide (97 ≤ r) && decide (r ≤ 122)) || (decide (48 ≤ r) && decide (r ≤ 57)) || decide (r = 46))
theorem strR_ch (b : UInt8) : strR b.toNat = !chOk b := rfl
theorem dec_low {s : ByteArray} {i : Nat} (h : (s.get! i).toNat < 128) : Utf8.decode s i = ((s.get! i).toNat, 1) := by
  unfold Utf8.decode
  simp only [Nat.add_zero]
  rw [if_pos h]
theorem dec_high {s : ByteArray} {i : Nat} (h : ¬ (s.get! i).toNat < 128) : 128 ≤ (Utf8.decode s i).1 := by
  unfold Utf8.decode
  simp only [Nat.add_zero]
  rw [if_neg h]
  have e : Utf8.runeError = 65533 := rfl
  repeat' split
  all_goals first
    | (rw [e]; omega)
    | (rename_i h; simp at h; omega)
    | (rename_i h; simp only [ge_iff_le, Bool.and_eq_true, decide_eq_true_eq] at h; show 128 ≤ _; omega)
    | omega
theorem strR_high {r : Nat} (h : 128 ≤ r) : strR r = true := by
  have h1 : ¬ r ≤ 122 := by omega
  have h2 : ¬ r ≤ 57 := by omega
  have h3 : ¬ r = 46 := by omega
  simp [strR, h1, h2, h3]
theorem sz (n : Nm) : (⟨n.toArray⟩ : ByteArray).size = n.length := rfl
theorem get_nm (n : Nm) {i : Nat} (h : i < n.length) : (⟨n.toArray⟩ : ByteArray).get! i = n[i] := by
  show n.toArray[i]! = n[i]
  simp [h]
theorem chOk_low {b : UInt8} (h : chOk b = true) : b.toNat < 128 := by
  simp only [chOk, Bool.or_eq_true, Bool.and_eq_true, decide_eq_true_eq] at h
  omega
theorem idx_all (n : Nm) : ∀ f pos, n.length ≤ pos + f → decide (0 ≤ Lib.idxFuncFrom strR true ⟨n.toArray⟩ f pos) = !(n.drop pos).all chOk
  | 0, pos, h => by
    have : n.drop pos = [] := by rw [List.drop_eq_nil_iff]; omega
    rw [this]; rfl
  | f + 1, pos, h => by
    unfold Lib.idxFuncFrom
    by_cases hp : pos < n.length
    · rw [if_pos (by rw [sz]; exact hp), List.drop_eq_getElem_cons hp]
      simp only [List.all_cons]
      by_cases hc : chOk n[pos] = true
      · have hd := dec_low (s := ⟨n.toArray⟩) (i := pos) (by rw [get_nm n hp]; exact chOk_low hc)
        rw [get_nm n hp] at hd
        rw [hd, strR_ch, hc]
        simp only [Bool.not_true, Bool.false_eq_true, if_false, Bool.true_and]
        exact idx_all n f (pos + 1) (by omega)
      · have hc' : chOk n[pos] = false := by simpa using hc
        have hs : strR (Utf8.decode ⟨n.toArray⟩ pos).1 = true := by
          by_cases hl : n[pos].toNat < 128
          · rw [dec_low (by rw [get_nm n hp]; exact hl), get_nm n hp, strR_ch, hc']; rfl
          · exact strR_high (dec_high (by rw [get_nm n hp]; exact hl))
        rw [if_pos hs, hc']
        simp
    · rw [if_neg (by rw [sz]; exact hp)]
      have : n.drop pos = [] := by rw [List.drop_eq_nil_iff]; omega
      rw [this]; rfl
theorem idx_nm (n : Nm) : decide (0 ≤ Lib.idxFunc strR true ⟨n.toArray⟩) = !n.all chOk := by
  unfold Lib.idxFunc
  rw [idx_all n _ 0 (by rw [sz]; omega)]
  simp
theorem strange (w : World) : PredAtRunes Try.prog 65 #[] strR w := fun W r _ _ => by
  unfold FnGives
  have z1 : (97 : Int) ≤ (r : Int) ↔ 97 ≤ r := by omega
  have z2 : (r : Int) ≤ 122 ↔ r ≤ 122 := by omega
  have z3 : (48 : Int) ≤ (r : Int) ↔ 48 ≤ r := by omega
  have z4 : (r : Int) ≤ 57 ↔ r ≤ 57 := by omega
  have z5 : (r : Int) = 46 ↔ r = 46 := by omega
  by_cases h1 : 97 ≤ r <;> by_cases h2 : r ≤ 122 <;> by_cases h3 : 48 ≤ r <;> by_cases h4 : r ≤ 57 <;> by_cases h5 : r = 46
  all_goals first | (exfalso; omega) | skip
  all_goals
    have hs : Hid (strR r = strR r) := rfl
    have h5' : ((r : Int) == 46) = decide (r = 46) := by
      by_cases e : r = 46
      · subst e; rfl
      · have : ¬ (r : Int) = 46 := by omega
        simp [e, this]
    go_enter Try.func65, Try.ntmps65
    go_wp2
    go_ret
    exact ⟨by simp [strR, h1, h2, h3, h4, h5], 0, rfl⟩
theorem isNoName_any (n : Nm) (w : World) : Calls Try.prog 51 #[nmV n] w fun e w' => e = .returned (.bool (!nameOk n)) ∧ Below w.heap.size w w' := by
  have hC := Lib.hid (fun W => Try.ContF 65 #[] (enters_of Try.func65 (by kernel_rfl) rfl) strR ⟨n.toArray⟩ W (strange W))
  simp only [idx_nm] at hC
  have hsz : (⟨n.toArray⟩ : ByteArray).size = n.length := by simp [ByteArray.size]
  obtain ⟨s, hs⟩ : ∃ s, (⟨n.toArray⟩ : ByteArray) = s := ⟨_, rfl⟩
  obtain ⟨L, hL⟩ : ∃ L, n.length = L := ⟨_, rfl⟩
  obtain ⟨c, hc⟩ : ∃ c, n.all chOk = c := ⟨_, rfl⟩
  have hN : nameOk n = (decide (1 ≤ L) && decide (L ≤ 12) && c) := by rw [← hL, ← hc]; rfl
  rw [hs, hc] at hC
  show Calls Try.prog 51 #[.string ⟨n.toArray⟩] w _
  rw [hs] at hsz ⊢
  rw [hL] at hsz
  rw [hN]
  clear hN hc hL hs
  by_cases h1 : L < 1
  · have g1 : (s.size : Int) < 1 := by omega
    have HR : Hid ((!(decide (1 ≤ L) && decide (L ≤ 12) && c)) = true) := by
      have : ¬ 1 ≤ L := by omega
      show _ = _
      simp [this]
    rw [HR.out]
    clear h1 hsz
    go_enter Try.func51, Try.ntmps51
    go_wp2
    go_ret
    exact ⟨rfl, Below.refl _ _⟩
  · by_cases h2 : 12 < L
    · have g1 : ¬ (s.size : Int) < 1 := by omega
      have g2 : (12 : Int) < (s.size : Int) := by omega
      have HR : Hid ((!(decide (1 ≤ L) && decide (L ≤ 12) && c)) = true) := by
        have : ¬ L ≤ 12 := by omega
        show _ = _
        simp [this]
      rw [HR.out]
      clear h1 hsz h2
      go_enter Try.func51, Try.ntmps51
      go_wp2
      go_ret
      exact ⟨rfl, Below.refl _ _⟩
    · have g1 : ¬ (s.size : Int) < 1 := by omega
      have g2 : ¬ (12 : Int) < (s.size : Int) := by omega
      have HR : Hid ((!(decide (1 ≤ L) && decide (L ≤ 12) && c)) = !c) := by
        have a1 : 1 ≤ L := by omega
        have a2 : L ≤ 12 := by omega
        show _ = _
        simp [a1, a2]
      rw [HR.out]
      clear h1 hsz h2
      go_enter Try.func51, Try.ntmps51
      go_wp2_with (go_at_call 64; refine (hC.out _).mono ?_; rintro e w1 ⟨rfl, hb1⟩)
      go_ret
      exact ⟨rfl, hb1⟩
end Go.Proofs.Ytdjgkoklkoahbaa.Dk
