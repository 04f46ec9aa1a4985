/- The contract of crc's reference Turn: bytes of which bits are turned. -/
import Derived.Test.YtlkkindahmnoiaaAdds
import Derived.Test.YtlkkindahmnoiaaBits
namespace Go.Proofs.Ytlkkindahmnoiaa.Cr
open Go.RowKit
open Go.Proofs.Ytlkkindahmnoiaa.Me
set_option linter.unusedVariables false

/-- Turn's answer. -/
def turnL (l : List Nat) (a : Int) (m k : Nat) : List Nat := if 0 ≤ a ∧ a < 8 * l.length then tk l a.toNat m k else l
def turnB (l : List Nat) (a : Int) (m k : Nat) : Bool := if 0 ≤ a ∧ a < 8 * l.length then tt l a.toNat m k else false
def TurnR (w : World) (l : List Nat) (b : Bool) (e : Ending) (w' : World) : Prop :=
  ∃ A c, e = .returned (.tuple #[.slice A l.length c, .bool b]) ∧ l.length ≤ c ∧ c ≤ 9223372036854775807 ∧ Hid (Held w' w.heap.size A c l) ∧ Hid (Below w.heap.size w w')
def TurnA (w : World) (l : List Nat) (a : Int) (m s : Nat) (e : Ending) (w' : World) : Prop := TurnR w (turnL l a m s) (turnB l a m s) e w'
theorem TurnR.mk {w w' : World} {v : Value} {l : List Nat} {b : Bool} (h : Own w' w.heap.size v l) (hb : Below w.heap.size w w') (hl : ∀ z ∈ l, z < 256) : TurnR w l b (.returned (.tuple #[v, .bool b])) w' := by
  obtain ⟨A, c, rfl, h1, h2, h3⟩ := h.held hl
  exact ⟨A, c, rfl, h1, h2, h3, hb⟩
theorem Turn_out (A : Option Addr) (cap B : Nat) (l : List Nat) (a : Int) (m s : Nat) (w : World) (hr : Hid (Rd w B A l)) (hA : Hid (A = none → l.length = 0 ∧ cap = 0)) (hB : B ≤ w.heap.size) (hlc : l.length ≤ 140737488355000)
    (h : ¬ (0 ≤ a ∧ a < 8 * l.length)) :
    Calls Try.prog 21 #[.slice A l.length cap, .int .i64 a, .int .u32 (m : Int), .int .i64 (s : Int)] w (TurnR w l false) := by
  have HL := Lib.hid hr.out.1
  by_cases h0 : a < 0
  all_goals
    go_enter Try.func21, Try.ntmps21
    go_wp2_with (at_builtin; refine app8 rfl (.tmp 13) (.tmp 14) rfl w.heap.size B _ [] l rfl (Own.lit (Below.refl _ _)) (below_alloc (Below.refl _ _)) (by simp) A cap rfl (hr.out.below ((Below.refl _ _).alloc hB _)) hA.out (by simp; omega) ?_; intro v2 w2 ho2 hb2 _; have HO2 := Lib.hid ho2; have HB2 := Lib.hid hb2; clear ho2 hb2)
    go_ret2
    exact TurnR.mk HO2.out HB2.out HL.out
theorem by_lt {l : List Nat} (h : ∀ b ∈ l, b < 256) (i : Nat) : by_ l i < 256 := by
  by_cases hi : i < l.length
  · rw [by_get hi]; exact h _ (List.getElem_mem hi)
  · simp [by_, List.getElem?_eq_none (Nat.not_lt.mp hi)]
theorem xor_pow {x t : Nat} (hx : x < 256) : bits .xor .u8 (x : Int) (2 ^ (t % 8) % 256) = ((x ^^^ 2 ^ (t % 8) : Nat) : Int) := by
  have hp : 2 ^ (t % 8) < 256 := Nat.pow_lt_pow_right (n := 8) (by decide) (Nat.mod_lt _ (by decide))
  have e : ((2 : Int) ^ (t % 8) % 256) = ((2 ^ (t % 8) : Nat) : Int) := by
    have h1 : ((2 : Int) ^ (t % 8)) = ((2 ^ (t % 8) : Nat) : Int) := by simp
    rw [h1]
    generalize 2 ^ (t % 8) = z at hp ⊢
    omega
  rw [e, xor8 hx hp]
theorem bit_one {m k : Nat} (h : m.testBit k = true) : ((m : Int) / 2 ^ k).tmod 2 = 1 := by
  have e : ((m : Int) / 2 ^ k) = ((m / 2 ^ k : Nat) : Int) := by simp
  rw [Nat.testBit_eq_decide_div_mod_eq] at h
  have h := of_decide_eq_true h
  rw [e]
  generalize m / 2 ^ k = q at h ⊢
  rw [Int.tmod_eq_emod_of_nonneg (by omega)]; omega
theorem bit_no {m k : Nat} (h : m.testBit k = false) : ((m : Int) / 2 ^ k).tmod 2 = 0 := by
  have e : ((m : Int) / 2 ^ k) = ((m / 2 ^ k : Nat) : Int) := by simp
  rw [Nat.testBit_eq_decide_div_mod_eq] at h
  have h := of_decide_eq_false h
  rw [e]
  generalize m / 2 ^ k = q at h ⊢
  rw [Int.tmod_eq_emod_of_nonneg (by omega)]; omega
theorem Turn_in (A : Option Addr) (cap B : Nat) (l : List Nat) (a m s : Nat) (w : World) (hr : Hid (Rd w B A l)) (hA : Hid (A = none → l.length = 0 ∧ cap = 0)) (hB : B ≤ w.heap.size) (hlc : l.length ≤ 140737488355000)
    (h : a < 8 * l.length) (hm : Hid (m < U32)) (hs : s ≤ 32) :
    Calls Try.prog 21 #[.slice A l.length cap, .int .i64 (a : Int), .int .u32 (m : Int), .int .i64 (s : Int)] w (fun e w' => TurnR w (tk l a m s) (tt l a m s) e w') := by
  have HL := Lib.hid hr.out.1
  go_enter Try.func21, Try.ntmps21
  go_wp2_with (at_builtin; refine app8 rfl (.tmp 13) (.tmp 14) rfl w.heap.size B _ [] l rfl (Own.lit (Below.refl _ _)) (below_alloc (Below.refl _ _)) (by simp) A cap rfl (hr.out.below ((Below.refl _ _).alloc hB _)) hA.out (by simp; omega) ?_; intro v2 w2 ho2 hb2 _; obtain ⟨g, c2, rfl, hg, hlt⟩ := Own.form ho2 (by simp; omega); rw [List.nil_append] at ho2 ⊢; have HO2 := Lib.hid ho2; have HB2 := Lib.hid hb2; clear ho2 hb2)
  go_loopw [11, 12] (fun b i wr => ∃ k : Nat, k ≤ s ∧ i = .int .i64 k ∧ b = .bool (tt l a m k) ∧ Own wr w.heap.size (.slice (some ⟨g, 0, none⟩) l.length c2) (tk l a m k) ∧ Below w.heap.size w wr) (fun _ i _ => s - (intOf i).toNat)
  case atStart => exact ⟨0, Nat.zero_le _, rfl, by rw [tt_zero], by rw [tk_zero]; exact HO2.out, HB2.out⟩
  case round =>
    obtain ⟨k, hk, rfl, rfl, hown, hbel⟩ := hrel
    by_cases hks : k < s
    · have HOW := Lib.hid hown
      have HBE := Lib.hid hbel
      clear hown hbel
      by_cases hbit : m.testBit k = true
      · have h1 : ((m : Int) / 2 ^ k).tmod 2 = 1 := bit_one hbit
        by_cases hfar : a + k < 8 * l.length
        · obtain ⟨hcell, hfree⟩ := HOW.out.cell (i := (a + k) / 8) (by rw [length_tk]; omega)
          have HT := Lib.hid (tk_one hbit hfar)
          clear hbit
          go_wp2
          go_roundw
          case rel =>
            refine ⟨k + 1, by omega, by go_num, ?_, ?_, ?_⟩
            · rw [HT.out.2]
            · rw [HT.out.1, xor_pow (by_lt (tk_lt HL.out a m k) _)]
              exact HOW.out.store _ _
            · exact HBE.out.setCell hg _
          case measure => simp [intOf]; omega
        · have HT := Lib.hid (tk_far (m := m) hfar)
          clear hbit
          go_wp2
          go_roundw
          case rel => exact ⟨k + 1, by omega, by go_num, by rw [HT.out.2], by rw [HT.out.1]; exact HOW.out, HBE.out⟩
          case measure => simp [intOf]; omega
      · have hbit : m.testBit k = false := by simpa using hbit
        have h1 : ((m : Int) / 2 ^ k).tmod 2 = 0 := bit_no hbit
        have HT := Lib.hid (tk_no (l := l) (a := a) hbit)
        clear hbit
        go_wp2
        go_roundw
        case rel => exact ⟨k + 1, by omega, by go_num, by rw [HT.out.2], by rw [HT.out.1]; exact HOW.out, HBE.out⟩
        case measure => simp [intOf]; omega
    · have HK : Hid (k = s) := by show k = s; omega
      have HO3 := Lib.hid hown
      have HB3 := Lib.hid hbel
      clear hown hbel
      go_wp2
      go_ret2
      obtain rfl := HK.out
      exact TurnR.mk HO3.out HB3.out (tk_lt HL.out a m k)
theorem Turn_any (A : Option Addr) (cap B : Nat) (l : List Nat) (a : Int) (m s : Nat) (w : World) (hr : Hid (Rd w B A l)) (hA : Hid (A = none → l.length = 0 ∧ cap = 0)) (hB : B ≤ w.heap.size) (hlc : l.length ≤ 140737488355000)
    (hm : Hid (m < U32)) (hs : s ≤ 32) :
    Calls Try.prog 21 #[.slice A l.length cap, .int .i64 a, .int .u32 (m : Int), .int .i64 (s : Int)] w (TurnA w l a m s) := by
  by_cases h : 0 ≤ a ∧ a < 8 * l.length
  · obtain ⟨k, rfl⟩ : ∃ k : Nat, a = k := ⟨a.toNat, by omega⟩
    have := Turn_in A cap B l k m s w hr hA hB hlc (by omega) hm hs
    refine this.mono fun e w' ⟨A', c, h1, h2⟩ => ?_
    have e1 : turnL l k m s = tk l k m s := if_pos h
    have e2 : turnB l k m s = tt l k m s := if_pos h
    unfold TurnA
    rw [e1, e2]
    exact ⟨A', c, h1, h2⟩
  · refine (Turn_out A cap B l a m s w hr hA hB hlc h).mono fun e w' hh => ?_
    have e1 : turnL l a m s = l := if_neg h
    have e2 : turnB l a m s = false := if_neg h
    unfold TurnA
    rw [e1, e2]
    exact hh
theorem turn_bytes {l : List Nat} (h : ∀ z ∈ l, z < 256) (a : Int) (m s : Nat) : ∀ z ∈ turnL l a m s, z < 256 := by
  unfold turnL; split
  · exact tk_lt h _ _ _
  · exact h
theorem length_turn (l : List Nat) (a : Int) (m s : Nat) : (turnL l a m s).length = l.length := by
  unfold turnL; split
  · exact length_tk _ _ _ _
  · rfl
theorem turn_not {l : List Nat} {a : Int} {m s : Nat} (h : turnB l a m s = false) : turnL l a m s = l := by
  unfold turnB at h; unfold turnL
  split
  · rename_i hc; rw [if_pos hc] at h; exact tk_not h
  · rfl
theorem reg_turn {n p x m s : Nat} (hp : p < 2 ^ (n + 1)) (ht : p.testBit n = true) {l : List Nat} (hl : ∀ b ∈ l, b < 256) {a : Int} (hs : s ≤ n + 1) (h : turnB l a m s = true) : reg p x (turnL l a m s) ≠ reg p x l := by
  unfold turnB at h
  unfold turnL
  split
  · rename_i hc; rw [if_pos hc] at h
    exact reg_tk hp ht hl (by omega) hs h
  · rename_i hc; rw [if_neg hc] at h; cases h
end Go.Proofs.Ytlkkindahmnoiaa.Cr
