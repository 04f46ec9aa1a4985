/- The walk of the law CrcSums, where its lists have together at most 1048576 bytes. -/
import Derived.Test.YtlkkindahmnoiaaWoke
namespace Go.Proofs.Ytlkkindahmnoiaa.Cr
open Go.RowKit
open Go.Proofs.Ytlkkindahmnoiaa.Me
set_option linter.unusedVariables false

/-- The lists' slices that are nil have no room. -/
def Nils (w : World) (a : Option Addr) (ls : List (List Nat)) : Prop :=
  ∀ b off, a = some ⟨b, off, none⟩ → ∀ j, j < ls.length → ∀ n c, w.cell? ⟨b, off + j, none⟩ = some (.slice none n c) → n = 0 ∧ c = 0
theorem Lst.below {w w' : World} {B : Nat} {a : Option Addr} {ls : List (List Nat)} (h : Lst w B a ls) (hb : Below w.heap.size w w') (hB : B ≤ w.heap.size) : Lst w' B a ls := by
  intro hl
  obtain ⟨b, off, ha, hlt, hc⟩ := h hl
  refine ⟨b, off, ha, Nat.lt_of_lt_of_le hlt hb.size, fun j hj => ?_⟩
  obtain ⟨A, c, h1, h2, h3, h4⟩ := hc j hj
  exact ⟨A, c, (hb.cell (p := ⟨b, off + j, none⟩) hlt).trans h1, h2, h3, h4.below (hb.mono hB)⟩
theorem flat_step {ls : List (List Nat)} {k : Nat} (h : k < ls.length) : (ls.take (k + 1)).flatten = (ls.take k).flatten ++ lsAt ls k := by
  have e : lsAt ls k = ls[k] := by simp [lsAt, h]
  rw [List.take_succ_eq_append_getElem h, List.flatten_append, e]; simp
theorem flat_len (ls : List (List Nat)) (k : Nat) : (ls.take k).flatten.length ≤ ls.flatten.length := by
  conv => rhs; rw [← List.take_append_drop k ls, List.flatten_append, List.length_append]
  omega
theorem together_any (a : Option Addr) (cap : Nat) (ls : List (List Nat)) (w : World) (hl : Hid (Lst w w.heap.size a ls)) (hn : Hid (Nils w a ls)) (hc : ls.length ≤ 9223372036854775807) (ht : Hid (ls.flatten.length ≤ 1048576)) :
    Calls Try.prog 9 #[.slice a ls.length cap] w (NewB w ls.flatten) := by
  have HB := Lib.hid (flat_all (Lst.bytes hl.out))
  go_enter Try.func9, Try.ntmps9
  go_wp2
  go_loopw [3, 4] (fun v i wr => ∃ k : Nat, k ≤ ls.length ∧ i = .int .i64 k ∧ Own wr w.heap.size v (ls.take k).flatten ∧ Below w.heap.size w wr) (fun _ i _ => ls.length - (intOf i).toNat)
  case atStart => exact ⟨0, Nat.zero_le _, rfl, Own.nil _ _, Below.refl _ _⟩
  case round =>
    obtain ⟨k, hk, rfl, hown, hbel⟩ := hrel
    have HO := Lib.hid hown
    have HBE := Lib.hid hbel
    clear hown hbel
    by_cases hlt : k < ls.length
    · obtain ⟨b, off, rfl, hbB, hcs⟩ := (hl.out.below HBE.out (Nat.le_refl _)) (by omega)
      obtain ⟨A, c, hcell, hlc, hc2, hr⟩ := hcs k hlt
      obtain ⟨b0, off0, e0, hb0, hcs0⟩ := hl.out (by omega)
      obtain ⟨rfl, rfl⟩ : b = b0 ∧ off = off0 := by simpa using e0
      have hA : A = none → (lsAt ls k).length = 0 ∧ c = 0 := by
        rintro rfl
        exact hn.out b off rfl k hlt _ _ ((HBE.out.cell (p := ⟨b, off + k, none⟩) hb0).symm.trans hcell)
      have HS := Lib.hid (flat_step hlt)
      have HLN : Hid ((ls.take k).flatten.length + (lsAt ls k).length ≤ 140737488355328) := by
        have h1 := flat_len ls (k + 1)
        have h2 := ht.out
        rw [HS.out, List.length_append] at h1
        show _ + _ ≤ _
        omega
      have HRD := Lib.hid hr
      have HA := Lib.hid hA
      clear hcs hcs0 hr hA e0
      go_wp2_with (at_builtin; refine app8 rfl (.tmp 11) (.tmp 15) rfl w.heap.size w.heap.size _ _ (lsAt ls k) rfl HO.out HBE.out HBE.out.size A c rfl HRD.out HA.out HLN.out ?_; intro v2 w2 ho2 hb2 _; have HO2 := Lib.hid ho2; have HB2 := Lib.hid hb2; clear ho2 hb2)
      go_roundw
      case rel => exact ⟨k + 1, by omega, by go_num, by rw [HS.out]; exact HO2.out, HB2.out⟩
      case measure => simp [intOf]; omega
    · have HE : Hid ((ls.take k).flatten = ls.flatten) := by show (ls.take k).flatten = ls.flatten; rw [List.take_of_length_le (by omega)]
      go_wp2
      go_ret
      have h := HO.out
      rw [HE.out] at h
      exact NewB.mk h HBE.out HB.out
theorem sums (a : Option Addr) (n cap : Nat) (ls : List (List Nat)) (w : World) (hn : n = ls.length) (hc : n ≤ 9223372036854775807) (hl : Lst w w.heap.size a ls) (hN : Nils w a ls) (ht : ls.flatten.length ≤ 1048576) :
    Calls Try.prog 3 #[.slice a n cap] w fun e w' => e = .returned (.bool true) ∧ Below w.heap.size w w' := by
  subst hn
  have HL := Lib.hid hl
  have D1 := together_any a cap ls w hl hN hc ht
  have D2 := fun W h => Fcs_any a cap w.heap.size ls W h hc
  have D3 := fun W h => Sum_any a cap w.heap.size ls W h hc
  have D4 := fun A c W h => RFcs_any A c W.heap.size ls.flatten W h (by omega)
  have D5 := fun A c W h => RSum_any A c W.heap.size ls.flatten W h (by omega)
  obtain ⟨f, hf⟩ : ∃ f, ls.flatten = f := ⟨_, rfl⟩
  rw [hf] at D1 D2 D3 D4 D5
  have E1 := Lib.hid D1
  have E2 := Lib.hid D2
  have E3 := Lib.hid D3
  have E4 := Lib.hid D4
  have E5 := Lib.hid D5
  clear D1 D2 D3 D4 D5 hf ht hl hN
  go_enter Try.func3, Try.ntmps3
  go_wp2_with (first
    | (go_at_call 9; refine E1.out.mono ?_; rintro e w1 ⟨A1, c1, rfl, hl1, hc1, HH, hb1⟩; have HL1 := Lib.hid (HL.out.below hb1.out (Nat.le_refl _)); have HR1 := Lib.hid HH.out.rd)
    | (go_at_call 10; refine (E2.out _ HL1).mono ?_; rintro e w2 ⟨rfl, rfl⟩)
    | (go_at_call 12; refine (E3.out _ HL1).mono ?_; rintro e w2 ⟨rfl, rfl⟩)
    | (go_at_call 11; refine (E4.out _ _ _ HR1).mono ?_; rintro e w2 ⟨rfl, rfl⟩)
    | (go_at_call 13; refine (E5.out _ _ _ HR1).mono ?_; rintro e w2 ⟨rfl, rfl⟩)
    | (go_at_call 14; refine (awake_below hb1).mono ?_; rintro e w4 ⟨rfl, hb6⟩))
  go_ret
  exact ⟨rfl, hb6.out⟩
end Go.Proofs.Ytlkkindahmnoiaa.Cr
