/- Contracts of what record's Put stands on: sums of lists, slices.Grow of nothing, slices.Concat. -/
import Derived.Test.YtcdijhenfddmcaaRcMath
import Derived.Test.YtcdijhenfddmcaaBtRput
import Derived.Test.YtcdijhenfddmcaaMemB
import Derived.Test.YtcdijhenfddmcaaBClone
import Derived.Lib.AppendZerosOnto
namespace Go.Proofs.Ytcdijhenfddmcaa.Rc
open Go.RowKit
open Go.Proofs.Ytcdijhenfddmcaa.Me Go.Proofs.Ytcdijhenfddmcaa.Ma Go.Proofs.Ytcdijhenfddmcaa.Hd Go.Proofs.Ytcdijhenfddmcaa.Bt
open Go.Proofs.Ytcdijhenfddmcaa.Cr (sum sum_lt Sum_any RSum_any)
open Go.Proofs.Ytcdijhenfddmcaa.Ba (U wrapU_nat sizeB)
set_option linter.unusedVariables false
set_option linter.unusedSimpArgs false

theorem ret_u {a b : Int} (h : a = b) : Ending.returned (.int .u64 a) = .returned (.int .u64 b) := by rw [h]
theorem flat_lt {ls : List (List Nat)} (h : ∀ l ∈ ls, ∀ z ∈ l, z < 256) : ∀ z ∈ ls.flatten, z < 256 := by
  intro z hz
  obtain ⟨l, hl, hz⟩ := List.mem_flatten.mp hz
  exact h l hl z hz
theorem sumOf_any (a : Option Addr) (cap B : Nat) (ls : List (List Nat)) (w : World) (hl : Hid (Me.Lst w B a ls)) (hn : ls.length ≤ 9223372036854775807) :
    Calls Try.prog 20 #[.slice a ls.length cap] w fun e w' => e = .returned (.int .u64 (sum ls.flatten : Int)) ∧ w = w' := by
  have D := Lib.hid (fun w hl => Sum_any a cap B ls w hl hn)
  have HS : Hid (sum ls.flatten < 4294967296) := sum_lt (flat_lt (Me.Lst.bytes hl.out))
  obtain ⟨x, hx⟩ : ∃ x, sum ls.flatten = x := ⟨_, rfl⟩
  rw [hx] at D HS ⊢
  have h1 : (x : Int) < 4294967296 := by have := HS.out; omega
  have h2 : (0 : Int) ≤ (x : Int) := by omega
  clear hx
  go_enter Try.func20, Try.ntmps20
  go_wp2_with (go_at_call 30; refine (D.out _ hl).mono ?_; rintro e w' ⟨rfl, rfl⟩)
  go_ret
  exact ⟨ret_u (by first | rfl | omega), rfl⟩
/-- Lists laid in a block made for them. -/
theorem lst_two {w : World} {B n1 n2 c1 c2 : Nat} {A1 A2 : Option Addr} {l1 l2 : List Nat} {T : TypeId} (e1 : n1 = l1.length) (e2 : n2 = l2.length) (r1 : Rd w B A1 l1) (r2 : Rd w B A2 l2) (h1 : n1 ≤ c1) (h2 : n2 ≤ c2) (k1 : c1 ≤ 9223372036854775807) (k2 : c2 ≤ 9223372036854775807) (hB : B ≤ w.heap.size) :
    Me.Lst (w.alloc (.cells #[.slice A1 n1 c1, .slice A2 n2 c2] T)) B (some ⟨w.heap.size, 0, none⟩) [l1, l2] := by
  subst e1 e2
  intro _
  refine ⟨w.heap.size, 0, rfl, by simp, fun j hj => ?_⟩
  have hb : Below B w (w.alloc (.cells #[.slice A1 l1.length c1, .slice A2 l2.length c2] T)) := (Below.refl _ _).alloc hB _
  rcases j with _ | _ | j
  · exact ⟨A1, c1, by simp [lsAt, go_sem], h1, k1, r1.below hb⟩
  · exact ⟨A2, c2, by simp [lsAt, go_sem], h2, k2, r2.below hb⟩
  · simp at hj; omega
theorem lst_three {w : World} {B n1 n2 n3 c1 c2 c3 : Nat} {A1 A2 A3 : Option Addr} {l1 l2 l3 : List Nat} {T : TypeId} (e1 : n1 = l1.length) (e2 : n2 = l2.length) (e3 : n3 = l3.length) (r1 : Rd w B A1 l1) (r2 : Rd w B A2 l2) (r3 : Rd w B A3 l3)
    (h1 : n1 ≤ c1) (h2 : n2 ≤ c2) (h3 : n3 ≤ c3) (k1 : c1 ≤ 9223372036854775807) (k2 : c2 ≤ 9223372036854775807) (k3 : c3 ≤ 9223372036854775807) (hA1 : A1 = none → n1 = 0 ∧ c1 = 0) (hA2 : A2 = none → n2 = 0 ∧ c2 = 0) (hA3 : A3 = none → n3 = 0 ∧ c3 = 0) (hB : B ≤ w.heap.size) :
    Me.Lst (w.alloc (.cells #[.slice A1 n1 c1, .slice A2 n2 c2, .slice A3 n3 c3] T)) B (some ⟨w.heap.size, 0, none⟩) [l1, l2, l3] ∧ Me.Nils (w.alloc (.cells #[.slice A1 n1 c1, .slice A2 n2 c2, .slice A3 n3 c3] T)) (some ⟨w.heap.size, 0, none⟩) [l1, l2, l3] := by
  subst e1 e2 e3
  have hb : Below B w (w.alloc (.cells #[.slice A1 l1.length c1, .slice A2 l2.length c2, .slice A3 l3.length c3] T)) := (Below.refl _ _).alloc hB _
  refine ⟨fun _ => ⟨w.heap.size, 0, rfl, by simp, fun j hj => ?_⟩, fun b off e j hj n c hc => ?_⟩
  · rcases j with _ | _ | _ | j
    · exact ⟨A1, c1, by simp [lsAt, go_sem], h1, k1, r1.below hb⟩
    · exact ⟨A2, c2, by simp [lsAt, go_sem], h2, k2, r2.below hb⟩
    · exact ⟨A3, c3, by simp [lsAt, go_sem], h3, k3, r3.below hb⟩
    · simp at hj; omega
  · simp only [Option.some.injEq, Addr.mk.injEq, and_true] at e
    obtain ⟨rfl, rfl⟩ := e
    rcases j with _ | _ | _ | j
    · simp [go_sem] at hc; obtain ⟨q1, q2, q3⟩ := hc; subst q2 q3; exact hA1 q1
    · simp [go_sem] at hc; obtain ⟨q1, q2, q3⟩ := hc; subst q2 q3; exact hA2 q1
    · simp [go_sem] at hc; obtain ⟨q1, q2, q3⟩ := hc; subst q2 q3; exact hA3 q1
    · simp at hj; omega
theorem Grow_any (n : Nat) (h1 : 1 ≤ n) (hn : n ≤ 140737488355328) (w : World) :
    Calls Try.prog 31 #[.slice none 0 0, .int .i64 (n : Int)] w fun e w' => ∃ v, e = .returned v ∧ Hid (Me.Own w' w.heap.size v []) ∧ Hid (Below w.heap.size w w') := by
  obtain ⟨i0, hi, hz0, hz1, hz2⟩ := info_parts info8
  have hold : (Builtin.firstCells i0.size 0 (.slice none 0 0)).run Try.prog w.drew = .ok (([] : List Value).toArray) w.drew := run_firstCells_none w.drew i0.size 0 0 0
  have hr := fun ty => Lib.run_append_grow_zeros (P := Try.prog) w 22 3 ty 5 i0 (.int .u8 0) .i64 .i64 Try.underlying22 Try.underlying3 hi hz0 none 0 0 [] hold n h1 (by rw [hz1]; decide) (by omega) (by omega) (by rw [hz2]; omega) (by rw [hz2]; exact growslice_fits (by omega) (by omega))
  have hg1 : n ≤ grownCap w n 0 5 := grownCap_ge w _ _ _
  have hg2 : grownCap w n 0 5 ≤ maxLen := grownCap_le_maxLen w n 0 5 (by unfold maxLen; omega)
  rw [Nat.zero_add] at hr
  obtain ⟨G, hG⟩ : ∃ G, grownCap w n 0 5 = G := ⟨_, rfl⟩
  rw [hG] at hg1 hg2
  simp only [hG] at hr
  have HO : Hid (Me.Own (w.drew.alloc (.cells (([] : List Value).toArray ++ Builtin.zeroCells (Value.int .u8 0).cells n ++ Builtin.zeroCells (Value.int .u8 0).cells (G - n)) 5)) w.heap.size (.slice (some ⟨w.heap.size, 0, none⟩) 0 G) []) :=
    World.ownsRow_made w.drew _ G (Nat.le_refl _) hg2 (by
      simp only [Array.size_append, size_zeroCells, List.size_toArray, List.length_nil]
      rw [show (Value.int .u8 0).cells.size = 1 from rfl]; omega)
  have HB : Hid (Below w.heap.size w (w.drew.alloc (.cells (([] : List Value).toArray ++ Builtin.zeroCells (Value.int .u8 0).cells n ++ Builtin.zeroCells (Value.int .u8 0).cells (G - n)) 5))) := (Below.refl _ w).drew.alloc (Nat.le_refl _) _
  obtain ⟨W, hW⟩ : ∃ W, w.drew.alloc (.cells (([] : List Value).toArray ++ Builtin.zeroCells (Value.int .u8 0).cells n ++ Builtin.zeroCells (Value.int .u8 0).cells (G - n)) 5) = W := ⟨_, rfl⟩
  rw [hW] at HO HB
  simp only [hW] at hr
  have hG63 : G ≤ 9223372036854775807 := by unfold maxLen at hg2; omega
  clear hold hG hW hg2 hi hz0 hz1 hz2
  go_enter Try.func31, Try.ntmps31
  go_wp2_with (at_builtin; refine Lib.wpList_append_run _ rfl _ _ _ _ rfl _ _ rfl rfl _ _ (hr _) ?_)
  go_ret
  exact ⟨_, rfl, HO, HB⟩
/-- What a call answers that makes bytes of its own. -/
def OwnB (w : World) (l : List Nat) (e : Ending) (w' : World) : Prop := ∃ v, e = .returned v ∧ Hid (Me.Own w' w.heap.size v l) ∧ Hid (Below w.heap.size w w')
theorem len_step {ls : List (List Nat)} {k : Nat} (h : k < ls.length) : (ls.take (k + 1)).flatten.length = (ls.take k).flatten.length + (lsAt ls k).length := by
  rw [flat_step h, List.length_append]
set_option maxHeartbeats 1000000 in
theorem Concat_any (a : Option Addr) (cap : Nat) (ls : List (List Nat)) (w : World) (hl : Hid (Me.Lst w w.heap.size a ls)) (hn : Hid (Me.Nils w a ls)) (hc : ls.length ≤ 9223372036854775807) (h1 : 1 ≤ ls.flatten.length) (ht : ls.flatten.length ≤ 1048576) :
    Calls Try.prog 21 #[.slice a ls.length cap] w (OwnB w ls.flatten) := by
  have HB := Lib.hid (flat_lt (Me.Lst.bytes hl.out))
  have HT := Lib.hid ht
  have HP := Lib.hid h1
  obtain ⟨N, hN⟩ : ∃ N, ls.flatten.length = N := ⟨_, rfl⟩
  have HN := Lib.hid hN
  have D := Lib.hid (fun w => Grow_any N (by omega) (by omega) w)
  clear h1 ht hN
  go_enter Try.func21, Try.ntmps21
  go_wp2
  go_loop [3, 11] (fun s i => ∃ k : Nat, k ≤ ls.length ∧ i = .int .i64 k ∧ s = .int .i64 ((ls.take k).flatten.length : Int)) (fun _ i => ls.length - (intOf i).toNat)
  case atStart => exact ⟨0, Nat.zero_le _, rfl, rfl⟩
  case round =>
    obtain ⟨k, hk, rfl, rfl⟩ := hrel
    by_cases hlt : k < ls.length
    · obtain ⟨b, off, rfl, hbB, hcs⟩ := hl.out (by omega)
      obtain ⟨A, c, hcell, hlc, hc2, hr⟩ := hcs k hlt
      have HS := Lib.hid (len_step hlt)
      have h3 : (ls.take k).flatten.length + (lsAt ls k).length ≤ 1048576 := by
        rw [← len_step hlt]; exact Nat.le_trans (flat_len ls _) HT.out
      obtain ⟨s, hs⟩ : ∃ s, (ls.take k).flatten.length = s := ⟨_, rfl⟩
      obtain ⟨m, hm⟩ : ∃ m, (lsAt ls k).length = m := ⟨_, rfl⟩
      rw [hs, hm] at HS h3
      rw [hs]
      rw [hm] at hcell hlc
      clear hcs hr hs hm
      go_wp2
      go_round
      case rel => exact ⟨k + 1, by omega, by go_num, by rw [HS.out]; go_num⟩
      case measure => simp [intOf]; omega
    · have HE : Hid ((ls.take k).flatten.length = N) := by show _ = N; rw [List.take_of_length_le (by omega)]; exact HN.out
      rw [HE.out]
      have hNb : N ≤ 1048576 := by have := HT.out; rw [HN.out] at this; exact this
      go_wp2_with (go_at_call 31; refine (D.out w).mono ?_; rintro e w1 ⟨v1, rfl, HO1, HB1⟩)
      go_loopw [6, 27] (fun v i wr => ∃ k : Nat, k ≤ ls.length ∧ i = .int .i64 k ∧ Me.Own wr w.heap.size v (ls.take k).flatten ∧ Below w.heap.size w wr) (fun _ i _ => ls.length - (intOf i).toNat)
      case atStart => exact ⟨0, Nat.zero_le _, rfl, HO1.out, HB1.out⟩
      case round =>
        obtain ⟨k, hk, rfl, hown, hbel⟩ := hrel
        have HO := Lib.hid hown
        have HBE := Lib.hid hbel
        clear hown hbel
        by_cases hlt : k < ls.length
        · obtain ⟨b, off, rfl, hbB, hcs⟩ := (hl.out.below HBE.out (Nat.le_refl _)) (by omega)
          obtain ⟨A, c, hcell, hlc, hc2, hr⟩ := hcs k hlt
          obtain ⟨b0, off0, e0, hb0, hcs0⟩ := hl.out (by omega)
          obtain ⟨rfl, rfl⟩ : b = b0 ∧ off = off0 := by simpa using e0
          have hA : A = none → (lsAt ls k).length = 0 ∧ c = 0 := by
            rintro rfl
            exact hn.out b off rfl k hlt _ _ ((HBE.out.cell (p := ⟨b, off + k, none⟩) hb0).symm.trans hcell)
          have HS := Lib.hid (flat_step hlt)
          have HLN : Hid ((ls.take k).flatten.length + (lsAt ls k).length ≤ 140737488355328) := by
            have h1 := flat_len ls (k + 1)
            have h2 := HT.out
            rw [HS.out, List.length_append] at h1
            show _ + _ ≤ _
            omega
          have HRD := Lib.hid hr
          have HA := Lib.hid hA
          clear hcs hcs0 hr hA e0
          go_wp2_with (at_builtin; refine app8 rfl (.tmp 31) (.tmp 32) rfl w.heap.size w.heap.size _ _ (lsAt ls k) rfl HO.out HBE.out HBE.out.size A c rfl HRD.out HA.out HLN.out ?_; intro v2 w2 ho2 hb2 _; have HO2 := Lib.hid ho2; have HB2 := Lib.hid hb2; clear ho2 hb2)
          go_roundw
          case rel => exact ⟨k + 1, by omega, by go_num, by rw [HS.out]; exact HO2.out, HB2.out⟩
          case measure => simp [intOf]; omega
        · have HE2 : Hid ((ls.take k).flatten = ls.flatten) := by show (ls.take k).flatten = ls.flatten; rw [List.take_of_length_le (by omega)]
          go_wp2
          go_ret
          have h := HO.out
          rw [HE2.out] at h
          exact ⟨_, rfl, h, HBE.out⟩
end Go.Proofs.Ytcdijhenfddmcaa.Rc
