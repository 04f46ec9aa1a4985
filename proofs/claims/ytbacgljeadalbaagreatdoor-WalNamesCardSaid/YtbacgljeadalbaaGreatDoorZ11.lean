/- The contract of bytes.Clone. -/
import Derived.Test.YtbacgljeadalbaaGreatDoorZ1
import Derived.Test.YtbacgljeadalbaaGreatDoorZ4
import Derived.Test.YtbacgljeadalbaaGreatDoorZ3
import Derived.Test.YtbacgljeadalbaaGreatDoorZ5
import Derived.Lib.SliceRun
import Derived.Lib.AppendZerosOnto
namespace Go.Proofs.YtbacgljeadalbaaGreatDoor.Hd
open Go.RowKit
open Go.Proofs.YtbacgljeadalbaaGreatDoor.Me
set_option linter.unusedVariables false
set_option linter.unusedSimpArgs false

theorem BClone_any (A : Option Addr) (cap B : Nat) (l : List Nat) (w : World) (hr : Hid (Rd w B A l)) (hA : Hid (A = none → l.length = 0 ∧ cap = 0)) (hB : B ≤ w.heap.size) (hc : l.length ≤ 140737488355328) :
    Calls Tryz.prog 87 #[.slice A l.length cap] w fun e w' => ∃ v, e = .returned v ∧ Hid (Me.Own w' w.heap.size v l) ∧ Hid (Below w.heap.size w w') := by
  have ke := fun (w : World) (a : Option Addr) (n c : Nat) => Lib.run_eql_slice_nil (P := Tryz.prog) w 32 5 a n c 0 0 Tryz.underlying32
  rcases A with _ | ad
  · obtain ⟨h1, rfl⟩ := hA.out rfl
    obtain rfl : l = [] := List.eq_nil_of_length_eq_zero h1
    go_enter Tryz.func87, Tryz.ntmps87
    go_wp2
    go_ret
    exact ⟨_, rfl, Me.Own.nil _ _, Below.refl _ _⟩
  · go_enter Tryz.func87, Tryz.ntmps87
    go_wp2_with (at_builtin; refine app8 rfl (.tmp 5) (.tmp 6) rfl w.heap.size B _ [] l rfl (Me.Own.lit (Below.refl _ _)) (below_alloc (Below.refl _ _)) (by simp) (some ad) cap rfl (hr.out.below ((Below.refl _ _).alloc hB _)) hA.out (by simp; omega) ?_; intro v2 w2 ho2 hb2 _; have HO2 := Lib.hid ho2; have HB2 := Lib.hid hb2; clear ho2 hb2)
    go_ret
    exact ⟨_, rfl, HO2, HB2⟩
end Go.Proofs.YtbacgljeadalbaaGreatDoor.Hd
/- Contracts of what record's Put stands on: sums of lists, slices.Grow of nothing, slices.Concat. -/
namespace Go.Proofs.YtbacgljeadalbaaGreatDoor.Rc
open Go.RowKit
open Go.Proofs.YtbacgljeadalbaaGreatDoor.Me Go.Proofs.YtbacgljeadalbaaGreatDoor.Ma Go.Proofs.YtbacgljeadalbaaGreatDoor.Hd Go.Proofs.YtbacgljeadalbaaGreatDoor.Bt
open Go.Proofs.YtbacgljeadalbaaGreatDoor.Cr (sum sum_lt Sum_any)
open Go.Proofs.YtbacgljeadalbaaGreatDoor.Ba (U wrapU_nat sizeB)
set_option linter.unusedVariables false
set_option linter.unusedSimpArgs false

theorem ret_u {a b : Int} (h : a = b) : Ending.returned (.int .u64 a) = .returned (.int .u64 b) := by rw [h]
theorem flat_lt {ls : List (List Nat)} (h : ∀ l ∈ ls, ∀ z ∈ l, z < 256) : ∀ z ∈ ls.flatten, z < 256 := by
  intro z hz
  obtain ⟨l, hl, hz⟩ := List.mem_flatten.mp hz
  exact h l hl z hz
theorem sumOf_any (a : Option Addr) (cap B : Nat) (ls : List (List Nat)) (w : World) (hl : Hid (Me.Lst w B a ls)) (hn : ls.length ≤ 9223372036854775807) :
    Calls Tryz.prog 55 #[.slice a ls.length cap] w fun e w' => e = .returned (.int .u64 (sum ls.flatten : Int)) ∧ w = w' := by
  have D := Lib.hid (fun w hl => Sum_any a cap B ls w hl hn)
  have HS : Hid (sum ls.flatten < 4294967296) := sum_lt (flat_lt (Me.Lst.bytes hl.out))
  obtain ⟨x, hx⟩ : ∃ x, sum ls.flatten = x := ⟨_, rfl⟩
  rw [hx] at D HS ⊢
  have h1 : (x : Int) < 4294967296 := by have := HS.out; omega
  have h2 : (0 : Int) ≤ (x : Int) := by omega
  clear hx
  go_enter Tryz.func55, Tryz.ntmps55
  go_wp2_with (go_at_call 68; refine (D.out _ hl).mono ?_; rintro e w' ⟨rfl, rfl⟩)
  go_ret
  exact ⟨ret_u (by first | rfl | omega), rfl⟩
/-- Lists laid in a block made for them. -/
theorem lst_two {w : World} {B n1 n2 c1 c2 : Nat} {A1 A2 : Option Addr} {l1 l2 : List Nat} {T : TypeId} (e1 : n1 = l1.length) (e2 : n2 = l2.length) (r1 : Rd w B A1 l1) (r2 : Rd w B A2 l2) (h1 : n1 ≤ c1) (h2 : n2 ≤ c2) (k1 : c1 ≤ 9223372036854775807) (k2 : c2 ≤ 9223372036854775807) (hB : B ≤ w.heap.size) :
    Me.Lst (w.alloc (.cells #[.slice A1 n1 c1, .slice A2 n2 c2] T)) B (some ⟨w.heap.size, 0, none⟩) [l1, l2] := by
  subst e1 e2
  intro _
  refine ⟨w.heap.size, 0, rfl, by simp, fun j hj => ?_⟩
  have hb : Below B w (w.alloc (.cells #[.slice A1 l1.length c1, .slice A2 l2.length c2] T)) := (Below.refl _ _).alloc hB _
  rcases j with _ | _ | j
  · exact ⟨A1, c1, by simp [lsAt, go_sem], h1, k1, r1.below hb⟩
  · exact ⟨A2, c2, by simp [lsAt, go_sem], h2, k2, r2.below hb⟩
  · simp at hj; omega
theorem lst_three {w : World} {B n1 n2 n3 c1 c2 c3 : Nat} {A1 A2 A3 : Option Addr} {l1 l2 l3 : List Nat} {T : TypeId} (e1 : n1 = l1.length) (e2 : n2 = l2.length) (e3 : n3 = l3.length) (r1 : Rd w B A1 l1) (r2 : Rd w B A2 l2) (r3 : Rd w B A3 l3)
    (h1 : n1 ≤ c1) (h2 : n2 ≤ c2) (h3 : n3 ≤ c3) (k1 : c1 ≤ 9223372036854775807) (k2 : c2 ≤ 9223372036854775807) (k3 : c3 ≤ 9223372036854775807) (hA1 : A1 = none → n1 = 0 ∧ c1 = 0) (hA2 : A2 = none → n2 = 0 ∧ c2 = 0) (hA3 : A3 = none → n3 = 0 ∧ c3 = 0) (hB : B ≤ w.heap.size) :
    Me.Lst (w.alloc (.cells #[.slice A1 n1 c1, .slice A2 n2 c2, .slice A3 n3 c3] T)) B (some ⟨w.heap.size, 0, none⟩) [l1, l2, l3] ∧ Me.Nils (w.alloc (.cells #[.slice A1 n1 c1, .slice A2 n2 c2, .slice A3 n3 c3] T)) (some ⟨w.heap.size, 0, none⟩) [l1, l2, l3] := by
  subst e1 e2 e3
  have hb : Below B w (w.alloc (.cells #[.slice A1 l1.length c1, .slice A2 l2.length c2, .slice A3 l3.length c3] T)) := (Below.refl _ _).alloc hB _
  refine ⟨fun _ => ⟨w.heap.size, 0, rfl, by simp, fun j hj => ?_⟩, fun b off e j hj n c hc => ?_⟩
  · rcases j with _ | _ | _ | j
    · exact ⟨A1, c1, by simp [lsAt, go_sem], h1, k1, r1.below hb⟩
    · exact ⟨A2, c2, by simp [lsAt, go_sem], h2, k2, r2.below hb⟩
    · exact ⟨A3, c3, by simp [lsAt, go_sem], h3, k3, r3.below hb⟩
    · simp at hj; omega
  · simp only [Option.some.injEq, Addr.mk.injEq, and_true] at e
    obtain ⟨rfl, rfl⟩ := e
    rcases j with _ | _ | _ | j
    · simp [go_sem] at hc; obtain ⟨q1, q2, q3⟩ := hc; subst q2 q3; exact hA1 q1
    · simp [go_sem] at hc; obtain ⟨q1, q2, q3⟩ := hc; subst q2 q3; exact hA2 q1
    · simp [go_sem] at hc; obtain ⟨q1, q2, q3⟩ := hc; subst q2 q3; exact hA3 q1
    · simp at hj; omega
theorem Grow_any (n : Nat) (h1 : 1 ≤ n) (hn : n ≤ 140737488355328) (w : World) :
    Calls Tryz.prog 69 #[.slice none 0 0, .int .i64 (n : Int)] w fun e w' => ∃ v, e = .returned v ∧ Hid (Me.Own w' w.heap.size v []) ∧ Hid (Below w.heap.size w w') := by
  obtain ⟨i0, hi, hz0, hz1, hz2⟩ := info_parts info8
  have hold : (Builtin.firstCells i0.size 0 (.slice none 0 0)).run Tryz.prog w.drew = .ok (([] : List Value).toArray) w.drew := run_firstCells_none w.drew i0.size 0 0 0
  have hr := fun ty => Lib.run_append_grow_zeros (P := Tryz.prog) w 32 3 ty 5 i0 (.int .u8 0) .i64 .i64 Tryz.underlying32 Tryz.underlying3 hi hz0 none 0 0 [] hold n h1 (by rw [hz1]; decide) (by omega) (by omega) (by rw [hz2]; omega) (by rw [hz2]; exact growslice_fits (by omega) (by omega))
  have hg1 : n ≤ grownCap w n 0 5 := grownCap_ge w _ _ _
  have hg2 : grownCap w n 0 5 ≤ maxLen := grownCap_le_maxLen w n 0 5 (by unfold maxLen; omega)
  rw [Nat.zero_add] at hr
  obtain ⟨G, hG⟩ : ∃ G, grownCap w n 0 5 = G := ⟨_, rfl⟩
  rw [hG] at hg1 hg2
  simp only [hG] at hr
  have HO : Hid (Me.Own (w.drew.alloc (.cells (([] : List Value).toArray ++ Builtin.zeroCells (Value.int .u8 0).cells n ++ Builtin.zeroCells (Value.int .u8 0).cells (G - n)) 5)) w.heap.size (.slice (some ⟨w.heap.size, 0, none⟩) 0 G) []) :=
    World.ownsRow_made w.drew _ G (Nat.le_refl _) hg2 (by
      simp only [Array.size_append, size_zeroCells, List.size_toArray, List.length_nil]
      rw [show (Value.int .u8 0).cells.size = 1 from rfl]; omega)
  have HB : Hid (Below w.heap.size w (w.drew.alloc (.cells (([] : List Value).toArray ++ Builtin.zeroCells (Value.int .u8 0).cells n ++ Builtin.zeroCells (Value.int .u8 0).cells (G - n)) 5))) := (Below.refl _ w).drew.alloc (Nat.le_refl _) _
  obtain ⟨W, hW⟩ : ∃ W, w.drew.alloc (.cells (([] : List Value).toArray ++ Builtin.zeroCells (Value.int .u8 0).cells n ++ Builtin.zeroCells (Value.int .u8 0).cells (G - n)) 5) = W := ⟨_, rfl⟩
  rw [hW] at HO HB
  simp only [hW] at hr
  have hG63 : G ≤ 9223372036854775807 := by unfold maxLen at hg2; omega
  clear hold hG hW hg2 hi hz0 hz1 hz2
  go_enter Tryz.func69, Tryz.ntmps69
  go_wp2_with (at_builtin; refine Lib.wpList_append_run _ rfl _ _ _ _ rfl _ _ rfl rfl _ _ (hr _) ?_)
  go_ret
  exact ⟨_, rfl, HO, HB⟩
/-- What a call answers that makes bytes of its own. -/
def OwnB (w : World) (l : List Nat) (e : Ending) (w' : World) : Prop := ∃ v, e = .returned v ∧ Hid (Me.Own w' w.heap.size v l) ∧ Hid (Below w.heap.size w w')
theorem len_step {ls : List (List Nat)} {k : Nat} (h : k < ls.length) : (ls.take (k + 1)).flatten.length = (ls.take k).flatten.length + (lsAt ls k).length := by
  rw [flat_step h, List.length_append]
set_option maxHeartbeats 1000000 in
theorem Concat_any (a : Option Addr) (cap : Nat) (ls : List (List Nat)) (w : World) (hl : Hid (Me.Lst w w.heap.size a ls)) (hn : Hid (Me.Nils w a ls)) (hc : ls.length ≤ 9223372036854775807) (h1 : 1 ≤ ls.flatten.length) (ht : ls.flatten.length ≤ 1048576) :
    Calls Tryz.prog 56 #[.slice a ls.length cap] w (OwnB w ls.flatten) := by
  have HB := Lib.hid (flat_lt (Me.Lst.bytes hl.out))
  have HT := Lib.hid ht
  have HP := Lib.hid h1
  obtain ⟨N, hN⟩ : ∃ N, ls.flatten.length = N := ⟨_, rfl⟩
  have HN := Lib.hid hN
  have D := Lib.hid (fun w => Grow_any N (by omega) (by omega) w)
  clear h1 ht hN
  go_enter Tryz.func56, Tryz.ntmps56
  go_wp2
  go_loop [3, 11] (fun s i => ∃ k : Nat, k ≤ ls.length ∧ i = .int .i64 k ∧ s = .int .i64 ((ls.take k).flatten.length : Int)) (fun _ i => ls.length - (intOf i).toNat)
  case atStart => exact ⟨0, Nat.zero_le _, rfl, rfl⟩
  case round =>
    obtain ⟨k, hk, rfl, rfl⟩ := hrel
    by_cases hlt : k < ls.length
    · obtain ⟨b, off, rfl, hbB, hcs⟩ := hl.out (by omega)
      obtain ⟨A, c, hcell, hlc, hc2, hr⟩ := hcs k hlt
      have HS := Lib.hid (len_step hlt)
      have h3 : (ls.take k).flatten.length + (lsAt ls k).length ≤ 1048576 := by
        rw [← len_step hlt]; exact Nat.le_trans (flat_len ls _) HT.out
      obtain ⟨s, hs⟩ : ∃ s, (ls.take k).flatten.length = s := ⟨_, rfl⟩
      obtain ⟨m, hm⟩ : ∃ m, (lsAt ls k).length = m := ⟨_, rfl⟩
      rw [hs, hm] at HS h3
      rw [hs]
      rw [hm] at hcell hlc
      clear hcs hr hs hm
      go_wp2
      go_round
      case rel => exact ⟨k + 1, by omega, by go_num, by rw [HS.out]; go_num⟩
      case measure => simp [intOf]; omega
    · have HE : Hid ((ls.take k).flatten.length = N) := by show _ = N; rw [List.take_of_length_le (by omega)]; exact HN.out
      rw [HE.out]
      have hNb : N ≤ 1048576 := by have := HT.out; rw [HN.out] at this; exact this
      go_wp2_with (go_at_call 69; refine (D.out w).mono ?_; rintro e w1 ⟨v1, rfl, HO1, HB1⟩)
      go_loopw [6, 27] (fun v i wr => ∃ k : Nat, k ≤ ls.length ∧ i = .int .i64 k ∧ Me.Own wr w.heap.size v (ls.take k).flatten ∧ Below w.heap.size w wr) (fun _ i _ => ls.length - (intOf i).toNat)
      case atStart => exact ⟨0, Nat.zero_le _, rfl, HO1.out, HB1.out⟩
      case round =>
        obtain ⟨k, hk, rfl, hown, hbel⟩ := hrel
        have HO := Lib.hid hown
        have HBE := Lib.hid hbel
        clear hown hbel
        by_cases hlt : k < ls.length
        · obtain ⟨b, off, rfl, hbB, hcs⟩ := (hl.out.below HBE.out (Nat.le_refl _)) (by omega)
          obtain ⟨A, c, hcell, hlc, hc2, hr⟩ := hcs k hlt
          obtain ⟨b0, off0, e0, hb0, hcs0⟩ := hl.out (by omega)
          obtain ⟨rfl, rfl⟩ : b = b0 ∧ off = off0 := by simpa using e0
          have hA : A = none → (lsAt ls k).length = 0 ∧ c = 0 := by
            rintro rfl
            exact hn.out b off rfl k hlt _ _ ((HBE.out.cell (p := ⟨b, off + k, none⟩) hb0).symm.trans hcell)
          have HS := Lib.hid (flat_step hlt)
          have HLN : Hid ((ls.take k).flatten.length + (lsAt ls k).length ≤ 140737488355328) := by
            have h1 := flat_len ls (k + 1)
            have h2 := HT.out
            rw [HS.out, List.length_append] at h1
            show _ + _ ≤ _
            omega
          have HRD := Lib.hid hr
          have HA := Lib.hid hA
          clear hcs hcs0 hr hA e0
          go_wp2_with (at_builtin; refine app8 rfl (.tmp 31) (.tmp 32) rfl w.heap.size w.heap.size _ _ (lsAt ls k) rfl HO.out HBE.out HBE.out.size A c rfl HRD.out HA.out HLN.out ?_; intro v2 w2 ho2 hb2 _; have HO2 := Lib.hid ho2; have HB2 := Lib.hid hb2; clear ho2 hb2)
          go_roundw
          case rel => exact ⟨k + 1, by omega, by go_num, by rw [HS.out]; exact HO2.out, HB2.out⟩
          case measure => simp [intOf]; omega
        · have HE2 : Hid ((ls.take k).flatten = ls.flatten) := by show (ls.take k).flatten = ls.flatten; rw [List.take_of_length_le (by omega)]
          go_wp2
          go_ret
          have h := HO.out
          rw [HE2.out] at h
          exact ⟨_, rfl, h, HBE.out⟩
end Go.Proofs.YtbacgljeadalbaaGreatDoor.Rc
/- Contracts of record's Put and of its reference's. -/
namespace Go.Proofs.YtbacgljeadalbaaGreatDoor.Rc
open Go.RowKit
open Go.Proofs.YtbacgljeadalbaaGreatDoor.Me Go.Proofs.YtbacgljeadalbaaGreatDoor.Ma Go.Proofs.YtbacgljeadalbaaGreatDoor.Hd Go.Proofs.YtbacgljeadalbaaGreatDoor.Bt
open Go.Proofs.YtbacgljeadalbaaGreatDoor.Cr (sum sum_lt Sum_any)
open Go.Proofs.YtbacgljeadalbaaGreatDoor.Ba (U wrapU_nat sizeB)
set_option linter.unusedVariables false
set_option linter.unusedSimpArgs false

/-- Put's bytes and its error. -/
def putL (p : List Nat) : List Nat := if fitR p = true then recL p else []
def putE (p : List Nat) : Int := if p.length = 0 then 2 else if 65536 < p.length then 3 else 0
theorem put_fit {p : List Nat} (h : fitR p = true) : putL p = recL p ∧ putE p = 0 := by
  obtain ⟨h1, h2⟩ := fit_iff.mp h
  exact ⟨if_pos h, by unfold putE; rw [if_neg (by omega), if_neg (by omega)]⟩
theorem put_nofit {p : List Nat} (h : ¬ fitR p = true) : putL p = [] ∧ putE p ≠ 0 := by
  refine ⟨if_neg h, ?_⟩
  rw [fit_iff] at h
  unfold putE
  split
  · decide
  · split
    · decide
    · omega
theorem putL_bytes {p : List Nat} (h : ∀ z ∈ p, z < 256) : ∀ z ∈ putL p, z < 256 := by
  unfold putL
  split
  · exact rec_bytes h
  · simp
/-- What both answer. -/
def PutQ (p : List Nat) (w : World) (e : Ending) (w' : World) : Prop :=
  ∃ A k, e = .returned (.tuple #[.slice A (putL p).length k, .int .i64 (putE p)]) ∧ Hid (Me.Own w' w.heap.size (.slice A (putL p).length k) (putL p)) ∧ Hid (Below w.heap.size w w')
theorem PutQ.q {p : List Nat} {w w' : World} {e : Ending} (h : PutQ p w e w') : ∃ A k, e = .returned (.tuple #[.slice A (putL p).length k, .int .i64 (putE p)]) ∧ Hid (Me.Own w' w.heap.size (.slice A (putL p).length k) (putL p)) ∧ Hid (Below w.heap.size w w') := h
theorem PutQ.ok {p : List Nat} {w w' : World} {v : Value} (hf : fitR p = true) (hp : ∀ z ∈ p, z < 256) (h : Me.Own w' w.heap.size v (recL p)) (hb : Below w.heap.size w w') : PutQ p w (.returned (.tuple #[v, .int .i64 0])) w' := by
  obtain ⟨e1, e2⟩ := put_fit hf
  obtain ⟨A, c, rfl, h1, h2, h3⟩ := h.held (rec_bytes hp)
  unfold PutQ
  rw [e1, e2]
  exact ⟨A, c, rfl, h, hb⟩
theorem PutQ.no {p : List Nat} {w : World} {x : Int} (h : putL p = []) (hx : x = putE p) : PutQ p w (.returned (.tuple #[.slice none 0 0, .int .i64 x])) w := by
  unfold PutQ
  rw [h, hx]
  exact ⟨none, 0, rfl, Me.Own.nil _ _, Below.refl _ _⟩
theorem u32_in {x : Nat} (h : x < 4294967296) : x < 256 ^ 4 := h
theorem u32_U {x : Nat} (h : x < 4294967296) : x < U := Nat.lt_trans h (by decide)
theorem rd_nil (w : World) (B : Nat) : Rd w B none [] := ⟨by simp, by simp⟩
set_option maxHeartbeats 1000000 in
theorem Put_fit (A : Option Addr) (cap : Nat) (l : List Nat) (w : World) (hr : Hid (Rd w w.heap.size A l)) (hA : Hid (A = none → l.length = 0 ∧ cap = 0)) (hlc : l.length ≤ cap) (hc : cap ≤ 9223372036854775807) (hf : fitR l = true) :
    Calls Tryz.prog 30 #[.slice A l.length cap] w (PutQ l w) := by
  have HF := Lib.hid hf
  have HB := Lib.hid hr.out.1
  obtain ⟨f1, f2⟩ := fit_iff.mp hf
  have hs4 : sizeB 8 (4 : Int) = true := by decide
  -- the length's bytes
  have D1 := Lib.hid (Put_ok [] l.length 4 none 0 0 hs4 (u32_in (by omega)) w (rd_nil _ _) (Nat.zero_le _) (by simp))
  -- the sum
  have D2 : Hid (∀ (W : World), Hid (Row W w.heap.size (byts l.length 4)) → Rd W W.heap.size A l → ∀ g, g = W.heap.size →
      Calls Tryz.prog 55 #[.slice (some ⟨g, 0, none⟩) 2 2] (W.alloc (.cells #[.slice (some ⟨w.heap.size, 0, none⟩) 4 4, .slice A l.length cap] 32)) fun e w' => e = .returned (.int .u64 (sum (sumL l) : Int)) ∧ W.alloc (.cells #[.slice (some ⟨w.heap.size, 0, none⟩) 4 4, .slice A l.length cap] 32) = w') := by
    rintro W h4 h5 g rfl
    have hl := lst_two (T := 32) (n1 := 4) (c1 := 4) (length_byts l.length 4).symm rfl (h4.out.rd (B := W.heap.size) h4.out.lt (byts_lt _ _)) h5 (Nat.le_refl _) hlc (by decide) hc (Nat.le_refl _)
    have := sumOf_any (some ⟨W.heap.size, 0, none⟩) 2 _ [byts l.length 4, l] _ hl (by simp)
    rw [show ([byts l.length 4, l] : List (List Nat)).flatten = sumL l by simp [sumL]] at this
    exact this
  have hsl := sum_lt4 hr.out.1
  have HBY : Hid (∀ z ∈ byts l.length 4, z < 256) := byts_lt _ _
  have HLY : Hid ((byts l.length 4).length = 4) := length_byts _ _
  have HREC : Hid ([byts l.length 4, byts (sum (sumL l)) 4, l].flatten = recL l) := by show _ = _; simp [recL]
  obtain ⟨x, hx⟩ : ∃ x, sum (sumL l) = x := ⟨_, rfl⟩
  rw [hx] at D2 hsl HREC
  have D3 := Lib.hid (fun (W : World) => Put_ok [] x 4 none 0 0 hs4 (u32_in hsl) W (rd_nil _ _) (Nat.zero_le _) (by simp))
  have HXY : Hid (∀ z ∈ byts x 4, z < 256) := byts_lt _ _
  have HXL : Hid ((byts x 4).length = 4) := length_byts _ _
  obtain ⟨b1, hb1⟩ : ∃ b, byts l.length 4 = b := ⟨_, rfl⟩
  obtain ⟨b2, hb2⟩ : ∃ b, byts x 4 = b := ⟨_, rfl⟩
  simp only [hb1, List.nil_append, List.length_nil, Nat.zero_add] at D1 D2 HBY HLY HREC
  simp only [hb2, List.nil_append, List.length_nil, Nat.zero_add] at D3 HXY HXL HREC
  clear hx hb1 hb2
  have e0 : ((l.length : Int) == 0) = false := by rw [beq_eq_false_iff_ne]; omega
  have e1 : decide ((65536 : Int) < (l.length : Int)) = false := decide_eq_false (by omega)
  have hw1 : (l.length : Int) % 18446744073709551616 = (l.length : Int) := by omega
  have D4 : Hid (∀ (W : World) (g2 : Nat), Hid (Row W w.heap.size b1) → Hid (Row W g2 b2) → Rd W W.heap.size A l → ∀ g, g = W.heap.size →
      Calls Tryz.prog 56 #[.slice (some ⟨g, 0, none⟩) 3 3] (W.alloc (.cells #[.slice (some ⟨w.heap.size, 0, none⟩) 4 4, .slice (some ⟨g2, 0, none⟩) 4 4, .slice A l.length cap] 32)) (OwnB (W.alloc (.cells #[.slice (some ⟨w.heap.size, 0, none⟩) 4 4, .slice (some ⟨g2, 0, none⟩) 4 4, .slice A l.length cap] 32)) (recL l))) := by
    rintro W g2 h4 h5 h6 g rfl
    obtain ⟨k1, k2⟩ := lst_three (T := 32) (n1 := 4) (n2 := 4) (c1 := 4) (c2 := 4) HLY.out.symm HXL.out.symm rfl (h4.out.rd h4.out.lt HBY.out) (h5.out.rd h5.out.lt HXY.out) h6 (Nat.le_refl _) (Nat.le_refl _) hlc (by decide) (by decide) hc (fun e => by cases e) (fun e => by cases e) hA.out (Nat.le_refl _)
    have k1' : Me.Lst (W.alloc (.cells #[.slice (some ⟨w.heap.size, 0, none⟩) 4 4, .slice (some ⟨g2, 0, none⟩) 4 4, .slice A l.length cap] 32)) (W.alloc (.cells #[.slice (some ⟨w.heap.size, 0, none⟩) 4 4, .slice (some ⟨g2, 0, none⟩) 4 4, .slice A l.length cap] 32)).heap.size (some ⟨W.heap.size, 0, none⟩) [b1, b2, l] := fun hp => by
      obtain ⟨b, off, e, hlt, hcs⟩ := k1 hp
      refine ⟨b, off, e, hlt, fun j hj => ?_⟩
      obtain ⟨A', c', q1, q2, q3, q4⟩ := hcs j hj
      exact ⟨A', c', q1, q2, q3, q4.more (by simp)⟩
    have hlen : [b1, b2, l].flatten.length = 8 + l.length := by rw [HREC.out, rec_len]
    have := Concat_any (some ⟨W.heap.size, 0, none⟩) 3 [b1, b2, l] _ k1' k2 (by simp) (by rw [hlen]; omega) (by rw [hlen]; omega)
    rw [HREC.out] at this
    exact this
  simp only [show ((4 : Nat) : Int) = 4 from rfl] at D1 D3
  have HRB := Lib.hid (rec_bytes hr.out.1)
  go_enter Tryz.func30, Tryz.ntmps30
  go_wp2_with (first
    | (go_at_call 54; have _t := e0; ((with_reducible refine D1.out.mono ?_); rintro e w1 ⟨rfl, HR1, HB1⟩); clear e0; have HL1 := Lib.hid ((hr.out.below HB1.out).more HB1.out.size))
    | (go_at_call 55; ((with_reducible refine (D2.out w1 HR1 HL1.out _ rfl).mono ?_); rintro e w2 ⟨rfl, rfl⟩))
    | (go_at_call 54; ((with_reducible refine (D3.out _).mono ?_); rintro e w3 ⟨rfl, HR3, HB3⟩))
    | (go_at_call 56; have hb3 := Lib.hid ((below_alloc HB1.out).trans (HB3.out.mono (by have := HB1.out.size; simp; omega))); have HR3' : Hid (Row w3 (w1.heap.size + 1) b2) := Lib.hid (by simpa using HR3.out); have hk : Hid (Row w3 w.heap.size b1) := ((HR1.out.below ((Below.refl _ _).alloc (Nat.le_refl _) _) HR1.out.lt).below HB3.out (by have := HR1.out.lt; simp; omega)); have hq : Hid (Rd w3 w3.heap.size A l) := ((hr.out.below hb3.out).more hb3.out.size); ((with_reducible refine (D4.out w3 (w1.heap.size + 1) hk HR3' hq.out _ rfl).mono ?_); rintro e w5 ⟨v5, rfl, HO5, HB5⟩)))
  go_ret2
  exact PutQ.ok HF.out HB.out (own_base HO5.out fun k hk => by have h1 := (HO5.out.lt k hk).1; have h2 := hb3.out.size; simp at h1; omega) ((below_alloc hb3.out).trans (HB5.out.mono (by have := hb3.out.size; simp; omega)))
theorem Put_any (A : Option Addr) (cap : Nat) (l : List Nat) (w : World) (hr : Hid (Rd w w.heap.size A l)) (hA : Hid (A = none → l.length = 0 ∧ cap = 0)) (hlc : l.length ≤ cap) (hc : cap ≤ 9223372036854775807) :
    Calls Tryz.prog 30 #[.slice A l.length cap] w (PutQ l w) := by
  by_cases hf : fitR l = true
  · exact Put_fit A cap l w hr hA hlc hc hf
  · obtain ⟨q1, _⟩ := put_nofit hf
    rw [fit_iff] at hf
    rcases Nat.eq_zero_or_pos l.length with h0 | hp
    · have HQ : Hid (putL l = [] ∧ (2 : Int) = putE l) := ⟨q1, by unfold putE; rw [if_pos h0]⟩
      have e0 : ((l.length : Int) == 0) = true := by rw [beq_iff_eq]; omega
      rw [h0] at e0 ⊢
      clear h0 hlc hr hA
      go_enter Tryz.func30, Tryz.ntmps30
      go_wp2
      go_ret2
      exact PutQ.no HQ.out.1 HQ.out.2
    · have HQ : Hid (putL l = [] ∧ (3 : Int) = putE l) := ⟨q1, by unfold putE; rw [if_neg (by omega), if_pos (by omega)]⟩
      have e0 : ((l.length : Int) == 0) = false := by rw [beq_eq_false_iff_ne]; omega
      have e1 : decide ((65536 : Int) < (l.length : Int)) = true := decide_eq_true (by omega)
      clear hr hA
      go_enter Tryz.func30, Tryz.ntmps30
      go_wp2
      go_ret2
      exact PutQ.no HQ.out.1 HQ.out.2
/-! ### The reference -/
end Go.Proofs.YtbacgljeadalbaaGreatDoor.Rc
/- Contracts of record's payload and First. -/
namespace Go.Proofs.YtbacgljeadalbaaGreatDoor.Rc
open Go.RowKit
open Go.Proofs.YtbacgljeadalbaaGreatDoor.Me Go.Proofs.YtbacgljeadalbaaGreatDoor.Ma Go.Proofs.YtbacgljeadalbaaGreatDoor.Hd Go.Proofs.YtbacgljeadalbaaGreatDoor.Bt
open Go.Proofs.YtbacgljeadalbaaGreatDoor.Cr (sum sum_lt Sum_any)
open Go.Proofs.YtbacgljeadalbaaGreatDoor.Ba (U wrapU_nat sizeB)
set_option linter.unusedVariables false
set_option linter.unusedSimpArgs false

/-- The piece of a row that is the payload of its first record. -/
def payV (A : Option Addr) (l : List Nat) (cap : Nat) : Value := if payOk l then .slice (A.map fun x => x.add 8) (payL l).length (cap - 8) else .slice none 0 0
theorem payV_ok {A : Option Addr} {l : List Nat} {cap : Nat} (h : payOk l) : payV A l cap = .slice (A.map fun x => x.add 8) (payL l).length (cap - 8) := if_pos h
theorem payV_no {A : Option Addr} {l : List Nat} {cap : Nat} (h : ¬ payOk l) : payV A l cap = .slice none 0 0 := if_neg h
theorem Get_ok (l : List Nat) (a : Nat) (A : Option Addr) (cap : Nat) (hl : l.length ≤ cap) (hc : cap ≤ 9223372036854775807) (w : World) (hr : Hid (Rd w w.heap.size A l)) (h : a + 4 ≤ l.length) (x : Int) (hx : x = (a : Int)) :
    Calls Tryz.prog 120 #[.slice A l.length cap, .int .i64 x, .int .i64 4] w fun e w' => e = .returned (.tuple #[.int .u64 (num ((l.drop a).take 4) : Int), .int .i64 0]) ∧ w = w' := by
  subst hx
  have := Get_any l (a : Int) (4 : Int) A cap w.heap.size hl hc w hr (by omega)
  rw [show (4 : Int) = ((4 : Nat) : Int) from rfl, getE_ok (by decide) (by omega)] at this
  exact this
theorem payN_lt {l : List Nat} (h : ∀ z ∈ l, z < 256) (a : Nat) : num ((l.drop a).take 4) < 4294967296 := num_part_lt h a 4
set_option maxHeartbeats 1000000 in
theorem payload_in (A : Option Addr) (cap : Nat) (l : List Nat) (w : World) (hr : Hid (Rd w w.heap.size A l)) (hlc : l.length ≤ cap) (hc : cap ≤ 9223372036854775807) (h8 : 8 ≤ l.length) (h1 : 1 ≤ payN l) (h2 : payN l ≤ 65536) (h3 : payN l ≤ l.length - 8) :
    Calls Tryz.prog 108 #[.slice A l.length cap] w fun e w' => e = .returned (payV A l cap) ∧ Hid (Below w.heap.size w w') := by
  obtain ⟨b, off, rfl, hb, _⟩ := hr.out.2 (by omega)
  have HB := Lib.hid hr.out.1
  have hr8 : Rd w w.heap.size (some ⟨b, off + 8, none⟩) ((l.drop 8).take (payN l)) := (hr.out.drop 8).take _
  have hr4 : Rd w w.heap.size (some ⟨b, off, none⟩) (l.take 4) := hr.out.take 4
  have hl8 : ((l.drop 8).take (payN l)).length = payN l := by simp; omega
  have hl4 : (l.take 4).length = 4 := by simp; omega
  have D1 := Lib.hid (Get_ok l 0 (some ⟨b, off, none⟩) cap hlc hc w hr (by omega) 0 rfl)
  have D2 := Lib.hid (Get_ok l 4 (some ⟨b, off, none⟩) cap hlc hc w hr (by omega) 4 rfl)
  have D3 : Hid (∀ g, g = w.heap.size → Calls Tryz.prog 55 #[.slice (some ⟨g, 0, none⟩) 2 2] (w.alloc (.cells #[.slice (some ⟨b, off, none⟩) 4 cap, .slice (some ⟨b, off + 8, none⟩) (payN l) (cap - 8)] 32))
      fun e w' => e = .returned (.int .u64 (sum (l.take 4 ++ (l.drop 8).take (payN l)) : Int)) ∧ w.alloc (.cells #[.slice (some ⟨b, off, none⟩) 4 cap, .slice (some ⟨b, off + 8, none⟩) (payN l) (cap - 8)] 32) = w') := by
    rintro g rfl
    have hl := lst_two (T := 32) hl4.symm hl8.symm hr4 hr8 (by omega : 4 ≤ cap) (by omega : payN l ≤ cap - 8) hc (by omega) (Nat.le_refl _)
    have := sumOf_any (some ⟨w.heap.size, 0, none⟩) 2 _ [l.take 4, (l.drop 8).take (payN l)] _ hl (by simp)
    simpa using this
  have HOK : Hid (payOk l ↔ sum (l.take 4 ++ (l.drop 8).take (payN l)) = num ((l.drop 4).take 4)) := ⟨fun h => h.2.2.2.2, fun h => ⟨h8, h1, h2, h3, h⟩⟩
  have HPL : Hid (payOk l → (payL l).length = payN l) := fun h => pay_ok_len h
  have e1 : num ((l.drop 0).take 4) = payN l := by simp [payN]
  rw [e1] at D1
  obtain ⟨s, hs⟩ : ∃ s, num ((l.drop 4).take 4) = s := ⟨_, rfl⟩
  obtain ⟨t, ht⟩ : ∃ t, sum (l.take 4 ++ (l.drop 8).take (payN l)) = t := ⟨_, rfl⟩
  rw [hs] at D2 HOK
  rw [ht] at D3 HOK
  obtain ⟨n, hn⟩ : ∃ n, payN l = n := ⟨_, rfl⟩
  rw [hn] at D1 D3 HPL h1 h2 h3
  clear hr8 hr4 hl8 hl4 hs ht hn e1 hb
  have q1 : ((n : Int) == 0) = false := by rw [beq_eq_false_iff_ne]; omega
  have q2 : decide ((65536 : Int) < (n : Int)) = false := decide_eq_false (by omega)
  have q3 : decide ((l.length : Int) - 8 < (n : Int)) = false := decide_eq_false (by omega)
  have q4 : ¬ cap = 8 := by omega
  by_cases hst : t = s
  · have HP := Lib.hid (HOK.out.mpr hst)
    have HE : Hid (payV (some ⟨b, off, none⟩) l cap = .slice (some ⟨b, off + 8, none⟩) n (cap - 8)) := by
      show _ = _
      rw [payV_ok HP.out, HPL.out HP.out]
      rfl
    subst hst
    clear HOK HPL
    go_enter Tryz.func108, Tryz.ntmps108
    go_wp2_with (first
      | (go_at_call 120; ((with_reducible refine D1.out.mono ?_); rintro e w1 ⟨rfl, rfl⟩))
      | (go_at_call 120; ((with_reducible refine D2.out.mono ?_); rintro e w1 ⟨rfl, rfl⟩))
      | (go_at_call 55; ((with_reducible refine (D3.out _ rfl).mono ?_); rintro e w1 ⟨rfl, rfl⟩)))
    go_ret
    exact ⟨congrArg Ending.returned HE.out.symm, (Below.refl _ _).alloc (Nat.le_refl _) _⟩
  · have HE : Hid (payV (some ⟨b, off, none⟩) l cap = .slice none 0 0) := payV_no fun h => hst (HOK.out.mp h)
    have q5 : ((t : Int) == (s : Int)) = false := by rw [beq_eq_false_iff_ne]; omega
    have q6 : ((t : Int) != (s : Int)) = true := by rw [bne_iff_ne]; omega
    clear HOK HPL
    go_enter Tryz.func108, Tryz.ntmps108
    go_wp2_with (first
      | (go_at_call 120; ((with_reducible refine D1.out.mono ?_); rintro e w1 ⟨rfl, rfl⟩))
      | (go_at_call 120; ((with_reducible refine D2.out.mono ?_); rintro e w1 ⟨rfl, rfl⟩))
      | (go_at_call 55; ((with_reducible refine (D3.out _ rfl).mono ?_); rintro e w1 ⟨rfl, rfl⟩)))
    go_ret
    exact ⟨congrArg Ending.returned HE.out.symm, (Below.refl _ _).alloc (Nat.le_refl _) _⟩
theorem payload_out (A : Option Addr) (cap : Nat) (l : List Nat) (w : World) (hr : Hid (Rd w w.heap.size A l)) (hlc : l.length ≤ cap) (hc : cap ≤ 9223372036854775807) (h8 : 8 ≤ l.length) (h1 : ¬ (1 ≤ payN l ∧ payN l ≤ 65536 ∧ payN l ≤ l.length - 8)) :
    Calls Tryz.prog 108 #[.slice A l.length cap] w fun e w' => e = .returned (payV A l cap) ∧ Hid (Below w.heap.size w w') := by
  obtain ⟨b, off, rfl, hb, _⟩ := hr.out.2 (by omega)
  have D1 := Lib.hid (Get_ok l 0 (some ⟨b, off, none⟩) cap hlc hc w hr (by omega) 0 rfl)
  have D2 := Lib.hid (Get_ok l 4 (some ⟨b, off, none⟩) cap hlc hc w hr (by omega) 4 rfl)
  have HE : Hid (payV (some ⟨b, off, none⟩) l cap = .slice none 0 0) := payV_no fun h => h1 ⟨h.2.1, h.2.2.1, h.2.2.2.1⟩
  have e1 : num ((l.drop 0).take 4) = payN l := by simp [payN]
  rw [e1] at D1
  obtain ⟨s, hs⟩ : ∃ s, num ((l.drop 4).take 4) = s := ⟨_, rfl⟩
  rw [hs] at D2
  obtain ⟨n, hn⟩ : ∃ n, payN l = n := ⟨_, rfl⟩
  rw [hn] at D1 h1
  clear hs hn e1 hb hr
  by_cases h0 : n = 0
  · have q1 : ((n : Int) == 0) = true := by rw [beq_iff_eq]; omega
    clear h1
    by_cases hc8 : cap = 8
    all_goals
      try subst hc8
      go_enter Tryz.func108, Tryz.ntmps108
      go_wp2_with (first
        | (go_at_call 120; ((with_reducible refine D1.out.mono ?_); rintro e w1 ⟨rfl, rfl⟩))
        | (go_at_call 120; ((with_reducible refine D2.out.mono ?_); rintro e w1 ⟨rfl, rfl⟩)))
      go_ret
      exact ⟨congrArg Ending.returned HE.out.symm, Below.refl _ _⟩
  · have q1 : ((n : Int) == 0) = false := by rw [beq_eq_false_iff_ne]; omega
    by_cases h6 : 65536 < n
    · have q2 : decide ((65536 : Int) < (n : Int)) = true := decide_eq_true (by omega)
      clear h1
      by_cases hc8 : cap = 8
      all_goals
        try subst hc8
        go_enter Tryz.func108, Tryz.ntmps108
        go_wp2_with (first
          | (go_at_call 120; ((with_reducible refine D1.out.mono ?_); rintro e w1 ⟨rfl, rfl⟩))
          | (go_at_call 120; ((with_reducible refine D2.out.mono ?_); rintro e w1 ⟨rfl, rfl⟩)))
        go_ret
        exact ⟨congrArg Ending.returned HE.out.symm, Below.refl _ _⟩
    · have q2 : decide ((65536 : Int) < (n : Int)) = false := decide_eq_false (by omega)
      have q3 : decide ((l.length : Int) - 8 < (n : Int)) = true := decide_eq_true (by omega)
      have q4 : l.length - 8 < n := by omega
      clear h1
      by_cases hc8 : cap = 8
      all_goals
        try subst hc8
        go_enter Tryz.func108, Tryz.ntmps108
        go_wp2_with (first
          | (go_at_call 120; ((with_reducible refine D1.out.mono ?_); rintro e w1 ⟨rfl, rfl⟩))
          | (go_at_call 120; ((with_reducible refine D2.out.mono ?_); rintro e w1 ⟨rfl, rfl⟩)))
        go_ret
        exact ⟨congrArg Ending.returned HE.out.symm, Below.refl _ _⟩
theorem payload_any (A : Option Addr) (cap : Nat) (l : List Nat) (w : World) (hr : Hid (Rd w w.heap.size A l)) (hlc : l.length ≤ cap) (hc : cap ≤ 9223372036854775807) :
    Calls Tryz.prog 108 #[.slice A l.length cap] w fun e w' => e = .returned (payV A l cap) ∧ Hid (Below w.heap.size w w') := by
  by_cases h8 : 8 ≤ l.length
  · by_cases h1 : 1 ≤ payN l ∧ payN l ≤ 65536 ∧ payN l ≤ l.length - 8
    · exact payload_in A cap l w hr hlc hc h8 h1.1 h1.2.1 h1.2.2
    · exact payload_out A cap l w hr hlc hc h8 h1
  · have HE : Hid (payV A l cap = .slice none 0 0) := payV_no fun h => h8 h.1
    go_enter Tryz.func108, Tryz.ntmps108
    go_wp2
    go_ret
    exact ⟨congrArg Ending.returned HE.out.symm, Below.refl _ _⟩
/-- What First answers: the payload in new memory, and how many bytes its record has; nothing and 0, if there is none. -/
def FirstQ (l : List Nat) (w : World) (e : Ending) (w' : World) : Prop :=
  ∃ A k, e = .returned (.tuple #[.slice A (payL l).length k, .int .i64 (if payOk l then 8 + ((payL l).length : Int) else 0)]) ∧ Hid (Me.Own w' w.heap.size (.slice A (payL l).length k) (payL l)) ∧ Hid (Below w.heap.size w w')
theorem pay_piece {A : Option Addr} {l : List Nat} {w : World} {B : Nat} (hr : Rd w B A l) (h : payOk l) : Rd w B (A.map fun x => x.add 8) (payL l) ∧ A ≠ none := by
  obtain ⟨b, off, rfl, hb, hc⟩ := hr.2 (by have := h.1; omega)
  refine ⟨?_, by simp⟩
  rw [pay_ok h]
  exact (Rd.drop ⟨hr.1, fun _ => ⟨b, off, rfl, hb, hc⟩⟩ 8).take _
end Go.Proofs.YtbacgljeadalbaaGreatDoor.Rc
