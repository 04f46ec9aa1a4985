/- Parts of bytes between flags: what stuff's Parts and its inner iterator promise. -/
import Derived.Test.YtpnmigfgeieggaaRange
import Derived.Test.YtpnmigfgeieggaaStMath
import Derived.WalkLawsBesides
namespace Go.Proofs.Ytpnmigfgeieggaa.St
open Go.RowKit
open Go.Proofs.Ytpnmigfgeieggaa.Me Go.Proofs.Ytpnmigfgeieggaa.It
set_option linter.unusedVariables false
attribute [local go_sem] Oper.semAt_some

/-- Does a part end here? -/
def isCut (zs : List Nat) (k : Nat) : Bool := decide (k = zs.length) || decide (by_ zs k = 126)
theorem cut_end (zs : List Nat) : isCut zs zs.length = true := by simp [isCut]
theorem cut_flag {zs : List Nat} {k : Nat} (h : by_ zs k = 126) : isCut zs k = true := by simp [isCut, h]
theorem cut_not {zs : List Nat} {k : Nat} (h1 : k < zs.length) (h : by_ zs k ≠ 126) : ¬ isCut zs k = true := by simp [isCut, h]; omega
/-- Where the part begins that ends at or behind k. -/
def frm (zs : List Nat) : Nat → Nat
  | 0 => 0
  | k + 1 => if isCut zs k then k + 1 else frm zs k
theorem frm_le (zs : List Nat) : ∀ k, frm zs k ≤ k
  | 0 => Nat.le_refl _
  | k + 1 => by
    have := frm_le zs k
    unfold frm
    split <;> omega
theorem frm_cut {zs : List Nat} {k : Nat} (h : isCut zs k = true) : frm zs (k + 1) = k + 1 := if_pos h
theorem frm_skip {zs : List Nat} {k : Nat} (h : ¬ isCut zs k = true) : frm zs (k + 1) = frm zs k := if_neg h
/-- The part that ends at k. -/
def seg (zs : List Nat) (k : Nat) : List Nat := (zs.take k).drop (frm zs k)
theorem seg_length {zs : List Nat} {k : Nat} (h : k ≤ zs.length) : (seg zs k).length = k - frm zs k := by simp [seg]; omega
/-- The parts that end ahead of k. -/
def done (zs : List Nat) : Nat → List (List Nat)
  | 0 => []
  | k + 1 => if isCut zs k then done zs k ++ [seg zs k] else done zs k
theorem done_cut {zs : List Nat} {k : Nat} (h : isCut zs k = true) : done zs (k + 1) = done zs k ++ [seg zs k] := if_pos h
theorem done_skip {zs : List Nat} {k : Nat} (h : ¬ isCut zs k = true) : done zs (k + 1) = done zs k := if_neg h

/-- A box holds a slice that leads to the bytes zs. -/
def KeptB (b : Nat) (A : Option Addr) (c : Nat) (zs : List Nat) (X : World) : Prop := X.cell? ⟨b, 0, none⟩ = some (.slice A zs.length c) ∧ Rd X X.heap.size A zs

theorem Clone_any (A : Option Addr) (cap B : Nat) (l : List Nat) (w : World) (hr : Hid (Rd w B A l)) (hA : Hid (A = none → l.length = 0 ∧ cap = 0)) (hB : B ≤ w.heap.size) (hc : l.length ≤ 140737488355328) :
    Calls Try.prog 20 #[.slice A l.length cap] w fun e w' => ∃ v, e = .returned v ∧ Hid (Me.Own w' w.heap.size v l) ∧ Hid (Below w.heap.size w w') := by
  have ke := fun (w : World) (a : Option Addr) (n c : Nat) => Lib.run_eql_slice_nil (P := Try.prog) w 22 5 a n c 0 0 Try.underlying22
  rcases A with _ | ad
  · obtain ⟨h1, rfl⟩ := hA.out rfl
    obtain rfl : l = [] := List.eq_nil_of_length_eq_zero h1
    go_enter Try.func20, Try.ntmps20
    go_wp2
    go_ret
    exact ⟨_, rfl, Me.Own.nil _ _, Below.refl _ _⟩
  · go_enter Try.func20, Try.ntmps20
    go_wp2_with (at_builtin; refine app8 rfl (.tmp 5) (.tmp 6) rfl w.heap.size B _ [] l rfl (Me.Own.lit (Below.refl _ _)) (below_alloc (Below.refl _ _)) (by simp) (some ad) cap rfl (hr.out.below ((Below.refl _ _).alloc hB _)) hA.out (by simp; omega) ?_; intro v2 w2 ho2 hb2 _; have HO2 := Lib.hid ho2; have HB2 := Lib.hid hb2; clear ho2 hb2)
    go_ret
    exact ⟨_, rfl, HO2, HB2⟩
theorem ends_any (A : Option Addr) (n c : Nat) (w : World) :
    Calls Try.prog 22 #[.slice A n c] w fun e w' => e = .returned (.func (.func 23) #[] #[.pointer (some ⟨w.heap.size, 0, none⟩)]) ∧ w' = w.alloc (.cells #[.slice A n c] 22) := by
  go_enter Try.func22, Try.ntmps22
  go_wp2
  go_ret
  exact ⟨rfl, rfl⟩
set_option maxHeartbeats 1000000 in
theorem ends_iter (be : Nat) (A : Option Addr) (c : Nat) (zs : List Nat) (hn : zs.length ≤ 9223372036854775806) :
    Iter 23 #[.pointer (some ⟨be, 0, none⟩)] 0 (zs.length + 1) (KeptB be A c zs) (fun k => isCut zs k = true) (fun _ k v _ => v = .int .i64 (k : Int)) := by
  intro l W J Jx hJ hJx hR hskip hY h0
  have HR := Lib.hid hR
  have HS := Lib.hid hskip
  have HY := Lib.hid hY
  have hbox := (hR 0 W h0).1
  clear hR hskip hY hJ hJx
  refine callsIn_of_wp Try.func23 rfl trivial ?_ rfl
  simp only [Try.ntmps23, List.size_toArray, List.length_cons, List.length_nil, Nat.reduceAdd, Nat.reduceSub, Array.replicate_succ, Array.replicate_zero, List.push_toArray, List.append_toArray, List.nil_append, List.cons_append]
  gi_wp2
  gi_loopw [7] (fun i wr => ∃ k : Nat, k ≤ zs.length ∧ i = .int .i64 k ∧ J k wr ∧ W.heap.size ≤ wr.heap.size) (fun i _ => zs.length - (intOf i).toNat)
  case atStart => exact ⟨0, Nat.zero_le _, rfl, h0, Nat.le_refl _⟩
  case round =>
    obtain ⟨k, hk, rfl, hj, hsz⟩ := hrel
    have hbox2 := (HR.out k wr hj).1
    by_cases hlt : k < zs.length
    · obtain ⟨b, off, e, hbB, hcs⟩ := (HR.out k wr hj).2.2 (by omega)
      subst e
      have hcell := hcs k hlt
      by_cases h126 : by_ zs k = 126
      · obtain ⟨fn, tmps, assign, body, hy, hRd⟩ := HY.out k (.int .i64 (k : Int)) wr wr (by omega) (cut_flag h126) hj (Below.refl _ _) rfl hsz
        rw [h126] at hcell
        clear hcs
        gi_wp2
        refine ⟨rfl, hRd.mono ?_⟩
        rintro e W3 ⟨bb, rfl, hk3, ht, hf⟩
        cases bb with
        | true =>
          have hj3 := ht rfl
          clear ht hf
          gi_wp2
          go_roundw
          case rel => exact ⟨k + 1, by omega, by go_num, hj3, Nat.le_trans hsz hk3.size⟩
          case measure => simp [intOf]; omega
        | false =>
          have hj3 := hf rfl
          clear ht hf
          gi_wp2
          refine bodyPost_ret (results_none rfl _ _ _) rfl ?_
          exact ⟨⟨_, rfl⟩, .inr hj3⟩
      · have e1 : ((by_ zs k : Int) == 126) = false := by simp; omega
        have hj2 := HS.out k wr (by omega) (cut_not hlt h126) hj
        obtain ⟨y, hy⟩ : ∃ y, by_ zs k = y := ⟨_, rfl⟩
        rw [hy] at hcell e1 h126
        clear hcs hy
        gi_wp2
        refine ⟨fun _ h => (by cases h), ?_⟩
        gi_wp2
        go_roundw
        case rel => exact ⟨k + 1, by omega, by go_num, hj2, hsz⟩
        case measure => simp [intOf]; omega
    · obtain rfl : k = zs.length := by omega
      obtain ⟨fn, tmps, assign, body, hy, hRd⟩ := HY.out zs.length (.int .i64 (zs.length : Int)) wr wr (by omega) (cut_end zs) hj (Below.refl _ _) rfl hsz
      gi_wp2
      refine ⟨rfl, hRd.mono ?_⟩
      rintro e W3 ⟨bb, rfl, hk3, ht, hf⟩
      gi_wp2
      go_end0
      refine ⟨⟨_, rfl⟩, ?_⟩
      cases bb with
      | true => exact .inl (ht rfl)
      | false => exact .inr (hf rfl)
end Go.Proofs.Ytpnmigfgeieggaa.St
