/- What Each promises: an iterator over the numbers of a window. -/
import Derived.Test.YtnfjfcoonabmmaaWList
import Derived.Test.YtnfjfcoonabmmaaRangeB
import Derived.WalkLawsBesides
namespace Go.Proofs.Ytnfjfcoonabmmaa.Wn
open Go.RowKit
open Go.Proofs.Ytnfjfcoonabmmaa.Mi Go.Proofs.Ytnfjfcoonabmmaa.It
set_option linter.unusedVariables false
set_option linter.unusedSimpArgs false
attribute [local go_sem] Oper.semAt_some

/-- Each's function, over the boxes of its size and its base. -/
def eachV (bs bb : Nat) : Value := .func (.func 48) #[] #[.pointer (some ⟨bs, 0, none⟩), .pointer (some ⟨bb, 0, none⟩)]
theorem Each_any (base size : Int) (w : World) : Calls Try.prog 36 #[.int .i64 base, .int .i64 size] w fun e w' => e = .returned (eachV (w.heap.size + 1) w.heap.size) ∧ w' = (w.alloc (.cells #[.int .i64 base] 3)).alloc (.cells #[.int .i64 size] 3) := by
  go_enter Try.func36, Try.ntmps36
  go_wp2
  go_ret
  exact ⟨rfl, rfl⟩
/-- The boxes of its size and its base. -/
def EachB (bs bb : Nat) (size base : Int) (X : World) : Prop := X.cell? ⟨bs, 0, none⟩ = some (.int .i64 size) ∧ X.cell? ⟨bb, 0, none⟩ = some (.int .i64 base)
set_option maxHeartbeats 1000000 in
theorem Each_iter (bs bb : Nat) (size base : Int) :
    Iter 48 #[.pointer (some ⟨bs, 0, none⟩), .pointer (some ⟨bb, 0, none⟩)] 0 (cut size) (EachB bs bb size base) (fun _ => True) (fun _ k v _ => v = .int .i64 ((base + (k : Int)) % 128)) := by
  intro l W J Jx hJ hJx hR hskip hY h0
  have HR := Lib.hid hR
  have HY := Lib.hid hY
  have hbox := (hR 0 W h0).1
  have hc := cut_le size
  obtain ⟨m, hm⟩ : ∃ m, cut size = m := ⟨_, rfl⟩
  have HM : Hid (m = (min size 128).toNat) := by show _ = _; rw [← hm]; rfl
  rw [hm] at hc HY ⊢
  clear hR hskip hY hJ hJx hm
  refine callsIn_of_wp Try.func48 rfl trivial ?_ rfl
  simp only [Try.ntmps48, List.size_toArray, List.length_cons, List.length_nil, Nat.reduceAdd, Nat.reduceSub, Array.replicate_succ, Array.replicate_zero, List.push_toArray, List.append_toArray, List.nil_append, List.cons_append]
  have hS : (∀ k : Nat, k < m → (k : Int) < size) ∧ (size ≤ 128 → ¬ (m : Int) < size) ∧ (128 < size → ¬ (m : Int) < 128) := by
    have := HM.out
    exact ⟨fun k h => by omega, fun h => by omega, fun h => by omega⟩
  have HS := Lib.hid hS
  clear hS
  gi_wp2
  all_goals
    gi_loopw [7] (fun i wr => ∃ k : Nat, k ≤ m ∧ i = .int .i64 k ∧ J k wr ∧ W.heap.size ≤ wr.heap.size) (fun i _ => m - (intOf i).toNat)
    case atStart => exact ⟨0, Nat.zero_le _, rfl, h0, Nat.le_refl _⟩
    case round =>
      obtain ⟨k, hk, rfl, hj, hsz⟩ := hrel
      have hb2 := HR.out k wr hj
      by_cases hlt : k < m
      · have h1 := HS.out.1 k hlt
        have h2 : (k : Int) < 128 := by omega
        obtain ⟨b1, b2⟩ := hb2
        have hRe := Lib.hid (fun w => Reduce_at (wrap_mod (base + (k : Int))) w)
        obtain ⟨fn, tmps, assign, body, hy, hRd⟩ := HY.out k (.int .i64 ((base + (k : Int)) % 128)) wr wr hlt trivial hj (Below.refl _ _) rfl hsz
        obtain ⟨x, hx⟩ : ∃ x, (base + (k : Int)) % 128 = x := ⟨_, rfl⟩
        rw [hx] at hRe hy
        clear hx h0 hbox
        gi_wp2_with (refine ⟨trivial, rfl, ?_⟩; gi_at_call 45; refine (callsIn_wide.2 (hRe.out _)).mono ?_; rintro e w' ⟨rfl, rfl⟩)
        refine ⟨rfl, hRd.mono ?_⟩
        rintro e W3 ⟨bb, rfl, hk3, ht, hf⟩
        cases bb with
        | true =>
          have hj3 := ht rfl
          clear ht hf
          gi_wp2
          go_roundw
          case rel => exact ⟨k + 1, by omega, by go_num, hj3, Nat.le_trans hsz hk3.size⟩
          case measure => simp [intOf]; omega
        | false =>
          have hj3 := hf rfl
          clear ht hf
          gi_wp2
          refine bodyPost_ret (results_none rfl _ _ _) rfl ?_
          exact ⟨⟨_, rfl⟩, .inr hj3⟩
      · obtain rfl : k = m := by omega
        have h3 := HS.out.2
        clear hb2
        first
          | (have h4 : ¬ (k : Int) < size := by omega
             clear h3
             gi_wp2
             go_end0
             exact ⟨⟨_, rfl⟩, .inl hj⟩)
          | (have h4 : ¬ (k : Int) < 128 := by omega
             clear h3
             gi_wp2
             go_end0
             exact ⟨⟨_, rfl⟩, .inl hj⟩)
end Go.Proofs.Ytnfjfcoonabmmaa.Wn
