/- maps.Keys over a receiver's map: its iterator; the kept numbers. -/
import Derived.Test.YtnfjfcoonabmmaaRvNew
import Derived.Test.YtnfjfcoonabmmaaRangeS
import Derived.WalkLawsBesides
namespace Go.Proofs.Ytnfjfcoonabmmaa.Rv
open Go.RowKit Go.Maps
open Go.Proofs.Ytnfjfcoonabmmaa.Me Go.Proofs.Ytnfjfcoonabmmaa.Hd Go.Proofs.Ytnfjfcoonabmmaa.Sn Go.Proofs.Ytnfjfcoonabmmaa.It
set_option linter.unusedVariables false
set_option linter.unusedSimpArgs false
attribute [local go_sem] Oper.semAt_some

theorem ranges_same {X Y : World} {b r n : Nat} {D : DataW Value} {left : Lit → Bool} {cnt : Nat} (h : X.ranges Try.prog 3 RV b r n D left cnt) (hb : Y.heap[b]? = X.heap[b]?) (hr : Y.heap[r]? = X.heap[r]?) : Y.ranges Try.prog 3 RV b r n D left cnt := by
  obtain ⟨es, clock, since, seen, c0, q1, F, q2, q3, q4, rest⟩ := h
  exact ⟨es, clock, since, seen, c0, hb.trans q1, F, q2, q3, hr.trans q4, rest⟩
/-- The numbers L were handed out; n is the next one. -/
def stepK (kept : Nat → Option (List Nat)) (L : List Int) (v : Value) (L' : List Int) : Prop := ∃ n : Nat, n < 128 ∧ (kept n).isSome = true ∧ v = .int .i64 (n : Int) ∧ (n : Int) ∉ L ∧ L' = L ++ [(n : Int)]
def finK (kept : Nat → Option (List Nat)) (L : List Int) : Prop := ∀ n : Nat, n < 128 → (kept n).isSome = true → (n : Int) ∈ L
/-- Which numbers are still to come. -/
def Lft (kept : Nat → Option (List Nat)) (L : List Int) (left : Lit → Bool) : Prop := ∀ n : Nat, n < 128 → (left (.int .i64 (n : Int)) = true ↔ ((kept n).isSome = true ∧ (n : Int) ∉ L))
theorem Lft.next {kept : Nat → Option (List Nat)} {L : List Int} {left : Lit → Bool} {n : Nat} (h : Lft kept L left) (hn : n < 128) : Lft kept (L ++ [(n : Int)]) (fun z => left z && !z.sameKey (.int .i64 (n : Int))) := by
  intro m hm
  by_cases e : m = n
  · subst e
    simp [WideAt.sameKey_self (key_lit (m : Int))]
  · have : ((m : Int) = (n : Int)) = False := by simp; omega
    simp only [sameKey_ne (key_ne e), Bool.not_false, Bool.and_true, List.mem_append, List.mem_singleton, this, or_false]
    exact h m hm
theorem Lft.start {E : Nat → Prop} {w : World} {D : DataW Value} {kept : Nat → Option (List Nat)} (h : Vw E w D kept) : Lft kept [] (has D) := by
  intro n hn
  cases hk : kept n with
  | none => simp [h.no n hn hk]
  | some p => simp [(h.yes n p hn hk).1]
set_option maxHeartbeats 1000000 in
theorem Keys_iter {E : Nat → Prop} (kb mb : Nat) (w0 : World) (kept : Nat → Option (List Nat)) (hM : Mp E w0 mb kept) :
    IterS 49 #[.pointer (some ⟨kb, 0, none⟩)] 1 (fun X => X.cell? ⟨kb, 0, none⟩ = some (.map (some mb)) ∧ X.heap[mb]? = w0.heap[mb]?) ([] : List Int) (stepK kept) (finK kept) := by
  intro l W J Jx hJ hJx hR hY h0
  obtain ⟨D, how, hv⟩ := hM
  have hb0 := hR _ _ h0
  have hbox := hb0.1
  have how0 : W.ownsMap Try.prog 3 RV mb 128 D := by
    obtain ⟨es, clock, hb, r⟩ := how
    exact ⟨es, clock, hb0.2.trans hb, r⟩
  have HR := Lib.hid hR
  have HY := Lib.hid hY
  have HJ := Lib.hid hJ
  have HV := Lib.hid hv
  have HO := Lib.hid how0
  have hmW := how0.lt
  clear hR hY hJ hJx hv how0 hb0 how
  refine callsIn_of_wp Try.func49 rfl trivial ?_ rfl
  simp only [Try.ntmps49, List.size_toArray, List.length_cons, List.length_nil, Nat.reduceAdd, Nat.reduceSub, Array.replicate_succ, Array.replicate_zero, List.push_toArray, List.append_toArray, List.nil_append, List.cons_append]
  gi_wp2_with (gi_at_range; refine wpListIn_range_own _ rfl _ 54 rfl 3 32 keyed Try.underlying54 RV mb 128 D rfl HO.out ?_; intro w1 hrg hg hs)
  try go_frame
  gi_loopw [3] (fun v wr => ∃ L left cnt, wr.ranges Try.prog 3 RV mb W.heap.size 128 D left cnt ∧ J L wr ∧ Lft kept L left ∧ W.heap.size + 1 ≤ wr.heap.size) (fun v wr => wr.rangeLeft mb W.heap.size)
  case atStart => exact ⟨[], _, _, hrg, HJ.out [] W w1 none h0 hg (fun r e => by cases e), Lft.start HV.out, by omega⟩
  case round =>
    obtain ⟨L, left, cnt, hrg1, hj, hlf, hsz⟩ := hrel
    have HRG := Lib.hid hrg1
    have HLF := Lib.hid hlf
    clear hrg hg hs hbox h0
    gi_wp2_with (gi_at_next; refine wpListIn_next_ranges _ rfl _ rfl 3 keyed RV (fun x : Int => Value.int .i64 x) (fun v : Value => v) (fun key kl hk => by obtain ⟨x, rfl, _⟩ := keyOf_int_inv Try.underlying3 hk; exact ⟨x, rfl⟩) (fun v y h => ⟨v, rfl⟩) mb W.heap.size 128 D left cnt rfl HRG.out ?_ ?_)
    · intro hc0 hl0
      have hfin : finK kept L := fun n hn hk => by
        apply Classical.byContradiction
        intro hc
        have := (HLF.out n hn).2 ⟨hk, hc⟩
        rw [hl0] at this
        cases this
      gi_wp2
      go_end0
      exact ⟨⟨_, rfl⟩, .inl ⟨L, hfin, hj⟩⟩
    · intro x c kl a b w2 cnt' hkey hlk e1 e2 hat hrg2 hlt hg2 hs2 hen
      obtain ⟨x', ex, ekl, hwf⟩ := keyOf_int_inv Try.underlying3 hkey
      simp only [Value.int.injEq, true_and] at ex
      subst ex
      subst ekl
      obtain ⟨n, hn1, hn⟩ := HV.out.keys _ (has_true_of_atKey hat)
      simp only [Lit.int.injEq, true_and] at hn1
      subst hn1
      have hl := (HLF.out n hn).1 hlk
      have hst : stepK kept L (.int .i64 (n : Int)) (L ++ [(n : Int)]) := ⟨n, hn, hl.1, rfl, hl.2, rfl⟩
      have hj2 : J L w2 := HJ.out L wr w2 _ hj hg2 fun r e => by cases e; omega
      obtain ⟨fn, tmps, assign, body, hy, hRd⟩ := HY.out L (.int .i64 (n : Int)) (L ++ [(n : Int)]) w2 hst hj2 (by omega)
      have HRG2 := Lib.hid hrg2
      have HLT := Lib.hid hlt
      have HL2 := Lib.hid (HLF.out.next hn)
      have HS2 := Lib.hid hs2
      have HB2 := Lib.hid (HR.out L w2 hj2)
      clear e1 e2 hat hkey hlk hwf hl hst hj hrg2 hlt hs2 hg2 HLF
      gi_wp2_with (refine ⟨trivial, rfl, ?_⟩)
      refine ⟨rfl, hRd.mono ?_⟩
      rintro e W3 ⟨bb, rfl, hk3, ht, hf⟩
      cases bb with
      | true =>
        have hj3 := ht rfl
        have q1 := (HR.out _ W3 hj3).2.trans HB2.out.2.symm
        have q2 : W3.heap[W.heap.size]? = w2.heap[W.heap.size]? := hk3.same _ (Nat.le_refl _) (by omega) HRG2.out.lt
        have HRG3 := Lib.hid (ranges_same HRG2.out q1 q2)
        clear ht hf q1 q2
        gi_wp2
        go_roundw
        case rel => exact ⟨L ++ [(n : Int)], _, _, HRG3.out, hj3, HL2.out, Nat.le_trans (by have := HS2.out; omega) hk3.size⟩
        case measure => rw [HRG3.out.left_eq, HRG.out.left_eq]; exact HLT.out
      | false =>
        have hj3 := hf rfl
        clear ht hf
        gi_wp2
        refine bodyPost_ret (results_none rfl _ _ _) rfl ?_
        exact ⟨⟨_, rfl⟩, .inr hj3⟩
end Go.Proofs.Ytnfjfcoonabmmaa.Rv
