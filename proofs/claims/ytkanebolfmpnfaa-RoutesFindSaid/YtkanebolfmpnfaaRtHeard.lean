/- Heard: the neighbours of which something is heard, rising. -/
import Derived.Test.YtkanebolfmpnfaaRtFun
import Derived.Sort.OwnSortedInts
import Derived.Maps.RangeWalk
import Derived.WalkLawsBesides
namespace Go.Proofs.Ytkanebolfmpnfaa.Rt
open Go.RowKit Go.Maps Go.Sort
open Go.Proofs.Ytkanebolfmpnfaa.Sb
set_option linter.unusedVariables false
set_option linter.unusedSimpArgs false

def froms (kept : Nat → Option Nw) : List Nat := (List.range 64).filter fun n => (kept n).isSome
def fromsI (kept : Nat → Option Nw) : List Int := (froms kept).map fun n : Nat => (n : Int)
theorem mem_froms {kept : Nat → Option Nw} {n : Nat} : n ∈ froms kept ↔ n < 64 ∧ (kept n).isSome = true := by simp [froms]
theorem froms_len (kept : Nat → Option Nw) : (froms kept).length ≤ 64 := by
  have := List.length_filter_le (fun n => (kept n).isSome) (List.range 64)
  simpa [froms] using this
theorem froms_lt (kept : Nat → Option Nw) : (froms kept).Pairwise (· < ·) := List.Pairwise.filter _ List.pairwise_lt_range
theorem fromsI_lt (kept : Nat → Option Nw) : (fromsI kept).Pairwise (· < ·) := List.pairwise_map.2 ((froms_lt kept).imp fun h => by omega)
/-- A sorted list of what was handed out. -/
theorem sorted_froms {kept : Nat → Option Nw} {L : List Int} (hd : L.Nodup) (h1 : ∀ x ∈ L, ∃ n : Nat, x = (n : Int) ∧ n < 64 ∧ (kept n).isSome = true) (h2 : ∀ n : Nat, n < 64 → (kept n).isSome = true → (n : Int) ∈ L) :
    L.mergeSort (fun x y => decide (x ≤ y)) = fromsI kept := by
  have hp : L.Perm (fromsI kept) := by
    refine (List.perm_ext_iff_of_nodup hd ((fromsI_lt kept).imp fun h => by omega)).2 fun x => ⟨fun hx => ?_, fun hx => ?_⟩
    · obtain ⟨n, rfl, h3, h4⟩ := h1 x hx
      exact List.mem_map.2 ⟨n, mem_froms.2 ⟨h3, h4⟩, rfl⟩
    · obtain ⟨n, h3, rfl⟩ := List.mem_map.1 hx
      exact h2 n (mem_froms.1 h3).1 (mem_froms.1 h3).2
  have hs : (L.mergeSort fun x y => decide (x ≤ y)).Pairwise (fun x y => decide (x ≤ y) = true) := List.pairwise_mergeSort (fun a b c h1 h2 => by simp at *; omega) (fun a b => by simp; omega) L
  refine List.Perm.eq_of_pairwise (le := fun a b : Int => a ≤ b) (fun a b _ _ h1 h2 => Int.le_antisymm h1 h2) (hs.imp fun h => by simpa using h) ((fromsI_lt kept).imp fun h => by omega) ((List.mergeSort_perm L _).trans hp)
/-- slices.Sort of numbers of the call's own. -/
theorem Sort_own (w : World) (B : Nat) (v : Value) (L : List Int) (h : Hid (Mi.Own w B v L)) (hl : L.length ≤ 64) :
    Calls Try.prog 39 #[v] w fun e w' => e = .returned (.tuple #[]) ∧ Hid (Mi.Own w' B v (L.mergeSort fun x y => decide (x ≤ y))) ∧ w.grownBy w' v.ownBlock := by
  have hx := h.out
  rcases h.out.2 with ⟨rfl, h2⟩ | ⟨g, cap, cur, rfl, q1, q2, q3, q4, q5, q6⟩
  · have : L = [] := by simpa using h2
    subst this
    refine (Try.SortI0 none 0 w).mono ?_
    rintro e w' ⟨rfl, rfl⟩
    exact ⟨rfl, by simpa using h, ⟨rfl, rfl, rfl, Nat.le_refl _, fun _ _ _ => rfl⟩⟩
  · have ht : cur.toList.take L.length = L.map (Value.int .i64) := by
      have := q6
      rw [Nat.mul_one] at this
      exact this
    have hH := holds_of_blockI q2 ht
    refine (Try.SortI g 0 cap L w hH (Array.getElem?_eq_some_iff.1 q2).1 (by omega)).mono ?_
    rintro e w' ⟨rfl, n, os, rfl⟩
    have hlen : (L.mergeSort fun x y => decide (x ≤ y)).length = L.length := (List.mergeSort_perm L _).length_eq
    refine ⟨rfl, ?_, grownBy_sortedI _⟩
    have ho := ownsRow_sortedI (base := B) (e := 3) (os := os) (n := n) (ss := L) (ts := L.mergeSort fun x y => decide (x ≤ y)) hlen q1 q2 q3 q4 (by simpa using q5)
    show World.ownsRow _ B 3 1 _ _ _
    rw [hlen]
    exact ho
def Lft (kept : Nat → Option Nw) (L : List Int) (left : Lit → Bool) : Prop := ∀ n : Nat, n < 64 → (left (.int .i64 (n : Int)) = true ↔ ((kept n).isSome = true ∧ (n : Int) ∉ L))
theorem Lft.next {kept : Nat → Option Nw} {L : List Int} {left : Lit → Bool} {n : Nat} (h : Lft kept L left) (hn : n < 64) : Lft kept (L ++ [(n : Int)]) (fun z => left z && !z.sameKey (.int .i64 (n : Int))) := by
  intro m hm
  by_cases e : m = n
  · subst e
    simp [WideAt.sameKey_self (key_lit (m : Int))]
  · have : ((m : Int) = (n : Int)) = False := by simp; omega
    simp only [sameKey_ne (key_ne e), Bool.not_false, Bool.and_true, List.mem_append, List.mem_singleton, this, or_false]
    exact h m hm
theorem Lft.start {D : DataW Value} {kept : Nat → Option Nw} (h : Vw D kept) : Lft kept [] (has D) := by
  intro n hn
  cases hk : kept n with
  | none => simp [h.no n hn hk]
  | some p => simp [(h.yes n p hn hk).1]
theorem ranges_same {X Y : World} {b r n : Nat} {D : DataW Value} {left : Lit → Bool} {cnt : Nat} (h : X.ranges Try.prog 3 RV b r n D left cnt) (hb : Y.heap[b]? = X.heap[b]?) (hr : Y.heap[r]? = X.heap[r]?) : Y.ranges Try.prog 3 RV b r n D left cnt := by
  obtain ⟨es, clock, since, seen, c0, q1, F, q2, q3, q4, rest⟩ := h
  exact ⟨es, clock, since, seen, c0, hb.trans q1, F, q2, q3, hr.trans q4, rest⟩
/-- What has been handed out. -/
structure Got (kept : Nat → Option Nw) (L : List Int) (left : Lit → Bool) (cnt : Nat) : Prop where
  lft : Lft kept L left
  nd : L.Nodup
  of : ∀ x ∈ L, ∃ n : Nat, x = (n : Int) ∧ n < 64 ∧ (kept n).isSome = true
  len : L.length + cnt ≤ 64
theorem Heard_nil (w : World) : Calls Try.prog 14 #[.pointer none] w fun e w' => e = .returned (.slice none 0 0) ∧ w = w' := by
  go_enter Try.func14, Try.ntmps14
  go_wp2
  go_ret
  exact ⟨rfl, rfl⟩
set_option maxRecDepth 100000 in
theorem Heard_any (w : World) (D mb : Nat) (v : Value) (t : Tb) (h : Hid (Tq w D mb v t)) :
    Calls Try.prog 14 #[.pointer (some ⟨D, 0, none⟩)] w fun e w' => ∃ u, e = .returned u ∧ Hid (Mi.Own w' w.heap.size u (fromsI t.heard)) ∧ Hid (Below w.heap.size w w') := by
  obtain ⟨D0, how, hv⟩ := h.out.mp
  have HV := Lib.hid hv
  have HOW := Lib.hid how
  have c67 := h.out.c67
  have hmb := h.out.ltm
  have HSZ := Lib.hid how.size_le
  clear hv how
  go_enter Try.func14, Try.ntmps14
  go_wp2_with (at_range; refine wpList_range_own _ rfl _ 76 rfl 3 91 keyed Try.underlying76 _ mb _ _ rfl HOW.out ?_; intro w0 hrg0 hg0 hs0)
  go_frame
  go_loopw [3] (fun u wr => ∃ (L : List Int) (left : Lit → Bool) (cnt : Nat), Hid (wr.ranges Try.prog 3 RV mb w.heap.size 64 D0 left cnt) ∧ Hid (Got t.heard L left cnt) ∧ Hid (Mi.Own wr 0 u L) ∧ Hid (∀ k, u.ownBlock = some k → w.heap.size + 1 ≤ k) ∧ Hid (Below w.heap.size w wr))
    (fun _ wr => wr.rangeLeft mb w.heap.size)
  case atStart =>
    exact ⟨[], _, _, hrg0, ⟨Lft.start HV.out, by simp, by simp, by have := HSZ.out; simpa using this⟩, Mi.Own.nil _ _, (fun k e => by cases e), (Below.refl _ w).grown hg0 (Nat.le_refl _) (fun j hj => by cases hj)⟩
  case round =>
    obtain ⟨L, left, cnt, hrg, hG, hO, hOB, hbr⟩ := hrel
    clear hrg0 hg0 hs0
    go_wp2_with (at_next; refine wpList_next_ranges _ rfl _ rfl 3 keyed RV (fun x : Int => Value.int .i64 x) (fun v : Value => v) (fun key kl hk => by obtain ⟨x, hx, _⟩ := Maps.keyOf_int_inv Try.underlying3 hk; exact ⟨x, hx⟩) (fun v y _ => ⟨v, rfl⟩) mb w.heap.size _ _ _ _ rfl hrg.out ?_ ?_)
    · intro hc0 hl0
      have HS : Hid ((L.mergeSort fun x y => decide (x ≤ y)) = fromsI t.heard) := sorted_froms hG.out.nd hG.out.of fun n hn hk => by
        apply Classical.byContradiction
        intro hc
        have := (hG.out.lft n hn).2 ⟨hk, hc⟩
        rw [hl0] at this
        cases this
      have HL : Hid (L.length ≤ 64) := by have := hG.out.len; show _ ≤ _; omega
      go_wp2_with (go_at_call 39; refine (Sort_own wr 0 _ L hO HL.out).mono ?_; rintro e w2 ⟨rfl, HO2, hg2⟩; have HG2 := Lib.hid hg2; clear hg2)
      go_ret
      refine ⟨_, rfl, ?_, hbr.out.grown HG2.out hbr.out.size fun j hj => by have := hOB.out j hj; omega⟩
      rw [← HS.out]
      exact HO2.out.base fun k hk => by have := hOB.out k hk; omega
    · intro x c kl yd yp w2 cnt2 hkey hlk hvv hyp hat hrg2 hlt hg2 hs2 hen
      obtain ⟨x', ex, rfl, _⟩ := Maps.keyOf_int_inv Try.underlying3 hkey
      simp only [Value.int.injEq, true_and] at ex
      subst ex
      have hhas := has_true_of_atKey hat
      obtain ⟨n, e, hn⟩ := HV.out.keys _ hhas
      simp only [Lit.int.injEq, true_and] at e
      subst e
      obtain ⟨hk1, hk2⟩ := (hG.out.lft n hn).1 hlk
      have HG2 : Hid (Got t.heard (L ++ [(n : Int)]) (fun z => left z && !z.sameKey (.int .i64 (n : Int))) cnt2) := ⟨hG.out.lft.next hn, by
        rw [List.nodup_append]
        exact ⟨hG.out.nd, by simp, fun a ha b hb e => by rw [List.mem_singleton] at hb; subst hb; subst e; exact hk2 ha⟩, fun x hx => by
        rcases List.mem_append.1 hx with hx | hx
        · exact hG.out.of x hx
        · rw [List.mem_singleton] at hx
          exact ⟨n, hx, hn, hk1⟩, by have := hG.out.len; rw [List.length_append]; simp only [List.length_cons, List.length_nil]; omega⟩
      have HL : Hid ((L.length + 1) * 8 ≤ 140737488355328) := by have := hG.out.len; show _ ≤ _; omega
      have HRG2 := Lib.hid hrg2
      have HO2 : Hid (Mi.Own w2 0 u3 L) := hO.out.kept hg2 (by
        cases hob : u3.ownBlock with
        | none => exact .inl rfl
        | some k => exact .inr fun e => by have := hOB.out k hob; injection e with e; omega)
      have HLT := Lib.hid hlt
      have HB2 : Hid (Below w.heap.size w w2) := hbr.out.grown hg2 hbr.out.size fun j hj => by cases hj; exact Nat.le_refl _
      have HS2 := Lib.hid hs2
      have HRLT : Hid (w.heap.size < w2.heap.size) := HRG2.out.lt
      clear hk1 hk2 hhas hlk hat hkey hG hO hg2 hrg2 hlt hvv hs2
      go_wp2_with (at_builtin; refine Mi.app1q (wl := w2) rfl (.tmp 16) (.tmp 18) rfl u3 L n rfl rfl HO2.out _ rfl rfl HL.out ?_; intro v3 w3 ho3 hg3 hl3; have HO3 := Lib.hid ho3; have HG3 := Lib.hid hg3; have HL3 := Lib.hid hl3; clear ho3 hg3 hl3)
      go_roundw
      case rel => exact ⟨L ++ [(n : Int)], _, cnt2, ranges_same HRG2.out (HG3.out.block _ (Nat.lt_trans hmb HRLT.out) fun e => by have := hOB.out _ e.symm; omega) (HG3.out.block _ HRLT.out fun e => by have := hOB.out _ e.symm; omega), HG2, HO3, fun k hk => by
          rcases HL3.out k hk with e | e
          · exact hOB.out k e
          · have := HRLT.out; omega, HB2.out.grown HG3.out HB2.out.size fun j hj => by have := hOB.out j hj; omega⟩
      case measure =>
        rw [hrg.out.left_eq]
        rw [(ranges_same HRG2.out (Y := w3) (HG3.out.block _ (Nat.lt_trans hmb HRLT.out) fun e => by have := hOB.out _ e.symm; omega) (HG3.out.block _ HRLT.out fun e => by have := hOB.out _ e.symm; omega)).left_eq]
        exact HLT.out
end Go.Proofs.Ytkanebolfmpnfaa.Rt
