/- maps.Keys over a set's map: its iterator. -/
import Derived.Test.YtjgdkpgkonnhnaaSeMem
import Derived.Test.YtjgdkpgkonnhnaaRangeP
import Derived.WalkLawsBesides
import Derived.Maps.OwnIn
namespace Go.Proofs.Ytjgdkpgkonnhnaa.Se
open Go.RowKit Go.Maps
open Go.Proofs.Ytjgdkpgkonnhnaa.Me Go.Proofs.Ytjgdkpgkonnhnaa.Sb Go.Proofs.Ytjgdkpgkonnhnaa.It
set_option linter.unusedVariables false
set_option linter.unusedSimpArgs false
attribute [local go_sem] Oper.semAt_some

/-- An origin and an epoch as a value. -/
def plV (p : Int × Int) : Value := .agg #[.int .i64 p.1, .int .i64 p.2]
section
variable {P : Program} {k e : TypeId} {q : IntKind}
theorem lits_int (he : P.underlying e = some (.int q)) {d : Nat} {c : Value} {ls : List Lit} (h : Program.keyLits P (d + 1) e [c] = some ls) : ∃ n : Int, c = .int q n ∧ (Lit.int q n).wf = true ∧ ls = [.int q n] := by
  unfold Program.keyLits at h
  simp only [he] at h
  cases c <;> simp at h
  obtain ⟨⟨rfl, h1⟩, h2⟩ := h
  exact ⟨_, rfl, h1, h2.symm⟩
theorem keyOf_inv2 (A : WideMaps.ArrKey P k e 2) (he : P.underlying e = some (.int q)) (hsz : ∃ m, P.types.size = m + 1) {v : Value} {l : Lit} (h : keyOf P k v = some l) : ∃ a b : Int, v = .agg #[.int q a, .int q b] ∧ (Lit.int q a).wf = true ∧ (Lit.int q b).wf = true ∧ l = .string (keyBytes [.int q a, .int q b]) := by
  unfold keyOf at h
  simp only [A.hu] at h
  split at h
  · rename_i hc
    rw [Bool.and_eq_true] at hc
    have hf := hc.2
    cases v with
    | agg cs =>
      simp only [Value.formed, A.hu, A.size, beq_iff_eq] at hf
      obtain ⟨l'⟩ := cs
      match l', hf with
      | [c0, c1], _ =>
        obtain ⟨m, hm⟩ := hsz
        rw [hm] at h
        unfold Program.keyLits at h
        simp only [A.hu, Value.cells] at h
        rw [if_pos (by rw [A.size]; rfl), show List.range 2 = [0, 1] from rfl, List.mapM_cons, List.mapM_cons, List.mapM_nil] at h
        simp only [bind, Option.bind_eq_some_iff, pure, Option.some.injEq, Option.map_eq_some_iff, A.one] at h
        obtain ⟨_, ⟨_, ⟨y0, h0, _, ⟨y1, h1, _, rfl, rfl⟩, rfl⟩, rfl⟩, rfl⟩ := h
        obtain ⟨a, ea, wa, rfl⟩ := lits_int he h0
        obtain ⟨b, eb, wb, rfl⟩ := lits_int he h1
        subst ea; subst eb
        exact ⟨a, b, rfl, wa, wb, rfl⟩
    | _ => simp [Value.formed, A.hu] at hf
  · cases h
end
theorem keyOf_inv {v : Value} {l : Lit} (h : keyOf Try.prog 63 v = some l) : ∃ a b : Int, v = .agg #[.int .i64 a, .int .i64 b] ∧ (Lit.int .i64 a).wf = true ∧ (Lit.int .i64 b).wf = true ∧ l = kl a b := keyOf_inv2 arr Try.underlying3 types_pos h
/-- What reads as the key of a place is that place. -/
theorem keyOf_place {v : Value} {o e : Int} (hp : Pp o e) (h : keyOf Try.prog 63 v = some (kl o e)) : v = plV (o, e) := by
  obtain ⟨a, b, rfl, wa, wb, hl⟩ := keyOf_inv h
  have := _root_.Go.keyBytes_inj (l := [.int .i64 o, .int .i64 e]) (l' := [.int .i64 a, .int .i64 b]) ⟨rfl, rfl, trivial⟩ (by
    intro x hx
    simp only [List.mem_cons, List.not_mem_nil, or_false] at hx
    rcases hx with rfl | rfl
    · exact hp.wf.1
    · exact hp.wf.2) (by
    intro x hx
    simp only [List.mem_cons, List.not_mem_nil, or_false] at hx
    rcases hx with rfl | rfl
    · exact wa
    · exact wb) (by injection hl)
  simp at this
  obtain ⟨rfl, rfl⟩ := this
  rfl
theorem ranges_same {X Y : World} {b r n : Nat} {D : DataW Value} {left : Lit → Bool} {cnt : Nat} (h : X.ranges Try.prog 63 RV b r n D left cnt) (hb : Y.heap[b]? = X.heap[b]?) (hr : Y.heap[r]? = X.heap[r]?) : Y.ranges Try.prog 63 RV b r n D left cnt := by
  obtain ⟨es, clock, since, seen, c0, q1, F, q2, q3, q4, rest⟩ := h
  exact ⟨es, clock, since, seen, c0, hb.trans q1, F, q2, q3, hr.trans q4, rest⟩
/-- The places L were handed out; the next one is handed out. -/
def stepK (kept : Int → Int → Option Mk) (n : Nat) (L : List (Int × Int)) (v : Value) (L' : List (Int × Int)) : Prop := ∃ p : Int × Int, Pp p.1 p.2 ∧ kept p.1 p.2 ≠ none ∧ v = plV p ∧ p ∉ L ∧ L' = L ++ [p] ∧ L.length < n
def finK (kept : Int → Int → Option Mk) (L : List (Int × Int)) : Prop := ∀ p : Int × Int, Pp p.1 p.2 → kept p.1 p.2 ≠ none → p ∈ L
/-- Which places are still to come. -/
def Lft (kept : Int → Int → Option Mk) (L : List (Int × Int)) (left : Lit → Bool) : Prop := ∀ p : Int × Int, Pp p.1 p.2 → (left (kl p.1 p.2) = true ↔ (kept p.1 p.2 ≠ none ∧ p ∉ L))
theorem Lft.next {kept : Int → Int → Option Mk} {L : List (Int × Int)} {left : Lit → Bool} {p : Int × Int} (h : Lft kept L left) (hp : Pp p.1 p.2) : Lft kept (L ++ [p]) (fun z => left z && !z.sameKey (kl p.1 p.2)) := by
  intro q hq
  by_cases e : q = p
  · subst e
    simp [WideAt.sameKey_self (key_lit q.1 q.2)]
  · have h1 : kl q.1 q.2 ≠ kl p.1 p.2 := fun hk => e (by obtain ⟨a, b⟩ := kl_inj hq hp hk; exact Prod.ext a b)
    simp only [sameKey_ne h1, Bool.not_false, Bool.and_true, List.mem_append, List.mem_singleton, e, or_false]
    exact h q hq
theorem Lft.start {w : World} {t : Bool} {D : DataW Value} {kept : Int → Int → Option Mk} (h : Vw w t D kept) : Lft kept [] (Maps.has D) := by
  intro p hp
  cases hk : kept p.1 p.2 with
  | none => simp [h.no _ _ hp hk]
  | some m => simp [(h.yes _ _ m hp hk).1]
set_option maxHeartbeats 1000000 in
theorem Keys_iter {t : Bool} (kb mb n : Nat) (w0 : World) (kept : Int → Int → Option Mk) (hM : Mp w0 t mb n kept) :
    IterS 50 #[.pointer (some ⟨kb, 0, none⟩)] 1 (fun X => X.cell? ⟨kb, 0, none⟩ = some (.map (some mb)) ∧ X.heap[mb]? = w0.heap[mb]?) ([] : List (Int × Int)) (stepK kept n) (finK kept) := by
  intro l W J Jx hJ hJx hR hY h0
  obtain ⟨D, how, hv⟩ := hM
  have hb0 := hR _ _ h0
  have hbox := hb0.1
  have how0 : W.ownsMap Try.prog 63 RV mb n D := by
    obtain ⟨es, clock, hb, r⟩ := how
    exact ⟨es, clock, hb0.2.trans hb, r⟩
  have HR := Lib.hid hR
  have HY := Lib.hid hY
  have HJ := Lib.hid hJ
  have HV := Lib.hid hv
  have HO := Lib.hid how0
  have HSZ := Lib.hid how0.size_le
  have hmW := how0.lt
  clear hR hY hJ hJx hv how0 hb0 how
  refine callsIn_of_wp Try.func50 rfl trivial ?_ rfl
  simp only [Try.ntmps50, List.size_toArray, List.length_cons, List.length_nil, Nat.reduceAdd, Nat.reduceSub, Array.replicate_succ, Array.replicate_zero, List.push_toArray, List.append_toArray, List.nil_append, List.cons_append]
  gi_wp2_with (gi_at_range; refine wpListIn_range_own _ rfl _ 59 rfl 63 65 keyed Try.underlying59 RV mb n D rfl HO.out ?_; intro w1 hrg hg hs)
  try go_frame
  gi_loopw [3] (fun v wr => ∃ L left cnt, wr.ranges Try.prog 63 RV mb W.heap.size n D left cnt ∧ J L wr ∧ Lft kept L left ∧ L.length + cnt ≤ n ∧ W.heap.size + 1 ≤ wr.heap.size) (fun v wr => wr.rangeLeft mb W.heap.size)
  case atStart => exact ⟨[], _, _, hrg, HJ.out [] W w1 none h0 hg (fun r e => by cases e), Lft.start HV.out, by have := HSZ.out; simpa using this, by omega⟩
  case round =>
    obtain ⟨L, left, cnt, hrg1, hj, hlf, hcn, hsz⟩ := hrel
    have HRG := Lib.hid hrg1
    have HLF := Lib.hid hlf
    clear hrg hg hs hbox h0
    gi_wp2_with (gi_at_next; refine wpListIn_next_ranges _ rfl _ rfl 63 keyed RV (fun x : Value => x) (fun v : Value => v) (fun key kl hk => ⟨key, rfl⟩) (fun v y h => ⟨v, rfl⟩) mb W.heap.size n D left cnt rfl HRG.out ?_ ?_)
    · intro hc0 hl0
      have hfin : finK kept L := fun p hp hk => by
        apply Classical.byContradiction
        intro hc
        have := (HLF.out p hp).2 ⟨hk, hc⟩
        rw [hl0] at this
        cases this
      gi_wp2
      go_end0
      exact ⟨⟨_, rfl⟩, .inl ⟨L, hfin, hj⟩⟩
    · intro x c kl' y1 y2 w2 cnt' hkey hlk e1 e2 hat hrg2 hlt hg2 hs2 hen
      obtain ⟨o, e, ekl, hp, hne⟩ := HV.out.keys _ (has_true_of_atKey hat)
      subst ekl
      obtain rfl := keyOf_place hp hkey
      have hl := (HLF.out (o, e) hp).1 hlk
      have hst : stepK kept n L (plV (o, e)) (L ++ [(o, e)]) := ⟨(o, e), hp, hl.1, rfl, hl.2, rfl, by omega⟩
      have hj2 : J L w2 := HJ.out L wr w2 _ hj hg2 fun r e => by cases e; omega
      have HJ2 := Lib.hid hj2
      have HST := Lib.hid hst
      have HRG2 := Lib.hid hrg2
      have HLT := Lib.hid hlt
      have HL2 := Lib.hid (HLF.out.next (p := (o, e)) hp)
      have HS2 := Lib.hid hs2
      have HB2 := Lib.hid (HR.out L w2 hj2)
      have HCN : Hid ((L ++ [(o, e)]).length + cnt' ≤ n) := by show _ ≤ _; rw [List.length_append]; simp; omega
      have hsz2 : W.heap.size + 1 ≤ w2.heap.size := by omega
      clear e1 e2 hat hkey hlk hl hst hj hrg2 hlt hs2 hg2 HLF hj2 hcn hne
      have hbl : Below w2.heap.size w2 (w2.alloc (.cells #[.int .i64 o, .int .i64 e] 63)) := Me.below_alloc (Below.refl _ _)
      have hj3 : J L (w2.alloc (.cells #[.int .i64 o, .int .i64 e] 63)) := (HJ.out L).below HJ2.out hbl
      have HB3 : Hid ((w2.alloc (.cells #[.int .i64 o, .int .i64 e] 63)).heap[mb]? = w0.heap[mb]?) := (HR.out L _ hj3).2
      have HB4 : Hid ((w2.alloc (.cells #[.int .i64 o, .int .i64 e] 63)).heap[W.heap.size]? = w2.heap[W.heap.size]?) := hbl.block _ (by omega)
      obtain ⟨fn, tmps, assign, body, hy, hRd⟩ := HY.out L (plV (o, e)) (L ++ [(o, e)]) _ HST.out hj3 (by simp; omega)
      have HRd := Lib.hid hRd
      clear hj3 hbl hRd
      have HSZ2 : Hid (W.heap.size < (w2.alloc (.cells #[.int .i64 o, .int .i64 e] 63)).heap.size ∧ w2.heap.size ≤ (w2.alloc (.cells #[.int .i64 o, .int .i64 e] 63)).heap.size) := ⟨by simp; omega, by simp⟩
      unfold plV at hen hy
      gi_wp2_with (refine ⟨trivial, rfl, ?_⟩)
      refine ⟨rfl, HRd.out.mono ?_⟩
      rintro e' W3 ⟨bb, rfl, hk3, ht, hf⟩
      cases bb with
      | true =>
        have hj3 := ht rfl
        have q1 := (HR.out _ W3 hj3).2.trans HB2.out.2.symm
        have q2 : W3.heap[W.heap.size]? = w2.heap[W.heap.size]? := (hk3.same _ (Nat.le_refl _) (by omega) HSZ2.out.1).trans HB4.out
        have HRG3 := Lib.hid (ranges_same HRG2.out q1 q2)
        have HSZ3 : Hid (W.heap.size + 1 ≤ W3.heap.size) := Nat.le_trans hsz2 (Nat.le_trans HSZ2.out.2 hk3.size)
        clear ht hf q1 q2 hen hy
        gi_wp2
        go_roundw
        case rel => exact ⟨L ++ [(o, e)], _, _, HRG3.out, hj3, HL2.out, HCN.out, HSZ3.out⟩
        case measure => rw [HRG3.out.left_eq, HRG.out.left_eq]; exact HLT.out
      | false =>
        have hj3 := hf rfl
        clear ht hf hen hy
        gi_wp2
        refine bodyPost_ret (results_none rfl _ _ _) rfl ?_
        exact ⟨⟨_, rfl⟩, .inr hj3⟩
end Go.Proofs.Ytjgdkpgkonnhnaa.Se
