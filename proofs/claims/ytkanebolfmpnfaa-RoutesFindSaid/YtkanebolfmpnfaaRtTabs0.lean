/- The law's own tables: what they begin with. -/
import Derived.Test.YtkanebolfmpnfaaRtTell0
namespace Go.Proofs.Ytkanebolfmpnfaa.Rt
open Go.RowKit Go.Maps
open Go.Proofs.Ytkanebolfmpnfaa.Sb
set_option linter.unusedVariables false
set_option linter.unusedSimpArgs false

def nbsL (f : Nat → Bool) (m : Nat) : List Int := ((List.range m).filter f).map fun j : Nat => (j : Int)
theorem nbsL_yes {f : Nat → Bool} {m : Nat} (h : f m = true) : nbsL f (m + 1) = nbsL f m ++ [(m : Int)] := by simp [nbsL, List.range_succ, List.filter_append, h]
theorem nbsL_no {f : Nat → Bool} {m : Nat} (h : f m = false) : nbsL f (m + 1) = nbsL f m := by simp [nbsL, List.range_succ, List.filter_append, h]
theorem mem_nbsL {f : Nat → Bool} {m : Nat} {x : Int} : x ∈ nbsL f m ↔ ∃ i : Nat, x = (i : Int) ∧ i < m ∧ f i = true := by
  simp only [nbsL, List.mem_map, List.mem_filter, List.mem_range]
  constructor
  · rintro ⟨a, ⟨h1, h2⟩, rfl⟩
    exact ⟨a, rfl, h1, h2⟩
  · rintro ⟨a, rfl, h1, h2⟩
    exact ⟨a, ⟨h1, h2⟩, rfl⟩
theorem nbsL_len (f : Nat → Bool) (m : Nat) : (nbsL f m).length ≤ m := by
  have := List.length_filter_le f (List.range m)
  simpa [nbsL] using this
theorem nbsL_ris (f : Nat → Bool) (m : Nat) : (nbsL f m).Pairwise (· < ·) := by
  unfold nbsL
  rw [List.pairwise_map]
  exact (List.Pairwise.filter _ List.pairwise_lt_range).imp fun h => by omega
theorem new_fit {f : Nat → Bool} {i n : Nat} (hi : i < n) (hn : n ≤ 8) (hf : f i = false) : newE (i : Int) (nbsL f n) ((64 : Nat) : Int) = 0 := by
  unfold newE
  rw [if_neg (by
    rintro (h | h | h)
    · rw [isN_nat (by omega)] at h; cases h
    · omega
    · omega), if_pos]
  intro j hj
  obtain ⟨k, hk, hkn, hfk⟩ := mem_nbsL.1 (List.getElem_mem hj)
  have hat : Mi.at_ (nbsL f n) j = (k : Int) := by rw [Mi.at_get hj]; exact hk
  unfold okB
  rw [hat, isN_nat (by omega)]
  have h1 : ((k : Int) == (i : Int)) = false := beq_eq_false_iff_ne.mpr fun e => by
    obtain rfl : k = i := by omega
    rw [hf] at hfk
    cases hfk
  rw [h1]
  simp only [Bool.true_and, Bool.not_false, decide_eq_true_eq]
  unfold prv
  split
  · omega
  · have := List.pairwise_iff_getElem.1 (nbsL_ris f n) (j - 1) j (by omega) hj (by omega)
    rw [Mi.at_get (by omega), ← hk]
    exact this
/-- The tables' beginning. -/
def T0 (L n : Nat) : Nat → Tb := fun k => newT k 64 (nbsL (lkB L k) n)
theorem T0_net {L n : Nat} (hn : n ≤ 8) : NetT n (lkB L) (T0 L n) where
  ok k hk := (newT_ok (new_fit hk hn (lkB_self L k))).1
  self k hk := rfl
  ns k hk d hd := rfl
  nbs k hk x := mem_nbsL
theorem Tn.mono {s s' : Nat} {w : World} {D mb : Nat} {v : Value} {t : Tb} (h : Tn s w D mb v t) (hs : s' ≤ s) : Tn s' w D mb v t := ⟨h.tq, h.ok, h.nl, Nat.le_trans hs h.gD, Nat.le_trans hs h.gm, fun k e => Nat.le_trans hs (h.gv k e)⟩
/-! ### Pointers of one's own -/
abbrev Pn (w : World) (v : Value) (xs : List Value) : Prop := w.ownsRow 0 26 1 v xs.length xs
def pts (D : Nat → Nat) (m : Nat) : List Value := (List.range m).map fun k : Nat => Value.pointer (some ⟨D k, 0, none⟩)
theorem pts_len (D : Nat → Nat) (m : Nat) : (pts D m).length = m := by simp [pts]
theorem pts_snoc (D : Nat → Nat) (m d : Nat) : pts (updV D m d) (m + 1) = pts D m ++ [.pointer (some ⟨d, 0, none⟩)] := by
  unfold pts
  rw [List.range_succ, List.map_append]
  congr 1
  · exact List.map_congr_left fun k hk => by rw [updV_ne _ _ (by have := List.mem_range.1 hk; omega)]
  · simp [updV_same]
theorem Pn.ps {w : World} {v : Value} {D : Nat → Nat} {n : Nat} (h : Pn w v (pts D n)) (hn : 1 ≤ n) : ∃ P c, v = .slice (some ⟨P, 0, none⟩) n c ∧ Ps w P n D := by
  rcases h.2 with ⟨_, h2⟩ | ⟨g, cap, cur, h1, _, h3, _, _, h6, h7⟩
  · rw [pts_len] at h2; omega
  · rw [pts_len] at h1
    refine ⟨g, cap, h1, cur, _, h3, fun k hk => ?_⟩
    have h8 := congrArg (fun l : List Value => l[k]?) h7
    rw [List.getElem?_take, if_pos (by rw [pts_len]; omega)] at h8
    rw [← Array.getElem?_toList, h8]
    simp [pts, hk]
theorem Tq.keepP {w w' : World} {D mb : Nat} {v ov : Value} {t : Tb} {xs : List Value} (h : Tq w D mb v t) (ho : Pn w ov xs) (hg : w.grownBy w' ov.ownBlock) : Tq w' D mb v t := by
  have hb : But (fun k => ov.ownBlock = some k) w w' := (But.refl _ w).grown hg fun r e => .inl e
  refine h.but hb (fun e => ?_) (fun e => ?_) fun k hk e => ?_
  · obtain ⟨cur, hc⟩ := own_type ho D e
    have := h.blk
    rw [hc] at this
    simp only [Option.some.injEq, Obj.cells.injEq] at this
    exact absurd this.2.1 (by decide)
  · obtain ⟨cur, hc⟩ := own_type ho mb e
    obtain ⟨es, c, hm⟩ := h.mp.isMap
    rw [hc] at hm
    cases hm
  · obtain ⟨cur, hc⟩ := own_type ho k e
    obtain ⟨cur', hc'⟩ := own_type h.nb k hk
    rw [hc] at hc'
    simp only [Option.some.injEq, Obj.cells.injEq] at hc'
    exact absurd hc'.2.1 (by decide)
section
variable {B n : Nat} {w w' : World} {D mb : Nat → Nat} {v : Nat → Value} {T : Nat → Tb}
theorem Ts.keepP {ov : Value} {xs : List Value} (h : Ts B w n D mb v T) (ho : Pn w ov xs) (hg : w.grownBy w' ov.ownBlock) : Ts B w' n D mb v T := ⟨fun k hk => (h.tn k hk).tq' ((h.tn k hk).tq.keepP ho hg) (h.tn k hk).ok rfl, h.ne⟩
/-- One table more, newer than all. -/
theorem Ts.snoc {s d m : Nat} {x : Value} (h : Ts B w n D mb v T) (hb : Below w.heap.size w w') (ht : Tn s w' d m x (T n)) (hs : w.heap.size ≤ s) (hB : B ≤ w.heap.size) : Ts B w' (n + 1) (updV D n d) (updV mb n m) (updV v n x) T where
  tn k hk := by
    by_cases e : k = n
    · subst e
      rw [updV_same, updV_same, updV_same]
      exact ht.mono (Nat.le_trans hB hs)
    · rw [updV_ne _ _ e, updV_ne _ _ e, updV_ne _ _ e]
      exact (h.tn k (by omega)).below hb
  ne j k hj hk hjk := by
    have key : ∀ i, i < n → mb i ≠ m := fun i hi e => by
      have := (h.tn i hi).tq.ltm
      have := ht.gm
      omega
    by_cases e1 : j = n
    · subst e1
      rw [updV_same, updV_ne _ _ (Ne.symm hjk)]
      exact Ne.symm (key k (by omega))
    · rw [updV_ne _ _ e1]
      by_cases e2 : k = n
      · subst e2
        rw [updV_same]
        exact key j (by omega)
      · rw [updV_ne _ _ e2]
        exact h.ne j k (by omega) (by omega) hjk
end
/-- One pointer more behind pointers of one's own, as one operation. -/
theorem appP {w : World} {o : Oper} {a : Act} {K : Act → World → Prop} {Q : Exit → Act → World → Prop} (s x : Operand)
    (ho : o.op = .call { callee := .builtin .append, args := #[s, x], argTypes := #[62, 62] })
    (v : Value) (l : List Value) (z : Value) (h1 : z.oneCell' = true) (hs : a.eval s = v) (hown : Pn w v l) (g : Nat) (hz : w.cell? ⟨g, 0, none⟩ = some z) (hx : a.eval x = .slice (some ⟨g, 0, none⟩) 1 1) (hlen : l.length ≤ 1000000)
    (h : ∀ v' w', Pn w' v' (l ++ [z]) → w.grownBy w' v.ownBlock → (∀ k, v'.ownBlock = some k → v.ownBlock = some k ∨ w.heap.size ≤ k) → K (a.put o.dst v') w') : o.wp Try.prog a w K Q := by
  obtain ⟨i0, hi, hz0, hz1, hz2⟩ := info_parts (P := Try.prog) (e := 26) (z := .pointer none) (size := 1) (bytes := 8) (by kernel_rfl)
  have hnews : ∀ j u, ([z] : List Value)[j]? = some u → w.cell? ((⟨g, 0, none⟩ : Addr).add j) = some u := by
    intro j u hj
    cases j with
    | zero =>
      have e : (⟨g, 0, none⟩ : Addr).add 0 = ⟨g, 0, none⟩ := by unfold Addr.add; split <;> simp_all
      rw [e, hz]; simpa using hj
    | succ j => simp at hj
  obtain ⟨v', w', hr, r1, r2, r3⟩ := Mi.run_append_own2 (P := Try.prog) (w := w) 62 o.type 26 i0 (.pointer none) 8 Try.underlying62 hi hz0 hz1 hz2 rfl v l.length l hown ⟨g, 0, none⟩ 1 1 [z] rfl hnews (by simpa using h1) (by unfold maxLen; omega) (by omega)
  unfold Oper.wp execOp
  simp only [ho, resolve, invoke, builtin, Sem.run_bind, Sem.run_pure, Result.andThen_ok, List.map_toArray, List.map_cons, List.map_nil, hs, hx, hr]
  refine h v' w' ?_ r2 r3
  unfold Pn
  rw [List.length_append]; exact r1
end Go.Proofs.Ytkanebolfmpnfaa.Rt
