/- What slices.Insert leans on: copies inside one block, two splices. -/
import Derived.Test.YtcdpdijfgeeenaaLnPut
import Derived.Laws.CopyOwn
import Derived.Lib.AppendZerosOnto
import Derived.Lib.Overlaps
namespace Go.Proofs.Ytcdpdijfgeeenaa.Li
open Go.RowKit
open Go.Proofs.Ytcdpdijfgeeenaa.Sb
set_option linter.unusedVariables false
set_option linter.unusedSimpArgs false

theorem add_lit0 (b o j : Nat) : (⟨b, o, none⟩ : Addr).add j = ⟨b, o + j, none⟩ := by unfold Addr.add; split <;> simp_all
theorem two_splices {cur X1 X2 : List Value} {y : Value} {k : Nat} (hk : X1.length = k) (h : cur.take k = X1) (hl : k + 1 + X2.length ≤ cur.length) : (splice (splice cur k [y]) (k + 1) X2).take (k + 1 + X2.length) = X1 ++ y :: X2 := by
  have e1 : splice cur k [y] = X1 ++ ([y] ++ cur.drop (k + 1)) := by unfold splice; rw [h]; rfl
  rw [e1]
  unfold splice
  have e2 : (X1 ++ ([y] ++ cur.drop (k + 1))).take (k + 1) = X1 ++ [y] := by
    rw [← List.append_assoc]
    exact List.take_left' (by simp [hk])
  rw [e2, ← List.append_assoc, List.take_left' (by simp [hk]; omega)]
  simp
theorem splices2 {cur X1 X2 : List Value} {y : Value} {k : Nat} (hk : X1.length = k) (h : cur.take k = X1) (hl : k + 1 + X2.length ≤ cur.length) : (splice (splice cur (k + 1) X2) k [y]).take (k + 1 + X2.length) = X1 ++ y :: X2 := by
  have hk2 : k < cur.length := by omega
  have e0 : cur.take (k + 1) = X1 ++ [cur[k]] := by rw [List.take_succ_eq_append_getElem hk2, h]
  have e1 : splice cur (k + 1) X2 = X1 ++ ([cur[k]] ++ (X2 ++ cur.drop (k + 1 + X2.length))) := by unfold splice; rw [e0, List.append_assoc]
  rw [e1]
  unfold splice
  rw [List.take_left' hk]
  have e3 : (X1 ++ ([cur[k]] ++ (X2 ++ cur.drop (k + 1 + X2.length)))).drop (k + [y].length) = X2 ++ cur.drop (k + 1 + X2.length) := by
    rw [← List.append_assoc]
    exact List.drop_left' (by simp [hk])
  rw [e3, ← List.append_assoc, ← List.append_assoc, List.take_left' (by simp [hk]; omega)]
  simp
/-- A copy into a block, as one operation: the block's cells behind it; all else as it was. -/
theorem copyw {w : World} {o : Oper} {a : Act} {K : Act → World → Prop} {Q : Exit → Act → World → Prop} (d s : Operand) (dT sT : TypeId)
    (ho : o.op = .call { callee := .builtin .copy, args := #[d, s], argTypes := #[dT, sT] }) (elem : TypeId) (hu : Try.prog.underlying dT = some (.slice elem)) (hsz : (Try.prog.info? elem).map (·.size) = some 1)
    (g off dLen dCap : Nat) (ad : Addr) (sLen sCap : Nat) (hd : a.eval d = .slice (some ⟨g, off, none⟩) dLen dCap) (hs : a.eval s = .slice (some ad) sLen sCap)
    (cur : List Value) (t : TypeId) (hg : w.heap[g]? = some (.cells cur.toArray t (0, 0))) (cs : List Value) (hn : cs.length = Nat.min sLen dLen)
    (hsrc : ∀ j v, cs[j]? = some v → w.cell? (ad.add j) = some v) (hfit : off + cs.length ≤ cur.length) (h1 : ∀ v ∈ cs, v.oneCell' = true)
    (h : ∀ w', w'.heap[g]? = some (.cells (splice cur off cs).toArray t (0, 0)) → w.grownBy w' (some g) → K (a.put o.dst (goInt cs.length)) w') : o.wp Try.prog a w K Q := by
  have hrun := run_copy_row (P := Try.prog) w dT sT o.type elem g off dLen dCap ad sLen sCap cur.toArray t cs hu hsz hg hn hsrc (by simpa using hfit) h1
  unfold Oper.wp
  simp [execOp, ho, resolve, invoke, builtin, hd, hs, hrun, Result.andThen]
  exact h _ (by simpa [splice] using setRow_heap w g _ _ t _ hg) ⟨rfl, rfl, rfl, by simp, fun k _ hne => setRow_other _ _ k _ fun e => hne (by rw [e])⟩
theorem copyL {w : World} {ops : Array Oper} {rest : List Oper} {o : Oper} {a : Act} {Q : Exit → Act → World → Prop} (hgd : o.guard = none) (d s : Operand) (dT sT : TypeId)
    (ho : o.op = .call { callee := .builtin .copy, args := #[d, s], argTypes := #[dT, sT] }) (elem : TypeId) (hu : Try.prog.underlying dT = some (.slice elem)) (hsz : (Try.prog.info? elem).map (·.size) = some 1)
    (g off dLen dCap : Nat) (ad : Addr) (sLen sCap : Nat) (hd : a.eval d = .slice (some ⟨g, off, none⟩) dLen dCap) (hs : a.eval s = .slice (some ad) sLen sCap)
    (cur : List Value) (t : TypeId) (hg : w.heap[g]? = some (.cells cur.toArray t (0, 0))) (cs : List Value) (hn : cs.length = Nat.min sLen dLen)
    (hsrc : ∀ j v, cs[j]? = some v → w.cell? (ad.add j) = some v) (hfit : off + cs.length ≤ cur.length) (h1 : ∀ v ∈ cs, v.oneCell' = true)
    (h : ∀ w', w'.heap[g]? = some (.cells (splice cur off cs).toArray t (0, 0)) → w.grownBy w' (some g) → wpList Try.prog ops Q rest (a.put o.dst (goInt cs.length)) w') : wpList Try.prog ops Q (o :: rest) a w :=
  wpList_plain hgd fun K hK => copyw d s dT sT ho elem hu hsz g off dLen dCap ad sLen sCap hd hs cur t hg cs hn hsrc hfit h1 fun w' h1 h2 => hK _ _ (h w' h1 h2)
end Go.Proofs.Ytcdpdijfgeeenaa.Li
