/- What the library does with lists of numbers: where a number has its place, put in at the end. -/
import Derived.Test.YtpofdimagfldnaaSeMem
import Derived.Test.YtpofdimagfldnaaLay
namespace Go.Proofs.Ytpofdimagfldnaa.Se
open Go.RowKit
open Go.Proofs.Ytpofdimagfldnaa.Me Go.Proofs.Ytpofdimagfldnaa.Sb
set_option linter.unusedVariables false
set_option linter.unusedSimpArgs false

theorem Search_any (A : Option Addr) (c : Nat) (l : List Int) (x : Int) (W : World) (h : Hid (Sl W A c l)) (hp : Hid (l.Pairwise (· < ·))) (hl : l.length ≤ 1000000000) :
    Calls Try.prog 96 #[.slice A l.length c, .int .i64 x] W fun e w' => e = .returned (.tuple #[.int .i64 ((lb l x : Nat) : Int), .bool (l.contains x)]) ∧ Hid (Below W.heap.size W w') := by
  by_cases h0 : l.length = 0
  · obtain rfl := List.eq_nil_of_length_eq_zero h0
    exact (Try.Search0 A c x W).mono fun e w' ⟨he, hw⟩ => ⟨he, hw ▸ Below.refl _ _⟩
  · cases A with
    | none => exact absurd (by rw [(h.out.2.2.1 rfl).1]; rfl) h0
    | some a =>
      obtain ⟨g, off, rfl, _, hc⟩ := h.out.2.2.2 a rfl
      have hs : (l.take l.length).Pairwise (· ≤ ·) := by rw [List.take_length]; exact hp.out.imp fun h => by omega
      refine (Try.Search g off l.length c l x W (Nat.le_refl _) (by omega) hc hs).mono fun e w' ⟨he, q, hw⟩ => ⟨?_, ?_⟩
      · rw [he, List.take_length]; rfl
      · rw [hw]; exact Me.below_drewN (Below.refl _ _) q
/-- A number appended to a list that has no room. -/
theorem appS {w : World} {ops : Array Oper} {rest : List Oper} {o : Oper} {a : Act} {Q : Exit → Act → World → Prop} (hgd : o.guard = none) (s x : Operand)
    (ho : o.op = .call { callee := .builtin .append, args := #[s, x], argTypes := #[54, 54] })
    (A : Option Addr) (l : List Int) (hS : Sl w A l.length l) (hs : a.eval s = .slice A l.length l.length) (gx : Nat) (z : Int) (hx : a.eval x = .slice (some ⟨gx, 0, none⟩) 1 1) (hz : w.cell? ⟨gx, 0, none⟩ = some (.int .i64 z)) (hlen : l.length ≤ 1000000000)
    (h : ∀ v' w', Mi.Own w' w.heap.size v' (l ++ [z]) → Below w.heap.size w w' → wpList Try.prog ops Q rest (a.put o.dst v') w') : wpList Try.prog ops Q (o :: rest) a w := by
  obtain ⟨i0, hi, hz0, hz1, hz2⟩ := info_parts Mi.infoI
  have hnews : ∀ j u, ([Value.int .i64 z] : List Value)[j]? = some u → w.cell? ((⟨gx, 0, none⟩ : Addr).add j) = some u := by
    intro j u hj
    cases j with
    | zero =>
      have e : (⟨gx, 0, none⟩ : Addr).add 0 = ⟨gx, 0, none⟩ := by unfold Addr.add; split <;> simp_all
      rw [e, hz]; simpa using hj
    | succ j => simp at hj
  cases A with
  | none =>
    obtain ⟨rfl, _⟩ := hS.2.2.1 rfl
    refine wpList_append_own w hgd s x 54 ho w.heap.size 3 i0 (.int .i64 0) 1 8 Try.underlying54 hi hz0 hz1 hz2 rfl (by decide) (.slice none 0 0) 0 [] hs ⟨rfl, .inl ⟨rfl, rfl⟩⟩ ⟨gx, 0, none⟩ 1 1 [.int .i64 z] hx rfl hnews (by simp [Value.oneCell']) (by unfold maxLen; omega) (by omega) (Nat.le_refl _) ?_
    intro v' w' h1 h2 _
    exact h v' w' h1 ((Below.refl _ _).grown h2 (Nat.le_refl _) fun k hk => by cases hk)
  | some ad =>
    obtain ⟨g, off, rfl, _, hc⟩ := hS.2.2.2 ad rfl
    refine wpList_plain hgd fun K hK => ?_
    have holds : ∀ j v, (l.map Mi.iV)[j]? = some v → w.cell? ((⟨g, off, none⟩ : Addr).add j) = some v := by
      intro j v hj
      have hj' : j < l.length := by
        apply Classical.byContradiction
        intro hn
        rw [List.getElem?_eq_none (by simpa using hn)] at hj; cases hj
      have e : (⟨g, off, none⟩ : Addr).add j = ⟨g, off + j, none⟩ := by simp [Addr.add]
      rw [e, hc j hj', ← hj]
      simp [hj', Mi.iV]
    have hr := run_append_grow (P := Try.prog) (w := w) 54 o.type 3 i0 (.int .i64 0) Try.underlying54 hi hz0 ⟨g, off, none⟩ l.length l.length (l.map Mi.iV) (by rw [hz1]; simp) holds ⟨gx, 0, none⟩ 1 1 [.int .i64 z] (by rw [hz1]; rfl) hnews (by omega) (by omega) (growslice_fits (by omega) (by rw [hz2]; omega))
    unfold Oper.wp execOp
    simp only [ho, resolve, invoke, builtin, Sem.run_bind, Sem.run_pure, Result.andThen_ok, List.map_toArray, List.map_cons, List.map_nil, hs, hx, hr]
    have hge := grownCap_ge w (l.length + 1) l.length 3
    have hcm : grownCap w (l.length + 1) l.length 3 ≤ maxLen := grownCap_le_maxLen w (l.length + 1) l.length 3 (by unfold maxLen; omega)
    refine hK _ _ (h _ _ ?_ ?_)
    · unfold Mi.Own
      refine ⟨by simp, .inr ⟨w.heap.size, _, _, by rw [List.length_append]; rfl, Nat.le_refl _, heap_alloc_new w.drew _, by rw [List.length_append]; exact hge, hcm, ?_, ?_⟩⟩
      · simp only [Array.size_append, List.size_toArray, size_zeroCells, List.length_map, List.length_cons, List.length_nil, show (Value.int IntKind.i64 0).cells.size = 1 from rfl]
        omega
      · simp only [Array.toList_append, List.append_assoc]
        rw [← List.append_assoc, List.map_append, List.length_append, Nat.mul_one]
        exact List.take_left' (by simp)
    · exact ⟨rfl, rfl, rfl, by simp, fun k hk => heap_alloc_old w.drew _ hk⟩
set_option maxRecDepth 100000 in
set_option maxHeartbeats 4000000 in
theorem Ins_end (A : Option Addr) (l : List Int) (gx : Nat) (z : Int) (W : World) (hS : Hid (Sl W A l.length l)) (hz : Hid (W.cell? ⟨gx, 0, none⟩ = some (.int .i64 z))) (hl : l.length ≤ 1000000) :
    Calls Try.prog 98 #[.slice A l.length l.length, .int .i64 (l.length : Int), .slice (some ⟨gx, 0, none⟩) 1 1] W fun e w' => ∃ v, e = .returned v ∧ Hid (Mi.Own w' W.heap.size v (l ++ [z])) ∧ Hid (Below W.heap.size W w') := by
  have HL : Hid (l.length ≤ 1000000000) := by show _ ≤ _; omega
  go_enter Try.func98, Try.ntmps98
  go_wp2_with (at_builtin; refine appS rfl (.tmp 23) (.tmp 24) rfl A l hS.out rfl gx z rfl hz.out HL.out ?_; intro v1 w1 ho1 hb1; have HO1 := Lib.hid ho1; have HB1 := Lib.hid hb1; clear ho1 hb1)
  go_ret
  exact ⟨_, rfl, HO1, HB1⟩
end Go.Proofs.Ytpofdimagfldnaa.Se
