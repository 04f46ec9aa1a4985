/- What the law's tables said: lists of vectors in memory. -/
import Derived.Test.YtkanebolfmpnfaaRtFindM
namespace Go.Proofs.Ytkanebolfmpnfaa.Rt
open Go.RowKit Go.Maps
open Go.Proofs.Ytkanebolfmpnfaa.Sb
set_option linter.unusedVariables false
set_option linter.unusedSimpArgs false

/-- A vector's value: a slice that reads as this list. -/
def Vr (w : World) (x : Value) (l : List Int) : Prop := (x = .slice none 0 0 ∧ l = []) ∨ ∃ g f, x = .slice (some ⟨g, 0, none⟩) 64 64 ∧ Ar w g f ∧ l = listOf f
/-- No array of 64 numbers turns. -/
def Ark (w w' : World) : Prop := ∀ (b : Nat) (cs : Array Value), w.heap[b]? = some (.cells cs 74 (0, 0)) → w'.heap[b]? = w.heap[b]?
theorem Ark.trans {w X Y : World} (h : Ark w X) (k : Ark X Y) : Ark w Y := fun b cs hb => (k b cs ((h b cs hb).trans hb)).trans (h b cs hb)
theorem Ark.below {w X : World} (h : Below w.heap.size w X) : Ark w X := fun b _ hb => h.block b (Array.getElem?_eq_some_iff.1 hb).1
theorem Ark.map {w X : World} {m : Nat} (hm : ∃ es c, w.heap[m]? = some (.map es c)) (h : But (fun k => k = m) w X) : Ark w X := fun b cs hb => h.same b (Array.getElem?_eq_some_iff.1 hb).1 fun e => by
  obtain ⟨es, c, hm⟩ := hm
  rw [e, hm] at hb
  cases hb
theorem Vr.keep {w w' : World} {x : Value} {l : List Int} (h : Vr w x l) (hk : Ark w w') : Vr w' x l := by
  rcases h with h | ⟨g, f, h1, h2, h3⟩
  · exact .inl h
  · exact .inr ⟨g, f, h1, (hk g _ h2).trans h2, h3⟩
theorem Vr.form {w : World} {x : Value} {l : List Int} (h : Vr w x l) : ∃ A c, x = .slice A l.length c ∧ Mi.Rd w w.heap.size A l ∧ l.length ≤ 64 := by
  rcases h with ⟨rfl, rfl⟩ | ⟨g, f, rfl, h2, rfl⟩
  · exact ⟨none, 0, rfl, Mi.Rd.nil _ _ _, by simp⟩
  · exact ⟨some ⟨g, 0, none⟩, 64, by rw [list_len], h2.rd, by rw [list_len]; exact Nat.le_refl _⟩
theorem Vr.one {w : World} {x : Value} {l : List Int} (h : Vr w x l) : x.oneCell' = true := by
  rcases h with ⟨rfl, _⟩ | ⟨g, f, rfl, _⟩ <;> rfl
/-- A list of lists of one's own. -/
abbrev Sown (w : World) (v : Value) (xs : List Value) : Prop := w.ownsRow 0 22 1 v xs.length xs
structure Row (w : World) (v : Value) (ls : List (List Int)) (xs : List Value) : Prop where
  own : Sown w v xs
  len : xs.length = ls.length
  vr : ∀ j, j < ls.length → ∃ x, xs[j]? = some x ∧ Vr w x (ls.getD j [])
theorem Row.nil (w : World) : Row w (.slice none 0 0) [] [] := ⟨⟨rfl, .inl ⟨rfl, rfl⟩⟩, rfl, fun j h => by simp at h⟩
theorem Row.same {w w' : World} {v : Value} {ls : List (List Int)} {xs : List Value} (h : Row w v ls xs) (hk : ∀ k, v.ownBlock = some k → k < w.heap.size → w'.heap[k]? = w.heap[k]?) (ha : Ark w w') : Row w' v ls xs :=
  ⟨own_same h.own hk, h.len, fun j hj => by
    obtain ⟨x, h1, h2⟩ := h.vr j hj
    exact ⟨x, h1, h2.keep ha⟩⟩
theorem Row.snoc {w w' : World} {v v' x : Value} {ls : List (List Int)} {xs : List Value} {l : List Int} (h : Row w v ls xs) (ho : Sown w' v' (xs ++ [x])) (ha : Ark w w') (hx : Vr w' x l) : Row w' v' (ls ++ [l]) (xs ++ [x]) where
  own := ho
  len := by simp [h.len]
  vr j hj := by
    by_cases e : j < ls.length
    · obtain ⟨y, h1, h2⟩ := h.vr j e
      refine ⟨y, by rw [List.getElem?_append_left (by rw [h.len]; exact e)]; exact h1, ?_⟩
      rw [List.getD_eq_getElem?_getD, List.getElem?_append_left e, ← List.getD_eq_getElem?_getD]
      exact h2.keep ha
    · have e2 : j = ls.length := by
        rw [List.length_append, List.length_singleton] at hj
        omega
      subst e2
      refine ⟨x, by rw [List.getElem?_append_right (by rw [h.len]; exact Nat.le_refl _), h.len]; simp, ?_⟩
      rw [List.getD_eq_getElem?_getD, List.getElem?_append_right (Nat.le_refl _)]
      simpa using hx
theorem Row.form {w : World} {v : Value} {ls : List (List Int)} {xs : List Value} (h : Row w v ls xs) : ∃ A m c, v = .slice A m c := by
  rcases h.own.2 with ⟨h1, _⟩ | ⟨g, cap, cur, h1, _⟩
  · exact ⟨_, _, _, h1⟩
  · exact ⟨_, _, _, h1⟩
/-- Vector j of a row, where it lies. -/
theorem Row.get {w : World} {v : Value} {ls : List (List Int)} {xs : List Value} (h : Row w v ls xs) {j : Nat} (hj : j < ls.length) : ∃ g cap cur A c, v = .slice (some ⟨g, 0, none⟩) ls.length cap ∧ w.heap[g]? = some (.cells cur 22 (0, 0)) ∧ w.cell? ⟨g, j, none⟩ = some (.slice A (ls.getD j []).length c) ∧ Mi.Rd w w.heap.size A (ls.getD j []) ∧ (ls.getD j []).length ≤ 64 := by
  obtain ⟨x, hx, hv⟩ := h.vr j hj
  obtain ⟨A, c, rfl, hr, hl⟩ := hv.form
  have ho := h.own
  rcases h.own.2 with ⟨_, h2⟩ | ⟨g, cap, cur, h1, _, h3, _⟩
  · have := h.len
    omega
  · refine ⟨g, cap, cur, A, c, by rw [h1, h.len], h3, ?_, hr, hl⟩
    rw [h1] at ho
    rw [World.ownsRow.cellAt ho j (by rw [h.len]; omega)]
    exact hx
/-- n rows: block SB holds their slices; all lies from B on. -/
structure Sy (B : Nat) (w : World) (SB n : Nat) (ls : Nat → List (List Int)) (sv : Nat → Value) (xs : Nat → List Value) : Prop where
  blk : ∃ cs, w.heap[SB]? = some (.cells cs 55 (0, 0)) ∧ cs.size = n ∧ ∀ j, j < n → cs[j]? = some (sv j)
  row : ∀ j, j < n → Row w (sv j) (ls j) (xs j)
  ne : ∀ j k, j < n → k < n → j ≠ k → ∀ b, (sv j).ownBlock = some b → (sv k).ownBlock ≠ some b
  ge : ∀ j, j < n → ∀ b, (sv j).ownBlock = some b → B ≤ b
  gS : B ≤ SB
def updV {α : Type} (f : Nat → α) (i : Nat) (x : α) : Nat → α := fun j => if j = i then x else f j
theorem updV_same {α : Type} (f : Nat → α) (i : Nat) (x : α) : updV f i x i = x := if_pos rfl
theorem updV_ne {α : Type} (f : Nat → α) {i j : Nat} (x : α) (h : j ≠ i) : updV f i x j = f j := if_neg h
section
variable {B n SB : Nat} {w w' : World} {ls : Nat → List (List Int)} {sv : Nat → Value} {xs : Nat → List Value}
theorem Sy.lt (h : Sy B w SB n ls sv xs) : SB < w.heap.size := by
  obtain ⟨cs, h1, _⟩ := h.blk
  exact (Array.getElem?_eq_some_iff.1 h1).1
theorem Sy.cell (h : Sy B w SB n ls sv xs) {j : Nat} (hj : j < n) : w.cell? ⟨SB, j, none⟩ = some (sv j) := by
  obtain ⟨cs, h1, _, h3⟩ := h.blk
  rw [cell_of_row w SB j _ _ (0, 0) h1, h3 j hj]
theorem Sy.frozen (h : Sy B w SB n ls sv xs) (j : Nat) : w.frozen? ⟨SB, j, none⟩ = false := by
  obtain ⟨cs, h1, _, h3⟩ := h.blk
  exact frozen_of_row w SB j _ _ h1
theorem Sy.keep (h : Sy B w SB n ls sv xs) (hk : Ck w w') : Sy B w' SB n ls sv xs where
  blk := by
    obtain ⟨cs, h1, h2⟩ := h.blk
    exact ⟨cs, (hk SB _ _ h1).trans h1, h2⟩
  row j hj := (h.row j hj).same (fun k e _ => by
    obtain ⟨cur, hc⟩ := own_type (h.row j hj).own k e
    exact hk k _ _ hc) fun b cs hb => hk b cs _ hb
  ne := h.ne
  ge := h.ge
  gS := h.gS
theorem Sy.below (h : Sy B w SB n ls sv xs) (hb : Below w.heap.size w w') : Sy B w' SB n ls sv xs := h.keep (Ck.below hb)
theorem Sy.own_ne (h : Sy B w SB n ls sv xs) {i : Nat} (hi : i < n) : (sv i).ownBlock ≠ some SB := fun e => by
  obtain ⟨cs, c1, _⟩ := h.blk
  obtain ⟨cur, hc⟩ := own_type (h.row i hi).own SB e
  rw [c1] at hc
  simp only [Option.some.injEq, Obj.cells.injEq] at hc
  exact absurd hc.2.1 (by decide)
/-- One vector more in row i: appended, and its slice stored. -/
theorem Sy.step (h : Sy B w SB n ls sv xs) {i : Nat} (hi : i < n) {wV W2 w3 : World} (hV : Below w.heap.size w wV) {x v' : Value} {l : List Int} (hx : Vr wV x l) (h2 : Below wV.heap.size wV W2)
    (ho : Sown w3 v' (xs i ++ [x])) (hg : W2.grownBy w3 (sv i).ownBlock) (hn : ∀ k, v'.ownBlock = some k → (sv i).ownBlock = some k ∨ W2.heap.size ≤ k) :
    Sy B (w3.setCell ⟨SB, i, none⟩ v') SB n (updV ls i (ls i ++ [l])) (updV sv i v') (updV xs i (xs i ++ [x])) ∧ ∀ w0 : World, Below B w0 w → Below B w0 (w3.setCell ⟨SB, i, none⟩ v') := by
  have hsz : w.heap.size ≤ W2.heap.size := Nat.le_trans hV.size h2.size
  have hsz3 : W2.heap.size ≤ w3.heap.size := hg.size
  have k2 : ∀ b, b < w.heap.size → W2.heap[b]? = w.heap[b]? := fun b hb => (h2.block b (Nat.lt_of_lt_of_le hb hV.size)).trans (hV.block b hb)
  have k3 : ∀ b, b < w.heap.size → (sv i).ownBlock ≠ some b → w3.heap[b]? = w.heap[b]? := fun b hb hne => (hg.block b (Nat.lt_of_lt_of_le hb hsz) (fun e => hne e.symm)).trans (k2 b hb)
  obtain ⟨cs, c1, c2, c3⟩ := h.blk
  have hSB := h.lt
  have hSo : (sv i).ownBlock ≠ some SB := fun e => by
    obtain ⟨cur, hc⟩ := own_type (h.row i hi).own SB e
    rw [c1] at hc
    simp only [Option.some.injEq, Obj.cells.injEq] at hc
    exact absurd hc.2.1 (by decide)
  have c3' : w3.heap[SB]? = some (.cells cs 55 (0, 0)) := (k3 SB hSB hSo).trans c1
  have k4 : ∀ b, b ≠ SB → (w3.setCell ⟨SB, i, none⟩ v').heap[b]? = w3.heap[b]? := fun b hb => Below.heap_setCell w3 _ v' b hb
  have kA : Ark w (w3.setCell ⟨SB, i, none⟩ v') := fun b cs' hb => by
    have hl := (Array.getElem?_eq_some_iff.1 hb).1
    rw [k4 b (fun e => by
      rw [e, c1] at hb
      simp only [Option.some.injEq, Obj.cells.injEq] at hb
      exact absurd hb.2.1 (by decide))]
    refine k3 b hl fun e => ?_
    obtain ⟨cur, hc⟩ := own_type (h.row i hi).own b e
    rw [hb] at hc
    simp only [Option.some.injEq, Obj.cells.injEq] at hc
    exact absurd hc.2.1 (by decide)
  have hvS : v'.ownBlock ≠ some SB := fun e => by
    obtain ⟨cur, hc⟩ := own_type ho SB e
    rw [c3'] at hc
    simp only [Option.some.injEq, Obj.cells.injEq] at hc
    exact absurd hc.2.1 (by decide)
  have kV : Ark wV (w3.setCell ⟨SB, i, none⟩ v') := fun b cs' hb => by
    have hl := (Array.getElem?_eq_some_iff.1 hb).1
    have e1 : b ≠ SB := fun e => by
      rw [e, hV.block SB hSB, c1] at hb
      simp only [Option.some.injEq, Obj.cells.injEq] at hb
      exact absurd hb.2.1 (by decide)
    rw [k4 b e1, hg.block b (Nat.lt_of_lt_of_le hl h2.size) (fun e => by
      obtain ⟨cur, hc⟩ := own_type (h.row i hi).own b e.symm
      have hbl : b < w.heap.size := (Array.getElem?_eq_some_iff.1 hc).1
      rw [hV.block b hbl, hc] at hb
      simp only [Option.some.injEq, Obj.cells.injEq] at hb
      exact absurd hb.2.1 (by decide))]
    exact h2.block b hl
  refine ⟨⟨⟨_, heap_setCell_same w3 SB i _ _ _ c3', by simpa using c2, fun j hj => ?_⟩, fun j hj => ?_, fun j k hj hk hjk b => ?_, fun j hj b => ?_, h.gS⟩, fun w0 hb0 => ?_⟩
  · rw [Array.getElem?_setIfInBounds]
    by_cases e : i = j
    · subst e
      rw [if_pos rfl, if_pos (by omega), updV_same]
    · rw [if_neg e, updV_ne _ _ (Ne.symm e)]
      exact c3 j hj
  · by_cases e : j = i
    · subst e
      rw [updV_same, updV_same, updV_same]
      refine (h.row j hj).snoc (own_same ho fun k hk _ => k4 k fun e => hvS (by rw [hk, e])) kA (hx.keep kV)
    · rw [updV_ne _ _ e, updV_ne _ _ e, updV_ne _ _ e]
      refine (h.row j hj).same (fun k hk hl => ?_) kA
      obtain ⟨cur, hc⟩ := own_type (h.row j hj).own k hk
      rw [k4 k (fun e => by
        rw [e, c1] at hc
        simp only [Option.some.injEq, Obj.cells.injEq] at hc
        exact absurd hc.2.1 (by decide))]
      exact k3 k hl (h.ne j i hj hi e k hk)
  · by_cases ej : j = i
    · subst ej
      rw [updV_same, updV_ne _ _ (Ne.symm hjk)]
      intro hb
      rcases hn b hb with h' | h'
      · exact h.ne j k hj hk hjk b h'
      · intro e
        have := own_lt (h.row k hk).own b e
        omega
    · rw [updV_ne _ _ ej]
      by_cases ek : k = i
      · subst ek
        rw [updV_same]
        intro hb e
        rcases hn b e with h' | h'
        · exact h.ne j k hj hk hjk b hb h'
        · have := own_lt (h.row j hj).own b hb
          omega
      · rw [updV_ne _ _ ek]
        exact h.ne j k hj hk hjk b
  · by_cases e : j = i
    · subst e
      rw [updV_same]
      intro hb
      rcases hn b hb with h' | h'
      · exact h.ge j hj b h'
      · have := h.gS
        omega
    · rw [updV_ne _ _ e]
      exact h.ge j hj b
  · have hBw : B ≤ w.heap.size := by have := h.gS; omega
    have b1 : Below B w0 W2 := (hb0.trans (hV.mono hBw)).trans (h2.mono (Nat.le_trans hBw hV.size))
    have b2 : Below B w0 w3 := b1.grown hg (Nat.le_trans hBw hsz) fun k hk => h.ge i hi k hk
    exact b2.setCell (p := ⟨SB, i, none⟩) h.gS v'
end
/-- One list more behind a list of lists of one's own, as one operation. -/
theorem appL {w : World} {o : Oper} {a : Act} {K : Act → World → Prop} {Q : Exit → Act → World → Prop} (s x : Operand)
    (ho : o.op = .call { callee := .builtin .append, args := #[s, x], argTypes := #[55, 55] })
    (v : Value) (l : List Value) (z : Value) (h1 : z.oneCell' = true) (hs : a.eval s = v) (hown : Sown w v l) (g : Nat) (hz : w.cell? ⟨g, 0, none⟩ = some z) (hx : a.eval x = .slice (some ⟨g, 0, none⟩) 1 1) (hlen : l.length ≤ 1000000)
    (h : ∀ v' w', Sown w' v' (l ++ [z]) → w.grownBy w' v.ownBlock → (∀ k, v'.ownBlock = some k → v.ownBlock = some k ∨ w.heap.size ≤ k) → K (a.put o.dst v') w') : o.wp Try.prog a w K Q := by
  obtain ⟨i0, hi, hz0, hz1, hz2⟩ := info_parts (P := Try.prog) (e := 22) (z := .slice none 0 0) (size := 1) (bytes := 24) (by kernel_rfl)
  have hnews : ∀ j u, ([z] : List Value)[j]? = some u → w.cell? ((⟨g, 0, none⟩ : Addr).add j) = some u := by
    intro j u hj
    cases j with
    | zero =>
      have e : (⟨g, 0, none⟩ : Addr).add 0 = ⟨g, 0, none⟩ := by unfold Addr.add; split <;> simp_all
      rw [e, hz]; simpa using hj
    | succ j => simp at hj
  obtain ⟨v', w', hr, r1, r2, r3⟩ := Mi.run_append_own2 (P := Try.prog) (w := w) 55 o.type 22 i0 (.slice none 0 0) 24 Try.underlying55 hi hz0 hz1 hz2 rfl v l.length l hown ⟨g, 0, none⟩ 1 1 [z] rfl hnews (by simpa using h1) (by unfold maxLen; omega) (by omega)
  unfold Oper.wp execOp
  simp only [ho, resolve, invoke, builtin, Sem.run_bind, Sem.run_pure, Result.andThen_ok, List.map_toArray, List.map_cons, List.map_nil, hs, hx, hr]
  refine h v' w' ?_ r2 r3
  unfold Sown
  rw [List.length_append]; exact r1
end Go.Proofs.Ytkanebolfmpnfaa.Rt
