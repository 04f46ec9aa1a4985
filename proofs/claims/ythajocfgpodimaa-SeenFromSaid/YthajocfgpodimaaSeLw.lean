/- A set whose lists lie apart: each in a block of F, with all of its room. -/
import Derived.Test.YthajocfgpodimaaZ11
namespace Go.Proofs.Ythajocfgpodimaa.Se
open Go.RowKit Go.Maps Go.WideElems
open Go.Proofs.Ythajocfgpodimaa.Me Go.Proofs.Ythajocfgpodimaa.Sb
set_option linter.unusedVariables false
set_option linter.unusedSimpArgs false

theorem lw_setCells (g : Nat) (T : TypeId) : ∀ (vs : List Value) (o : Nat) (w : World) (cur : Array Value), w.heap[g]? = some (.cells cur T (0, 0)) →
    ∃ cur', (w.setCells g o vs).heap[g]? = some (.cells cur' T (0, 0)) ∧ cur'.size = cur.size ∧ (∀ i, i < o ∨ o + vs.length ≤ i → cur'[i]? = cur[i]?) ∧ (∀ j, j < vs.length → o + j < cur.size → cur'[o + j]? = vs[j]?)
  | [], o, w, cur, h => ⟨cur, h, rfl, fun _ _ => rfl, fun j hj => absurd hj (by simp)⟩
  | v :: r, o, w, cur, h => by
    obtain ⟨cur', h1, h2, h3, h4⟩ := lw_setCells g T r (o + 1) (w.setCell ⟨g, o, none⟩ v) _ (heap_setCell_same w g o cur T v h)
    refine ⟨cur', h1, by rw [h2]; simp, fun i hi => ?_, fun j hj hs => ?_⟩
    · rw [h3 i (by simp only [List.length_cons] at hi; omega), Array.getElem?_setIfInBounds_ne (by simp only [List.length_cons] at hi; omega)]
    · cases j with
      | zero =>
        rw [h3 (o + 0) (by omega)]
        simp at hs ⊢
        simp [hs]
      | succ j =>
        have := h4 j (by simpa using hj) (by simp; omega)
        rw [show o + (j + 1) = o + 1 + j by omega, this]
        simp
theorem lw_butCells (w : World) (g o : Nat) (vs : List Value) : But (fun k => k = g) w (w.setCells g o vs) ∧ (w.setCells g o vs).heap.size = w.heap.size := by
  have hs : ∀ (vs : List Value) (o : Nat) (w : World), (w.setCells g o vs).heap.size = w.heap.size ∧ (w.setCells g o vs).os = w.os ∧ (w.setCells g o vs).tape = w.tape ∧ (w.setCells g o vs).output = w.output ∧ ∀ k, k ≠ g → (w.setCells g o vs).heap[k]? = w.heap[k]? := by
    intro vs
    induction vs with
    | nil => intro o w; exact ⟨rfl, rfl, rfl, rfl, fun _ _ => rfl⟩
    | cons v r ih =>
      intro o w
      obtain ⟨a1, a2, a3, a4, a5⟩ := ih (o + 1) (w.setCell ⟨g, o, none⟩ v)
      exact ⟨by rw [World.setCells, a1]; simp, a2, a3, a4, fun k hk => (a5 k hk).trans (Below.heap_setCell w ⟨g, o, none⟩ v k hk)⟩
  obtain ⟨a1, a2, a3, a4, a5⟩ := hs vs o w
  exact ⟨⟨a2, a3, a4, by omega, fun k _ hk => a5 k hk⟩, a1⟩
/-- A list in a block of F. -/
def Lw (F : Nat → Prop) (w : World) (A : Option Addr) (c : Nat) (l : List Int) : Prop :=
  l.length ≤ c ∧ c ≤ 9223372036854775807 ∧ (A = none → l = [] ∧ c = 0) ∧ ∀ a, A = some a → ∃ g off cur, a = ⟨g, off, none⟩ ∧ F g ∧ w.heap[g]? = some (.cells cur 3 (0, 0)) ∧ off + c ≤ cur.size ∧ ∀ i, i < l.length → cur[off + i]? = some (.int .i64 (l.getD i 0))
section
variable {F F' : Nat → Prop} {w w' : World} {A : Option Addr} {c : Nat} {l : List Int}
theorem Lw.sl (h : Lw F w A c l) : Sl w A c l :=
  ⟨h.1, h.2.1, h.2.2.1, fun a ha => by
    obtain ⟨g, off, cur, e, _, h1, _, h2⟩ := h.2.2.2 a ha
    exact ⟨g, off, e, ⟨cur, h1⟩, fun i hi => (cell_of_row w g _ _ _ (0, 0) h1).trans (h2 i hi)⟩⟩
theorem Lw.same (h : Lw F w A c l) (hk : ∀ a, A = some a → w'.heap[a.block]? = w.heap[a.block]?) : Lw F w' A c l :=
  ⟨h.1, h.2.1, h.2.2.1, fun a ha => by
    obtain ⟨g, off, cur, e, hF, h1, h2, h3⟩ := h.2.2.2 a ha
    refine ⟨g, off, cur, e, hF, ?_, h2, h3⟩
    have := hk a ha
    rw [e] at this
    exact this.trans h1⟩
/-- What it says of its block. -/
theorem Lw.blk (h : Lw F w A c l) {a : Addr} (ha : A = some a) : F a.block ∧ ∃ cur, w.heap[a.block]? = some (.cells cur 3 (0, 0)) := by
  obtain ⟨g, off, cur, e, hF, h1, h2, h3⟩ := h.2.2.2 a ha
  rw [e]
  exact ⟨hF, cur, h1⟩
theorem Lw.lt (h : Lw F w A c l) {a : Addr} (ha : A = some a) : a.block < w.heap.size := by
  obtain ⟨_, cur, h1⟩ := h.blk ha
  exact (Array.getElem?_eq_some_iff.1 h1).1
theorem Lw.mono (h : Lw F w A c l) (hF : ∀ k, k < w.heap.size → F k → F' k) : Lw F' w A c l :=
  ⟨h.1, h.2.1, h.2.2.1, fun a ha => by
    obtain ⟨g, off, cur, e, hf, h1, h2, h3⟩ := h.2.2.2 a ha
    exact ⟨g, off, cur, e, hF g (Array.getElem?_eq_some_iff.1 h1).1 hf, h1, h2, h3⟩⟩
theorem Lw.nil (F : Nat → Prop) (w : World) : Lw F w none 0 [] := ⟨Nat.le_refl _, by omega, fun _ => ⟨rfl, rfl⟩, fun a e => by cases e⟩
theorem Lw.of_own {B : Nat} {v : Value} (h : Mi.Own w B v l) (hF : ∀ k, B ≤ k → k < w.heap.size → F k) : ∃ A c, v = .slice A l.length c ∧ Lw F w A c l ∧ ∀ a, A = some a → B ≤ a.block := by
  rcases h.2 with ⟨h1, h2⟩ | ⟨g, cap, cur, h1, h2, h3, h4, h5, h6, h7⟩
  · have : l = [] := List.eq_nil_of_length_eq_zero h2
    subst this
    exact ⟨none, 0, h1, Lw.nil _ _, fun a e => by cases e⟩
  · refine ⟨_, cap, h1, ⟨h4, by unfold maxLen at h5; omega, fun e => (by cases e), fun a ha => ?_⟩, fun a ha => (by cases ha; exact h2)⟩
    cases ha
    refine ⟨g, 0, cur, rfl, hF g h2 (Array.getElem?_eq_some_iff.1 h3).1, h3, by omega, fun i hi => ?_⟩
    have e : (l.map Mi.iV)[i]? = some (.int .i64 (l.getD i 0)) := by simp [hi, Mi.iV]
    rw [← h7, List.getElem?_take, if_pos (by omega), Array.getElem?_toList] at e
    rw [Nat.zero_add]
    exact e
end
/-- What leaves F's blocks of numbers alone. -/
def IntsF (F : Nat → Prop) (w w' : World) : Prop := ∀ (k : Nat) (cs : Array Value), F k → w.heap[k]? = some (.cells cs 3 (0, 0)) → w'.heap[k]? = w.heap[k]?
theorem IntsF.refl (F : Nat → Prop) (w : World) : IntsF F w w := fun _ _ _ _ => rfl
theorem IntsF.of (F : Nat → Prop) {w w' : World} (h : Ints w w') : IntsF F w w' := fun k cs _ hk => h k cs hk
theorem IntsF.below {F : Nat → Prop} {w w' : World} (h : Below w.heap.size w w') : IntsF F w w' := IntsF.of F (Ints.below h)
theorem IntsF.but {F S : Nat → Prop} {w w' : World} (h : But S w w') (hS : ∀ (k : Nat) (cs : Array Value), F k → w.heap[k]? = some (.cells cs 3 (0, 0)) → ¬ S k) : IntsF F w w' := fun k cs hf hk => h.same k (Array.getElem?_eq_some_iff.1 hk).1 (hS k cs hf hk)
theorem Lw.keep {F : Nat → Prop} {w w' : World} {A : Option Addr} {c : Nat} {l : List Int} (h : Lw F w A c l) (hi : IntsF F w w') : Lw F w' A c l := h.same fun a ha => by
  obtain ⟨hF, cur, h1⟩ := h.blk ha
  exact hi _ cur hF h1
def mkV (u : Int) (A : Option Addr) (n c : Nat) : Value := .agg #[.int .i64 u, .slice A n c]
structure VwL (F : Nat → Prop) (w : World) (D : DataW Value) (kept : Int → Int → Option Mk) : Prop where
  keys : ∀ l : Lit, Maps.has D l = true → ∃ o e, l = kl o e ∧ Pp o e ∧ kept o e ≠ none
  no : ∀ o e, Pp o e → kept o e = none → Maps.has D (kl o e) = false
  yes : ∀ o e m, Pp o e → kept o e = some m → Maps.has D (kl o e) = true ∧ ∃ A c, (∀ z, D.atKey (kl o e) z = .held (mkV m.up A m.more.length c)) ∧ Lw F w A c m.more
  sep : ∀ o e o' e', Pp o e → Pp o' e' → ¬ (o = o' ∧ e = e') → ∀ u A n c u' A' n' c', (∀ z, D.atKey (kl o e) z = .held (mkV u A n c)) → (∀ z, D.atKey (kl o' e') z = .held (mkV u' A' n' c')) → ∀ a a', A = some a → A' = some a' → a.block ≠ a'.block
def MpL (F : Nat → Prop) (w : World) (b n : Nat) (kept : Int → Int → Option Mk) : Prop := ∃ D, w.ownsMap Try.prog 63 RV b n D ∧ VwL F w D kept
section
variable {F F' : Nat → Prop} {w w' : World} {b n : Nat} {kept : Int → Int → Option Mk}
theorem MpL.mp (h : MpL F w b n kept) : Mp w false b n kept := by
  obtain ⟨D, h1, h2⟩ := h
  refine ⟨D, h1, h2.keys, h2.no, fun o e m hp hk => ?_⟩
  obtain ⟨h3, A, c, h4, h5⟩ := h2.yes o e m hp hk
  exact ⟨h3, _, h4, A, c, rfl, fun e => (by cases e), h5.sl⟩
theorem MpL.lt (h : MpL F w b n kept) : b < w.heap.size := h.mp.lt
theorem MpL.isMap (h : MpL F w b n kept) : ∃ es c, w.heap[b]? = some (.map es c) := h.mp.isMap
theorem MpL.keep (h : MpL F w b n kept) (hb : w'.heap[b]? = w.heap[b]?) (hi : IntsF F w w') (hF : ∀ k, k < w.heap.size → F k → F' k) : MpL F' w' b n kept := by
  obtain ⟨D, ⟨es, clock, hb', r⟩, hv⟩ := h
  refine ⟨D, ⟨es, clock, hb.trans hb', r⟩, hv.keys, hv.no, fun o e m hp hk => ?_, hv.sep⟩
  obtain ⟨h3, A, c, h4, h5⟩ := hv.yes o e m hp hk
  exact ⟨h3, A, c, h4, (h5.mono hF).same fun a ha => by
    obtain ⟨hf, cur, hc⟩ := h5.blk ha
    exact hi _ cur hf hc⟩
theorem MpL.made (F : Nat → Prop) (w : World) : MpL F (w.alloc (.map #[] 0)) w.heap.size 0 fun _ _ => none := by
  refine ⟨.map [], World.ownsMap_made w Try.prog 63 RV, fun l hl => ?_, fun o e _ _ => rfl, fun o e m _ hk => (by cases hk), fun o e o' e' _ _ _ u A n c u' A' n' c' h1 _ => ?_⟩
  · simp [Maps.has] at hl
  · have e : ∀ z, DataW.atKey (DataW.map ([] : List (Lit × DataW Value))) (kl o e) z = z := fun z => rfl
    have := h1 (.held (.int .i64 0))
    rw [e] at this
    cases this
/-- 'm[k]': what is read, and what becomes of the map behind a store where nothing but that list's block was turned. -/
theorem MpL.at_ (h : MpL F w b n kept) {o e : Int} (hp : Pp o e) :
    ∃ A c, Lw F w A c (getM kept o e).more ∧ (∀ W : World, W.heap[b]? = w.heap[b]? → (Instr.lookup 59 (.map (some b)) (.agg #[.int .i64 o, .int .i64 e]) false).run Try.prog W = .ok (mkV (getM kept o e).up A (getM kept o e).more.length c) W) ∧
      ∀ (w1 : World) (m : Mk) (A' : Option Addr) (c' : Nat), w1.heap[b]? = w.heap[b]? → (∀ (k : Nat) (cs : Array Value), F k → w.heap[k]? = some (.cells cs 3 (0, 0)) → ¬ (∃ a, A = some a ∧ a.block = k) → w1.heap[k]? = w.heap[k]?) → Lw F w1 A' c' m.more → (∀ a', A' = some a' → (∃ a, A = some a ∧ a.block = a'.block) ∨ w.heap.size ≤ a'.block) → n ≤ 1000000000 →
        ∃ w2, (Instr.mapUpdate 59 (.map (some b)) (.agg #[.int .i64 o, .int .i64 e]) (mkV m.up A' m.more.length c')).run Try.prog w1 = .ok () w2 ∧ MpL F w2 b (n + 1) (setM kept o e m) ∧ But (fun k => k = b) w1 w2 ∧ w2.heap.size = w1.heap.size := by
  obtain ⟨D, how, hv⟩ := h
  have hlt : b < w.heap.size := how.lt
  have hmap : ∃ es c, w.heap[b]? = some (.map es c) := by
    obtain ⟨es, clock, hb, _⟩ := how
    exact ⟨es, clock, hb⟩
  have own : ∀ W : World, W.heap[b]? = w.heap[b]? → W.ownsMap Try.prog 63 RV b n D := fun W hW => by
    obtain ⟨es, clock, hb, r⟩ := how
    exact ⟨es, clock, hW.trans hb, r⟩
  have fin : ∀ (A : Option Addr) (c : Nat), Lw F w A c (getM kept o e).more →
      (∀ o' e', Pp o' e' → ¬ (o' = o ∧ e' = e) → ∀ u' A' n' c', (∀ z, D.atKey (kl o' e') z = .held (mkV u' A' n' c')) → ∀ a a', A = some a → A' = some a' → a.block ≠ a'.block) →
      ∀ (w1 : World) (m : Mk) (A' : Option Addr) (c' : Nat), w1.heap[b]? = w.heap[b]? → (∀ (k : Nat) (cs : Array Value), F k → w.heap[k]? = some (.cells cs 3 (0, 0)) → ¬ (∃ a, A = some a ∧ a.block = k) → w1.heap[k]? = w.heap[k]?) → Lw F w1 A' c' m.more → (∀ a', A' = some a' → (∃ a, A = some a ∧ a.block = a'.block) ∨ w.heap.size ≤ a'.block) → n ≤ 1000000000 →
        ∃ w2, (Instr.mapUpdate 59 (.map (some b)) (.agg #[.int .i64 o, .int .i64 e]) (mkV m.up A' m.more.length c')).run Try.prog w1 = .ok () w2 ∧ MpL F w2 b (n + 1) (setM kept o e m) ∧ But (fun k => k = b) w1 w2 ∧ w2.heap.size = w1.heap.size := by
    intro A c hA hsep w1 m A' c' h1 h2 h3 h4 hn
    have how1 := own w1 h1
    obtain ⟨w2, r1, r2, r3⟩ := how1.store keyed Try.underlying59 (by unfold maxLen; omega) (key_of hp) (val := mkV m.up A' m.more.length c') (d := .held (mkV m.up A' m.more.length c')) (ps := []) rfl
    obtain ⟨b1, b2⟩ := but_turned r3
    have hI := how1.isMap
    have keepL : ∀ {A : Option Addr} {c : Nat} {l : List Int}, Lw F w1 A c l → Lw F w2 A c l := fun hl => hl.same fun a ha => b1.same a.block (hl.lt ha) fun e => by
      obtain ⟨_, cur, hc⟩ := hl.blk ha
      obtain ⟨es, cc, hm⟩ := hmap
      rw [e, h1, hm] at hc
      cases hc
    refine ⟨w2, r1, ⟨_, r2, fun l hl => ?_, fun a b hab hk => ?_, fun a b q hab hk => ?_, fun a1 e1 a2 e2 p1 p2 hne u B nn cc u' B' nn' cc' q1 q2 x x' hx hx' => ?_⟩, b1, b2⟩
    · by_cases he : l = kl o e
      · exact ⟨o, e, he, hp, by simp [setM]⟩
      · rw [has_put_other he] at hl
        obtain ⟨a, b, e1, e2, e3⟩ := hv.keys l hl
        refine ⟨a, b, e1, e2, ?_⟩
        unfold setM
        split
        · simp
        · exact e3
    · unfold setM at hk
      split at hk
      · cases hk
      · rename_i hne
        rw [has_put_other (fun he => hne (kl_inj hab hp he))]
        exact hv.no a b hab hk
    · unfold setM at hk
      split at hk
      · rename_i he
        cases hk
        obtain ⟨rfl, rfl⟩ := he
        exact ⟨has_put_same hI (key_lit _ _) _, A', c', fun z => atKey_put_same hI (key_lit _ _) _ _, keepL h3⟩
      · rename_i hne
        have hk' : kl a b ≠ kl o e := fun he => hne (kl_inj hab hp he)
        obtain ⟨y1, B, cc, y2, y3⟩ := hv.yes a b q hab hk
        refine ⟨by rw [has_put_other hk']; exact y1, B, cc, fun z => by rw [atKey_put_other hk']; exact y2 z, keepL (y3.same fun x hx => ?_)⟩
        obtain ⟨hF, cur, hc⟩ := y3.blk hx
        refine h2 x.block cur hF hc fun ⟨a0, ha0, hb0⟩ => ?_
        exact hsep a b hab hne _ _ _ _ y2 a0 x ha0 hx hb0
    · -- apart
      have oth : ∀ a3 e3, Pp a3 e3 → ¬ (a3 = o ∧ e3 = e) → ∀ u3 B3 n3 c3, (∀ z, DataW.atKey (D.put (kl o e) (.held (mkV m.up A' m.more.length c'))) (kl a3 e3) z = .held (mkV u3 B3 n3 c3)) → (∀ z, D.atKey (kl a3 e3) z = .held (mkV u3 B3 n3 c3)) := fun a3 e3 p3 hn3 u3 B3 n3 c3 q3 z => by
        have := q3 z
        rwa [atKey_put_other (fun he => hn3 (kl_inj p3 hp he))] at this
      have new : ∀ a3 e3, Pp a3 e3 → ¬ (a3 = o ∧ e3 = e) → ∀ u3 B3 n3 c3, (∀ z, D.atKey (kl a3 e3) z = .held (mkV u3 B3 n3 c3)) → ∀ x' y, A' = some x' → B3 = some y → x'.block ≠ y.block := fun a3 e3 p3 hn3 u3 B3 n3 c3 q3 x' y hx' hy heq => by
        rcases h4 x' hx' with ⟨a0, ha0, hb0⟩ | hge
        · exact hsep a3 e3 p3 hn3 _ _ _ _ q3 a0 y ha0 hy (hb0.trans heq)
        · cases hk : kept a3 e3 with
          | none =>
            have hh := hv.no a3 e3 p3 hk
            have := q3 (.held (.int .i64 0))
            rw [atKey_of_not_has hh] at this
            cases this
          | some m3 =>
            obtain ⟨_, B4, c4, y2, y3⟩ := hv.yes a3 e3 m3 p3 hk
            have := (y2 (.held (.int .i64 0))).symm.trans (q3 (.held (.int .i64 0)))
            simp only [DataW.held.injEq, mkV, Value.agg.injEq] at this
            have e4 : B4 = B3 := by
              have h5 := congrArg (fun a => a[1]?) this
              simp at h5
              exact h5.1
            have := y3.lt (e4.trans hy)
            omega
      have same : ∀ u3 B3 n3 c3, (∀ z, DataW.atKey (D.put (kl o e) (.held (mkV m.up A' m.more.length c'))) (kl o e) z = .held (mkV u3 B3 n3 c3)) → B3 = A' := fun u3 B3 n3 c3 q3 => by
        have := q3 (.held (.int .i64 0))
        rw [atKey_put_same hI (key_lit _ _)] at this
        simp only [DataW.held.injEq, mkV, Value.agg.injEq] at this
        have h5 := congrArg (fun a => a[1]?) this
        simp at h5
        exact h5.1.symm
      by_cases h5 : a1 = o ∧ e1 = e
      · obtain ⟨rfl, rfl⟩ := h5
        have eB := same _ _ _ _ q1
        have hn2 : ¬ (a2 = a1 ∧ e2 = e1) := fun h => hne ⟨h.1.symm, h.2.symm⟩
        exact new a2 e2 p2 hn2 _ _ _ _ (oth a2 e2 p2 hn2 _ _ _ _ q2) x x' (eB ▸ hx) hx'
      · by_cases h6 : a2 = o ∧ e2 = e
        · obtain ⟨rfl, rfl⟩ := h6
          have eB := same _ _ _ _ q2
          exact fun heq => new a1 e1 p1 h5 _ _ _ _ (oth a1 e1 p1 h5 _ _ _ _ q1) x' x (eB ▸ hx') hx heq.symm
        · exact hv.sep a1 e1 a2 e2 p1 p2 hne _ _ _ _ _ _ _ _ (oth a1 e1 p1 h5 _ _ _ _ q1) (oth a2 e2 p2 h6 _ _ _ _ q2) x x' hx hx'
  cases hk : kept o e with
  | none =>
    have eg : getM kept o e = ⟨0, []⟩ := by unfold getM; rw [hk]; rfl
    refine ⟨none, 0, by rw [eg]; exact Lw.nil _ _, fun W hW => ?_, fin none 0 (by rw [eg]; exact Lw.nil _ _) fun _ _ _ _ _ _ _ _ _ a a' ha _ => by cases ha⟩
    obtain ⟨v, ps, h1, h2⟩ := (own W hW).lookup keyed Try.underlying59 (zeroMk W) (zd := .held (.agg #[.int .i64 0, .slice none 0 0])) (zp := []) rfl (key_of hp)
    rw [atKey_of_not_has (hv.no o e hp hk)] at h2
    simp only [Option.some.injEq, Prod.mk.injEq, DataW.held.injEq] at h2
    rw [h2.1] at h1
    rw [eg]
    exact h1
  | some m =>
    have eg : getM kept o e = m := by unfold getM; rw [hk]; rfl
    obtain ⟨hh, A, c, h3, h4⟩ := hv.yes o e m hp hk
    refine ⟨A, c, by rw [eg]; exact h4, fun W hW => ?_, fin A c (by rw [eg]; exact h4) fun o' e' p' hn' u' A' n' c' q a a' ha ha' heq => hv.sep o' e' o e p' hp hn' _ _ _ _ _ _ _ _ q h3 a' a ha' ha heq.symm⟩
    obtain ⟨v', ps, h1, h2⟩ := (own W hW).lookup keyed Try.underlying59 (zeroMk W) (zd := .held (.agg #[.int .i64 0, .slice none 0 0])) (zp := []) rfl (key_of hp)
    rw [h3] at h2
    simp only [Option.some.injEq, Prod.mk.injEq, DataW.held.injEq] at h2
    rw [h2.1] at h1
    rw [eg]
    exact h1
end
/-- A set whose lists lie apart, in blocks of F. -/
structure SetL (F : Nat → Prop) (w : World) (D b n : Nat) (s : St) : Prop where
  box : w.heap[D]? = some (.cells #[.int .i64 s.room, .int .i64 s.gaps, .map (some b)] 61 (0, 0))
  map : MpL F w b n s.kept
  ok : Okk s
section
variable {F F' : Nat → Prop} {w w' : World} {D b n : Nat} {s : St}
theorem SetL.set (h : SetL F w D b n s) : Set w false D b n s := ⟨h.box, h.map.mp, h.ok⟩
theorem SetL.keep (h : SetL F w D b n s) (hD : w'.heap[D]? = w.heap[D]?) (hb : w'.heap[b]? = w.heap[b]?) (hi : IntsF F w w') (hF : ∀ k, k < w.heap.size → F k → F' k) : SetL F' w' D b n s := ⟨hD.trans h.box, h.map.keep hb hi hF, h.ok⟩
theorem SetL.lt (h : SetL F w D b n s) : D < w.heap.size ∧ b < w.heap.size := h.set.lt
theorem SetL.ne (h : SetL F w D b n s) : D ≠ b := h.set.ne
theorem SetL.below (h : SetL F w D b n s) (hb : Below w.heap.size w w') : SetL F w' D b n s := h.keep (hb.block _ h.lt.1) (hb.block _ h.lt.2) (IntsF.below hb) fun _ _ h => h
/-- A new set. -/
theorem SetL.of_new {t : Bool} {g : Int} (F : Nat → Prop) (h : Set w t D b n ⟨g, 0, fun _ _ => none⟩) : SetL F w D b n ⟨g, 0, fun _ _ => none⟩ := by
  obtain ⟨D0, q1, q2⟩ := h.map
  refine ⟨h.box, ⟨D0, q1, ⟨q2.keys, q2.no, fun o e m hp hk => (by cases hk), fun o e o' e' hp _ _ u A n c u' A' n' c' h1 _ => ?_⟩⟩, h.ok⟩
  have hno := q2.no o e hp rfl
  have := h1 (.held (.int .i64 0))
  rw [atKey_of_not_has hno] at this
  cases this
end
end Go.Proofs.Ythajocfgpodimaa.Se
