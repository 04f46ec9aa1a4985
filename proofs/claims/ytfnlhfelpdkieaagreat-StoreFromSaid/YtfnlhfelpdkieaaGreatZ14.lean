/- A set whose lists lie apart: each in a block of F, with all of its room. -/
import Derived.Test.YtfnlhfelpdkieaaGreatZ13
import Derived.Test.YtfnlhfelpdkieaaGreatZ7
import Derived.Test.YtfnlhfelpdkieaaGreatZ4
import Derived.Test.YtfnlhfelpdkieaaGreatZ6
import Derived.Deep.MidRow
namespace Go.Proofs.YtfnlhfelpdkieaaGreat.Se
open Go.RowKit Go.Maps Go.WideElems
open Go.Proofs.YtfnlhfelpdkieaaGreat.Me Go.Proofs.YtfnlhfelpdkieaaGreat.Sb
set_option linter.unusedVariables false
set_option linter.unusedSimpArgs false

theorem lw_setCells (g : Nat) (T : TypeId) : ∀ (vs : List Value) (o : Nat) (w : World) (cur : Array Value), w.heap[g]? = some (.cells cur T (0, 0)) →
    ∃ cur', (w.setCells g o vs).heap[g]? = some (.cells cur' T (0, 0)) ∧ cur'.size = cur.size ∧ (∀ i, i < o ∨ o + vs.length ≤ i → cur'[i]? = cur[i]?) ∧ (∀ j, j < vs.length → o + j < cur.size → cur'[o + j]? = vs[j]?)
  | [], o, w, cur, h => ⟨cur, h, rfl, fun _ _ => rfl, fun j hj => absurd hj (by simp)⟩
  | v :: r, o, w, cur, h => by
    obtain ⟨cur', h1, h2, h3, h4⟩ := lw_setCells g T r (o + 1) (w.setCell ⟨g, o, none⟩ v) _ (heap_setCell_same w g o cur T v h)
    refine ⟨cur', h1, by rw [h2]; simp, fun i hi => ?_, fun j hj hs => ?_⟩
    · rw [h3 i (by simp only [List.length_cons] at hi; omega), Array.getElem?_setIfInBounds_ne (by simp only [List.length_cons] at hi; omega)]
    · cases j with
      | zero =>
        rw [h3 (o + 0) (by omega)]
        simp at hs ⊢
        simp [hs]
      | succ j =>
        have := h4 j (by simpa using hj) (by simp; omega)
        rw [show o + (j + 1) = o + 1 + j by omega, this]
        simp
theorem lw_butCells (w : World) (g o : Nat) (vs : List Value) : But (fun k => k = g) w (w.setCells g o vs) ∧ (w.setCells g o vs).heap.size = w.heap.size := by
  have hs : ∀ (vs : List Value) (o : Nat) (w : World), (w.setCells g o vs).heap.size = w.heap.size ∧ (w.setCells g o vs).os = w.os ∧ (w.setCells g o vs).tape = w.tape ∧ (w.setCells g o vs).output = w.output ∧ ∀ k, k ≠ g → (w.setCells g o vs).heap[k]? = w.heap[k]? := by
    intro vs
    induction vs with
    | nil => intro o w; exact ⟨rfl, rfl, rfl, rfl, fun _ _ => rfl⟩
    | cons v r ih =>
      intro o w
      obtain ⟨a1, a2, a3, a4, a5⟩ := ih (o + 1) (w.setCell ⟨g, o, none⟩ v)
      exact ⟨by rw [World.setCells, a1]; simp, a2, a3, a4, fun k hk => (a5 k hk).trans (Below.heap_setCell w ⟨g, o, none⟩ v k hk)⟩
  obtain ⟨a1, a2, a3, a4, a5⟩ := hs vs o w
  exact ⟨⟨a2, a3, a4, by omega, fun k _ hk => a5 k hk⟩, a1⟩
/-- A list in a block of F. -/
def Lw (F : Nat → Prop) (w : World) (A : Option Addr) (c : Nat) (l : List Int) : Prop :=
  l.length ≤ c ∧ c ≤ 9223372036854775807 ∧ (A = none → l = [] ∧ c = 0) ∧ ∀ a, A = some a → ∃ g off cur, a = ⟨g, off, none⟩ ∧ F g ∧ w.heap[g]? = some (.cells cur 3 (0, 0)) ∧ off + c ≤ cur.size ∧ ∀ i, i < l.length → cur[off + i]? = some (.int .i64 (l.getD i 0))
section
variable {F F' : Nat → Prop} {w w' : World} {A : Option Addr} {c : Nat} {l : List Int}
theorem Lw.sl (h : Lw F w A c l) : Sl w A c l :=
  ⟨h.1, h.2.1, h.2.2.1, fun a ha => by
    obtain ⟨g, off, cur, e, _, h1, _, h2⟩ := h.2.2.2 a ha
    exact ⟨g, off, e, ⟨cur, h1⟩, fun i hi => (cell_of_row w g _ _ _ (0, 0) h1).trans (h2 i hi)⟩⟩
theorem Lw.same (h : Lw F w A c l) (hk : ∀ a, A = some a → w'.heap[a.block]? = w.heap[a.block]?) : Lw F w' A c l :=
  ⟨h.1, h.2.1, h.2.2.1, fun a ha => by
    obtain ⟨g, off, cur, e, hF, h1, h2, h3⟩ := h.2.2.2 a ha
    refine ⟨g, off, cur, e, hF, ?_, h2, h3⟩
    have := hk a ha
    rw [e] at this
    exact this.trans h1⟩
/-- What it says of its block. -/
theorem Lw.blk (h : Lw F w A c l) {a : Addr} (ha : A = some a) : F a.block ∧ ∃ cur, w.heap[a.block]? = some (.cells cur 3 (0, 0)) := by
  obtain ⟨g, off, cur, e, hF, h1, h2, h3⟩ := h.2.2.2 a ha
  rw [e]
  exact ⟨hF, cur, h1⟩
theorem Lw.lt (h : Lw F w A c l) {a : Addr} (ha : A = some a) : a.block < w.heap.size := by
  obtain ⟨_, cur, h1⟩ := h.blk ha
  exact (Array.getElem?_eq_some_iff.1 h1).1
theorem Lw.mono (h : Lw F w A c l) (hF : ∀ k, k < w.heap.size → F k → F' k) : Lw F' w A c l :=
  ⟨h.1, h.2.1, h.2.2.1, fun a ha => by
    obtain ⟨g, off, cur, e, hf, h1, h2, h3⟩ := h.2.2.2 a ha
    exact ⟨g, off, cur, e, hF g (Array.getElem?_eq_some_iff.1 h1).1 hf, h1, h2, h3⟩⟩
theorem Lw.nil (F : Nat → Prop) (w : World) : Lw F w none 0 [] := ⟨Nat.le_refl _, by omega, fun _ => ⟨rfl, rfl⟩, fun a e => by cases e⟩
theorem Lw.of_own {B : Nat} {v : Value} (h : Mi.Own w B v l) (hF : ∀ k, B ≤ k → k < w.heap.size → F k) : ∃ A c, v = .slice A l.length c ∧ Lw F w A c l ∧ ∀ a, A = some a → B ≤ a.block := by
  rcases h.2 with ⟨h1, h2⟩ | ⟨g, cap, cur, h1, h2, h3, h4, h5, h6, h7⟩
  · have : l = [] := List.eq_nil_of_length_eq_zero h2
    subst this
    exact ⟨none, 0, h1, Lw.nil _ _, fun a e => by cases e⟩
  · refine ⟨_, cap, h1, ⟨h4, by unfold maxLen at h5; omega, fun e => (by cases e), fun a ha => ?_⟩, fun a ha => (by cases ha; exact h2)⟩
    cases ha
    refine ⟨g, 0, cur, rfl, hF g h2 (Array.getElem?_eq_some_iff.1 h3).1, h3, by omega, fun i hi => ?_⟩
    have e : (l.map Mi.iV)[i]? = some (.int .i64 (l.getD i 0)) := by simp [hi, Mi.iV]
    rw [← h7, List.getElem?_take, if_pos (by omega), Array.getElem?_toList] at e
    rw [Nat.zero_add]
    exact e
end
/-- What leaves F's blocks of numbers alone. -/
def IntsF (F : Nat → Prop) (w w' : World) : Prop := ∀ (k : Nat) (cs : Array Value), F k → w.heap[k]? = some (.cells cs 3 (0, 0)) → w'.heap[k]? = w.heap[k]?
theorem IntsF.refl (F : Nat → Prop) (w : World) : IntsF F w w := fun _ _ _ _ => rfl
theorem IntsF.of (F : Nat → Prop) {w w' : World} (h : Ints w w') : IntsF F w w' := fun k cs _ hk => h k cs hk
theorem IntsF.below {F : Nat → Prop} {w w' : World} (h : Below w.heap.size w w') : IntsF F w w' := IntsF.of F (Ints.below h)
theorem IntsF.but {F S : Nat → Prop} {w w' : World} (h : But S w w') (hS : ∀ (k : Nat) (cs : Array Value), F k → w.heap[k]? = some (.cells cs 3 (0, 0)) → ¬ S k) : IntsF F w w' := fun k cs hf hk => h.same k (Array.getElem?_eq_some_iff.1 hk).1 (hS k cs hf hk)
theorem Lw.keep {F : Nat → Prop} {w w' : World} {A : Option Addr} {c : Nat} {l : List Int} (h : Lw F w A c l) (hi : IntsF F w w') : Lw F w' A c l := h.same fun a ha => by
  obtain ⟨hF, cur, h1⟩ := h.blk ha
  exact hi _ cur hF h1
def mkV (u : Int) (A : Option Addr) (n c : Nat) : Value := .agg #[.int .i64 u, .slice A n c]
structure VwL (F : Nat → Prop) (w : World) (D : DataW Value) (kept : Int → Int → Option Mk) : Prop where
  keys : ∀ l : Lit, Maps.has D l = true → ∃ o e, l = kl o e ∧ Pp o e ∧ kept o e ≠ none
  no : ∀ o e, Pp o e → kept o e = none → Maps.has D (kl o e) = false
  yes : ∀ o e m, Pp o e → kept o e = some m → Maps.has D (kl o e) = true ∧ ∃ A c, (∀ z, D.atKey (kl o e) z = .held (mkV m.up A m.more.length c)) ∧ Lw F w A c m.more
  sep : ∀ o e o' e', Pp o e → Pp o' e' → ¬ (o = o' ∧ e = e') → ∀ u A n c u' A' n' c', (∀ z, D.atKey (kl o e) z = .held (mkV u A n c)) → (∀ z, D.atKey (kl o' e') z = .held (mkV u' A' n' c')) → ∀ a a', A = some a → A' = some a' → a.block ≠ a'.block
def MpL (F : Nat → Prop) (w : World) (b n : Nat) (kept : Int → Int → Option Mk) : Prop := ∃ D, w.ownsMap Tryz.prog 128 RV b n D ∧ VwL F w D kept
section
variable {F F' : Nat → Prop} {w w' : World} {b n : Nat} {kept : Int → Int → Option Mk}
theorem MpL.mp (h : MpL F w b n kept) : Mp w false b n kept := by
  obtain ⟨D, h1, h2⟩ := h
  refine ⟨D, h1, h2.keys, h2.no, fun o e m hp hk => ?_⟩
  obtain ⟨h3, A, c, h4, h5⟩ := h2.yes o e m hp hk
  exact ⟨h3, _, h4, A, c, rfl, fun e => (by cases e), h5.sl⟩
theorem MpL.lt (h : MpL F w b n kept) : b < w.heap.size := h.mp.lt
theorem MpL.isMap (h : MpL F w b n kept) : ∃ es c, w.heap[b]? = some (.map es c) := h.mp.isMap
theorem MpL.keep (h : MpL F w b n kept) (hb : w'.heap[b]? = w.heap[b]?) (hi : IntsF F w w') (hF : ∀ k, k < w.heap.size → F k → F' k) : MpL F' w' b n kept := by
  obtain ⟨D, ⟨es, clock, hb', r⟩, hv⟩ := h
  refine ⟨D, ⟨es, clock, hb.trans hb', r⟩, hv.keys, hv.no, fun o e m hp hk => ?_, hv.sep⟩
  obtain ⟨h3, A, c, h4, h5⟩ := hv.yes o e m hp hk
  exact ⟨h3, A, c, h4, (h5.mono hF).same fun a ha => by
    obtain ⟨hf, cur, hc⟩ := h5.blk ha
    exact hi _ cur hf hc⟩
theorem MpL.made (F : Nat → Prop) (w : World) : MpL F (w.alloc (.map #[] 0)) w.heap.size 0 fun _ _ => none := by
  refine ⟨.map [], World.ownsMap_made w Tryz.prog 128 RV, fun l hl => ?_, fun o e _ _ => rfl, fun o e m _ hk => (by cases hk), fun o e o' e' _ _ _ u A n c u' A' n' c' h1 _ => ?_⟩
  · simp [Maps.has] at hl
  · have e : ∀ z, DataW.atKey (DataW.map ([] : List (Lit × DataW Value))) (kl o e) z = z := fun z => rfl
    have := h1 (.held (.int .i64 0))
    rw [e] at this
    cases this
/-- 'm[k]': what is read, and what becomes of the map behind a store where nothing but that list's block was turned. -/
theorem MpL.at_ (h : MpL F w b n kept) {o e : Int} (hp : Pp o e) :
    ∃ A c, Lw F w A c (getM kept o e).more ∧ (∀ W : World, W.heap[b]? = w.heap[b]? → (Instr.lookup 115 (.map (some b)) (.agg #[.int .i64 o, .int .i64 e]) false).run Tryz.prog W = .ok (mkV (getM kept o e).up A (getM kept o e).more.length c) W) ∧
      ∀ (w1 : World) (m : Mk) (A' : Option Addr) (c' : Nat), w1.heap[b]? = w.heap[b]? → (∀ (k : Nat) (cs : Array Value), F k → w.heap[k]? = some (.cells cs 3 (0, 0)) → ¬ (∃ a, A = some a ∧ a.block = k) → w1.heap[k]? = w.heap[k]?) → Lw F w1 A' c' m.more → (∀ a', A' = some a' → (∃ a, A = some a ∧ a.block = a'.block) ∨ w.heap.size ≤ a'.block) → n ≤ 1000000000 →
        ∃ w2, (Instr.mapUpdate 115 (.map (some b)) (.agg #[.int .i64 o, .int .i64 e]) (mkV m.up A' m.more.length c')).run Tryz.prog w1 = .ok () w2 ∧ MpL F w2 b (n + 1) (setM kept o e m) ∧ But (fun k => k = b) w1 w2 ∧ w2.heap.size = w1.heap.size := by
  obtain ⟨D, how, hv⟩ := h
  have hlt : b < w.heap.size := how.lt
  have hmap : ∃ es c, w.heap[b]? = some (.map es c) := by
    obtain ⟨es, clock, hb, _⟩ := how
    exact ⟨es, clock, hb⟩
  have own : ∀ W : World, W.heap[b]? = w.heap[b]? → W.ownsMap Tryz.prog 128 RV b n D := fun W hW => by
    obtain ⟨es, clock, hb, r⟩ := how
    exact ⟨es, clock, hW.trans hb, r⟩
  have fin : ∀ (A : Option Addr) (c : Nat), Lw F w A c (getM kept o e).more →
      (∀ o' e', Pp o' e' → ¬ (o' = o ∧ e' = e) → ∀ u' A' n' c', (∀ z, D.atKey (kl o' e') z = .held (mkV u' A' n' c')) → ∀ a a', A = some a → A' = some a' → a.block ≠ a'.block) →
      ∀ (w1 : World) (m : Mk) (A' : Option Addr) (c' : Nat), w1.heap[b]? = w.heap[b]? → (∀ (k : Nat) (cs : Array Value), F k → w.heap[k]? = some (.cells cs 3 (0, 0)) → ¬ (∃ a, A = some a ∧ a.block = k) → w1.heap[k]? = w.heap[k]?) → Lw F w1 A' c' m.more → (∀ a', A' = some a' → (∃ a, A = some a ∧ a.block = a'.block) ∨ w.heap.size ≤ a'.block) → n ≤ 1000000000 →
        ∃ w2, (Instr.mapUpdate 115 (.map (some b)) (.agg #[.int .i64 o, .int .i64 e]) (mkV m.up A' m.more.length c')).run Tryz.prog w1 = .ok () w2 ∧ MpL F w2 b (n + 1) (setM kept o e m) ∧ But (fun k => k = b) w1 w2 ∧ w2.heap.size = w1.heap.size := by
    intro A c hA hsep w1 m A' c' h1 h2 h3 h4 hn
    have how1 := own w1 h1
    obtain ⟨w2, r1, r2, r3⟩ := how1.store keyed Tryz.underlying115 (by unfold maxLen; omega) (key_of hp) (val := mkV m.up A' m.more.length c') (d := .held (mkV m.up A' m.more.length c')) (ps := []) rfl
    obtain ⟨b1, b2⟩ := but_turned r3
    have hI := how1.isMap
    have keepL : ∀ {A : Option Addr} {c : Nat} {l : List Int}, Lw F w1 A c l → Lw F w2 A c l := fun hl => hl.same fun a ha => b1.same a.block (hl.lt ha) fun e => by
      obtain ⟨_, cur, hc⟩ := hl.blk ha
      obtain ⟨es, cc, hm⟩ := hmap
      rw [e, h1, hm] at hc
      cases hc
    refine ⟨w2, r1, ⟨_, r2, fun l hl => ?_, fun a b hab hk => ?_, fun a b q hab hk => ?_, fun a1 e1 a2 e2 p1 p2 hne u B nn cc u' B' nn' cc' q1 q2 x x' hx hx' => ?_⟩, b1, b2⟩
    · by_cases he : l = kl o e
      · exact ⟨o, e, he, hp, by simp [setM]⟩
      · rw [has_put_other he] at hl
        obtain ⟨a, b, e1, e2, e3⟩ := hv.keys l hl
        refine ⟨a, b, e1, e2, ?_⟩
        unfold setM
        split
        · simp
        · exact e3
    · unfold setM at hk
      split at hk
      · cases hk
      · rename_i hne
        rw [has_put_other (fun he => hne (kl_inj hab hp he))]
        exact hv.no a b hab hk
    · unfold setM at hk
      split at hk
      · rename_i he
        cases hk
        obtain ⟨rfl, rfl⟩ := he
        exact ⟨has_put_same hI (key_lit _ _) _, A', c', fun z => atKey_put_same hI (key_lit _ _) _ _, keepL h3⟩
      · rename_i hne
        have hk' : kl a b ≠ kl o e := fun he => hne (kl_inj hab hp he)
        obtain ⟨y1, B, cc, y2, y3⟩ := hv.yes a b q hab hk
        refine ⟨by rw [has_put_other hk']; exact y1, B, cc, fun z => by rw [atKey_put_other hk']; exact y2 z, keepL (y3.same fun x hx => ?_)⟩
        obtain ⟨hF, cur, hc⟩ := y3.blk hx
        refine h2 x.block cur hF hc fun ⟨a0, ha0, hb0⟩ => ?_
        exact hsep a b hab hne _ _ _ _ y2 a0 x ha0 hx hb0
    · -- apart
      have oth : ∀ a3 e3, Pp a3 e3 → ¬ (a3 = o ∧ e3 = e) → ∀ u3 B3 n3 c3, (∀ z, DataW.atKey (D.put (kl o e) (.held (mkV m.up A' m.more.length c'))) (kl a3 e3) z = .held (mkV u3 B3 n3 c3)) → (∀ z, D.atKey (kl a3 e3) z = .held (mkV u3 B3 n3 c3)) := fun a3 e3 p3 hn3 u3 B3 n3 c3 q3 z => by
        have := q3 z
        rwa [atKey_put_other (fun he => hn3 (kl_inj p3 hp he))] at this
      have new : ∀ a3 e3, Pp a3 e3 → ¬ (a3 = o ∧ e3 = e) → ∀ u3 B3 n3 c3, (∀ z, D.atKey (kl a3 e3) z = .held (mkV u3 B3 n3 c3)) → ∀ x' y, A' = some x' → B3 = some y → x'.block ≠ y.block := fun a3 e3 p3 hn3 u3 B3 n3 c3 q3 x' y hx' hy heq => by
        rcases h4 x' hx' with ⟨a0, ha0, hb0⟩ | hge
        · exact hsep a3 e3 p3 hn3 _ _ _ _ q3 a0 y ha0 hy (hb0.trans heq)
        · cases hk : kept a3 e3 with
          | none =>
            have hh := hv.no a3 e3 p3 hk
            have := q3 (.held (.int .i64 0))
            rw [atKey_of_not_has hh] at this
            cases this
          | some m3 =>
            obtain ⟨_, B4, c4, y2, y3⟩ := hv.yes a3 e3 m3 p3 hk
            have := (y2 (.held (.int .i64 0))).symm.trans (q3 (.held (.int .i64 0)))
            simp only [DataW.held.injEq, mkV, Value.agg.injEq] at this
            have e4 : B4 = B3 := by
              have h5 := congrArg (fun a => a[1]?) this
              simp at h5
              exact h5.1
            have := y3.lt (e4.trans hy)
            omega
      have same : ∀ u3 B3 n3 c3, (∀ z, DataW.atKey (D.put (kl o e) (.held (mkV m.up A' m.more.length c'))) (kl o e) z = .held (mkV u3 B3 n3 c3)) → B3 = A' := fun u3 B3 n3 c3 q3 => by
        have := q3 (.held (.int .i64 0))
        rw [atKey_put_same hI (key_lit _ _)] at this
        simp only [DataW.held.injEq, mkV, Value.agg.injEq] at this
        have h5 := congrArg (fun a => a[1]?) this
        simp at h5
        exact h5.1.symm
      by_cases h5 : a1 = o ∧ e1 = e
      · obtain ⟨rfl, rfl⟩ := h5
        have eB := same _ _ _ _ q1
        have hn2 : ¬ (a2 = a1 ∧ e2 = e1) := fun h => hne ⟨h.1.symm, h.2.symm⟩
        exact new a2 e2 p2 hn2 _ _ _ _ (oth a2 e2 p2 hn2 _ _ _ _ q2) x x' (eB ▸ hx) hx'
      · by_cases h6 : a2 = o ∧ e2 = e
        · obtain ⟨rfl, rfl⟩ := h6
          have eB := same _ _ _ _ q2
          exact fun heq => new a1 e1 p1 h5 _ _ _ _ (oth a1 e1 p1 h5 _ _ _ _ q1) x' x (eB ▸ hx') hx heq.symm
        · exact hv.sep a1 e1 a2 e2 p1 p2 hne _ _ _ _ _ _ _ _ (oth a1 e1 p1 h5 _ _ _ _ q1) (oth a2 e2 p2 h6 _ _ _ _ q2) x x' hx hx'
  cases hk : kept o e with
  | none =>
    have eg : getM kept o e = ⟨0, []⟩ := by unfold getM; rw [hk]; rfl
    refine ⟨none, 0, by rw [eg]; exact Lw.nil _ _, fun W hW => ?_, fin none 0 (by rw [eg]; exact Lw.nil _ _) fun _ _ _ _ _ _ _ _ _ a a' ha _ => by cases ha⟩
    obtain ⟨v, ps, h1, h2⟩ := (own W hW).lookup keyed Tryz.underlying115 (zeroMk W) (zd := .held (.agg #[.int .i64 0, .slice none 0 0])) (zp := []) rfl (key_of hp)
    rw [atKey_of_not_has (hv.no o e hp hk)] at h2
    simp only [Option.some.injEq, Prod.mk.injEq, DataW.held.injEq] at h2
    rw [h2.1] at h1
    rw [eg]
    exact h1
  | some m =>
    have eg : getM kept o e = m := by unfold getM; rw [hk]; rfl
    obtain ⟨hh, A, c, h3, h4⟩ := hv.yes o e m hp hk
    refine ⟨A, c, by rw [eg]; exact h4, fun W hW => ?_, fin A c (by rw [eg]; exact h4) fun o' e' p' hn' u' A' n' c' q a a' ha ha' heq => hv.sep o' e' o e p' hp hn' _ _ _ _ _ _ _ _ q h3 a' a ha' ha heq.symm⟩
    obtain ⟨v', ps, h1, h2⟩ := (own W hW).lookup keyed Tryz.underlying115 (zeroMk W) (zd := .held (.agg #[.int .i64 0, .slice none 0 0])) (zp := []) rfl (key_of hp)
    rw [h3] at h2
    simp only [Option.some.injEq, Prod.mk.injEq, DataW.held.injEq] at h2
    rw [h2.1] at h1
    rw [eg]
    exact h1
end
/-- A set whose lists lie apart, in blocks of F. -/
structure SetL (F : Nat → Prop) (w : World) (D b n : Nat) (s : St) : Prop where
  box : w.heap[D]? = some (.cells #[.int .i64 s.room, .int .i64 s.gaps, .map (some b)] 117 (0, 0))
  map : MpL F w b n s.kept
  ok : Okk s
section
variable {F F' : Nat → Prop} {w w' : World} {D b n : Nat} {s : St}
theorem SetL.set (h : SetL F w D b n s) : Set w false D b n s := ⟨h.box, h.map.mp, h.ok⟩
theorem SetL.keep (h : SetL F w D b n s) (hD : w'.heap[D]? = w.heap[D]?) (hb : w'.heap[b]? = w.heap[b]?) (hi : IntsF F w w') (hF : ∀ k, k < w.heap.size → F k → F' k) : SetL F' w' D b n s := ⟨hD.trans h.box, h.map.keep hb hi hF, h.ok⟩
theorem SetL.lt (h : SetL F w D b n s) : D < w.heap.size ∧ b < w.heap.size := h.set.lt
theorem SetL.ne (h : SetL F w D b n s) : D ≠ b := h.set.ne
theorem SetL.below (h : SetL F w D b n s) (hb : Below w.heap.size w w') : SetL F w' D b n s := h.keep (hb.block _ h.lt.1) (hb.block _ h.lt.2) (IntsF.below hb) fun _ _ h => h
/-- A new set. -/
theorem SetL.of_new {t : Bool} {g : Int} (F : Nat → Prop) (h : Set w t D b n ⟨g, 0, fun _ _ => none⟩) : SetL F w D b n ⟨g, 0, fun _ _ => none⟩ := by
  obtain ⟨D0, q1, q2⟩ := h.map
  refine ⟨h.box, ⟨D0, q1, ⟨q2.keys, q2.no, fun o e m hp hk => (by cases hk), fun o e o' e' hp _ _ u A n c u' A' n' c' h1 _ => ?_⟩⟩, h.ok⟩
  have hno := q2.no o e hp rfl
  have := h1 (.held (.int .i64 0))
  rw [atKey_of_not_has hno] at this
  cases this
end
end Go.Proofs.YtfnlhfelpdkieaaGreat.Se
/- A store in memory: its block of 73 cells, its map, its list of ids, its set. -/
namespace Go.Proofs.YtfnlhfelpdkieaaGreat.So
open Go.RowKit
open Go.Proofs.YtfnlhfelpdkieaaGreat.Me Go.Proofs.YtfnlhfelpdkieaaGreat.Sb
set_option linter.unusedVariables false
set_option linter.unusedSimpArgs false

/-- 73 cells. -/
def row (g : Nat → Value) : Array Value := ((List.range 73).map g).toArray
theorem row_size (g : Nat → Value) : (row g).size = 73 := by simp [row]
theorem row_at (g : Nat → Value) {i : Nat} (h : i < 73) : (row g)[i]? = some (g i) := by simp [row, h]
theorem row_congr {g g' : Nat → Value} (h : ∀ k, k < 73 → g k = g' k) : row g = row g' := by
  unfold row
  congr 1
  exact List.map_congr_left fun k hk => h k (List.mem_range.1 hk)
theorem row_set (g : Nat → Value) (i : Nat) (u : Value) : (row g).setIfInBounds i u = row (fun k => if k = i then u else g k) := by
  apply Array.ext_getElem?
  intro k
  rw [Array.getElem?_setIfInBounds, row_size]
  by_cases hk : k < 73
  · rw [row_at _ hk, row_at _ hk]
    by_cases e : i = k
    · subst e; rw [if_pos rfl, if_pos hk, if_pos rfl]
    · rw [if_neg e, if_neg (fun h => e h.symm)]
  · rw [Array.getElem?_eq_none (by rw [row_size]; omega), Array.getElem?_eq_none (by rw [row_size]; omega)]
    split
    · split
      · omega
      · rfl
    · rfl
/-- The cells of a store: four numbers, the epoch, 64 counters, the map, the list, the bytes, the set. -/
def gc (a b c d e : Int) (f : Nat → Int) (m v : Value) (n : Int) (p : Value) (i : Nat) : Value :=
  if i = 0 then .int .i64 a else if i = 1 then .int .i64 b else if i = 2 then .int .i64 c else if i = 3 then .int .i64 d else if i = 4 then .int .i64 e
  else if i < 69 then .int .i64 (f (i - 5)) else if i = 69 then m else if i = 70 then v else if i = 71 then .int .i64 n else p
theorem gc_last (a b c d e : Int) (f : Nat → Int) (m v : Value) (n : Int) (p : Value) {k : Nat} (h : k < 64) : gc a b c d e f m v n p (5 + k) = .int .i64 (f k) := by
  unfold gc
  rw [if_neg (by omega), if_neg (by omega), if_neg (by omega), if_neg (by omega), if_neg (by omega), if_pos (by omega), show 5 + k - 5 = k by omega]
theorem gc_setE (a b c d e e' : Int) (f : Nat → Int) (m v : Value) (n : Int) (p : Value) : (row (gc a b c d e f m v n p)).setIfInBounds 4 (.int .i64 e') = row (gc a b c d e' f m v n p) := by
  rw [row_set]
  refine row_congr fun k _ => ?_
  unfold gc
  by_cases h : k = 4 <;> simp [h]
theorem gc_setV (a b c d e : Int) (f : Nat → Int) (m v v' : Value) (n : Int) (p : Value) : (row (gc a b c d e f m v n p)).setIfInBounds 70 v' = row (gc a b c d e f m v' n p) := by
  rw [row_set]
  refine row_congr fun k _ => ?_
  unfold gc
  by_cases h : k = 70 <;> simp [h]
theorem gc_setN (a b c d e : Int) (f : Nat → Int) (m v : Value) (n n' : Int) (p : Value) : (row (gc a b c d e f m v n p)).setIfInBounds 71 (.int .i64 n') = row (gc a b c d e f m v n' p) := by
  rw [row_set]
  refine row_congr fun k _ => ?_
  unfold gc
  by_cases h : k = 71 <;> simp [h]
theorem gc_setL (a b c d e : Int) (f : Nat → Int) (m v : Value) (n : Int) (p : Value) {j : Nat} (hj : j < 64) (x : Int) : (row (gc a b c d e f m v n p)).setIfInBounds (5 + j) (.int .i64 x) = row (gc a b c d e (fun k => if k = j then x else f k) m v n p) := by
  rw [row_set]
  refine row_congr fun k _ => ?_
  by_cases h : k = 5 + j
  · subst h
    rw [if_pos rfl, gc_last _ _ _ _ _ _ _ _ _ _ hj, if_pos rfl]
  · rw [if_neg h]
    unfold gc
    repeat' split
    all_goals first
      | rfl
      | (rename_i h2 _; omega)
      | (have : ¬ k - 5 = j := by omega
         simp [this])
/-- A store's block. -/
def scs (s : Sto) (hb sd : Nat) (v : Value) (n : Int) : Array Value := row (gc s.self s.qh s.qb s.qg s.epoch s.last (.map (some hb)) v n (.pointer (some ⟨sd, 0, none⟩)))
def Box (w : World) (D : Nat) (s : Sto) (hb sd : Nat) (v : Value) (n : Int) : Prop := w.heap[D]? = some (.cells (scs s hb sd v n) 79 (0, 0))
section
variable {w w' : World} {D : Nat} {s : Sto} {hb sd : Nat} {v : Value} {n : Int}
theorem Box.cell (h : Box w D s hb sd v n) {i : Nat} (hi : i < 73) : w.cell? ⟨D, i, none⟩ = some (gc s.self s.qh s.qb s.qg s.epoch s.last (.map (some hb)) v n (.pointer (some ⟨sd, 0, none⟩)) i) := by
  rw [cell_of_row w D i _ _ (0, 0) h]
  exact row_at _ hi
theorem Box.self (h : Box w D s hb sd v n) : w.cell? ⟨D, 0, none⟩ = some (.int .i64 s.self) := h.cell (by omega)
theorem Box.qh (h : Box w D s hb sd v n) : w.cell? ⟨D, 1, none⟩ = some (.int .i64 s.qh) := h.cell (by omega)
theorem Box.qb (h : Box w D s hb sd v n) : w.cell? ⟨D, 2, none⟩ = some (.int .i64 s.qb) := h.cell (by omega)
theorem Box.epoch (h : Box w D s hb sd v n) : w.cell? ⟨D, 4, none⟩ = some (.int .i64 s.epoch) := h.cell (by omega)
theorem Box.last (h : Box w D s hb sd v n) {k : Nat} (hk : k < 64) : w.cell? ⟨D, 5 + k, none⟩ = some (.int .i64 (s.last k)) := by rw [h.cell (by omega), gc_last _ _ _ _ _ _ _ _ _ _ hk]
theorem Box.map (h : Box w D s hb sd v n) : w.cell? ⟨D, 69, none⟩ = some (.map (some hb)) := h.cell (by omega)
theorem Box.ord (h : Box w D s hb sd v n) : w.cell? ⟨D, 70, none⟩ = some v := h.cell (by omega)
theorem Box.byt (h : Box w D s hb sd v n) : w.cell? ⟨D, 71, none⟩ = some (.int .i64 n) := h.cell (by omega)
theorem Box.set (h : Box w D s hb sd v n) : w.cell? ⟨D, 72, none⟩ = some (.pointer (some ⟨sd, 0, none⟩)) := h.cell (by omega)
theorem Box.frozen (h : Box w D s hb sd v n) (i : Nat) : w.frozen? ⟨D, i, none⟩ = false := frozen_of_row w D i _ _ h
theorem Box.lt (h : Box w D s hb sd v n) : D < w.heap.size := (Array.getElem?_eq_some_iff.1 h).1
theorem Box.at_ (h : Box w D s hb sd v n) (hD : w'.heap[D]? = w.heap[D]?) : Box w' D s hb sd v n := hD.trans h
theorem Box.below (h : Box w D s hb sd v n) (hb' : Below w.heap.size w w') : Box w' D s hb sd v n := h.at_ (hb'.block _ h.lt)
theorem Box.setV (h : Box w D s hb sd v n) (v' : Value) : Box (w.setCell ⟨D, 70, none⟩ v') D s hb sd v' n := by
  unfold Box
  rw [heap_setCell_same w D 70 _ _ _ h]
  unfold scs
  rw [gc_setV]
theorem Box.setN (h : Box w D s hb sd v n) (n' : Int) : Box (w.setCell ⟨D, 71, none⟩ (.int .i64 n')) D s hb sd v n' := by
  unfold Box
  rw [heap_setCell_same w D 71 _ _ _ h]
  unfold scs
  rw [gc_setN]
theorem Box.setE (h : Box w D s hb sd v n) (e : Int) : Box (w.setCell ⟨D, 4, none⟩ (.int .i64 e)) D ⟨s.self, s.qh, s.qb, s.qg, e, s.last, s.held, s.seen⟩ hb sd v n := by
  unfold Box
  rw [heap_setCell_same w D 4 _ _ _ h]
  unfold scs
  rw [gc_setE]
theorem Box.setL (h : Box w D s hb sd v n) {j : Nat} (hj : j < 64) (x : Int) : Box (w.setCell ⟨D, 5 + j, none⟩ (.int .i64 x)) D ⟨s.self, s.qh, s.qb, s.qg, s.epoch, fun k => if k = j then x else s.last k, s.held, s.seen⟩ hb sd v n := by
  unfold Box
  rw [heap_setCell_same w D (5 + j) _ _ _ h]
  unfold scs
  rw [gc_setL _ _ _ _ _ _ _ _ _ _ hj]
end
/-- The store at D is s: its map's block, its set's two blocks, its list; data in blocks that bear E. -/
structure Sq (E : Nat → Prop) (w : World) (D hb sd sb m : Nat) (v : Value) (s : Sto) : Prop where
  box : Box w D s hb sd v (bytesOf s.held)
  map : Mp E w hb s.held.length (findH s.held)
  ord : Ki w 0 v (s.held.map It.i)
  set : Se.SetL E w sd sb m s.seen
  ok : Ok s
  ne : hb ≠ sb
/-- The blocks that a store's calls turn. -/
def Chg (D hb sd sb : Nat) (v : Value) (k : Nat) : Prop := k = D ∨ k = hb ∨ k = sd ∨ k = sb ∨ v.ownBlock = some k
section
variable {E E' : Nat → Prop} {w w' : World} {D hb sd sb m : Nat} {v : Value} {s : Sto}
theorem Sq.lt (h : Sq E w D hb sd sb m v s) : ∀ k, Chg D hb sd sb v k → k < w.heap.size := by
  rintro k (rfl | rfl | rfl | rfl | e)
  · exact h.box.lt
  · exact h.map.lt
  · exact h.set.lt.1
  · exact h.set.lt.2
  · exact (Ki.lt h.ord e).2
theorem ki_at {B : Nat} {l : List Mg.Id4} (h : Ki w B v l) (hk : ∀ k, v.ownBlock = some k → w'.heap[k]? = w.heap[k]?) : Ki w' B v l := own_same h fun k e _ => hk k e
theorem Sq.keep (h : Sq E w D hb sd sb m v s) (hk : ∀ k, Chg D hb sd sb v k → w'.heap[k]? = w.heap[k]?) (hi : Se.IntsF E w w') (hu : U8s E w w') (hE : ∀ k, k < w.heap.size → E k → E' k) : Sq E' w' D hb sd sb m v s :=
  ⟨h.box.at_ (hk _ (.inl rfl)), h.map.keep (hk _ (.inr (.inl rfl))) hu hE, ki_at h.ord fun k e => hk k (.inr (.inr (.inr (.inr e)))), h.set.keep (hk _ (.inr (.inr (.inl rfl)))) (hk _ (.inr (.inr (.inr (.inl rfl))))) hi hE, h.ok, h.ne⟩
theorem Sq.below (h : Sq E w D hb sd sb m v s) (hb' : Below w.heap.size w w') : Sq E w' D hb sd sb m v s :=
  h.keep (fun k hk => hb'.block k (h.lt k hk)) (Se.IntsF.below hb') (U8s.below hb') fun _ _ h => h
/-- It stays where no block of its own, none of ints and none of its data is turned. -/
theorem Sq.but {S : Nat → Prop} (h : Sq E w D hb sd sb m v s) (hb' : But S w w') (h1 : ∀ k, Chg D hb sd sb v k → ¬ S k) (h2 : ∀ (k : Nat) (cs : Array Value), S k → w.heap[k]? ≠ some (.cells cs 3 (0, 0))) (h3 : ∀ (k : Nat) (cs : Array Value), S k → E k → w.heap[k]? ≠ some (.cells cs 5 (0, 0))) : Sq E w' D hb sd sb m v s :=
  h.keep (fun k hk => hb'.same k (h.lt k hk) (h1 k hk)) (Se.IntsF.but hb' fun k cs _ hk hs => h2 k cs hs hk) (U8s.but hb' fun k cs he hk hs => h3 k cs hs he hk) fun _ _ h => h
/-- The kinds of its blocks. -/
theorem Sq.kind (h : Sq E w D hb sd sb m v s) : (∃ cs, w.heap[D]? = some (.cells cs 79 (0, 0))) ∧ (∃ es c, w.heap[hb]? = some (.map es c)) ∧ (∃ cs, w.heap[sd]? = some (.cells cs 117 (0, 0))) ∧ (∃ es c, w.heap[sb]? = some (.map es c)) ∧ ∀ k, v.ownBlock = some k → ∃ cs, w.heap[k]? = some (.cells cs 43 (0, 0)) :=
  ⟨⟨_, h.box⟩, h.map.isMap, ⟨_, h.set.box⟩, h.set.map.isMap, own_type h.ord⟩
/-- None of them is one of ints or bytes. -/
theorem Sq.no8 (h : Sq E w D hb sd sb m v s) {k : Nat} (hk : Chg D hb sd sb v k) (cs : Array Value) : w.heap[k]? ≠ some (.cells cs 5 (0, 0)) ∧ w.heap[k]? ≠ some (.cells cs 3 (0, 0)) := by
  obtain ⟨⟨c1, h1⟩, ⟨e2, c2, h2⟩, ⟨c3, h3⟩, ⟨e4, c4, h4⟩, h5⟩ := h.kind
  rcases hk with rfl | rfl | rfl | rfl | e
  · rw [h1]; exact ⟨by simp, by simp⟩
  · rw [h2]; exact ⟨by simp, by simp⟩
  · rw [h3]; exact ⟨by simp, by simp⟩
  · rw [h4]; exact ⟨by simp, by simp⟩
  · obtain ⟨c5, h5⟩ := h5 k e
    rw [h5]; exact ⟨by simp, by simp⟩
/-- They are five. -/
theorem Sq.apart (h : Sq E w D hb sd sb m v s) : D ≠ hb ∧ D ≠ sd ∧ D ≠ sb ∧ hb ≠ sd ∧ hb ≠ sb ∧ sd ≠ sb ∧ ∀ k, v.ownBlock = some k → k ≠ D ∧ k ≠ hb ∧ k ≠ sd ∧ k ≠ sb := by
  obtain ⟨⟨c1, h1⟩, ⟨e2, c2, h2⟩, ⟨c3, h3⟩, ⟨e4, c4, h4⟩, h5⟩ := h.kind
  refine ⟨?_, ?_, ?_, ?_, h.ne, ?_, fun k e => ?_⟩
  · rintro rfl; rw [h1] at h2; cases h2
  · rintro rfl; rw [h1] at h3; simp at h3
  · rintro rfl; rw [h1] at h4; cases h4
  · rintro rfl; rw [h2] at h3; cases h3
  · rintro rfl; rw [h3] at h4; cases h4
  · obtain ⟨c5, h5⟩ := h5 k e
    refine ⟨?_, ?_, ?_, ?_⟩
    · rintro rfl; rw [h1] at h5; simp at h5
    · rintro rfl; rw [h2] at h5; cases h5
    · rintro rfl; rw [h3] at h5; simp at h5
    · rintro rfl; rw [h4] at h5; cases h5
end
end Go.Proofs.YtfnlhfelpdkieaaGreat.So
/- What an event would be told: the store's May. -/
namespace Go.Proofs.YtfnlhfelpdkieaaGreat.So
open Go.RowKit
open Go.Proofs.YtfnlhfelpdkieaaGreat.Me Go.Proofs.YtfnlhfelpdkieaaGreat.Sb
set_option linter.unusedVariables false
set_option linter.unusedSimpArgs false

section
variable (E : Nat → Prop) (D hb sd sb m : Nat) (v : Value) (s : Sto) (w : World)
theorem holds_nil (i : Mg.Id4) : Calls Tryz.prog 61 #[.pointer none, .agg (Mg.idC i)] w fun e w' => e = .returned (.bool false) ∧ Hid (Below w.heap.size w w') := by
  have HB : Hid (Below w.heap.size w (w.alloc (.cells (Mg.idC i) 43))) := Me.below_alloc (Below.refl _ _)
  obtain ⟨o, d, ee, c⟩ := i
  simp only [Mg.idC] at HB ⊢
  go_enter Tryz.func61, Tryz.ntmps61
  go_wp2
  go_ret
  exact ⟨rfl, HB.out⟩
set_option maxRecDepth 100000 in
set_option maxHeartbeats 4000000 in
theorem holds_any (i : Mg.Id4) (hf : Fit i) (hS : Hid (Sq E w D hb sd sb m v s)) : Calls Tryz.prog 61 #[.pointer (some ⟨D, 0, none⟩), .agg (Mg.idC i)] w fun e w' => e = .returned (.bool (hasH s.held i)) ∧ Hid (Below w.heap.size w w') := by
  obtain ⟨V, hV⟩ : ∃ V, w.alloc (.cells (Mg.idC i) 43) = V := ⟨_, rfl⟩
  have hB : Below w.heap.size w V := by rw [← hV]; exact Me.below_alloc (Below.refl _ _)
  have hR : V.heap[w.heap.size]? = some (.cells (Mg.idC i) 43 (0, 0)) := by rw [← hV]; exact heap_alloc_new w _
  have hbox := hS.out.box.below hB
  have hmb := hB.block _ hS.out.map.lt
  have HL : Hid (∃ x : Value, (Instr.lookup 74 (.map (some hb)) (.agg (Mg.idC i)) true).run Tryz.prog V = .ok (.tuple #[x, .bool (hasH s.held i)]) V) := by
    unfold hasH
    cases hk : findH s.held i with
    | none => exact ⟨_, hS.out.map.no hf hk V hmb⟩
    | some p => obtain ⟨x, _, h1, _⟩ := hS.out.map.yes hf hk; exact ⟨_, h1 V hmb⟩
  obtain ⟨x, hx⟩ := HL.out
  have HX : Hid (∀ W, Below V.heap.size V W → (Instr.lookup 74 (.map (some hb)) (.agg (Mg.idC i)) true).run Tryz.prog W = .ok (.tuple #[x, .bool (hasH s.held i)]) W) := fun W hW => by
    have hWb := (hW.block hb (Nat.lt_of_lt_of_le hS.out.map.lt hB.size)).trans hmb
    unfold hasH at hx ⊢
    cases hk : findH s.held i with
    | none =>
      rw [hk] at hx
      have e1 := hS.out.map.no hf hk V hmb
      rw [e1] at hx
      injection hx with hx
      injection hx with hx
      have hx := congrArg Array.toList hx
      simp at hx
      rw [← hx]
      exact hS.out.map.no hf hk _ hWb
    | some p =>
      rw [hk] at hx
      obtain ⟨y, _, h1, _⟩ := hS.out.map.yes hf hk
      have e1 := h1 V hmb
      rw [e1] at hx
      injection hx with hx
      injection hx with hx
      have hx := congrArg Array.toList hx
      simp at hx
      rw [← hx]
      exact h1 _ hWb
  have HC : Hid (∀ W, Below V.heap.size V W → W.cell? ⟨D, 69, none⟩ = some (.map (some hb))) := fun W hW => (hbox.below hW).map
  have HI : Hid (∀ W, Below V.heap.size V W → W.heap[w.heap.size]? = some (.cells (Mg.idC i) 43 (0, 0))) := fun W hW => (hW.block _ (Array.getElem?_eq_some_iff.1 hR).1).trans hR
  have HV := Lib.hid hV
  have HB := Lib.hid hB
  obtain ⟨r, hr⟩ : ∃ r, hasH s.held i = r := ⟨_, rfl⟩
  rw [hr] at HX ⊢
  obtain ⟨o, d, ee, c⟩ := i
  simp only [Mg.idC] at HV HX HI ⊢
  clear hV hB hx hR HL hr hbox hmb hS
  go_enter Tryz.func61, Tryz.ntmps61
  go_wp2
  rw [HV.out]
  have S0 := (Below.refl V.heap.size V).drew
  refine wp_region_held_drew (S := fun W => Below V.heap.size V W) (by kernel_rfl) S0 (fun hHeld => ?_)
  refine wpAnyH_take (i := 0) (v := .pointer (some ⟨D, 0, none⟩)) rfl (by kernel_rfl) (by kernel_rfl) (by kernel_rfl) (fun _ _ _ h => h) (Or.inl ⟨by rfl, ?_⟩) (by first | assumption | exact trivial) ?_
  · intro W hSW; go_simp; try (with_reducible rfl)
  simp only [Act.put, List.getElem_toArray, List.getElem_cons_succ, List.getElem_cons_zero, List.setIfInBounds_toArray, List.set_cons_zero, List.set_cons_succ]
  refine wpAnyH_take (i := 1) (v := .pointer (some ⟨D, 0, none⟩)) rfl (by kernel_rfl) (by kernel_rfl) (by kernel_rfl) (fun _ _ _ h => h) (Or.inl ⟨by rfl, ?_⟩) (by first | assumption | exact trivial) ?_
  · intro W hSW; go_simp; try (with_reducible rfl)
  simp only [Act.put, List.getElem_toArray, List.getElem_cons_succ, List.getElem_cons_zero, List.setIfInBounds_toArray, List.set_cons_zero, List.set_cons_succ]
  refine wpAnyH_take (i := 2) (v := .pointer (some ⟨D, 69, none⟩)) rfl (by kernel_rfl) (by kernel_rfl) (by kernel_rfl) (fun _ _ _ h => h) (Or.inl ⟨by rfl, ?_⟩) (by first | assumption | exact trivial) ?_
  · intro W hSW; go_simp; try (with_reducible rfl)
  simp only [Act.put, List.getElem_toArray, List.getElem_cons_succ, List.getElem_cons_zero, List.setIfInBounds_toArray, List.set_cons_zero, List.set_cons_succ]
  refine wpAnyH_take (i := 3) (v := .map (some hb)) rfl (by kernel_rfl) (by kernel_rfl) (by kernel_rfl) (fun _ _ _ h => h) (Or.inl ⟨by rfl, ?_⟩) (by first | assumption | exact trivial) ?_
  · intro W hSW; have y0 := HC.out W hSW; go_simp; try (with_reducible rfl)
  simp only [Act.put, List.getElem_toArray, List.getElem_cons_succ, List.getElem_cons_zero, List.setIfInBounds_toArray, List.set_cons_zero, List.set_cons_succ]
  refine wpAnyH_take (i := 4) (v := .agg #[.int .i64 o, .int .i64 d, .int .i64 ee, .int .i64 c]) rfl (by kernel_rfl) (by kernel_rfl) (by kernel_rfl) (fun _ _ _ h => h) (Or.inl ⟨by rfl, ?_⟩) (by first | assumption | exact trivial) ?_
  · intro W hSW; obtain ⟨y0, y1, y2, y3⟩ := id_cells (HI.out W hSW); go_simp; try (with_reducible rfl)
  simp only [Act.put, List.getElem_toArray, List.getElem_cons_succ, List.getElem_cons_zero, List.setIfInBounds_toArray, List.set_cons_zero, List.set_cons_succ]
  refine wpAnyH_take (i := 5) (v := .tuple #[x, .bool r]) rfl (by kernel_rfl) (by kernel_rfl) (by kernel_rfl) (fun _ _ _ h => h) (Or.inl ⟨by rfl, ?_⟩) (by first | assumption | exact trivial) ?_
  · intro W hSW; have y0 := HX.out W hSW; go_simp; try (with_reducible rfl)
  simp only [Act.put, List.getElem_toArray, List.getElem_cons_succ, List.getElem_cons_zero, List.setIfInBounds_toArray, List.set_cons_zero, List.set_cons_succ]
  refine wpAnyH_take (i := 6) (v := .tuple #[x, .bool r]) rfl (by kernel_rfl) (by kernel_rfl) (by kernel_rfl) (fun _ _ _ h => h) (Or.inl ⟨by rfl, ?_⟩) (by first | assumption | exact trivial) ?_
  · intro W hSW; go_simp; try (with_reducible rfl)
  simp only [Act.put, List.getElem_toArray, List.getElem_cons_succ, List.getElem_cons_zero, List.setIfInBounds_toArray, List.set_cons_zero, List.set_cons_succ]
  refine wpAnyH_take (i := 7) (v := x) rfl (by kernel_rfl) (by kernel_rfl) (by kernel_rfl) (fun _ _ _ h => h) (Or.inl ⟨by rfl, ?_⟩) (by first | assumption | exact trivial) ?_
  · intro W hSW; go_simp; try (with_reducible rfl)
  simp only [Act.put, List.getElem_toArray, List.getElem_cons_succ, List.getElem_cons_zero, List.setIfInBounds_toArray, List.set_cons_zero, List.set_cons_succ]
  refine wpAnyH_take (i := 8) (v := .bool r) rfl (by kernel_rfl) (by kernel_rfl) (by kernel_rfl) (fun _ _ _ h => h) (Or.inl ⟨by rfl, ?_⟩) (by first | assumption | exact trivial) ?_
  · intro W hSW; go_simp; try (with_reducible rfl)
  simp only [Act.put, List.getElem_toArray, List.getElem_cons_succ, List.getElem_cons_zero, List.setIfInBounds_toArray, List.set_cons_zero, List.set_cons_succ]
  refine wpAnyH_take (i := 9) (v := x) rfl (by kernel_rfl) (by kernel_rfl) (by kernel_rfl) (fun _ _ _ h => h) (Or.inl ⟨by rfl, ?_⟩) (by first | assumption | exact trivial) ?_
  · intro W hSW; go_simp; try (with_reducible rfl)
  simp only [Act.put, List.getElem_toArray, List.getElem_cons_succ, List.getElem_cons_zero, List.setIfInBounds_toArray, List.set_cons_zero, List.set_cons_succ]
  refine wpAnyH_take (i := 10) (v := .bool r) rfl (by kernel_rfl) (by kernel_rfl) (by kernel_rfl) (fun _ _ _ h => h) (Or.inl ⟨by rfl, ?_⟩) (by first | assumption | exact trivial) ?_
  · intro W hSW; go_simp; try (with_reducible rfl)
  simp only [Act.put, List.getElem_toArray, List.getElem_cons_succ, List.getElem_cons_zero, List.setIfInBounds_toArray, List.set_cons_zero, List.set_cons_succ]
  refine wpAnyH_done (by kernel_rfl) ?_ _
  go_wp2
  go_ret
  exact ⟨rfl, HB.out.trans (S0.mono HB.out.size)⟩
theorem mayBoot_any (hS : Hid (Sq E w D hb sd sb m v s)) : Calls Tryz.prog 47 #[.pointer (some ⟨D, 0, none⟩)] w fun e w' => e = .returned (.int .i64 (mayB s : Int)) ∧ w = w' := by
  have ce := hS.out.box.epoch
  unfold mayB
  by_cases h : s.epoch = 65535
  · rw [if_pos h]
    rw [h] at ce
    clear h hS
    go_enter Tryz.func47, Tryz.ntmps47
    go_wp2
    go_ret
    exact ⟨rfl, rfl⟩
  · rw [if_neg h]
    obtain ⟨ep, hep⟩ : ∃ x, s.epoch = x := ⟨_, rfl⟩
    rw [hep] at ce h
    have g : (ep == 65535) = false := by simpa using h
    clear h hS hep
    go_enter Tryz.func47, Tryz.ntmps47
    go_wp2
    go_ret
    exact ⟨rfl, rfl⟩
set_option maxRecDepth 100000 in
set_option maxHeartbeats 4000000 in
theorem mayRelease_any (i : Mg.Id4) (hf : Fit i) (hS : Hid (Sq E w D hb sd sb m v s)) : Calls Tryz.prog 49 #[.pointer (some ⟨D, 0, none⟩), .agg (Mg.idC i)] w fun e w' => e = .returned (.int .i64 (mayR s i : Int)) ∧ Hid (Below w.heap.size w w') := by
  have HH : Hid (∀ W, Below w.heap.size w W → Calls Tryz.prog 61 #[.pointer (some ⟨D, 0, none⟩), .agg (Mg.idC i)] W fun e w' => e = .returned (.bool (hasH s.held i)) ∧ Hid (Below W.heap.size W w')) := fun W hW => holds_any E D hb sd sb m v s W i hf (hS.out.below hW)
  have HB : Hid (Below w.heap.size w (w.alloc (.cells (Mg.idC i) 43))) := Me.below_alloc (Below.refl _ _)
  unfold mayR
  obtain ⟨r, hr⟩ : ∃ r, hasH s.held i = r := ⟨_, rfl⟩
  rw [hr] at HH ⊢
  obtain ⟨o, d, ee, c⟩ := i
  simp only [Mg.idC] at HB HH ⊢
  clear hr hS
  cases r
  all_goals
    go_enter Tryz.func49, Tryz.ntmps49
    go_wp2_with (go_at_call 61; refine (HH.out _ HB.out).mono ?_; rintro e w2 ⟨rfl, b2⟩)
    go_ret
    exact ⟨rfl, go_on HB.out b2.out⟩
set_option maxRecDepth 100000 in
set_option maxHeartbeats 4000000 in
theorem mayDeliver_any (i : Mg.Id4) (hS : Hid (Sq E w D hb sd sb m v s)) : Calls Tryz.prog 50 #[.pointer (some ⟨D, 0, none⟩), .agg (Mg.idC i)] w fun e w' => e = .returned (.int .i64 (mayD s i : Int)) ∧ Hid (Below w.heap.size w w') := by
  have HM : Hid (∀ W, Below w.heap.size w W → Calls Tryz.prog 68 #[.pointer (some ⟨sd, 0, none⟩), .agg (Mg.idC i)] W fun e w' => e = .returned (.int .i64 (Se.mayN s.seen i : Int)) ∧ Hid (Below W.heap.size W w')) := fun W hW => Se.May_any false sd sb m s.seen i W (hS.out.below hW).set.set
  obtain ⟨V, hV⟩ : ∃ V, w.alloc (.cells (Mg.idC i) 43) = V := ⟨_, rfl⟩
  have hB : Below w.heap.size w V := by rw [← hV]; exact Me.below_alloc (Below.refl _ _)
  have hR : V.heap[w.heap.size]? = some (.cells (Mg.idC i) 43 (0, 0)) := by rw [← hV]; exact heap_alloc_new w _
  have HC : Hid (∀ W, Below V.heap.size V W → W.cell? ⟨D, 0, none⟩ = some (.int .i64 s.self) ∧ W.cell? ⟨D, 72, none⟩ = some (.pointer (some ⟨sd, 0, none⟩)) ∧ W.heap[w.heap.size]? = some (.cells (Mg.idC i) 43 (0, 0)) ∧ Below w.heap.size w W) := fun W hW => by
    have h := hB.trans (hW.mono hB.size)
    have hs := hS.out.box.below h
    exact ⟨hs.self, hs.set, (hW.block _ (Array.getElem?_eq_some_iff.1 hR).1).trans hR, h⟩
  have HV := Lib.hid hV
  have HB := Lib.hid hB
  unfold mayD
  obtain ⟨z, hz⟩ : ∃ z, Se.mayN s.seen i = z := ⟨_, rfl⟩
  rw [hz] at HM ⊢
  obtain ⟨o, d, ee, c⟩ := i
  obtain ⟨me, hme⟩ : ∃ x, s.self = x := ⟨_, rfl⟩
  rw [hme] at HC ⊢
  simp only [Mg.idC] at HC HV HM hR ⊢
  have S1 := (Below.refl V.heap.size V)
  obtain ⟨q0, q1, q2, q3⟩ := HC.out V S1
  obtain ⟨x0, x1, x2, x3⟩ := id_cells hR
  clear hV hB hR hz hme hS
  by_cases h : d = me
  · subst h
    rw [if_neg (by simp)]
    have g : (d != d) = false := by simp
    go_enter Tryz.func50, Tryz.ntmps50
    go_wp2
    rw [HV.out]
    go_quiet (fail)
    have hnq : Below V.heap.size V (V.drewN nq) := Me.below_drewN S1 _
    obtain ⟨Wq, hWq⟩ : ∃ W, V.drewN nq = W := ⟨_, rfl⟩
    rw [hWq] at hnq ⊢
    clear hWq
    obtain ⟨p0, p1, p2, p3⟩ := HC.out Wq hnq
    obtain ⟨y0, y1, y2, y3⟩ := id_cells p2
    have HP := Lib.hid p3
    clear q0 q1 q2 q3 x0 x1 x2 x3 p2 p3
    go_wp2
    have S0 := hnq.drew
    refine wp_region_held_drew (S := fun W => Below V.heap.size V W) (by kernel_rfl) S0 (fun hHeld => ?_)
    refine wpAnyH_take (i := 0) (v := .pointer (some ⟨D, 0, none⟩)) rfl (by kernel_rfl) (by kernel_rfl) (by kernel_rfl) (fun _ _ _ h => h) (Or.inl ⟨by rfl, ?_⟩) (by first | assumption | exact trivial) ?_
    · intro W hSW; go_simp; try (with_reducible rfl)
    simp only [Act.put, List.getElem_toArray, List.getElem_cons_succ, List.getElem_cons_zero, List.setIfInBounds_toArray, List.set_cons_zero, List.set_cons_succ]
    refine wpAnyH_take (i := 1) (v := .pointer (some ⟨D, 0, none⟩)) rfl (by kernel_rfl) (by kernel_rfl) (by kernel_rfl) (fun _ _ _ h => h) (Or.inl ⟨by rfl, ?_⟩) (by first | assumption | exact trivial) ?_
    · intro W hSW; go_simp; try (with_reducible rfl)
    simp only [Act.put, List.getElem_toArray, List.getElem_cons_succ, List.getElem_cons_zero, List.setIfInBounds_toArray, List.set_cons_zero, List.set_cons_succ]
    refine wpAnyH_take (i := 2) (v := .pointer (some ⟨D, 72, none⟩)) rfl (by kernel_rfl) (by kernel_rfl) (by kernel_rfl) (fun _ _ _ h => h) (Or.inl ⟨by rfl, ?_⟩) (by first | assumption | exact trivial) ?_
    · intro W hSW; go_simp; try (with_reducible rfl)
    simp only [Act.put, List.getElem_toArray, List.getElem_cons_succ, List.getElem_cons_zero, List.setIfInBounds_toArray, List.set_cons_zero, List.set_cons_succ]
    refine wpAnyH_take (i := 3) (v := .pointer (some ⟨sd, 0, none⟩)) rfl (by kernel_rfl) (by kernel_rfl) (by kernel_rfl) (fun _ _ _ h => h) (Or.inl ⟨by rfl, ?_⟩) (by first | assumption | exact trivial) ?_
    · intro W hSW; obtain ⟨z0, z1, z2, z3⟩ := HC.out W hSW; go_simp; try (with_reducible rfl)
    simp only [Act.put, List.getElem_toArray, List.getElem_cons_succ, List.getElem_cons_zero, List.setIfInBounds_toArray, List.set_cons_zero, List.set_cons_succ]
    refine wpAnyH_take (i := 4) (v := .agg #[.int .i64 o, .int .i64 d, .int .i64 ee, .int .i64 c]) rfl (by kernel_rfl) (by kernel_rfl) (by kernel_rfl) (fun _ _ _ h => h) (Or.inl ⟨by rfl, ?_⟩) (by first | assumption | exact trivial) ?_
    · intro W hSW; obtain ⟨z0, z1, z2, z3⟩ := id_cells (HC.out W hSW).2.2.1; go_simp; try (with_reducible rfl)
    simp only [Act.put, List.getElem_toArray, List.getElem_cons_succ, List.getElem_cons_zero, List.setIfInBounds_toArray, List.set_cons_zero, List.set_cons_succ]
    refine wpAnyH_ready (rs := [5]) (by kernel_rfl) (by simp) ?_
    refine AllReadyH.cons rfl (fun K hK => ?_) AllReadyH.nil
    go_simp
    go_wp2_with (go_at_call 68; refine (HM.out _ (HC.out _ S0).2.2.2).mono ?_; rintro e w2 ⟨rfl, b2⟩)
    have S2 := S0.trans (b2.out.mono S0.size)
    refine hK.out _ _ (S2) (fun hHeld => ?_)
    clear hK K
    refine wpAnyH_take (i := 6) (v := .int .i64 (z : Int)) rfl (by kernel_rfl) (by kernel_rfl) (by kernel_rfl) (fun _ _ _ h => h) (Or.inl ⟨by rfl, ?_⟩) (by first | assumption | exact trivial) ?_
    · intro W hSW; go_simp; try (with_reducible rfl)
    simp only [Act.put, List.getElem_toArray, List.getElem_cons_succ, List.getElem_cons_zero, List.setIfInBounds_toArray, List.set_cons_zero, List.set_cons_succ]
    refine wpAnyH_done (by kernel_rfl) ?_ _
    go_wp2
    go_ret
    exact ⟨rfl, (HC.out _ S2).2.2.2⟩
  · rw [if_pos h]
    have g : (d != me) = true := by simpa using h
    clear h
    go_enter Tryz.func50, Tryz.ntmps50
    go_wp2
    rw [HV.out]
    go_quiet (fail)
    have hnq : Below V.heap.size V (V.drewN nq) := Me.below_drewN S1 _
    go_wp2
    go_ret
    exact ⟨rfl, (HC.out _ hnq).2.2.2⟩
end
end Go.Proofs.YtfnlhfelpdkieaaGreat.So
