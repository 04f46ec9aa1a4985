/- Marks stay right, whatever is put into them. -/
import Derived.Test.YthajocfgpodimaaZ2
import Derived.Test.YthajocfgpodimaaZ1
import Derived.WideKeyPair
import Derived.Maps.OwnSet
import Derived.Sort.MapsRangeIn
namespace Go.Proofs.Ythajocfgpodimaa.Se
open Go.RowKit
set_option linter.unusedVariables false
set_option linter.unusedSimpArgs false

theorem lb_cut : ∀ (l : List Int) (c : Int), l.Pairwise (· < ·) → (∀ x ∈ l.take (lb l c), x < c) ∧ (∀ x ∈ l.drop (lb l c), ¬ x < c)
  | [], c, _ => by simp [lb]
  | x :: r, c, h => by
    rw [List.pairwise_cons] at h
    by_cases hx : x < c
    · have e : lb (x :: r) c = lb r c + 1 := by unfold lb; rw [List.countP_cons_of_pos (by simpa using hx)]
      obtain ⟨h1, h2⟩ := lb_cut r c h.2
      rw [e, List.take_succ_cons, List.drop_succ_cons]
      exact ⟨fun y hy => by rcases List.mem_cons.1 hy with rfl | hy; exact hx; exact h1 y hy, h2⟩
    · have e : lb (x :: r) c = 0 := by
        unfold lb
        rw [List.countP_eq_zero]
        intro y hy
        rcases List.mem_cons.1 hy with rfl | hy
        · simpa using hx
        · have := h.1 y hy
          simp; omega
      rw [e]
      refine ⟨by simp, fun y hy => ?_⟩
      rw [List.drop_zero] at hy
      rcases List.mem_cons.1 hy with rfl | hy
      · exact hx
      · have := h.1 y hy; omega
theorem mem_ins {l : List Int} {c x : Int} : x ∈ ins l c ↔ x = c ∨ x ∈ l := by
  unfold ins
  rw [List.mem_append, List.mem_cons]
  have h : x ∈ l ↔ x ∈ l.take (lb l c) ∨ x ∈ l.drop (lb l c) := by
    rw [← List.mem_append, List.take_append_drop]
  rw [h]
  constructor
  · rintro (h | h | h)
    · exact .inr (.inl h)
    · exact .inl h
    · exact .inr (.inr h)
  · rintro (h | h | h)
    · exact .inr (.inl h)
    · exact .inl h
    · exact .inr (.inr h)
theorem ins_lt {l : List Int} {c : Int} (h : l.Pairwise (· < ·)) (hc : c ∉ l) : (ins l c).Pairwise (· < ·) := by
  obtain ⟨h1, h2⟩ := lb_cut l c h
  unfold ins
  rw [List.pairwise_append, List.pairwise_cons]
  have hd : ∀ x ∈ l.drop (lb l c), c < x := fun x hx => by
    have a := h2 x hx
    have b : x ≠ c := fun e => hc (e ▸ List.mem_of_mem_drop hx)
    omega
  refine ⟨h.sublist (List.take_sublist _ _), ⟨hd, h.sublist (List.drop_sublist _ _)⟩, fun x hx y hy => ?_⟩
  rcases List.mem_cons.1 hy with rfl | hy
  · exact h1 x hx
  · have a := h1 x hx
    have b := hd y hy
    omega
theorem run_ok : ∀ (l : List Int) (u : Int), l.Pairwise (· < ·) → (∀ x ∈ l, u + 1 ≤ x ∧ x ≤ 65535) → u ≤ 65535 → u + run u l ≤ 65535 ∧ ∀ x ∈ l.drop (run u l), u + run u l + 2 ≤ x ∧ x ≤ 65535
  | [], u, _, _, hu => by simp [run]; exact hu
  | x :: r, u, h, hb, hu => by
    rw [List.pairwise_cons] at h
    have hx := hb x (by simp)
    unfold run
    by_cases e : x = u + 1
    · rw [if_pos e]
      obtain ⟨h1, h2⟩ := run_ok r (u + 1) h.2 (fun y hy => by have a := h.1 y hy; have b := hb y (by simp [hy]); omega) (by omega)
      rw [List.drop_succ_cons]
      refine ⟨by push_cast; omega, fun y hy => ?_⟩
      have := h2 y hy
      push_cast; omega
    · rw [if_neg e]
      refine ⟨by simp; exact hu, fun y hy => ?_⟩
      rw [List.drop_zero] at hy
      rcases List.mem_cons.1 hy with rfl | hy
      · simp; omega
      · have a := h.1 y hy
        have b := hb y (by simp [hy])
        simp; omega
theorem Ok.wth {m : Mk} {c : Int} (h : Ok m) (hn : has m c = false) (h1 : c ≤ 65535) : Ok (wth m c) := by
  unfold has at hn
  rw [Bool.or_eq_false_iff] at hn
  have hc : c ∉ m.more := fun hm => by have := hn.1; simp at this; exact this hm
  have hu : ¬ c ≤ m.up := by have := hn.2; simpa using this
  have hl := ins_lt h.lt hc
  have hb : ∀ x ∈ ins m.more c, m.up + 1 ≤ x ∧ x ≤ 65535 := fun x hx => by
    rcases mem_ins.1 hx with rfl | hx
    · omega
    · have := h.gap x hx; omega
  obtain ⟨r1, r2⟩ := run_ok _ m.up hl hb h.u1
  exact ⟨by have := h.u0; simp only [Se.wth]; omega, r1, hl.sublist (List.drop_sublist _ _), r2⟩
/-- How many stand behind gaps, when one is put in. -/
theorem wth_len (m : Mk) (c : Int) : (wth m c).more.length ≤ m.more.length + 1 := by
  simp only [wth, List.length_drop, ins_len]
  omega
theorem wth_next {m : Mk} (h : Ok m) : (wth m (m.up + 1)).more.length ≤ m.more.length := by
  have e : lb m.more (m.up + 1) = 0 := by
    unfold lb
    rw [List.countP_eq_zero]
    intro y hy
    have := h.gap y hy
    simp; omega
  have e2 : ins m.more (m.up + 1) = (m.up + 1) :: m.more := by unfold ins; rw [e]; simp
  simp only [wth, e2, run, if_pos, List.drop_succ_cons, List.length_drop]
  omega
theorem mayN_zero {s : St} {i : Mg.Id4} (h : mayN s i = 0) : Mg.Right i ∧ has (getM s.kept i.o i.e) i.c = false ∧ (i.c = (getM s.kept i.o i.e).up + 1 ∨ s.gaps ≠ s.room) := by
  unfold mayN at h
  by_cases h0 : Mg.chkN i = 0
  · rw [if_neg (by simp [h0])] at h
    by_cases h1 : has (getM s.kept i.o i.e) i.c = true
    · rw [if_pos h1] at h; cases h
    · rw [if_neg h1] at h
      refine ⟨Mg.right_iff.1 h0, by simpa using h1, ?_⟩
      by_cases h2 : i.c ≠ (getM s.kept i.o i.e).up + 1 ∧ s.gaps = s.room
      · rw [if_pos h2] at h; cases h
      · by_cases h3 : i.c = (getM s.kept i.o i.e).up + 1
        · exact .inl h3
        · exact .inr fun h4 => h2 ⟨h3, h4⟩
  · rw [if_pos h0] at h
    exact absurd h h0
theorem Okk.addS {s : St} (h : Okk s) (i : Mg.Id4) : Okk (addS s i) := by
  unfold Se.addS
  by_cases hm : mayN s i = 0
  · rw [if_neg (by simp [hm])]
    obtain ⟨hr, hh, hg⟩ := mayN_zero hm
    have ho := h.get i.o i.e
    have hp : Pp i.o i.e := ⟨hr.o0, by have := hr.o1; omega, hr.e0, hr.e1⟩
    have hw := ho.wth hh hr.c1
    have hl := wth_len (getM s.kept i.o i.e) i.c
    refine ⟨h.r0, h.r1, fun o e m hk => ?_, ?_, ?_⟩
    · simp only [setM] at hk
      split at hk
      · rename_i he
        cases hk
        rw [he.1, he.2]
        exact ⟨hp, hw⟩
      · exact h.mkOk o e m hk
    · show s.gaps + _ ≤ s.room
      have := h.g1
      rcases hg with hg | hg
      · have hn := wth_next ho
        rw [← hg] at hn
        omega
      · omega
    · obtain ⟨pl, h1, h2, h3⟩ := h.cnt
      by_cases hk : s.kept i.o i.e = none
      · have hnm : (i.o, i.e) ∉ pl := fun hm => (h2 i.o i.e).2 hm hk
        refine ⟨(i.o, i.e) :: pl, List.nodup_cons.2 ⟨hnm, h1⟩, fun a b => ?_, ?_⟩
        · simp only [setM, List.mem_cons, Prod.mk.injEq]
          by_cases he : a = i.o ∧ b = i.e
          · rw [if_pos he]; simp [he]
          · rw [if_neg he, h2 a b]; simp [he]
        · show s.gaps + _ = total _ ((i.o, i.e) :: pl)
          have e0 : total (setM s.kept i.o i.e (Se.wth (getM s.kept i.o i.e) i.c)) ((i.o, i.e) :: pl) = ((Se.wth (getM s.kept i.o i.e) i.c).more.length : Int) + total (setM s.kept i.o i.e (Se.wth (getM s.kept i.o i.e) i.c)) pl := by
            unfold total
            rw [List.map_cons, List.sum_cons]
            simp only [get_set]
          rw [e0, total_other _ _ _ _ _ hnm, h3]
          have : getM s.kept i.o i.e = ⟨0, []⟩ := by unfold getM; rw [hk]; rfl
          rw [this]
          simp
          omega
      · have hmm := (h2 i.o i.e).1 hk
        refine ⟨pl, h1, fun a b => ?_, ?_⟩
        · simp only [setM]
          by_cases he : a = i.o ∧ b = i.e
          · rw [if_pos he]; simp [he, hmm]
          · rw [if_neg he]; exact h2 a b
        · show s.gaps + _ = total _ pl
          rw [total_set _ _ _ _ pl h1 hmm, h3]
  · rw [if_pos hm]
    exact h
end Go.Proofs.Ythajocfgpodimaa.Se
/- A set in memory: its box, its map of marks, their lists. -/
namespace Go.Proofs.Ythajocfgpodimaa.Se
open Go.RowKit Go.Maps Go.WideElems
open Go.Proofs.Ythajocfgpodimaa.Me Go.Proofs.Ythajocfgpodimaa.Sb
set_option linter.unusedVariables false
set_option linter.unusedSimpArgs false

/-! ### Keys -/
abbrev RV : Value → Option (DataW Value × List MemPlace) := fun v => some (.held v, [])
theorem arr : WideMaps.ArrKey Try.prog 63 3 2 := ⟨Try.underlying63, by kernel_rfl, by kernel_rfl, by kernel_rfl⟩
theorem keyed : Keyed Try.prog 63 := Keyed.of_law arr.law
def kl (o e : Int) : Lit := .string (keyBytes [.int .i64 o, .int .i64 e])
theorem Pp.wf {o e : Int} (h : Pp o e) : (Lit.int .i64 o).wf = true ∧ (Lit.int .i64 e).wf = true := by
  obtain ⟨h1, h2, h3, h4⟩ := h
  exact ⟨WalkArith.wf_i64 (by omega), WalkArith.wf_i64 (by omega)⟩
theorem types_pos : ∃ m, Try.prog.types.size = m + 1 := by
  have h : 0 < Try.prog.types.size := of_decide_eq_true (by kernel_rfl)
  exact ⟨Try.prog.types.size - 1, by omega⟩
theorem key_of {o e : Int} (h : Pp o e) : keyOf Try.prog 63 (.agg #[.int .i64 o, .int .i64 e]) = some (kl o e) := WideMaps.keyOf_pair arr Try.underlying3 types_pos h.wf.1 h.wf.2
theorem key_lit (o e : Int) : WideAt.IsKeyLit (kl o e) := trivial
theorem kl_inj {o e a b : Int} (h : Pp o e) (k : Pp a b) (hk : kl o e = kl a b) : o = a ∧ e = b := by
  have := _root_.Go.keyBytes_inj (l := [.int .i64 o, .int .i64 e]) (l' := [.int .i64 a, .int .i64 b]) ⟨rfl, rfl, trivial⟩ (by
    intro x hx
    simp only [List.mem_cons, List.not_mem_nil, or_false] at hx
    rcases hx with rfl | rfl
    · exact h.wf.1
    · exact h.wf.2) (by
    intro x hx
    simp only [List.mem_cons, List.not_mem_nil, or_false] at hx
    rcases hx with rfl | rfl
    · exact k.wf.1
    · exact k.wf.2) (by injection hk)
  simpa using this
/-! ### Lists -/
/-- A slice of numbers that lies in a block of such. -/
def Sl (w : World) (A : Option Addr) (c : Nat) (l : List Int) : Prop :=
  l.length ≤ c ∧ c ≤ 9223372036854775807 ∧ (A = none → l = [] ∧ c = 0) ∧ ∀ a, A = some a → ∃ g off, a = ⟨g, off, none⟩ ∧ (∃ cur, w.heap[g]? = some (.cells cur 3 (0, 0))) ∧ ∀ i, i < l.length → w.cell? ⟨g, off + i, none⟩ = some (.int .i64 (l.getD i 0))
/-- What leaves all blocks of numbers alone. -/
def Ints (w w' : World) : Prop := ∀ (k : Nat) (cs : Array Value), w.heap[k]? = some (.cells cs 3 (0, 0)) → w'.heap[k]? = w.heap[k]?
theorem Ints.refl (w : World) : Ints w w := fun _ _ _ => rfl
theorem Ints.trans {w w' w'' : World} (h : Ints w w') (k : Ints w' w'') : Ints w w'' := fun x cs hx => (k x cs ((h x cs hx).trans hx)).trans (h x cs hx)
theorem Ints.below {w w' : World} (h : Below w.heap.size w w') : Ints w w' := fun k cs hk => h.block k (Array.getElem?_eq_some_iff.1 hk).1
theorem Ints.but {S : Nat → Prop} {w w' : World} (h : But S w w') (hS : ∀ (k : Nat) (cs : Array Value), w.heap[k]? = some (.cells cs 3 (0, 0)) → ¬ S k) : Ints w w' := fun k cs hk => h.same k (Array.getElem?_eq_some_iff.1 hk).1 (hS k cs hk)
theorem Sl.keep {w w' : World} {A : Option Addr} {c : Nat} {l : List Int} (h : Sl w A c l) (hi : Ints w w') : Sl w' A c l :=
  ⟨h.1, h.2.1, h.2.2.1, fun a ha => by
    obtain ⟨g, off, e, ⟨cur, hc⟩, hr⟩ := h.2.2.2 a ha
    have hk := hi g cur hc
    exact ⟨g, off, e, ⟨cur, hk.trans hc⟩, fun i hl => (World.cell?_of_block (w := w) (a := ⟨g, off + i, none⟩) hk).trans (hr i hl)⟩⟩
theorem Sl.nil (w : World) : Sl w none 0 [] := ⟨Nat.le_refl _, by omega, fun _ => ⟨rfl, rfl⟩, fun a e => by cases e⟩
/-- A mark as a value; tight: no room behind its list. -/
def El (w : World) (t : Bool) (v : Value) (m : Mk) : Prop := ∃ A c, v = .agg #[.int .i64 m.up, .slice A m.more.length c] ∧ (t = true → c = m.more.length) ∧ Sl w A c m.more
theorem El.keep {w w' : World} {t : Bool} {v : Value} {m : Mk} (h : El w t v m) (hi : Ints w w') : El w' t v m := by
  obtain ⟨A, c, e, h1, h2⟩ := h
  exact ⟨A, c, e, h1, h2.keep hi⟩
theorem El.zero (w : World) (t : Bool) : El w t (.agg #[.int .i64 0, .slice none 0 0]) ⟨0, []⟩ := ⟨none, 0, rfl, fun _ => rfl, Sl.nil w⟩
theorem zeroMk (w : World) : (zeroValue 65).run Try.prog w = .ok (.agg #[.int .i64 0, .slice none 0 0]) w := by kernel_rfl
/-! ### The map -/
structure Vw (w : World) (t : Bool) (D : DataW Value) (kept : Int → Int → Option Mk) : Prop where
  keys : ∀ l : Lit, Maps.has D l = true → ∃ o e, l = kl o e ∧ Pp o e ∧ kept o e ≠ none
  no : ∀ o e, Pp o e → kept o e = none → Maps.has D (kl o e) = false
  yes : ∀ o e m, Pp o e → kept o e = some m → Maps.has D (kl o e) = true ∧ ∃ v, (∀ z, D.atKey (kl o e) z = .held v) ∧ El w t v m
def Mp (w : World) (t : Bool) (b n : Nat) (kept : Int → Int → Option Mk) : Prop := ∃ D, w.ownsMap Try.prog 63 RV b n D ∧ Vw w t D kept
theorem Vw.keep {w w' : World} {t : Bool} {D : DataW Value} {kept : Int → Int → Option Mk} (h : Vw w t D kept) (hi : Ints w w') : Vw w' t D kept :=
  ⟨h.keys, h.no, fun o e m hp hk => ⟨(h.yes o e m hp hk).1, by obtain ⟨v, h1, h2⟩ := (h.yes o e m hp hk).2; exact ⟨v, h1, h2.keep hi⟩⟩⟩
theorem Mp.lt {w : World} {t : Bool} {b n : Nat} {kept : Int → Int → Option Mk} (h : Mp w t b n kept) : b < w.heap.size := by
  obtain ⟨D, h1, _⟩ := h
  exact h1.lt
theorem Mp.isMap {w : World} {t : Bool} {b n : Nat} {kept : Int → Int → Option Mk} (h : Mp w t b n kept) : ∃ es c, w.heap[b]? = some (.map es c) := by
  obtain ⟨D, ⟨es, clock, hb, _⟩, _⟩ := h
  exact ⟨es, clock, hb⟩
theorem Mp.keep {w w' : World} {t : Bool} {b n : Nat} {kept : Int → Int → Option Mk} (h : Mp w t b n kept) (hb : w'.heap[b]? = w.heap[b]?) (hi : Ints w w') : Mp w' t b n kept := by
  obtain ⟨D, ⟨es, clock, hb', r⟩, hv⟩ := h
  exact ⟨D, ⟨es, clock, hb.trans hb', r⟩, hv.keep hi⟩
theorem Mp.made (w : World) (t : Bool) : Mp (w.alloc (.map #[] 0)) t w.heap.size 0 fun _ _ => none := by
  refine ⟨.map [], World.ownsMap_made w Try.prog 63 RV, fun l hl => ?_, fun o e _ _ => rfl, fun o e m _ hk => by cases hk⟩
  simp [Maps.has] at hl
/-- 'm[k]'. -/
theorem Mp.look {w : World} {t : Bool} {b n : Nat} {kept : Int → Int → Option Mk} (h : Mp w t b n kept) {o e : Int} (hp : Pp o e) :
    ∃ v, El w t v (getM kept o e) ∧ ∀ W : World, W.heap[b]? = w.heap[b]? → (Instr.lookup 59 (.map (some b)) (.agg #[.int .i64 o, .int .i64 e]) false).run Try.prog W = .ok v W := by
  obtain ⟨D, ⟨es, clock, hb, r⟩, hv⟩ := h
  cases hk : kept o e with
  | none =>
    refine ⟨.agg #[.int .i64 0, .slice none 0 0], by unfold getM; rw [hk]; exact El.zero w t, fun W hW => ?_⟩
    have how : W.ownsMap Try.prog 63 RV b n D := ⟨es, clock, hW.trans hb, r⟩
    obtain ⟨v, ps, h1, h2⟩ := how.lookup keyed Try.underlying59 (zeroMk W) (zd := .held (.agg #[.int .i64 0, .slice none 0 0])) (zp := []) rfl (key_of hp)
    rw [atKey_of_not_has (hv.no o e hp hk)] at h2
    simp only [Option.some.injEq, Prod.mk.injEq, DataW.held.injEq] at h2
    rw [h2.1] at h1
    exact h1
  | some m =>
    obtain ⟨hh, v, h3, h4⟩ := hv.yes o e m hp hk
    refine ⟨v, by unfold getM; rw [hk]; exact h4, fun W hW => ?_⟩
    have how : W.ownsMap Try.prog 63 RV b n D := ⟨es, clock, hW.trans hb, r⟩
    obtain ⟨v', ps, h1, h2⟩ := how.lookup keyed Try.underlying59 (zeroMk W) (zd := .held (.agg #[.int .i64 0, .slice none 0 0])) (zp := []) rfl (key_of hp)
    rw [h3] at h2
    simp only [Option.some.injEq, Prod.mk.injEq, DataW.held.injEq] at h2
    rw [h2.1] at h1
    exact h1
theorem but_turned {w w' : World} {b : Nat} (h : w.mapTurned w' b) : But (fun k => k = b) w w' ∧ w'.heap.size = w.heap.size := by
  have hg := h.grown
  refine ⟨⟨hg.os, hg.tape, hg.output, hg.size, fun k hk hn => hg.block k hk fun e => hn (by cases e; rfl)⟩, ?_⟩
  obtain ⟨es, clock, es', clock', hb, rfl⟩ := h
  simp [ChangeMaps.setBlock]
theorem Mp.put {w : World} {t : Bool} {b n : Nat} {kept : Int → Int → Option Mk} (h : Mp w t b n kept) (hn : n ≤ 1000000000) {o e : Int} (hp : Pp o e) {v : Value} {m : Mk} (hv : El w t v m) :
    ∃ w', (Instr.mapUpdate 59 (.map (some b)) (.agg #[.int .i64 o, .int .i64 e]) v).run Try.prog w = .ok () w' ∧ Mp w' t b (n + 1) (setM kept o e m) ∧ But (fun k => k = b) w w' ∧ w'.heap.size = w.heap.size := by
  have hm := h.isMap
  obtain ⟨D, how, hvw⟩ := h
  obtain ⟨w', h1, h2, h3⟩ := how.store keyed Try.underlying59 (by unfold maxLen; omega) (key_of hp) (val := v) (d := .held v) (ps := []) rfl
  obtain ⟨b1, b2⟩ := but_turned h3
  have hI := how.isMap
  have hi : Ints w w' := Ints.but b1 fun k cs hk e => by
    subst e
    obtain ⟨es, c, hm⟩ := hm
    rw [hm] at hk; cases hk
  have hvw' : Vw w' t (D.put (kl o e) (.held v)) (setM kept o e m) := by
    refine ⟨fun l hl => ?_, fun a b hab hk => ?_, fun a b q hab hk => ?_⟩
    · by_cases he : l = kl o e
      · exact ⟨o, e, he, hp, by simp [setM]⟩
      · rw [has_put_other he] at hl
        obtain ⟨a, b, e1, e2, e3⟩ := hvw.keys l hl
        refine ⟨a, b, e1, e2, ?_⟩
        unfold setM
        split
        · simp
        · exact e3
    · unfold setM at hk
      split at hk
      · cases hk
      · rename_i hne
        rw [has_put_other (fun he => hne (kl_inj hab hp he))]
        exact hvw.no a b hab hk
    · unfold setM at hk
      split at hk
      · rename_i he
        cases hk
        obtain ⟨rfl, rfl⟩ := he
        exact ⟨has_put_same hI (key_lit _ _) _, v, fun z => atKey_put_same hI (key_lit _ _) _ _, hv.keep hi⟩
      · rename_i hne
        have hk' : kl a b ≠ kl o e := fun he => hne (kl_inj hab hp he)
        obtain ⟨y1, u, y2, y3⟩ := hvw.yes a b q hab hk
        exact ⟨by rw [has_put_other hk']; exact y1, u, fun z => by rw [atKey_put_other hk']; exact y2 z, y3.keep hi⟩
  exact ⟨w', h1, ⟨_, h2, hvw'⟩, b1, b2⟩
theorem putW {w : World} {o : Oper} {a : Act} {K : Act → World → Prop} {Q : Exit → Act → World → Prop} (m x v : Operand) (ho : o.op = .mapUpdate 59 m x v)
    (t : Bool) (b n : Nat) (kept : Int → Int → Option Mk) (oo ee : Int) (q : Mk) (u : Value) (hm : a.eval m = .map (some b)) (hx : a.eval x = .agg #[.int .i64 oo, .int .i64 ee]) (hv : a.eval v = u) (hM : Mp w t b n kept) (hn : n ≤ 1000000000) (hp : Pp oo ee) (hE : El w t u q)
    (h : ∀ w', Mp w' t b (n + 1) (setM kept oo ee q) → But (fun k => k = b) w w' → w'.heap.size = w.heap.size → K (a.put o.dst undef) w') : o.wp Try.prog a w K Q := by
  obtain ⟨w', hr, h1, h2, h3⟩ := hM.put hn hp hE
  unfold Oper.wp execOp
  simp only [ho, Sem.run_bind, Sem.run_pure, Result.andThen_ok, hm, hx, hv, hr]
  exact h w' h1 h2 h3
/-! ### The set -/
structure Set (w : World) (t : Bool) (D b n : Nat) (s : St) : Prop where
  box : w.heap[D]? = some (.cells #[.int .i64 s.room, .int .i64 s.gaps, .map (some b)] 61 (0, 0))
  map : Mp w t b n s.kept
  ok : Okk s
theorem Set.keep {w w' : World} {t : Bool} {D b n : Nat} {s : St} (h : Set w t D b n s) (hD : w'.heap[D]? = w.heap[D]?) (hb : w'.heap[b]? = w.heap[b]?) (hi : Ints w w') : Set w' t D b n s := ⟨hD.trans h.box, h.map.keep hb hi, h.ok⟩
theorem Set.lt {w : World} {t : Bool} {D b n : Nat} {s : St} (h : Set w t D b n s) : D < w.heap.size ∧ b < w.heap.size := ⟨(Array.getElem?_eq_some_iff.1 h.box).1, h.map.lt⟩
theorem Set.below {w w' : World} {t : Bool} {D b n : Nat} {s : St} (h : Set w t D b n s) (hb : Below w.heap.size w w') : Set w' t D b n s := h.keep (hb.block _ h.lt.1) (hb.block _ h.lt.2) (Ints.below hb)
theorem Set.ne {w : World} {t : Bool} {D b n : Nat} {s : St} (h : Set w t D b n s) : D ≠ b := fun e => by
  obtain ⟨es, c, hm⟩ := h.map.isMap
  have := h.box
  rw [e, hm] at this
  cases this
theorem set_cells {w : World} {D b : Nat} {r g : Int} (h : w.heap[D]? = some (.cells #[.int .i64 r, .int .i64 g, .map (some b)] 61 (0, 0))) : w.cell? ⟨D, 0, none⟩ = some (.int .i64 r) ∧ w.cell? ⟨D, 1, none⟩ = some (.int .i64 g) ∧ w.cell? ⟨D, 2, none⟩ = some (.map (some b)) :=
  ⟨cell_of_row w D 0 _ _ (0, 0) h, cell_of_row w D 1 _ _ (0, 0) h, cell_of_row w D 2 _ _ (0, 0) h⟩
end Go.Proofs.Ythajocfgpodimaa.Se
