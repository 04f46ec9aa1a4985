/- Memory for queues: lists of bytes in a slice that may begin anywhere in its block; what appends, cuts and clear make of them. -/
import Derived.Test.YtnfjfcoonabmmaaMemB
import Derived.Lib.SliceRun
import Derived.Deep.AppendSrc
namespace Go.Proofs.Ytnfjfcoonabmmaa.Sn
open Go.RowKit
open Go.Proofs.Ytnfjfcoonabmmaa.Me Go.Proofs.Ytnfjfcoonabmmaa.Hd
set_option linter.unusedVariables false

/-- The block of an address. -/
def bk (A : Option Addr) (k : Nat) : Prop := ∃ a, A = some a ∧ a.block = k
theorem own_type {w : World} {B T s n : Nat} {v : Value} {xs : List Value} (h : w.ownsRow B T s v n xs) : ∀ k, v.ownBlock = some k → ∃ cur, w.heap[k]? = some (.cells cur T (0, 0)) := by
  intro k e
  rcases h.2 with ⟨rfl, _⟩ | ⟨g, cap, cur, rfl, _, h3, _⟩
  · cases e
  · simp only [Value.ownBlock, Option.some.injEq] at e
    subst e
    exact ⟨cur, h3⟩
/-- A slice of one's own with these bytes, in a block that bears F. -/
def El (F : Nat → Prop) (w : World) (u : Value) (l : List Nat) : Prop :=
  ∃ A c, u = .slice A l.length c ∧ Me.Own w 0 (.slice A l.length c) l ∧ ∀ a, A = some a → F a.block
theorem El.kept {F F' : Nat → Prop} {w w' : World} {u : Value} {l : List Nat} (h : El F w u l) (hk : ∀ k cs, F k → w.heap[k]? = some (.cells cs 5 (0, 0)) → w'.heap[k]? = w.heap[k]? ∧ F' k) : El F' w' u l := by
  obtain ⟨A, c, e, ho, hF⟩ := h
  refine ⟨A, c, e, own_same ho fun k ek hk' => ?_, fun a ea => ?_⟩
  · obtain ⟨cs, hc⟩ := own_type ho k ek
    cases A with
    | none => cases ek
    | some a => cases ek; exact (hk _ cs (hF a rfl) hc).1
  · obtain ⟨cs, hc⟩ := own_type ho a.block (by rw [ea]; rfl)
    exact (hk _ cs (hF a ea) hc).2
/-- A slice (address A, room c) leads to slices of one's own that hold the lists ls; all blocks bear F. -/
def Ls (F : Nat → Prop) (w : World) (A : Option Addr) (c : Nat) (ls : List (List Nat)) : Prop :=
  (A = none ∧ c = 0 ∧ ls = []) ∨
  ∃ g off cur, A = some ⟨g, off, none⟩ ∧ F g ∧ w.heap[g]? = some (.cells cur 32 (0, 0)) ∧ ls.length ≤ c ∧ c ≤ 9223372036854775807 ∧ off + c ≤ cur.size ∧ ∀ j, j < ls.length → ∃ u, cur[off + j]? = some u ∧ El F w u (lsAt ls j)
theorem Ls.nil (F : Nat → Prop) (w : World) : Ls F w none 0 [] := .inl ⟨rfl, rfl, rfl⟩
theorem Ls.le {F : Nat → Prop} {w : World} {A : Option Addr} {c : Nat} {ls : List (List Nat)} (h : Ls F w A c ls) : ls.length ≤ c ∧ c ≤ 9223372036854775807 := by
  rcases h with ⟨_, rfl, rfl⟩ | ⟨_, _, _, _, _, _, h1, h2, _⟩
  · exact ⟨Nat.le_refl _, Nat.zero_le _⟩
  · exact ⟨h1, h2⟩
theorem Ls.kept {F F' : Nat → Prop} {w w' : World} {A : Option Addr} {c : Nat} {ls : List (List Nat)} (h : Ls F w A c ls) (hk : ∀ k, k < w.heap.size → F k → w'.heap[k]? = w.heap[k]? ∧ F' k) : Ls F' w' A c ls := by
  rcases h with h | ⟨g, off, cur, e, h1, h2, h3, h4, h5, h6⟩
  · exact .inl h
  · have hg := (Array.getElem?_eq_some_iff.1 h2).1
    refine .inr ⟨g, off, cur, e, (hk g hg h1).2, ((hk g hg h1).1).trans h2, h3, h4, h5, fun j hj => ?_⟩
    obtain ⟨u, e1, e2⟩ := h6 j hj
    exact ⟨u, e1, e2.kept fun k cs hF hc => hk k (Array.getElem?_eq_some_iff.1 hc).1 hF⟩
theorem Ls.but {F S : Nat → Prop} {w w' : World} {A : Option Addr} {c : Nat} {ls : List (List Nat)} (h : Ls F w A c ls) (hb : But S w w') (hS : ∀ k, F k → ¬ S k) : Ls F w' A c ls := h.kept fun k hk hF => ⟨hb.same k hk (hS k hF), hF⟩
theorem Ls.below {F : Nat → Prop} {w w' : World} {A : Option Addr} {c : Nat} {ls : List (List Nat)} (h : Ls F w A c ls) (hb : Below w.heap.size w w') : Ls F w' A c ls := h.kept fun k hk hF => ⟨hb.block k hk, hF⟩
theorem Ls.mono {F F' : Nat → Prop} {w : World} {A : Option Addr} {c : Nat} {ls : List (List Nat)} (h : Ls F w A c ls) (hF : ∀ k, k < w.heap.size → F k → F' k) : Ls F' w A c ls := h.kept fun k hk h => ⟨rfl, hF k hk h⟩
theorem Ls.blk {F : Nat → Prop} {w : World} {A : Option Addr} {c : Nat} {ls : List (List Nat)} (h : Ls F w A c ls) : ∀ k, bk A k → F k ∧ k < w.heap.size ∧ ∃ cur, w.heap[k]? = some (.cells cur 32 (0, 0)) := by
  rintro k ⟨a, e, rfl⟩
  rcases h with ⟨e', _⟩ | ⟨g, off, cur, e', h1, h2, _⟩
  · rw [e'] at e; cases e
  · rw [e'] at e; cases e
    exact ⟨h1, (Array.getElem?_eq_some_iff.1 h2).1, cur, h2⟩
theorem lsAt_drop (ls : List (List Nat)) (n j : Nat) : lsAt (ls.drop n) j = lsAt ls (n + j) := by simp [lsAt]
theorem add_mk (g off n : Nat) : (⟨g, off, none⟩ : Addr).add n = ⟨g, off + n, none⟩ := by unfold Addr.add; split <;> simp_all
/-- Without its first n. -/
theorem Ls.cut {F : Nat → Prop} {w : World} {A : Option Addr} {c n : Nat} {ls : List (List Nat)} (h : Ls F w A c ls) (hn : n ≤ ls.length) : Ls F w (if c = n then A else A.map (fun x => x.add n)) (c - n) (ls.drop n) := by
  rcases h with ⟨rfl, rfl, rfl⟩ | ⟨g, off, cur, rfl, h1, h2, h3, h4, h5, h6⟩
  · obtain rfl : n = 0 := by simpa using hn
    exact .inl ⟨by simp, rfl, rfl⟩
  · by_cases hc : c = n
    · subst hc
      rw [if_pos rfl]
      have hl : ls.drop c = [] := by rw [List.drop_eq_nil_iff]; omega
      rw [hl]
      exact .inr ⟨g, off, cur, rfl, h1, h2, by simp, by omega, by omega, fun j hj => by simp at hj⟩
    · rw [if_neg hc]
      refine .inr ⟨g, off + n, cur, by simp [add_mk], h1, h2, by simp; omega, by omega, by omega, fun j hj => ?_⟩
      obtain ⟨u, e1, e2⟩ := h6 (n + j) (by simp at hj; omega)
      exact ⟨u, by rw [Nat.add_assoc]; exact e1, by rw [lsAt_drop]; exact e2⟩
/-- Its first n alone, without room behind them. -/
theorem Ls.first {F : Nat → Prop} {w : World} {A : Option Addr} {c n : Nat} {ls : List (List Nat)} (h : Ls F w A c ls) (hn : n ≤ ls.length) : Ls F w A n (ls.take n) := by
  rcases h with ⟨rfl, rfl, rfl⟩ | ⟨g, off, cur, rfl, h1, h2, h3, h4, h5, h6⟩
  · obtain rfl : n = 0 := by simpa using hn
    exact .inl ⟨rfl, rfl, rfl⟩
  · refine .inr ⟨g, off, cur, rfl, h1, h2, by simp; omega, by omega, by omega, fun j hj => ?_⟩
    obtain ⟨u, e1, e2⟩ := h6 j (by simp at hj; omega)
    have : lsAt (ls.take n) j = lsAt ls j := by
      have hj' : j < n := by simp at hj; omega
      simp [lsAt, hj']
    exact ⟨u, e1, by rw [this]; exact e2⟩
theorem Ls.elem {F : Nat → Prop} {w : World} {A : Option Addr} {c j : Nat} {ls : List (List Nat)} (h : Ls F w A c ls) (hj : j < ls.length) :
    ∃ g off R cr, A = some ⟨g, off, none⟩ ∧ F g ∧ g < w.heap.size ∧ w.cell? ⟨g, off + j, none⟩ = some (.slice R (lsAt ls j).length cr) ∧ Me.Own w 0 (.slice R (lsAt ls j).length cr) (lsAt ls j) ∧ ∀ a, R = some a → F a.block := by
  rcases h with ⟨_, _, rfl⟩ | ⟨g, off, cur, rfl, h1, h2, h3, h4, h5, h6⟩
  · simp at hj
  · obtain ⟨u, e1, R, cr, rfl, e3, e4⟩ := h6 j hj
    exact ⟨g, off, R, cr, rfl, h1, (Array.getElem?_eq_some_iff.1 h2).1, by rw [cell_of_row w g (off + j) _ _ (0, 0) h2]; exact e1, e3, e4⟩
/-- What such slices hold can be read. -/
theorem Ls.lst {F : Nat → Prop} {w : World} {A : Option Addr} {c : Nat} {ls : List (List Nat)} (h : Ls F w A c ls) (hb : ∀ l ∈ ls, ∀ z ∈ l, z < 256) : Lst w w.heap.size A ls ∧ Nils w A ls := by
  have hat : ∀ j, j < ls.length → ∀ z ∈ lsAt ls j, z < 256 := fun j hj => hb _ (by simp [lsAt, hj])
  refine ⟨fun hl => ?_, fun b off e j hj n c' hc => ?_⟩
  · obtain ⟨g, off, _, _, rfl, _, hlt, _⟩ := h.elem hl
    refine ⟨g, off, rfl, hlt, fun j hj => ?_⟩
    obtain ⟨g', off', R, cr, e, _, _, e1, e2, _⟩ := h.elem hj
    cases e
    obtain ⟨r1, r2, r3, r4⟩ := own_rd e2 (hat j hj)
    exact ⟨R, cr, e1, r3, r4, r1⟩
  · obtain ⟨g', off', R, cr, e', _, _, e1, e2, _⟩ := h.elem hj
    rw [e'] at e
    cases e
    rw [hc] at e1
    simp only [Option.some.injEq, Value.slice.injEq] at e1
    obtain ⟨rfl, rfl, rfl⟩ := e1
    exact (own_rd e2 (hat j hj)).2.1 rfl
theorem heap_setCells (g : Nat) (T : TypeId) : ∀ (vs : List Value) (o : Nat) (w : World) (cur : Array Value), w.heap[g]? = some (.cells cur T (0, 0)) →
    ∃ cur', (w.setCells g o vs).heap[g]? = some (.cells cur' T (0, 0)) ∧ cur'.size = cur.size ∧ (∀ i, i < o ∨ o + vs.length ≤ i → cur'[i]? = cur[i]?) ∧ (∀ j, j < vs.length → o + j < cur.size → cur'[o + j]? = vs[j]?)
  | [], o, w, cur, h => ⟨cur, h, rfl, fun _ _ => rfl, fun j hj => absurd hj (by simp)⟩
  | v :: r, o, w, cur, h => by
    obtain ⟨cur', h1, h2, h3, h4⟩ := heap_setCells g T r (o + 1) (w.setCell ⟨g, o, none⟩ v) _ (heap_setCell_same w g o cur T v h)
    refine ⟨cur', h1, by rw [h2]; simp, fun i hi => ?_, fun j hj hs => ?_⟩
    · rw [h3 i (by simp only [List.length_cons] at hi; omega), Array.getElem?_setIfInBounds_ne (by simp only [List.length_cons] at hi; omega)]
    · cases j with
      | zero =>
        rw [h3 (o + 0) (by omega)]
        simp at hs ⊢
        simp [hs]
      | succ j =>
        have := h4 j (by simpa using hj) (by simp; omega)
        rw [show o + (j + 1) = o + 1 + j by omega, this]
        simp
theorem but_setCells (w : World) (g o : Nat) (vs : List Value) : But (fun k => k = g) w (w.setCells g o vs) ∧ (w.setCells g o vs).heap.size = w.heap.size := by
  have hs : ∀ (vs : List Value) (o : Nat) (w : World), (w.setCells g o vs).heap.size = w.heap.size ∧ (w.setCells g o vs).os = w.os ∧ (w.setCells g o vs).tape = w.tape ∧ (w.setCells g o vs).output = w.output ∧ ∀ k, k ≠ g → (w.setCells g o vs).heap[k]? = w.heap[k]? := by
    intro vs
    induction vs with
    | nil => intro o w; exact ⟨rfl, rfl, rfl, rfl, fun _ _ => rfl⟩
    | cons v r ih =>
      intro o w
      obtain ⟨a1, a2, a3, a4, a5⟩ := ih (o + 1) (w.setCell ⟨g, o, none⟩ v)
      exact ⟨by rw [World.setCells, a1]; simp, a2, a3, a4, fun k hk => (a5 k hk).trans (Below.heap_setCell w ⟨g, o, none⟩ v k hk)⟩
  obtain ⟨a1, a2, a3, a4, a5⟩ := hs vs o w
  exact ⟨⟨a2, a3, a4, by omega, fun k _ hk => a5 k hk⟩, a1⟩
theorem zero24 (w : World) : (zeroValue 32).run Try.prog w = .ok (.slice none 0 0) w := by kernel_rfl
theorem not8 {g : Nat} {w : World} {cur cs : Array Value} (h : w.heap[g]? = some (.cells cur 32 (0, 0))) {k : Nat} (hk : w.heap[k]? = some (.cells cs 5 (0, 0))) : k ≠ g := by
  rintro rfl
  rw [h] at hk
  simp only [Option.some.injEq, Obj.cells.injEq] at hk
  exact absurd hk.2.1 (by decide)
/-- Behind clear of the first n, what is behind them. -/
theorem Ls.clear {F : Nat → Prop} {w : World} {A : Option Addr} {c n : Nat} {ls : List (List Nat)} (h : Ls F w A c ls) (hn : n ≤ ls.length) :
    ∃ w', (∀ ty, (Builtin.clear_ #[29] ty #[.slice A n n]).run Try.prog w = .ok (.tuple #[]) w') ∧ Ls F w' (if c = n then A else A.map (fun x => x.add n)) (c - n) (ls.drop n) ∧ But (bk A) w w' ∧ w'.heap.size = w.heap.size := by
  by_cases h0 : n = 0
  · subst h0
    refine ⟨w, fun ty => ?_, h.cut (Nat.zero_le _), But.refl _ _, rfl⟩
    cases A <;> simp [Builtin.clear_, run_underlying Try.underlying29]
  · have h' := h
    rcases h with ⟨_, _, rfl⟩ | ⟨g, off, cur, rfl, h1, h2, h3, h4, h5, h6⟩
    · simp at hn; omega
    · obtain ⟨cur', q1, q2, q3, q4⟩ := heap_setCells g 32 (List.replicate n (.slice none 0 0)) off w cur h2
      obtain ⟨b1, b2⟩ := but_setCells w g off (List.replicate n (.slice none 0 0))
      refine ⟨w.setCells g off (List.replicate n (.slice none 0 0)), fun ty => ?_, ?_, b1.mono fun k _ e => ⟨_, rfl, e.symm⟩, b2⟩
      · refine Lib.run_clear_slice w 29 32 ty (.slice none 0 0) Try.underlying29 zero24 rfl rfl g off n n (by omega) (fun j hj => ?_) (fun j hj => frozen_of_row w g _ _ _ h2)
        rw [cell_of_row w g (off + j) _ _ (0, 0) h2, Array.getElem?_eq_getElem (by omega)]
        rfl
      · have hcut := h'.cut hn
        by_cases hc : c = n
        · rw [if_pos hc] at hcut ⊢
          have hl : ls.drop n = [] := by rw [List.drop_eq_nil_iff]; omega
          rw [hl]
          exact .inr ⟨g, off, cur', rfl, h1, q1, by simp, by omega, by omega, fun j hj => by simp at hj⟩
        · rw [if_neg hc]
          refine .inr ⟨g, off + n, cur', by simp [add_mk], h1, q1, by simp; omega, by omega, by omega, fun j hj => ?_⟩
          obtain ⟨u, e1, e2⟩ := h6 (n + j) (by simp at hj; omega)
          refine ⟨u, ?_, by rw [lsAt_drop]; exact e2.kept fun k cs hF hc => ⟨b1.same k (Array.getElem?_eq_some_iff.1 hc).1 (not8 h2 hc), hF⟩⟩
          rw [q3 (off + n + j) (by simp), Nat.add_assoc]; exact e1
/-- A list as a source of appends. -/
theorem Ls.src {F : Nat → Prop} {w : World} {A : Option Addr} {c : Nat} {ls : List (List Nat)} (h : Ls F w A c ls) :
    ∃ us, Src Try.prog 1 29 (.slice A ls.length c) ls.length us w ∧ ∀ j, j < ls.length → ∃ u, us[j]? = some u ∧ El F w u (lsAt ls j) := by
  rcases h with ⟨rfl, rfl, rfl⟩ | ⟨g, off, cur, rfl, h1, h2, h3, h4, h5, h6⟩
  · exact ⟨[], Src.ofNil w Try.underlying29 0, fun j hj => absurd hj (by simp)⟩
  · have hat : ∀ j, j < ls.length → ((cur.toList.drop off).take ls.length)[j]? = cur[off + j]? := fun j hj => by
      rw [List.getElem?_take_of_lt hj, List.getElem?_drop, Array.getElem?_toList]
    have hlen : ((cur.toList.drop off).take ls.length).length = ls.length := by simp; omega
    refine ⟨(cur.toList.drop off).take ls.length, Src.ofSlice w Try.underlying29 ⟨g, off, none⟩ ls.length c _ (by rw [hlen, Nat.mul_one]) (fun j u hu => ?_) (fun u hu => ?_), fun j hj => ?_⟩
    · have hj : j < ls.length := by
        have := (List.getElem?_eq_some_iff.1 hu).1
        rw [hlen] at this; exact this
      rw [hat j hj] at hu
      rw [add_mk, cell_of_row w g (off + j) _ _ (0, 0) h2]; exact hu
    · obtain ⟨j, hj, rfl⟩ := List.mem_iff_getElem.mp hu
      rw [hlen] at hj
      obtain ⟨u, e1, R, cr, e2, _⟩ := h6 j hj
      have := hat j hj
      rw [e1, List.getElem?_eq_getElem (by rw [hlen]; exact hj)] at this
      simp only [Option.some.injEq] at this
      rw [this, e2]; rfl
    · obtain ⟨u, e1, e2⟩ := h6 j hj
      exact ⟨u, (hat j hj).trans e1, e2⟩
/-- One element in a block of its own, as a source of appends. -/
theorem src_one {w wl : World} {R : Option Addr} {n c : Nat} (hw : w = wl.alloc (.cells #[.slice R n c] 32)) : Src Try.prog 1 29 (.slice (some ⟨wl.heap.size, 0, none⟩) 1 1) 1 [.slice R n c] w := by
  refine Src.ofSlice w Try.underlying29 ⟨wl.heap.size, 0, none⟩ 1 1 _ rfl (fun j u hj => ?_) (by simp [Value.oneCell'])
  obtain rfl : j = 0 := by
    apply Classical.byContradiction
    intro hn
    rw [List.getElem?_eq_none (by simp; omega)] at hj; cases hj
  rw [add_mk, hw, cell_of_row _ wl.heap.size 0 _ 32 (0, 0) (heap_alloc_new wl _)]
  simpa using hj
theorem run_appL {w : World} {F : Nat → Prop} {A : Option Addr} {c : Nat} {ls rs : List (List Nat)} (hL : Ls F w A c ls) {xv : Value} {us : List Value} (hsrc : Src Try.prog 1 29 xv rs.length us w)
    (hus : ∀ j, j < rs.length → ∃ u, us[j]? = some u ∧ El F w u (lsAt rs j)) (hlen : (ls.length + rs.length) * 24 ≤ 140737488355328) (ty : TypeId) :
    ∃ A' c' w', (Builtin.append_ #[29, 29] ty #[.slice A ls.length c, xv]).run Try.prog w = .ok (.slice A' (ls.length + rs.length) c') w' ∧ Ls (fun k => F k ∨ w.heap.size ≤ k) w' A' c' (ls ++ rs) ∧ But (bk A) w w' ∧ (∀ k, bk A' k → bk A k ∨ w.heap.size ≤ k) := by
  obtain ⟨i0, hi, hz0, hz1, hz2⟩ := info_parts info24
  have hn := hsrc.newsLen
  rw [Nat.mul_one] at hn
  obtain ⟨hlc, hc63⟩ := hL.le
  -- a new block
  have grow : ∀ (olds : List Value), olds.length = ls.length → (∀ j, j < ls.length → ∃ u, olds[j]? = some u ∧ El F w u (lsAt ls j)) → c < ls.length + rs.length →
      (Builtin.firstCells i0.size ls.length (.slice A ls.length c)).run Try.prog w.drew = .ok olds.toArray w.drew →
      ∃ A' c' w', (Builtin.append_ #[29, 29] ty #[.slice A ls.length c, xv]).run Try.prog w = .ok (.slice A' (ls.length + rs.length) c') w' ∧ Ls (fun k => F k ∨ w.heap.size ≤ k) w' A' c' (ls ++ rs) ∧ But (bk A) w w' ∧ (∀ k, bk A' k → bk A k ∨ w.heap.size ≤ k) := by
    intro olds ho1 ho2 hg hold
    have hr := run_append_grow_src (P := Try.prog) w 29 29 ty 32 i0 (.slice none 0 0) Try.underlying29 hi hz0 A ls.length c olds hold xv rs.length us (by rw [hz1]; exact hsrc) hg (by omega)
      (growslice_fits hg (by rw [hz2]; exact hlen))
    have hge := grownCap_ge w (ls.length + rs.length) c 32
    have hcm := grownCap_le_maxLen w (ls.length + rs.length) c 32 (by unfold maxLen; omega)
    have hblk : ∀ o k, k < w.heap.size → (w.drew.alloc o).heap[k]? = w.heap[k]? := fun o k hk => Below.heap_alloc w.drew o k hk
    have hel : ∀ o u l, El F w u l → El (fun k => F k ∨ w.heap.size ≤ k) (w.drew.alloc o) u l := fun o u l he => he.kept fun k cs hF hc => ⟨hblk o k (Array.getElem?_eq_some_iff.1 hc).1, .inl hF⟩
    refine ⟨_, _, _, hr, .inr ⟨w.heap.size, 0, _, rfl, .inr (Nat.le_refl _), heap_alloc_new w.drew _, by rw [List.length_append]; exact hge, by unfold maxLen at hcm; omega, ?_, fun j hj => ?_⟩, (But.of_below ((Below.refl w.heap.size w).drew.alloc (by exact Nat.le_refl _) _)), fun k ⟨a, e, hk⟩ => .inr (by cases e; exact Nat.le_of_eq hk)⟩
    · have h1 : (Value.slice none 0 0).cells.size = 1 := rfl
      simp only [Array.size_append, List.size_toArray, List.length_append, ho1, hn, size_zeroCells, h1, Nat.mul_one]
      omega
    · rw [List.length_append] at hj
      have hcat : ∀ z : Array Value, ((olds ++ us).toArray ++ z)[0 + j]? = (olds ++ us)[j]? := fun z => by
        rw [Nat.zero_add, Array.getElem?_append_left (by simp; omega), List.getElem?_toArray]
      rw [hcat]
      by_cases hlt : j < ls.length
      · obtain ⟨u, e1, e2⟩ := ho2 j hlt
        rw [lsAt_append_left hlt, List.getElem?_append_left (by omega)]
        exact ⟨u, e1, hel _ _ _ e2⟩
      · obtain ⟨u, e1, e2⟩ := hus (j - ls.length) (by omega)
        rw [lsAt_append_right hlt, List.getElem?_append_right (by omega), ho1]
        exact ⟨u, e1, hel _ _ _ e2⟩
  rcases hL with ⟨rfl, rfl, rfl⟩ | ⟨g, off, cur, rfl, h1, h2, h3, h4, h5, h6⟩
  · by_cases h0 : rs.length = 0
    · obtain rfl : rs = [] := List.eq_nil_of_length_eq_zero h0
      obtain rfl : us = [] := List.eq_nil_of_length_eq_zero (by simpa using hn)
      refine ⟨none, 0, w, ?_, .inl ⟨rfl, rfl, rfl⟩, But.refl _ _, fun k hk => .inl hk⟩
      have q1 : ∀ w', (Builtin.lenOf xv).run Try.prog w' = .ok 0 w' := hsrc.len
      have q2 : (Builtin.firstCells 1 0 xv).run Try.prog w = .ok #[] w := hsrc.cells
      rcases hsrc.kind with ⟨e', hk⟩ | hk <;> simp [Builtin.append_, run_underlying Try.underlying29, run_underlying hk, sizeOf, typeInfo, hi, hz1, q1, q2]
    · exact grow [] rfl (fun j hj => absurd hj (by simp)) (by simp; omega) (run_firstCells_none w.drew i0.size 0 0 0)
  · by_cases hroom : ls.length + rs.length ≤ c
    · have hr := run_append_room_src (P := Try.prog) w 29 29 ty 32 i0 Try.underlying29 hi g off ls.length c xv rs.length us (by rw [hz1]; exact hsrc) hroom
        (fun j hj => by
          rw [cell_of_row w g _ _ _ (0, 0) h2, hz1, Nat.mul_one, Array.getElem?_eq_getElem (by omega)]
          rfl)
        (fun j hj => frozen_of_row w g _ _ _ h2)
      rw [hz1, Nat.mul_one] at hr
      obtain ⟨cur', q1, q2, q3, q4⟩ := heap_setCells g 32 us (off + ls.length) w cur h2
      obtain ⟨b1, b2⟩ := but_setCells w g (off + ls.length) us
      have hel : ∀ u l, El F w u l → El (fun k => F k ∨ w.heap.size ≤ k) (w.setCells g (off + ls.length) us) u l := fun u l he => he.kept fun k cs hF hc => ⟨b1.same k (Array.getElem?_eq_some_iff.1 hc).1 (not8 h2 hc), .inl hF⟩
      refine ⟨_, _, _, hr, .inr ⟨g, off, cur', rfl, .inl h1, q1, by rw [List.length_append]; exact hroom, h4, by omega, fun j hj => ?_⟩, b1.mono fun k _ e => ⟨_, rfl, e.symm⟩, fun k hk => .inl hk⟩
      rw [List.length_append] at hj
      by_cases hlt : j < ls.length
      · obtain ⟨u, e1, e2⟩ := h6 j hlt
        rw [lsAt_append_left hlt, q3 (off + j) (by omega)]
        exact ⟨u, e1, hel _ _ e2⟩
      · obtain ⟨u, e1, e2⟩ := hus (j - ls.length) (by omega)
        rw [lsAt_append_right hlt, show off + j = off + ls.length + (j - ls.length) by omega, q4 (j - ls.length) (by omega) (by omega)]
        exact ⟨u, e1, hel _ _ e2⟩
    · obtain ⟨olds, s1, s2⟩ := Ls.src (F := F) (w := w) (A := some ⟨g, off, none⟩) (c := c) (ls := ls) (.inr ⟨g, off, cur, rfl, h1, h2, h3, h4, h5, h6⟩)
      have := s1.newsLen
      exact grow olds (by omega) s2 (by omega) (by rw [hz1]; exact s1.cellsD)
/-- Some slices appended to a list. -/
theorem appL {w : World} {ops : Array Oper} {rest : List Oper} {o : Oper} {a : Act} {Q : Exit → Act → World → Prop} (hgd : o.guard = none) (s x : Operand)
    (ho : o.op = .call { callee := .builtin .append, args := #[s, x], argTypes := #[29, 29] })
    (F : Nat → Prop) (A : Option Addr) (c : Nat) (ls rs : List (List Nat)) (hs : a.eval s = .slice A ls.length c) (hL : Ls F w A c ls) (xv : Value) (us : List Value) (hx : a.eval x = xv) (hsrc : Src Try.prog 1 29 xv rs.length us w)
    (hus : ∀ j, j < rs.length → ∃ u, us[j]? = some u ∧ El F w u (lsAt rs j)) (hlen : (ls.length + rs.length) * 24 ≤ 140737488355328)
    (h : ∀ A' c' w', Ls (fun k => F k ∨ w.heap.size ≤ k) w' A' c' (ls ++ rs) → But (bk A) w w' → (∀ k, bk A' k → bk A k ∨ w.heap.size ≤ k) → wpList Try.prog ops Q rest (a.put o.dst (.slice A' (ls.length + rs.length) c')) w') : wpList Try.prog ops Q (o :: rest) a w := by
  refine wpList_plain hgd fun K hK => ?_
  obtain ⟨A', c', w', hr, h1, h2, h3⟩ := run_appL hL hsrc hus hlen o.type
  unfold Oper.wp execOp
  simp only [ho, resolve, invoke, builtin, Sem.run_bind, Sem.run_pure, Result.andThen_ok, List.map_toArray, List.map_cons, List.map_nil, hs, hx, hr]
  exact hK _ _ (h A' c' w' h1 h2 h3)
/-- The same where the operation stands alone (a region that draws its order). -/
theorem appLw {w : World} {o : Oper} {a : Act} {K : Act → World → Prop} {Q : Exit → Act → World → Prop} (s x : Operand)
    (ho : o.op = .call { callee := .builtin .append, args := #[s, x], argTypes := #[29, 29] })
    (F : Nat → Prop) (A : Option Addr) (c : Nat) (ls rs : List (List Nat)) (hs : a.eval s = .slice A ls.length c) (hL : Ls F w A c ls) (xv : Value) (us : List Value) (hx : a.eval x = xv) (hsrc : Src Try.prog 1 29 xv rs.length us w)
    (hus : ∀ j, j < rs.length → ∃ u, us[j]? = some u ∧ El F w u (lsAt rs j)) (hlen : (ls.length + rs.length) * 24 ≤ 140737488355328)
    (h : ∀ A' c' w', Ls (fun k => F k ∨ w.heap.size ≤ k) w' A' c' (ls ++ rs) → But (bk A) w w' → (∀ k, bk A' k → bk A k ∨ w.heap.size ≤ k) → K (a.put o.dst (.slice A' (ls.length + rs.length) c')) w') : o.wp Try.prog a w K Q := by
  obtain ⟨A', c', w', hr, h1, h2, h3⟩ := run_appL hL hsrc hus hlen o.type
  unfold Oper.wp execOp
  simp only [ho, resolve, invoke, builtin, Sem.run_bind, Sem.run_pure, Result.andThen_ok, List.map_toArray, List.map_cons, List.map_nil, hs, hx, hr]
  exact h A' c' w' h1 h2 h3
end Go.Proofs.Ytnfjfcoonabmmaa.Sn
