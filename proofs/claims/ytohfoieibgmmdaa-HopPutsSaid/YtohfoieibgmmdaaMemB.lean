/- Memory for decoders: what a change leaves alone; slices of slices whose blocks bear a property; appends that tell where the new slice lies. -/
import Derived.Test.YtohfoieibgmmdaaRows2
namespace Go.Proofs.Ytohfoieibgmmdaa.Hd
open Go.RowKit
open Go.Proofs.Ytohfoieibgmmdaa.Me
set_option linter.unusedVariables false

/-- All lies as it lay in w, but for what lies in the blocks S, and for new ones. -/
structure But (S : Nat → Prop) (w X : World) : Prop where
  os : X.os = w.os
  tape : X.tape = w.tape
  output : X.output = w.output
  size : w.heap.size ≤ X.heap.size
  same : ∀ k, k < w.heap.size → ¬ S k → X.heap[k]? = w.heap[k]?
theorem But.refl (S : Nat → Prop) (w : World) : But S w w := ⟨rfl, rfl, rfl, Nat.le_refl _, fun _ _ _ => rfl⟩
theorem But.trans {S S' : Nat → Prop} {w X Y : World} (h : But S w X) (k : But S' X Y) (hS : ∀ b, b < w.heap.size → S' b → S b) : But S w Y :=
  ⟨k.os.trans h.os, k.tape.trans h.tape, k.output.trans h.output, Nat.le_trans h.size k.size, fun b hb hn => (k.same b (Nat.lt_of_lt_of_le hb h.size) (fun hs => hn (hS b hb hs))).trans (h.same b hb hn)⟩
theorem But.mono {S S' : Nat → Prop} {w X : World} (h : But S w X) (hS : ∀ b, b < w.heap.size → S b → S' b) : But S' w X :=
  ⟨h.os, h.tape, h.output, h.size, fun b hb hn => h.same b hb (fun hs => hn (hS b hb hs))⟩
theorem But.of_below {S : Nat → Prop} {w X : World} (h : Below w.heap.size w X) : But S w X := ⟨h.os, h.tape, h.output, h.size, fun b hb _ => h.block b hb⟩
theorem But.below {S : Nat → Prop} {w X : World} {B : Nat} (h : But S w X) (hB : B ≤ w.heap.size) (hS : ∀ k, S k → B ≤ k) : Below B w X :=
  ⟨h.os, h.tape, h.output, h.size, fun k hk => h.same k (by omega) (fun hs => by have := hS k hs; omega)⟩
theorem But.grown {S : Nat → Prop} {w X Y : World} {row : Option Nat} (h : But S w X) (hg : X.grownBy Y row) (hr : ∀ r, row = some r → S r ∨ w.heap.size ≤ r) : But S w Y :=
  ⟨hg.os.trans h.os, hg.tape.trans h.tape, hg.output.trans h.output, Nat.le_trans h.size hg.size, fun k hk hS => (hg.block k (Nat.lt_of_lt_of_le hk h.size) (fun e => by
    rcases hr k e.symm with h1 | h1
    · exact hS h1
    · omega)).trans (h.same k hk hS)⟩
theorem grown_set (W : World) (p : Addr) (v : Value) : W.grownBy (W.setCell p v) (some p.block) :=
  ⟨rfl, rfl, rfl, by simp, fun k _ hk => Below.heap_setCell _ _ _ k (fun e => hk (by rw [e]))⟩
theorem But.set {S : Nat → Prop} {w X : World} (h : But S w X) {p : Addr} (hp : S p.block ∨ w.heap.size ≤ p.block) (u : Value) : But S w (X.setCell p u) :=
  h.grown (grown_set X p u) fun r e => by cases e; exact hp
theorem But.alloc {S : Nat → Prop} {w X : World} (h : But S w X) (o : Obj) : But S w (X.alloc o) := h.grown (World.grownBy_alloc X o none) (by simp)
theorem But.at_ {S : Nat → Prop} {w X : World} {b : Nat} {o : Obj} (h : But S w X) (hb : w.heap[b]? = some o) (hS : ¬ S b) : X.heap[b]? = some o := (h.same b (Array.getElem?_eq_some_iff.1 hb).1 hS).trans hb
/-- Bytes that came in lie on where their block is none of S. -/
theorem But.rd {S : Nat → Prop} {w X : World} {A : Option Addr} {l : List Nat} (h : But S w X) (hr : Rd w w.heap.size A l) (hS : ∀ a, A = some a → ¬ S a.block) : Rd X X.heap.size A l :=
  ⟨hr.1, fun hl => by
    obtain ⟨b, off, e, h1, hc⟩ := hr.2 hl
    refine ⟨b, off, e, Nat.lt_of_lt_of_le h1 h.size, fun i hi => ?_⟩
    exact (World.cell?_of_block (w := w) (a := ⟨b, off + i, none⟩) (h.same b h1 (hS _ e))).trans (hc i hi)⟩
theorem own_same {w w' : World} {B T s n : Nat} {v : Value} {xs : List Value} (h : w.ownsRow B T s v n xs) (hk : ∀ k, v.ownBlock = some k → k < w.heap.size → w'.heap[k]? = w.heap[k]?) : w'.ownsRow B T s v n xs := by
  refine ⟨h.1, ?_⟩
  rcases h.2 with h' | ⟨g, cap, cur, rfl, q2, q3, q4⟩
  · exact .inl h'
  · exact .inr ⟨g, cap, cur, rfl, q2, (hk g rfl (Array.getElem?_eq_some_iff.1 q3).1).trans q3, q4⟩
theorem own_base {w : World} {B B' T s n : Nat} {v : Value} {xs : List Value} (h : w.ownsRow B T s v n xs) (hB : ∀ k, v.ownBlock = some k → B' ≤ k) : w.ownsRow B' T s v n xs := by
  refine ⟨h.1, ?_⟩
  rcases h.2 with h' | ⟨g, cap, cur, rfl, q2, q3, q4⟩
  · exact .inl h'
  · exact .inr ⟨g, cap, cur, rfl, hB g rfl, q3, q4⟩
theorem own_lt {w : World} {B T s n : Nat} {v : Value} {xs : List Value} (h : w.ownsRow B T s v n xs) : ∀ k, v.ownBlock = some k → k < w.heap.size := fun k e => (h.lt k e).2
/-- A slice of one's own cut to its first k bytes. -/
theorem Own.cut {w : World} {B n c : Nat} {A : Option Addr} {l : List Nat} (h : Me.Own w B (.slice A n c) l) {k : Nat} (hk : k ≤ l.length) : Me.Own w B (.slice A k c) (l.take k) := by
  have hl : (l.take k).length = k := by simp; omega
  unfold Me.Own
  rw [hl]
  refine ⟨by simp; omega, ?_⟩
  rcases h.2 with ⟨h1, h2⟩ | ⟨g, cap, cur, h1, q2, q3, q4, q5, q6, q7⟩
  · simp only [Value.slice.injEq] at h1
    obtain ⟨rfl, rfl, rfl⟩ := h1
    obtain rfl : k = 0 := by omega
    exact .inl ⟨rfl, rfl⟩
  · simp only [Value.slice.injEq] at h1
    obtain ⟨rfl, rfl, rfl⟩ := h1
    refine .inr ⟨g, c, cur, rfl, q2, q3, by omega, q5, q6, ?_⟩
    rw [Nat.mul_one] at q7 ⊢
    rw [List.map_take, ← q7, List.take_take]
    congr 1; omega
theorem own_len {w : World} {B n c : Nat} {A : Option Addr} {l : List Nat} (h : Me.Own w B (.slice A n c) l) : n = l.length := by
  rcases h.2 with ⟨h1, h2⟩ | ⟨g, cap, cur, h1, _⟩
  · injection h1 with _ h3 _; omega
  · injection h1
theorem own_rd {w : World} {B n c : Nat} {A : Option Addr} {l : List Nat} (h : Me.Own w B (.slice A n c) l) (hl : ∀ z ∈ l, z < 256) : Rd w w.heap.size A l ∧ (A = none → l.length = 0 ∧ c = 0) ∧ l.length ≤ c ∧ c ≤ 9223372036854775807 := by
  obtain ⟨A', c', e, h1, h2, h3⟩ := h.held hl
  simp only [Value.slice.injEq] at e
  obtain ⟨rfl, rfl, rfl⟩ := e
  exact ⟨h3.rd, h3.2.2, h1, h2⟩
/-! ### Appends that tell where the new slice lies -/
theorem run_append_own2 {P : Program} {w : World} (t ty e : TypeId) (i : TypeInfo) (z : Value) (bytes : Nat) (ht : P.underlying t = some (.slice e)) (hi : P.info? e = some i) (hz : i.zero = some z)
    (hsize : i.size = 1) (hby : i.bytes = bytes) (hzs : z.cells.size = 1)
    (v : Value) (n : Nat) (xs : List Value) (hown : w.ownsRow 0 e 1 v n xs)
    (a : Addr) (m c : Nat) (news : List Value) (hl : news.length = m * 1) (hnews : ∀ j u, news[j]? = some u → w.cell? (a.add j) = some u) (h1 : ∀ u ∈ news, u.oneCell' = true)
    (h63 : n + m ≤ maxLen) (hbytes : (n + m) * bytes ≤ 140737488355328) :
    ∃ v' w', (Builtin.append_ #[t, t] ty #[v, .slice (some a) m c]).run P w = .ok v' w' ∧ w'.ownsRow 0 e 1 v' (n + m) (xs ++ news) ∧ w.grownBy w' v.ownBlock ∧ (∀ k, v'.ownBlock = some k → v.ownBlock = some k ∨ w.heap.size ≤ k) := by
  obtain ⟨v', w', hr, h2, h3, _⟩ := run_append_own (P := P) w 0 t ty e i z 1 bytes ht hi hz hsize hby hzs (by decide) v n xs hown a m c news hl hnews h1 h63 hbytes (Nat.zero_le _)
  refine ⟨v', w', hr, h2, h3, ?_⟩
  have hsmall : n + m ≤ 9223372036854775807 := by simp only [maxLen] at h63; omega
  rcases hown.2 with ⟨rfl, rfl⟩ | ⟨g, cap, cur, rfl, hbg, hg, hnc, hcm, hcs, htake⟩
  · have hx : xs = [] := List.eq_nil_of_length_eq_zero (by simpa using hown.1)
    subst hx
    obtain ⟨v2, w2, hr2, h4, _, _⟩ := run_append_own (P := P) w w.heap.size t ty e i z 1 bytes ht hi hz hsize hby hzs (by decide) (.slice none 0 0) 0 [] ⟨rfl, .inl ⟨rfl, rfl⟩⟩ a m c news hl hnews h1 h63 hbytes (Nat.le_refl _)
    rw [hr] at hr2
    injection hr2 with e1 e2
    subst e1 e2
    exact fun k hk => .inr (h4.lt k hk).1
  · intro k hk
    by_cases hroom : n + m ≤ cap
    · have hr2 := run_append_room (P := P) w t ty e i ht hi g n cap cur hg a m c news (by rw [hl, hsize]) hnews h1 hroom (by rw [hsize, hl]; omega)
      rw [hr] at hr2
      injection hr2 with e1 e2
      subst e1
      exact .inl hk
    · have hr2 := run_append_grow (P := P) w t ty e i z ht hi hz ⟨g, 0, none⟩ n cap xs (by rw [hsize]; exact hown.1) (hown.cells (g := g) rfl) a m c news (by rw [hl, hsize]) hnews (by omega) (by omega) (growslice_fits (by omega) (by rw [hby]; exact hbytes))
      rw [hr] at hr2
      injection hr2 with e1 e2
      subst e1
      simp only [Value.ownBlock, Option.some.injEq] at hk
      exact .inr (by omega)
theorem wpList_append_own2 {P : Program} {w : World} {ops : Array Oper} {rest : List Oper} {o : Oper} {a : Act} {Q : Exit → Act → World → Prop} (hgd : o.guard = none) (s x : Operand) (t : TypeId)
    (ho : o.op = .call { callee := .builtin .append, args := #[s, x], argTypes := #[t, t] })
    (e : TypeId) (i : TypeInfo) (z : Value) (bytes : Nat) (ht : P.underlying t = some (.slice e)) (hi : P.info? e = some i) (hz : i.zero = some z)
    (hsize : i.size = 1) (hby : i.bytes = bytes) (hzs : z.cells.size = 1)
    (v : Value) (n : Nat) (xs : List Value) (hs : a.eval s = v) (hown : w.ownsRow 0 e 1 v n xs)
    (ad : Addr) (m c : Nat) (news : List Value) (hx : a.eval x = .slice (some ad) m c) (hl : news.length = m * 1) (hnews : ∀ j u, news[j]? = some u → w.cell? (ad.add j) = some u) (h1 : ∀ u ∈ news, u.oneCell' = true)
    (h63 : n + m ≤ maxLen) (hbytes : (n + m) * bytes ≤ 140737488355328)
    (h : ∀ v' w', w'.ownsRow 0 e 1 v' (n + m) (xs ++ news) → w.grownBy w' v.ownBlock → (∀ k, v'.ownBlock = some k → v.ownBlock = some k ∨ w.heap.size ≤ k) → wpList P ops Q rest (a.put o.dst v') w') : wpList P ops Q (o :: rest) a w := by
  refine wpList_plain hgd fun K hK => ?_
  obtain ⟨v', w', hr, h2, h3, h4⟩ := run_append_own2 (P := P) (w := w) t o.type e i z bytes ht hi hz hsize hby hzs v n xs hown ad m c news hl hnews h1 h63 hbytes
  unfold Oper.wp execOp
  simp only [ho, resolve, invoke, builtin, Sem.run_bind, Sem.run_pure, Result.andThen_ok, List.map_toArray, List.map_cons, List.map_nil, hs, hx, hr]
  exact hK _ _ (h v' w' h2 h3 h4)
/-- Bytes appended to bytes of one's own. -/
theorem app8q {w : World} {ops : Array Oper} {rest : List Oper} {o : Oper} {a : Act} {Q : Exit → Act → World → Prop} (hgd : o.guard = none) (s x : Operand)
    (ho : o.op = .call { callee := .builtin .append, args := #[s, x], argTypes := #[24, 24] })
    (Bx : Nat) (v : Value) (l r : List Nat) (hs : a.eval s = v) (hown : Me.Own w 0 v l)
    (A : Option Addr) (c : Nat) (hx : a.eval x = .slice A r.length c) (hr : Rd w Bx A r) (hA : A = none → r.length = 0 ∧ c = 0) (hlen : l.length + r.length ≤ 140737488355328)
    (h : ∀ v' w', Me.Own w' 0 v' (l ++ r) → w.grownBy w' v.ownBlock → (∀ k, v'.ownBlock = some k → v.ownBlock = some k ∨ w.heap.size ≤ k) → wpList Try.prog ops Q rest (a.put o.dst v') w') : wpList Try.prog ops Q (o :: rest) a w := by
  obtain ⟨i0, hi, hz0, hz1, hz2⟩ := info_parts info8
  rcases A with _ | ad
  · obtain ⟨h1, rfl⟩ := hA rfl
    obtain rfl : r = [] := List.eq_nil_of_length_eq_zero h1
    refine wpList_append_own_none hgd s x 24 ho 0 5 i0 1 Try.underlying24 hi v l.length (l.map byV) hs hown hx ?_
    exact h v w (by rw [List.append_nil]; exact hown) ⟨rfl, rfl, rfl, Nat.le_refl _, fun _ _ _ => rfl⟩ (fun k e => .inl e)
  · refine wpList_append_own2 hgd s x 24 ho 5 i0 (.int .u8 0) 1 Try.underlying24 hi hz0 hz1 hz2 rfl v l.length (l.map byV) hs hown ad r.length c (r.map byV) hx (len_map r) (rd_cells hr (Below.refl _ _)) (one_cells _) (by unfold maxLen; omega) (by omega) ?_
    intro v' w' h1 h2 h3
    refine h v' w' ?_ h2 h3
    unfold Me.Own
    rw [List.length_append, List.map_append]; exact h1
/-! ### Slices of slices -/
theorem info24 : (Try.prog.info? 24).map (fun i => (i.zero, i.size, i.bytes)) = some (some (.slice none 0 0), 1, 24) := by kernel_rfl
/-- Slices of one's own, in a slice of one's own, with these bytes; each block bears P. -/
def Rws (P : Nat → Prop) (w : World) (v : Value) (ps : List (List Nat)) : Prop :=
  ∃ vs : List Value, w.ownsRow 0 24 1 v ps.length vs ∧ (∀ k, v.ownBlock = some k → P k) ∧ vs.length = ps.length ∧ ∀ j, j < ps.length → ∃ A c, vs[j]? = some (.slice A (lsAt ps j).length c) ∧ Me.Own w 0 (.slice A (lsAt ps j).length c) (lsAt ps j) ∧ ∀ a, A = some a → P a.block
theorem Rws.nil (P : Nat → Prop) (w : World) : Rws P w (.slice none 0 0) [] := ⟨[], ⟨rfl, .inl ⟨rfl, rfl⟩⟩, (fun k e => by cases e), rfl, fun j hj => absurd hj (by simp)⟩
theorem Rws.lit (P : Nat → Prop) (w : World) (hP : P w.heap.size) : Rws P (w.alloc (.cells #[] 24)) (.slice (some ⟨w.heap.size, 0, none⟩) 0 0) [] :=
  ⟨[], World.ownsRow_made w #[] 0 (Nat.zero_le _) (by unfold maxLen; omega) rfl, (fun k e => by cases e; exact hP), rfl, fun j hj => absurd hj (by simp)⟩
theorem Rws.mono {P P' : Nat → Prop} {w : World} {v : Value} {ps : List (List Nat)} (h : Rws P w v ps) (hP : ∀ k, k < w.heap.size → P k → P' k) : Rws P' w v ps := by
  obtain ⟨vs, h1, h2, h3, h4⟩ := h
  refine ⟨vs, h1, fun k e => hP k (own_lt h1 k e) (h2 k e), h3, fun j hj => ?_⟩
  obtain ⟨A, c, e, h5, h6⟩ := h4 j hj
  exact ⟨A, c, e, h5, fun a ea => hP _ (own_lt h5 _ (by rw [ea]; rfl)) (h6 a ea)⟩
theorem Rws.kept {P : Nat → Prop} {w w' : World} {v : Value} {ps : List (List Nat)} (h : Rws P w v ps) (hk : ∀ k, P k → k < w.heap.size → w'.heap[k]? = w.heap[k]?) : Rws P w' v ps := by
  obtain ⟨vs, h1, h2, h3, h4⟩ := h
  refine ⟨vs, own_same h1 fun k e => hk k (h2 k e), h2, h3, fun j hj => ?_⟩
  obtain ⟨A, c, e, h5, h6⟩ := h4 j hj
  refine ⟨A, c, e, own_same h5 fun k e => hk k ?_, h6⟩
  cases A with
  | none => cases e
  | some a => cases e; exact h6 a rfl
theorem Rws.but {P S : Nat → Prop} {w w' : World} {v : Value} {ps : List (List Nat)} (h : Rws P w v ps) (hb : But S w w') (hS : ∀ k, P k → ¬ S k) : Rws P w' v ps := h.kept fun k hp hk => hb.same k hk (hS k hp)
theorem Rws.below {P : Nat → Prop} {w w' : World} {v : Value} {ps : List (List Nat)} (h : Rws P w v ps) (hb : Below w.heap.size w w') : Rws P w' v ps := h.kept fun k _ hk => hb.block k hk
theorem two_types {w : World} {B B' T T' n n' : Nat} {v v' : Value} {xs xs' : List Value} (h : w.ownsRow B T 1 v n xs) (h' : w.ownsRow B' T' 1 v' n' xs') (hT : T ≠ T') : v.ownBlock = none ∨ v.ownBlock ≠ v'.ownBlock := by
  rcases h.2 with ⟨rfl, _⟩ | ⟨g, cap, cur, rfl, _, h3, _⟩
  · exact .inl rfl
  · right
    rcases h'.2 with ⟨rfl, _⟩ | ⟨g', cap', cur', rfl, _, h3', _⟩
    · simp [Value.ownBlock]
    · intro e
      obtain rfl : g = g' := by simpa [Value.ownBlock] using e
      rw [h3] at h3'
      simp at h3'
      exact hT h3'.2
theorem lsAt_append_left {ps qs : List (List Nat)} {j : Nat} (h : j < ps.length) : lsAt (ps ++ qs) j = lsAt ps j := by
  simp [lsAt, List.getElem?_append_left h]
theorem lsAt_append_right {ps qs : List (List Nat)} {j : Nat} (h : ¬ j < ps.length) : lsAt (ps ++ qs) j = lsAt qs (j - ps.length) := by
  simp [lsAt, List.getElem?_append_right (by omega : ps.length ≤ j)]
/-- Some slices appended to such. -/
theorem Rws.more {P : Nat → Prop} {w w' : World} {v v' : Value} {ps qs : List (List Nat)} {vs us : List Value} (h1 : w.ownsRow 0 24 1 v ps.length vs) (h2 : vs.length = ps.length)
    (h3 : ∀ j, j < ps.length → ∃ A c, vs[j]? = some (.slice A (lsAt ps j).length c) ∧ Me.Own w 0 (.slice A (lsAt ps j).length c) (lsAt ps j) ∧ ∀ a, A = some a → P a.block)
    (h5 : us.length = qs.length) (h6 : ∀ j, j < qs.length → ∃ A c, us[j]? = some (.slice A (lsAt qs j).length c) ∧ Me.Own w 0 (.slice A (lsAt qs j).length c) (lsAt qs j) ∧ ∀ a, A = some a → P a.block)
    (h7 : w'.ownsRow 0 24 1 v' (ps.length + qs.length) (vs ++ us)) (hg : w.grownBy w' v.ownBlock) (hP : ∀ k, v'.ownBlock = some k → P k) : Rws P w' v' (ps ++ qs) := by
  refine ⟨vs ++ us, by simpa using h7, hP, by simp [h2, h5], fun j hj => ?_⟩
  simp only [List.length_append] at hj
  by_cases hlt : j < ps.length
  · obtain ⟨A', c', e, h8, h9⟩ := h3 j hlt
    rw [lsAt_append_left hlt]
    exact ⟨A', c', by rw [List.getElem?_append_left (by omega)]; exact e, h8.kept hg (two_types h8 h1 (by decide)), h9⟩
  · obtain ⟨A', c', e, h8, h9⟩ := h6 (j - ps.length) (by omega)
    rw [lsAt_append_right hlt]
    refine ⟨A', c', by rw [List.getElem?_append_right (by omega), h2]; exact e, h8.kept hg (two_types h8 h1 (by decide)), h9⟩
/-- What such slices hold can be read. -/
theorem Rws.lst {P : Nat → Prop} {w : World} {v : Value} {ps : List (List Nat)} (h : Rws P w v ps) (hb : ∀ l ∈ ps, ∀ z ∈ l, z < 256) : ∃ A c, v = .slice A ps.length c ∧ ps.length ≤ c ∧ c ≤ 9223372036854775807 ∧ Lst w w.heap.size A ps ∧ Nils w A ps ∧ (A = none → ps = [] ∧ c = 0) := by
  obtain ⟨vs, h1, h1p, h2, h3⟩ := h
  have hat : ∀ j, j < ps.length → ∀ z ∈ lsAt ps j, z < 256 := fun j hj => hb _ (by simp [lsAt, hj])
  rcases h1.2 with ⟨rfl, e0⟩ | ⟨g, cap, cur, rfl, q2, q3, q4, q5, q6, q7⟩
  · obtain rfl : ps = [] := List.eq_nil_of_length_eq_zero e0
    exact ⟨none, 0, rfl, Nat.le_refl _, Nat.zero_le _, fun hl => absurd hl (by simp), fun _ _ _ j hj => absurd hj (by simp), fun _ => ⟨rfl, rfl⟩⟩
  · have hcell : ∀ j, j < ps.length → ∃ A c, w.cell? ⟨g, 0 + j, none⟩ = some (.slice A (lsAt ps j).length c) ∧ Me.Own w 0 (.slice A (lsAt ps j).length c) (lsAt ps j) := by
      intro j hj
      obtain ⟨A, c, e, h4, _⟩ := h3 j hj
      refine ⟨A, c, ?_, h4⟩
      rw [Nat.zero_add, h1.cellAt j (by omega)]
      exact e
    refine ⟨some ⟨g, 0, none⟩, cap, rfl, q4, by unfold maxLen at q5; omega, fun hl => ⟨g, 0, rfl, own_lt h1 g rfl, fun j hj => ?_⟩, ?_, fun e => by cases e⟩
    · obtain ⟨A, c, e, h4⟩ := hcell j hj
      obtain ⟨r1, r2, r3, r4⟩ := own_rd h4 (hat j hj)
      exact ⟨A, c, e, r3, r4, r1⟩
    · intro b off e j hj n c hc
      simp only [Option.some.injEq, Addr.mk.injEq, and_true] at e
      obtain ⟨rfl, rfl⟩ := e
      obtain ⟨A, c', e', h4⟩ := hcell j hj
      rw [hc] at e'
      simp only [Option.some.injEq, Value.slice.injEq] at e'
      obtain ⟨rfl, rfl, rfl⟩ := e'
      obtain ⟨r1, r2, r3, r4⟩ := own_rd h4 (hat j hj)
      exact r2 rfl
end Go.Proofs.Ytohfoieibgmmdaa.Hd
