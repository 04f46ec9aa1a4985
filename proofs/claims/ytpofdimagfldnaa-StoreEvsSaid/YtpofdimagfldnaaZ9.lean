/- Memory for decoders: what a change leaves alone; slices of slices whose blocks bear a property; appends that tell where the new slice lies. -/
import Derived.Test.YtpofdimagfldnaaZ1
import Derived.Test.YtpofdimagfldnaaZ8
import Derived.Handy
namespace Go.Proofs.Ytpofdimagfldnaa.Hd
open Go.RowKit
open Go.Proofs.Ytpofdimagfldnaa.Me
set_option linter.unusedVariables false

/-- All lies as it lay in w, but for what lies in the blocks S, and for new ones. -/
structure But (S : Nat → Prop) (w X : World) : Prop where
  os : X.os = w.os
  tape : X.tape = w.tape
  output : X.output = w.output
  size : w.heap.size ≤ X.heap.size
  same : ∀ k, k < w.heap.size → ¬ S k → X.heap[k]? = w.heap[k]?
theorem But.refl (S : Nat → Prop) (w : World) : But S w w := ⟨rfl, rfl, rfl, Nat.le_refl _, fun _ _ _ => rfl⟩
theorem But.trans {S S' : Nat → Prop} {w X Y : World} (h : But S w X) (k : But S' X Y) (hS : ∀ b, b < w.heap.size → S' b → S b) : But S w Y :=
  ⟨k.os.trans h.os, k.tape.trans h.tape, k.output.trans h.output, Nat.le_trans h.size k.size, fun b hb hn => (k.same b (Nat.lt_of_lt_of_le hb h.size) (fun hs => hn (hS b hb hs))).trans (h.same b hb hn)⟩
theorem But.mono {S S' : Nat → Prop} {w X : World} (h : But S w X) (hS : ∀ b, b < w.heap.size → S b → S' b) : But S' w X :=
  ⟨h.os, h.tape, h.output, h.size, fun b hb hn => h.same b hb (fun hs => hn (hS b hb hs))⟩
theorem But.of_below {S : Nat → Prop} {w X : World} (h : Below w.heap.size w X) : But S w X := ⟨h.os, h.tape, h.output, h.size, fun b hb _ => h.block b hb⟩
theorem But.below {S : Nat → Prop} {w X : World} {B : Nat} (h : But S w X) (hB : B ≤ w.heap.size) (hS : ∀ k, S k → B ≤ k) : Below B w X :=
  ⟨h.os, h.tape, h.output, h.size, fun k hk => h.same k (by omega) (fun hs => by have := hS k hs; omega)⟩
theorem But.grown {S : Nat → Prop} {w X Y : World} {row : Option Nat} (h : But S w X) (hg : X.grownBy Y row) (hr : ∀ r, row = some r → S r ∨ w.heap.size ≤ r) : But S w Y :=
  ⟨hg.os.trans h.os, hg.tape.trans h.tape, hg.output.trans h.output, Nat.le_trans h.size hg.size, fun k hk hS => (hg.block k (Nat.lt_of_lt_of_le hk h.size) (fun e => by
    rcases hr k e.symm with h1 | h1
    · exact hS h1
    · omega)).trans (h.same k hk hS)⟩
theorem grown_set (W : World) (p : Addr) (v : Value) : W.grownBy (W.setCell p v) (some p.block) :=
  ⟨rfl, rfl, rfl, by simp, fun k _ hk => Below.heap_setCell _ _ _ k (fun e => hk (by rw [e]))⟩
theorem But.set {S : Nat → Prop} {w X : World} (h : But S w X) {p : Addr} (hp : S p.block ∨ w.heap.size ≤ p.block) (u : Value) : But S w (X.setCell p u) :=
  h.grown (grown_set X p u) fun r e => by cases e; exact hp
theorem But.alloc {S : Nat → Prop} {w X : World} (h : But S w X) (o : Obj) : But S w (X.alloc o) := h.grown (World.grownBy_alloc X o none) (by simp)
theorem But.at_ {S : Nat → Prop} {w X : World} {b : Nat} {o : Obj} (h : But S w X) (hb : w.heap[b]? = some o) (hS : ¬ S b) : X.heap[b]? = some o := (h.same b (Array.getElem?_eq_some_iff.1 hb).1 hS).trans hb
/-- Bytes that came in lie on where their block is none of S. -/
theorem But.rd {S : Nat → Prop} {w X : World} {A : Option Addr} {l : List Nat} (h : But S w X) (hr : Rd w w.heap.size A l) (hS : ∀ a, A = some a → ¬ S a.block) : Rd X X.heap.size A l :=
  ⟨hr.1, fun hl => by
    obtain ⟨b, off, e, h1, hc⟩ := hr.2 hl
    refine ⟨b, off, e, Nat.lt_of_lt_of_le h1 h.size, fun i hi => ?_⟩
    exact (World.cell?_of_block (w := w) (a := ⟨b, off + i, none⟩) (h.same b h1 (hS _ e))).trans (hc i hi)⟩
theorem own_same {w w' : World} {B T s n : Nat} {v : Value} {xs : List Value} (h : w.ownsRow B T s v n xs) (hk : ∀ k, v.ownBlock = some k → k < w.heap.size → w'.heap[k]? = w.heap[k]?) : w'.ownsRow B T s v n xs := by
  refine ⟨h.1, ?_⟩
  rcases h.2 with h' | ⟨g, cap, cur, rfl, q2, q3, q4⟩
  · exact .inl h'
  · exact .inr ⟨g, cap, cur, rfl, q2, (hk g rfl (Array.getElem?_eq_some_iff.1 q3).1).trans q3, q4⟩
theorem own_base {w : World} {B B' T s n : Nat} {v : Value} {xs : List Value} (h : w.ownsRow B T s v n xs) (hB : ∀ k, v.ownBlock = some k → B' ≤ k) : w.ownsRow B' T s v n xs := by
  refine ⟨h.1, ?_⟩
  rcases h.2 with h' | ⟨g, cap, cur, rfl, q2, q3, q4⟩
  · exact .inl h'
  · exact .inr ⟨g, cap, cur, rfl, hB g rfl, q3, q4⟩
theorem own_lt {w : World} {B T s n : Nat} {v : Value} {xs : List Value} (h : w.ownsRow B T s v n xs) : ∀ k, v.ownBlock = some k → k < w.heap.size := fun k e => (h.lt k e).2
/-- A slice of one's own cut to its first k bytes. -/
theorem Own.cut {w : World} {B n c : Nat} {A : Option Addr} {l : List Nat} (h : Me.Own w B (.slice A n c) l) {k : Nat} (hk : k ≤ l.length) : Me.Own w B (.slice A k c) (l.take k) := by
  have hl : (l.take k).length = k := by simp; omega
  unfold Me.Own
  rw [hl]
  refine ⟨by simp; omega, ?_⟩
  rcases h.2 with ⟨h1, h2⟩ | ⟨g, cap, cur, h1, q2, q3, q4, q5, q6, q7⟩
  · simp only [Value.slice.injEq] at h1
    obtain ⟨rfl, rfl, rfl⟩ := h1
    obtain rfl : k = 0 := by omega
    exact .inl ⟨rfl, rfl⟩
  · simp only [Value.slice.injEq] at h1
    obtain ⟨rfl, rfl, rfl⟩ := h1
    refine .inr ⟨g, c, cur, rfl, q2, q3, by omega, q5, q6, ?_⟩
    rw [Nat.mul_one] at q7 ⊢
    rw [List.map_take, ← q7, List.take_take]
    congr 1; omega
theorem own_len {w : World} {B n c : Nat} {A : Option Addr} {l : List Nat} (h : Me.Own w B (.slice A n c) l) : n = l.length := by
  rcases h.2 with ⟨h1, h2⟩ | ⟨g, cap, cur, h1, _⟩
  · injection h1 with _ h3 _; omega
  · injection h1
theorem own_rd {w : World} {B n c : Nat} {A : Option Addr} {l : List Nat} (h : Me.Own w B (.slice A n c) l) (hl : ∀ z ∈ l, z < 256) : Rd w w.heap.size A l ∧ (A = none → l.length = 0 ∧ c = 0) ∧ l.length ≤ c ∧ c ≤ 9223372036854775807 := by
  obtain ⟨A', c', e, h1, h2, h3⟩ := h.held hl
  simp only [Value.slice.injEq] at e
  obtain ⟨rfl, rfl, rfl⟩ := e
  exact ⟨h3.rd, h3.2.2, h1, h2⟩
/-! ### Appends that tell where the new slice lies -/
theorem run_append_own2 {P : Program} {w : World} (t ty e : TypeId) (i : TypeInfo) (z : Value) (bytes : Nat) (ht : P.underlying t = some (.slice e)) (hi : P.info? e = some i) (hz : i.zero = some z)
    (hsize : i.size = 1) (hby : i.bytes = bytes) (hzs : z.cells.size = 1)
    (v : Value) (n : Nat) (xs : List Value) (hown : w.ownsRow 0 e 1 v n xs)
    (a : Addr) (m c : Nat) (news : List Value) (hl : news.length = m * 1) (hnews : ∀ j u, news[j]? = some u → w.cell? (a.add j) = some u) (h1 : ∀ u ∈ news, u.oneCell' = true)
    (h63 : n + m ≤ maxLen) (hbytes : (n + m) * bytes ≤ 140737488355328) :
    ∃ v' w', (Builtin.append_ #[t, t] ty #[v, .slice (some a) m c]).run P w = .ok v' w' ∧ w'.ownsRow 0 e 1 v' (n + m) (xs ++ news) ∧ w.grownBy w' v.ownBlock ∧ (∀ k, v'.ownBlock = some k → v.ownBlock = some k ∨ w.heap.size ≤ k) := by
  obtain ⟨v', w', hr, h2, h3, _⟩ := run_append_own (P := P) w 0 t ty e i z 1 bytes ht hi hz hsize hby hzs (by decide) v n xs hown a m c news hl hnews h1 h63 hbytes (Nat.zero_le _)
  refine ⟨v', w', hr, h2, h3, ?_⟩
  have hsmall : n + m ≤ 9223372036854775807 := by simp only [maxLen] at h63; omega
  rcases hown.2 with ⟨rfl, rfl⟩ | ⟨g, cap, cur, rfl, hbg, hg, hnc, hcm, hcs, htake⟩
  · have hx : xs = [] := List.eq_nil_of_length_eq_zero (by simpa using hown.1)
    subst hx
    obtain ⟨v2, w2, hr2, h4, _, _⟩ := run_append_own (P := P) w w.heap.size t ty e i z 1 bytes ht hi hz hsize hby hzs (by decide) (.slice none 0 0) 0 [] ⟨rfl, .inl ⟨rfl, rfl⟩⟩ a m c news hl hnews h1 h63 hbytes (Nat.le_refl _)
    rw [hr] at hr2
    injection hr2 with e1 e2
    subst e1 e2
    exact fun k hk => .inr (h4.lt k hk).1
  · intro k hk
    by_cases hroom : n + m ≤ cap
    · have hr2 := run_append_room (P := P) w t ty e i ht hi g n cap cur hg a m c news (by rw [hl, hsize]) hnews h1 hroom (by rw [hsize, hl]; omega)
      rw [hr] at hr2
      injection hr2 with e1 e2
      subst e1
      exact .inl hk
    · have hr2 := run_append_grow (P := P) w t ty e i z ht hi hz ⟨g, 0, none⟩ n cap xs (by rw [hsize]; exact hown.1) (hown.cells (g := g) rfl) a m c news (by rw [hl, hsize]) hnews (by omega) (by omega) (growslice_fits (by omega) (by rw [hby]; exact hbytes))
      rw [hr] at hr2
      injection hr2 with e1 e2
      subst e1
      simp only [Value.ownBlock, Option.some.injEq] at hk
      exact .inr (by omega)
theorem wpList_append_own2 {P : Program} {w : World} {ops : Array Oper} {rest : List Oper} {o : Oper} {a : Act} {Q : Exit → Act → World → Prop} (hgd : o.guard = none) (s x : Operand) (t : TypeId)
    (ho : o.op = .call { callee := .builtin .append, args := #[s, x], argTypes := #[t, t] })
    (e : TypeId) (i : TypeInfo) (z : Value) (bytes : Nat) (ht : P.underlying t = some (.slice e)) (hi : P.info? e = some i) (hz : i.zero = some z)
    (hsize : i.size = 1) (hby : i.bytes = bytes) (hzs : z.cells.size = 1)
    (v : Value) (n : Nat) (xs : List Value) (hs : a.eval s = v) (hown : w.ownsRow 0 e 1 v n xs)
    (ad : Addr) (m c : Nat) (news : List Value) (hx : a.eval x = .slice (some ad) m c) (hl : news.length = m * 1) (hnews : ∀ j u, news[j]? = some u → w.cell? (ad.add j) = some u) (h1 : ∀ u ∈ news, u.oneCell' = true)
    (h63 : n + m ≤ maxLen) (hbytes : (n + m) * bytes ≤ 140737488355328)
    (h : ∀ v' w', w'.ownsRow 0 e 1 v' (n + m) (xs ++ news) → w.grownBy w' v.ownBlock → (∀ k, v'.ownBlock = some k → v.ownBlock = some k ∨ w.heap.size ≤ k) → wpList P ops Q rest (a.put o.dst v') w') : wpList P ops Q (o :: rest) a w := by
  refine wpList_plain hgd fun K hK => ?_
  obtain ⟨v', w', hr, h2, h3, h4⟩ := run_append_own2 (P := P) (w := w) t o.type e i z bytes ht hi hz hsize hby hzs v n xs hown ad m c news hl hnews h1 h63 hbytes
  unfold Oper.wp execOp
  simp only [ho, resolve, invoke, builtin, Sem.run_bind, Sem.run_pure, Result.andThen_ok, List.map_toArray, List.map_cons, List.map_nil, hs, hx, hr]
  exact hK _ _ (h v' w' h2 h3 h4)
/-- Bytes appended to bytes of one's own. -/
theorem app8q {w : World} {ops : Array Oper} {rest : List Oper} {o : Oper} {a : Act} {Q : Exit → Act → World → Prop} (hgd : o.guard = none) (s x : Operand)
    (ho : o.op = .call { callee := .builtin .append, args := #[s, x], argTypes := #[44, 44] })
    (Bx : Nat) (v : Value) (l r : List Nat) (hs : a.eval s = v) (hown : Me.Own w 0 v l)
    (A : Option Addr) (c : Nat) (hx : a.eval x = .slice A r.length c) (hr : Rd w Bx A r) (hA : A = none → r.length = 0 ∧ c = 0) (hlen : l.length + r.length ≤ 140737488355328)
    (h : ∀ v' w', Me.Own w' 0 v' (l ++ r) → w.grownBy w' v.ownBlock → (∀ k, v'.ownBlock = some k → v.ownBlock = some k ∨ w.heap.size ≤ k) → wpList Try.prog ops Q rest (a.put o.dst v') w') : wpList Try.prog ops Q (o :: rest) a w := by
  obtain ⟨i0, hi, hz0, hz1, hz2⟩ := info_parts info8
  rcases A with _ | ad
  · obtain ⟨h1, rfl⟩ := hA rfl
    obtain rfl : r = [] := List.eq_nil_of_length_eq_zero h1
    refine wpList_append_own_none hgd s x 44 ho 0 5 i0 1 Try.underlying44 hi v l.length (l.map byV) hs hown hx ?_
    exact h v w (by rw [List.append_nil]; exact hown) ⟨rfl, rfl, rfl, Nat.le_refl _, fun _ _ _ => rfl⟩ (fun k e => .inl e)
  · refine wpList_append_own2 hgd s x 44 ho 5 i0 (.int .u8 0) 1 Try.underlying44 hi hz0 hz1 hz2 rfl v l.length (l.map byV) hs hown ad r.length c (r.map byV) hx (len_map r) (rd_cells hr (Below.refl _ _)) (one_cells _) (by unfold maxLen; omega) (by omega) ?_
    intro v' w' h1 h2 h3
    refine h v' w' ?_ h2 h3
    unfold Me.Own
    rw [List.length_append, List.map_append]; exact h1
/-! ### Slices of slices -/
theorem info24 : (Try.prog.info? 44).map (fun i => (i.zero, i.size, i.bytes)) = some (some (.slice none 0 0), 1, 24) := by kernel_rfl
/-- Slices of one's own, in a slice of one's own, with these bytes; each block bears P. -/
def Rws (P : Nat → Prop) (w : World) (v : Value) (ps : List (List Nat)) : Prop :=
  ∃ vs : List Value, w.ownsRow 0 44 1 v ps.length vs ∧ (∀ k, v.ownBlock = some k → P k) ∧ vs.length = ps.length ∧ ∀ j, j < ps.length → ∃ A c, vs[j]? = some (.slice A (lsAt ps j).length c) ∧ Me.Own w 0 (.slice A (lsAt ps j).length c) (lsAt ps j) ∧ ∀ a, A = some a → P a.block
theorem Rws.nil (P : Nat → Prop) (w : World) : Rws P w (.slice none 0 0) [] := ⟨[], ⟨rfl, .inl ⟨rfl, rfl⟩⟩, (fun k e => by cases e), rfl, fun j hj => absurd hj (by simp)⟩
theorem Rws.lit (P : Nat → Prop) (w : World) (hP : P w.heap.size) : Rws P (w.alloc (.cells #[] 44)) (.slice (some ⟨w.heap.size, 0, none⟩) 0 0) [] :=
  ⟨[], World.ownsRow_made w #[] 0 (Nat.zero_le _) (by unfold maxLen; omega) rfl, (fun k e => by cases e; exact hP), rfl, fun j hj => absurd hj (by simp)⟩
theorem Rws.mono {P P' : Nat → Prop} {w : World} {v : Value} {ps : List (List Nat)} (h : Rws P w v ps) (hP : ∀ k, k < w.heap.size → P k → P' k) : Rws P' w v ps := by
  obtain ⟨vs, h1, h2, h3, h4⟩ := h
  refine ⟨vs, h1, fun k e => hP k (own_lt h1 k e) (h2 k e), h3, fun j hj => ?_⟩
  obtain ⟨A, c, e, h5, h6⟩ := h4 j hj
  exact ⟨A, c, e, h5, fun a ea => hP _ (own_lt h5 _ (by rw [ea]; rfl)) (h6 a ea)⟩
theorem Rws.kept {P : Nat → Prop} {w w' : World} {v : Value} {ps : List (List Nat)} (h : Rws P w v ps) (hk : ∀ k, P k → k < w.heap.size → w'.heap[k]? = w.heap[k]?) : Rws P w' v ps := by
  obtain ⟨vs, h1, h2, h3, h4⟩ := h
  refine ⟨vs, own_same h1 fun k e => hk k (h2 k e), h2, h3, fun j hj => ?_⟩
  obtain ⟨A, c, e, h5, h6⟩ := h4 j hj
  refine ⟨A, c, e, own_same h5 fun k e => hk k ?_, h6⟩
  cases A with
  | none => cases e
  | some a => cases e; exact h6 a rfl
theorem Rws.but {P S : Nat → Prop} {w w' : World} {v : Value} {ps : List (List Nat)} (h : Rws P w v ps) (hb : But S w w') (hS : ∀ k, P k → ¬ S k) : Rws P w' v ps := h.kept fun k hp hk => hb.same k hk (hS k hp)
theorem Rws.below {P : Nat → Prop} {w w' : World} {v : Value} {ps : List (List Nat)} (h : Rws P w v ps) (hb : Below w.heap.size w w') : Rws P w' v ps := h.kept fun k _ hk => hb.block k hk
theorem two_types {w : World} {B B' T T' n n' : Nat} {v v' : Value} {xs xs' : List Value} (h : w.ownsRow B T 1 v n xs) (h' : w.ownsRow B' T' 1 v' n' xs') (hT : T ≠ T') : v.ownBlock = none ∨ v.ownBlock ≠ v'.ownBlock := by
  rcases h.2 with ⟨rfl, _⟩ | ⟨g, cap, cur, rfl, _, h3, _⟩
  · exact .inl rfl
  · right
    rcases h'.2 with ⟨rfl, _⟩ | ⟨g', cap', cur', rfl, _, h3', _⟩
    · simp [Value.ownBlock]
    · intro e
      obtain rfl : g = g' := by simpa [Value.ownBlock] using e
      rw [h3] at h3'
      simp at h3'
      exact hT h3'.2
theorem lsAt_append_left {ps qs : List (List Nat)} {j : Nat} (h : j < ps.length) : lsAt (ps ++ qs) j = lsAt ps j := by
  simp [lsAt, List.getElem?_append_left h]
theorem lsAt_append_right {ps qs : List (List Nat)} {j : Nat} (h : ¬ j < ps.length) : lsAt (ps ++ qs) j = lsAt qs (j - ps.length) := by
  simp [lsAt, List.getElem?_append_right (by omega : ps.length ≤ j)]
/-- Some slices appended to such. -/
theorem Rws.more {P : Nat → Prop} {w w' : World} {v v' : Value} {ps qs : List (List Nat)} {vs us : List Value} (h1 : w.ownsRow 0 44 1 v ps.length vs) (h2 : vs.length = ps.length)
    (h3 : ∀ j, j < ps.length → ∃ A c, vs[j]? = some (.slice A (lsAt ps j).length c) ∧ Me.Own w 0 (.slice A (lsAt ps j).length c) (lsAt ps j) ∧ ∀ a, A = some a → P a.block)
    (h5 : us.length = qs.length) (h6 : ∀ j, j < qs.length → ∃ A c, us[j]? = some (.slice A (lsAt qs j).length c) ∧ Me.Own w 0 (.slice A (lsAt qs j).length c) (lsAt qs j) ∧ ∀ a, A = some a → P a.block)
    (h7 : w'.ownsRow 0 44 1 v' (ps.length + qs.length) (vs ++ us)) (hg : w.grownBy w' v.ownBlock) (hP : ∀ k, v'.ownBlock = some k → P k) : Rws P w' v' (ps ++ qs) := by
  refine ⟨vs ++ us, by simpa using h7, hP, by simp [h2, h5], fun j hj => ?_⟩
  simp only [List.length_append] at hj
  by_cases hlt : j < ps.length
  · obtain ⟨A', c', e, h8, h9⟩ := h3 j hlt
    rw [lsAt_append_left hlt]
    exact ⟨A', c', by rw [List.getElem?_append_left (by omega)]; exact e, h8.kept hg (two_types h8 h1 (by decide)), h9⟩
  · obtain ⟨A', c', e, h8, h9⟩ := h6 (j - ps.length) (by omega)
    rw [lsAt_append_right hlt]
    refine ⟨A', c', by rw [List.getElem?_append_right (by omega), h2]; exact e, h8.kept hg (two_types h8 h1 (by decide)), h9⟩
/-- What such slices hold can be read. -/
theorem Rws.lst {P : Nat → Prop} {w : World} {v : Value} {ps : List (List Nat)} (h : Rws P w v ps) (hb : ∀ l ∈ ps, ∀ z ∈ l, z < 256) : ∃ A c, v = .slice A ps.length c ∧ ps.length ≤ c ∧ c ≤ 9223372036854775807 ∧ Lst w w.heap.size A ps ∧ Nils w A ps ∧ (A = none → ps = [] ∧ c = 0) := by
  obtain ⟨vs, h1, h1p, h2, h3⟩ := h
  have hat : ∀ j, j < ps.length → ∀ z ∈ lsAt ps j, z < 256 := fun j hj => hb _ (by simp [lsAt, hj])
  rcases h1.2 with ⟨rfl, e0⟩ | ⟨g, cap, cur, rfl, q2, q3, q4, q5, q6, q7⟩
  · obtain rfl : ps = [] := List.eq_nil_of_length_eq_zero e0
    exact ⟨none, 0, rfl, Nat.le_refl _, Nat.zero_le _, fun hl => absurd hl (by simp), fun _ _ _ j hj => absurd hj (by simp), fun _ => ⟨rfl, rfl⟩⟩
  · have hcell : ∀ j, j < ps.length → ∃ A c, w.cell? ⟨g, 0 + j, none⟩ = some (.slice A (lsAt ps j).length c) ∧ Me.Own w 0 (.slice A (lsAt ps j).length c) (lsAt ps j) := by
      intro j hj
      obtain ⟨A, c, e, h4, _⟩ := h3 j hj
      refine ⟨A, c, ?_, h4⟩
      rw [Nat.zero_add, h1.cellAt j (by omega)]
      exact e
    refine ⟨some ⟨g, 0, none⟩, cap, rfl, q4, by unfold maxLen at q5; omega, fun hl => ⟨g, 0, rfl, own_lt h1 g rfl, fun j hj => ?_⟩, ?_, fun e => by cases e⟩
    · obtain ⟨A, c, e, h4⟩ := hcell j hj
      obtain ⟨r1, r2, r3, r4⟩ := own_rd h4 (hat j hj)
      exact ⟨A, c, e, r3, r4, r1⟩
    · intro b off e j hj n c hc
      simp only [Option.some.injEq, Addr.mk.injEq, and_true] at e
      obtain ⟨rfl, rfl⟩ := e
      obtain ⟨A, c', e', h4⟩ := hcell j hj
      rw [hc] at e'
      simp only [Option.some.injEq, Value.slice.injEq] at e'
      obtain ⟨rfl, rfl, rfl⟩ := e'
      obtain ⟨r1, r2, r3, r4⟩ := own_rd h4 (hat j hj)
      exact r2 rfl
end Go.Proofs.Ytpofdimagfldnaa.Hd
/- What gather makes of what read tells: for the closures of GetId and Parse. -/
namespace Go.Proofs.Ytpofdimagfldnaa.Mg
open Go.RowKit
open Go.Proofs.Ytpofdimagfldnaa.Me Go.Proofs.Ytpofdimagfldnaa.Ba Go.Proofs.Ytpofdimagfldnaa.Ma Go.Proofs.Ytpofdimagfldnaa.Bt Go.Proofs.Ytpofdimagfldnaa.Hd
set_option linter.unusedVariables false
set_option linter.unusedSimpArgs false

def fmB (k : Nat) : ByteArray := ⟨if k = 0 then #[] else if k = 1 then #[62] else if k = 2 then #[58] else #[46]⟩
/-- How number k stands. -/
def fmV (k : Nat) : Value := .agg #[.string (fmB k), .int .i64 (szk k : Int)]
/-- The first k numbers, then noughts. -/
def arrK (x : Nat → Int) (k : Nat) : Array Value := #[.int .i64 (if 0 < k then x 0 else 0), .int .i64 (if 1 < k then x 1 else 0), .int .i64 (if 2 < k then x 2 else 0), .int .i64 (if 3 < k then x 3 else 0)]
theorem ret_box {fn : Func} {R : Ending → World → Prop} {a : Act} {w : World} {g : Nat} {cs : Array Value} {p : Tmp} {ty t : TypeId} {fr : Nat × Nat} {d : TypeDesc} (hres : fn.results = #[.cell p ty]) (hp : a.tmps.getD p undef = .pointer (some ⟨g, 0, none⟩)) (hg : w.heap[g]? = some (.cells cs t fr))
    (hd : d.isRow = true) (hu : Try.prog.underlying ty = some d) (hi : (Try.prog.info? ty).map (·.size) = some cs.size) (hdef : a.defers = [])
    (hR : R (.returned (.agg cs)) w) : bodyPost Try.prog fn R .ret a w :=
  bodyPost_ret (v := .agg cs) (results_cell_row hres a.tmps w g t cs fr d hp hg hu (by cases d <;> first | rfl | cases hd) hi) hdef hR
theorem below_set_new (w4 : World) (B i : Nat) {b : Nat} (v : Value) (h : B ≤ b := by omega) : Below B w4 (w4.setCell ⟨b, i, none⟩ v) := ⟨rfl, rfl, rfl, by simp, fun c hc => Below.heap_setCell _ _ _ _ (by show c ≠ b; omega)⟩
/-- A closure that reads: from k on to k + 1, it answers number k; blocks from B on that are there stay as they are. -/
def Reads (f : FuncId) (P Q : Value) (B : Nat) (x : Nat → Int) (J : Nat → World → Prop) : Prop :=
  ∀ k, k < 4 → ∀ W, J k W → B ≤ W.heap.size → Calls Try.prog f #[fmV k, P, Q] W fun e w' => e = .returned (.int .i64 (x k)) ∧ J (k + 1) w' ∧ Hid (W.heap.size ≤ w'.heap.size ∧ ∀ b, B ≤ b → b < W.heap.size → w'.heap[b]? = W.heap[b]?)
def Reads1 (f : FuncId) (P : Value) (B : Nat) (x : Nat → Int) (J : Nat → World → Prop) : Prop :=
  ∀ k, k < 4 → ∀ W, J k W → B ≤ W.heap.size → Calls Try.prog f #[fmV k, P] W fun e w' => e = .returned (.int .i64 (x k)) ∧ J (k + 1) w' ∧ Hid (W.heap.size ≤ w'.heap.size ∧ ∀ b, B ≤ b → b < W.heap.size → w'.heap[b]? = W.heap[b]?)
set_option maxRecDepth 100000 in
set_option maxHeartbeats 8000000 in
theorem gath2 (P Q : Nat) (x : Nat → Int) (J : Nat → World → Prop) (w : World) (h0 : Hid (J 0 w)) (hJ : Hid (∀ k W W', J k W → Below w.heap.size W W' → J k W')) (hc : Hid (Reads 106 (.pointer (some ⟨P, 0, none⟩)) (.pointer (some ⟨Q, 0, none⟩)) w.heap.size x J)) :
    Calls Try.prog 105 #[.func (.func 106) #[] #[.pointer (some ⟨P, 0, none⟩), .pointer (some ⟨Q, 0, none⟩)]] w fun e w' => e = .returned (.agg #[.int .i64 (x 0), .int .i64 (x 1), .int .i64 (x 2), .int .i64 (x 3)]) ∧ J 4 w' ∧ w.heap.size ≤ w'.heap.size := by
  have HF := Lib.hid (fun W => forms_any W)
  obtain ⟨W2, hW2⟩ : ∃ W, (w.alloc (.cells #[.int .i64 0, .int .i64 0, .int .i64 0, .int .i64 0] 28)).alloc (.cells #[.int .i64 0, .int .i64 0, .int .i64 0, .int .i64 0] 140) = W := ⟨_, rfl⟩
  have hb2 : Below w.heap.size w W2 := by rw [← hW2]; exact Me.below_alloc (Me.below_alloc (Below.refl _ _))
  have hs2 : W2.heap.size = w.heap.size + 1 + 1 := by rw [← hW2]; simp
  have hr2 : W2.heap[w.heap.size]? = some (.cells #[.int .i64 0, .int .i64 0, .int .i64 0, .int .i64 0] 28 (0, 0)) := by
    rw [← hW2]
    exact (Below.heap_alloc _ _ _ (by simp)).trans (heap_alloc_new w _)
  have hg2 : W2.heap[w.heap.size + 1]? = some (.cells (arrK x 0) 140 (0, 0)) := by
    rw [← hW2]
    have := heap_alloc_new (w.alloc (.cells #[.int .i64 0, .int .i64 0, .int .i64 0, .int .i64 0] 28)) (.cells #[.int .i64 0, .int .i64 0, .int .i64 0, .int .i64 0] 140)
    rw [World.size_alloc] at this
    exact this
  have HB2 := Lib.hid hb2; have HS2 := Lib.hid hs2; have HR2 := Lib.hid hr2; have HG2 := Lib.hid hg2
  clear hb2 hs2 hr2 hg2
  go_enter Try.func105, Try.ntmps105
  go_wp2_with (first
    | (rw [hW2])
    | (go_at_call 82; refine (HF.out _).mono ?_; rintro e w3 ⟨rfl, b3⟩))
  try rw [hW2] at b3
  clear hW2
  have HJ3 : Hid (J 0 w3) := hJ.out _ _ _ (hJ.out _ _ _ h0.out HB2.out) (b3.out.mono HB2.out.size)
  have HR3 : Hid (w3.heap[w.heap.size]? = some (.cells #[.int .i64 0, .int .i64 0, .int .i64 0, .int .i64 0] 28 (0, 0))) := (b3.out.block _ (by have := HS2.out; omega)).trans HR2.out
  have HG3 : Hid (w3.heap[w.heap.size + 1]? = some (.cells (arrK x 0) 140 (0, 0))) := (b3.out.block _ (by have := HS2.out; omega)).trans HG2.out
  clear h0 HB2 HS2 HR2 HG2 b3 HF
  go_loopw [7] (fun v wr => ∃ k : Nat, k ≤ 4 ∧ v = .int .i64 k ∧ Hid (J k wr) ∧ Hid (wr.heap[w.heap.size]? = some (.cells #[.int .i64 0, .int .i64 0, .int .i64 0, .int .i64 0] 28 (0, 0))) ∧ Hid (wr.heap[w.heap.size + 1]? = some (.cells (arrK x k) 140 (0, 0)))) (fun v _ => 4 - (intOf v).toNat)
  case atStart => exact ⟨0, by omega, rfl, HJ3.out, HR3.out, HG3.out⟩
  case round =>
    obtain ⟨k, hk, rfl, HJk, HRk, HGk⟩ := hrel
    have hszk : w.heap.size + 1 < wr.heap.size := (Array.getElem?_eq_some_iff.1 HGk.out).1
    have HSk := Lib.hid hszk
    clear HJ3 HR3 HG3 hszk
    by_cases hlt : k < 4
    · have HCk := Lib.hid (hc.out k hlt)
      obtain rfl | rfl | rfl | rfl : k = 0 ∨ k = 1 ∨ k = 2 ∨ k = 3 := by omega
      · simp only [show ((0 : Nat) : Int) = 0 from rfl]
        obtain ⟨W1, hW1⟩ : ∃ W1, wr.alloc (.cells #[.string ⟨#[]⟩, .int .i64 1] 143) = W1 := ⟨_, rfl⟩
        have HW1 := Lib.hid hW1
        have hf : Below wr.heap.size wr W1 := by rw [← hW1]; exact Me.below_alloc (Below.refl _ _)
        have HC : Hid (Calls Try.prog 106 #[.agg #[.string ⟨#[]⟩, .int .i64 1], .pointer (some ⟨P, 0, none⟩), .pointer (some ⟨Q, 0, none⟩)] W1 fun e w' => e = .returned (.int .i64 (x 0)) ∧ J (0 + 1) w' ∧ Hid (W1.heap.size ≤ w'.heap.size ∧ ∀ b, w.heap.size ≤ b → b < W1.heap.size → w'.heap[b]? = W1.heap[b]?)) := HCk.out W1 (hJ.out _ _ _ HJk.out (hf.mono (by have := HSk.out; omega))) (by have := hf.size; have := HSk.out; omega)
        have HF1 := Lib.hid hf
        clear hf hW1
        go_wp2_with (first
          | (rw [ixf0])
          | (go_at_call 106; try rw [HW1.out]; refine HC.out.mono ?_; rintro e w4 ⟨rfl, hJ4, hK4⟩; have HJ4 := Lib.hid hJ4; have hG4 := (hK4.out.2 (w.heap.size + 1) (by omega) (by have := HSk.out; have := HF1.out.size; omega)).trans ((HF1.out.block _ HSk.out).trans HGk.out); have hc4 := cell_of_row w4 (w.heap.size + 1) 0 _ _ (0, 0) hG4; have hfr4 := frozen_of_row w4 (w.heap.size + 1) 0 _ _ hG4; simp only [arrK, Nat.lt_irrefl, if_false] at hc4; have HG4 := Lib.hid hG4; have HR4 := Lib.hid ((hK4.out.2 w.heap.size (Nat.le_refl _) (by have := HSk.out; have := HF1.out.size; omega)).trans ((HF1.out.block _ (by have := HSk.out; omega)).trans HRk.out)); clear hG4 hJ4))
        go_roundw
        case rel => exact ⟨1, by omega, by go_num, hJ.out _ _ _ HJ4.out (below_set_new w4 _ _ _), (Below.heap_setCell _ _ _ _ (by simp)).trans HR4.out, by
          show _ = _
          rw [heap_setCell_same w4 (w.heap.size + 1) 0 _ _ _ HG4.out]
          rfl⟩
        case measure => simp [intOf]
      · simp only [show ((1 : Nat) : Int) = 1 from rfl]
        obtain ⟨W1, hW1⟩ : ∃ W1, wr.alloc (.cells #[.string ⟨#[62]⟩, .int .i64 1] 143) = W1 := ⟨_, rfl⟩
        have HW1 := Lib.hid hW1
        have hf : Below wr.heap.size wr W1 := by rw [← hW1]; exact Me.below_alloc (Below.refl _ _)
        have HC : Hid (Calls Try.prog 106 #[.agg #[.string ⟨#[62]⟩, .int .i64 1], .pointer (some ⟨P, 0, none⟩), .pointer (some ⟨Q, 0, none⟩)] W1 fun e w' => e = .returned (.int .i64 (x 1)) ∧ J (1 + 1) w' ∧ Hid (W1.heap.size ≤ w'.heap.size ∧ ∀ b, w.heap.size ≤ b → b < W1.heap.size → w'.heap[b]? = W1.heap[b]?)) := HCk.out W1 (hJ.out _ _ _ HJk.out (hf.mono (by have := HSk.out; omega))) (by have := hf.size; have := HSk.out; omega)
        have HF1 := Lib.hid hf
        clear hf hW1
        go_wp2_with (first
          | (rw [ixf1])
          | (go_at_call 106; try rw [HW1.out]; refine HC.out.mono ?_; rintro e w4 ⟨rfl, hJ4, hK4⟩; have HJ4 := Lib.hid hJ4; have hG4 := (hK4.out.2 (w.heap.size + 1) (by omega) (by have := HSk.out; have := HF1.out.size; omega)).trans ((HF1.out.block _ HSk.out).trans HGk.out); have hc4 := cell_of_row w4 (w.heap.size + 1) 1 _ _ (0, 0) hG4; have hfr4 := frozen_of_row w4 (w.heap.size + 1) 1 _ _ hG4; simp only [arrK, Nat.lt_irrefl, if_false] at hc4; have HG4 := Lib.hid hG4; have HR4 := Lib.hid ((hK4.out.2 w.heap.size (Nat.le_refl _) (by have := HSk.out; have := HF1.out.size; omega)).trans ((HF1.out.block _ (by have := HSk.out; omega)).trans HRk.out)); clear hG4 hJ4))
        go_roundw
        case rel => exact ⟨2, by omega, by go_num, hJ.out _ _ _ HJ4.out (below_set_new w4 _ _ _), (Below.heap_setCell _ _ _ _ (by simp)).trans HR4.out, by
          show _ = _
          rw [heap_setCell_same w4 (w.heap.size + 1) 1 _ _ _ HG4.out]
          rfl⟩
        case measure => simp [intOf]
      · simp only [show ((2 : Nat) : Int) = 2 from rfl]
        obtain ⟨W1, hW1⟩ : ∃ W1, wr.alloc (.cells #[.string ⟨#[58]⟩, .int .i64 2] 143) = W1 := ⟨_, rfl⟩
        have HW1 := Lib.hid hW1
        have hf : Below wr.heap.size wr W1 := by rw [← hW1]; exact Me.below_alloc (Below.refl _ _)
        have HC : Hid (Calls Try.prog 106 #[.agg #[.string ⟨#[58]⟩, .int .i64 2], .pointer (some ⟨P, 0, none⟩), .pointer (some ⟨Q, 0, none⟩)] W1 fun e w' => e = .returned (.int .i64 (x 2)) ∧ J (2 + 1) w' ∧ Hid (W1.heap.size ≤ w'.heap.size ∧ ∀ b, w.heap.size ≤ b → b < W1.heap.size → w'.heap[b]? = W1.heap[b]?)) := HCk.out W1 (hJ.out _ _ _ HJk.out (hf.mono (by have := HSk.out; omega))) (by have := hf.size; have := HSk.out; omega)
        have HF1 := Lib.hid hf
        clear hf hW1
        go_wp2_with (first
          | (rw [ixf2])
          | (go_at_call 106; try rw [HW1.out]; refine HC.out.mono ?_; rintro e w4 ⟨rfl, hJ4, hK4⟩; have HJ4 := Lib.hid hJ4; have hG4 := (hK4.out.2 (w.heap.size + 1) (by omega) (by have := HSk.out; have := HF1.out.size; omega)).trans ((HF1.out.block _ HSk.out).trans HGk.out); have hc4 := cell_of_row w4 (w.heap.size + 1) 2 _ _ (0, 0) hG4; have hfr4 := frozen_of_row w4 (w.heap.size + 1) 2 _ _ hG4; simp only [arrK, Nat.lt_irrefl, if_false] at hc4; have HG4 := Lib.hid hG4; have HR4 := Lib.hid ((hK4.out.2 w.heap.size (Nat.le_refl _) (by have := HSk.out; have := HF1.out.size; omega)).trans ((HF1.out.block _ (by have := HSk.out; omega)).trans HRk.out)); clear hG4 hJ4))
        go_roundw
        case rel => exact ⟨3, by omega, by go_num, hJ.out _ _ _ HJ4.out (below_set_new w4 _ _ _), (Below.heap_setCell _ _ _ _ (by simp)).trans HR4.out, by
          show _ = _
          rw [heap_setCell_same w4 (w.heap.size + 1) 2 _ _ _ HG4.out]
          rfl⟩
        case measure => simp [intOf]
      · simp only [show ((3 : Nat) : Int) = 3 from rfl]
        obtain ⟨W1, hW1⟩ : ∃ W1, wr.alloc (.cells #[.string ⟨#[46]⟩, .int .i64 2] 143) = W1 := ⟨_, rfl⟩
        have HW1 := Lib.hid hW1
        have hf : Below wr.heap.size wr W1 := by rw [← hW1]; exact Me.below_alloc (Below.refl _ _)
        have HC : Hid (Calls Try.prog 106 #[.agg #[.string ⟨#[46]⟩, .int .i64 2], .pointer (some ⟨P, 0, none⟩), .pointer (some ⟨Q, 0, none⟩)] W1 fun e w' => e = .returned (.int .i64 (x 3)) ∧ J (3 + 1) w' ∧ Hid (W1.heap.size ≤ w'.heap.size ∧ ∀ b, w.heap.size ≤ b → b < W1.heap.size → w'.heap[b]? = W1.heap[b]?)) := HCk.out W1 (hJ.out _ _ _ HJk.out (hf.mono (by have := HSk.out; omega))) (by have := hf.size; have := HSk.out; omega)
        have HF1 := Lib.hid hf
        clear hf hW1
        go_wp2_with (first
          | (rw [ixf3])
          | (go_at_call 106; try rw [HW1.out]; refine HC.out.mono ?_; rintro e w4 ⟨rfl, hJ4, hK4⟩; have HJ4 := Lib.hid hJ4; have hG4 := (hK4.out.2 (w.heap.size + 1) (by omega) (by have := HSk.out; have := HF1.out.size; omega)).trans ((HF1.out.block _ HSk.out).trans HGk.out); have hc4 := cell_of_row w4 (w.heap.size + 1) 3 _ _ (0, 0) hG4; have hfr4 := frozen_of_row w4 (w.heap.size + 1) 3 _ _ hG4; simp only [arrK, Nat.lt_irrefl, if_false] at hc4; have HG4 := Lib.hid hG4; have HR4 := Lib.hid ((hK4.out.2 w.heap.size (Nat.le_refl _) (by have := HSk.out; have := HF1.out.size; omega)).trans ((HF1.out.block _ (by have := HSk.out; omega)).trans HRk.out)); clear hG4 hJ4))
        go_roundw
        case rel => exact ⟨4, by omega, by go_num, hJ.out _ _ _ HJ4.out (below_set_new w4 _ _ _), (Below.heap_setCell _ _ _ _ (by simp)).trans HR4.out, by
          show _ = _
          rw [heap_setCell_same w4 (w.heap.size + 1) 3 _ _ _ HG4.out]
          rfl⟩
        case measure => simp [intOf]
    · obtain rfl : k = 4 := by omega
      have hcs := fun j => cell_of_row wr (w.heap.size + 1) j _ _ (0, 0) HGk.out
      have c0 : wr.cell? ⟨w.heap.size + 1, 0, none⟩ = some (.int .i64 (x 0)) := hcs 0
      have c1 : wr.cell? ⟨w.heap.size + 1, 1, none⟩ = some (.int .i64 (x 1)) := hcs 1
      have c2 : wr.cell? ⟨w.heap.size + 1, 2, none⟩ = some (.int .i64 (x 2)) := hcs 2
      have c3 : wr.cell? ⟨w.heap.size + 1, 3, none⟩ = some (.int .i64 (x 3)) := hcs 3
      clear hcs
      have HSV := Lib.hid (setRow_heap wr w.heap.size _ #[.int .i64 (x 0), .int .i64 (x 1), .int .i64 (x 2), .int .i64 (x 3)] _ _ HRk.out)
      go_wp2_with (refine wpList_store_row rfl 28 (.tmp 2) (.tmp 25) rfl w.heap.size #[.int .i64 (x 0), .int .i64 (x 1), .int .i64 (x 2), .int .i64 (x 3)] rfl rfl 28 _ HRk.out (by kernel_rfl) rfl (by simp [Value.oneCell']) ?_)
      obtain ⟨W9, hW9⟩ : ∃ W, wr.setRow w.heap.size #[.int .i64 (x 0), .int .i64 (x 1), .int .i64 (x 2), .int .i64 (x 3)] = W := ⟨_, rfl⟩
      have hJ9 : J 4 W9 := by
        rw [← hW9]
        exact hJ.out _ _ _ HJk.out ⟨rfl, rfl, rfl, by simp, fun b hb => setRow_other _ _ b _ (by omega)⟩
      have hS9 : w.heap.size ≤ W9.heap.size := by rw [← hW9]; simp; have := HSk.out; omega
      have h9 := HSV.out
      rw [hW9] at h9 ⊢
      have e0 : W9.cell? ⟨w.heap.size, 0, none⟩ = some (.int .i64 (x 0)) := cell_of_row W9 w.heap.size 0 _ _ (0, 0) h9
      have e1 : W9.cell? ⟨w.heap.size, 1, none⟩ = some (.int .i64 (x 1)) := cell_of_row W9 w.heap.size 1 _ _ (0, 0) h9
      have e2 : W9.cell? ⟨w.heap.size, 2, none⟩ = some (.int .i64 (x 2)) := cell_of_row W9 w.heap.size 2 _ _ (0, 0) h9
      have e3 : W9.cell? ⟨w.heap.size, 3, none⟩ = some (.int .i64 (x 3)) := cell_of_row W9 w.heap.size 3 _ _ (0, 0) h9
      exact ret_box (g := w.heap.size) rfl (by rfl) h9 rfl Try.underlying28 (by kernel_rfl) rfl ⟨rfl, hJ9, hS9⟩
end Go.Proofs.Ytpofdimagfldnaa.Mg
