/- The law's own lists behind an append and a store. -/
import Derived.Test.YtnfjfcoonabmmaaRvPair
namespace Go.Proofs.Ytnfjfcoonabmmaa.Rv
open Go.RowKit
open Go.Proofs.Ytnfjfcoonabmmaa.Me Go.Proofs.Ytnfjfcoonabmmaa.Hd Go.Proofs.Ytnfjfcoonabmmaa.Sn
set_option linter.unusedVariables false
set_option linter.unusedSimpArgs false

/-- A list's block: slices of bytes, or calls. -/
def Lk (w : World) (k : Nat) : Prop := ∃ cur t, w.heap[k]? = some (.cells cur t (0, 0)) ∧ (t = 32 ∨ t = 34)
section
variable {M : Nat} {G T : Nat → Prop} {w w4 w5 : World} {P Ds D mb : Nat} {s : Snd} {r : Rcv} {ps tl : List (List Nat)} {S : Nat} {A1 A3 : Option Addr} {c1 c3 : Nat} {v2 : Value}
/-- What it owns then. -/
def Gn (G : Nat → Prop) (w w5 : World) (k : Nat) : Prop := (G k ∨ w.heap.size ≤ k) ∧ k < w5.heap.size
theorem Pm.rest (h : Pm M G w P Ds D mb s r ps S tl A1 c1 v2 A3 c3) (hb : But (fun k => T k ∨ k = P) w w5) (hT : ∀ k, T k → G k ∧ Lk w k) :
    Gn G w w5 P ∧ Sn M (Gn G w w5) w5 Ds s ∧ Rv (Gn G w w5) w5 D mb r ∧ (∀ A c ls, Ls G w A c ls → (∀ k, bk A k → ¬ T k) → Ls (Gn G w w5) w5 A c ls) ∧
      (∀ v S ps ps', Wy G w v S ps → (∀ k, v.ownBlock = some k → ¬ T k) → (∀ j, j < S → lsAt ps' j = lsAt ps j) → Wy (Gn G w w5) w5 v S ps') ∧ (∀ k, Gn G w w5 k → M ≤ k ∧ k < w5.heap.size) ∧ M ≤ w5.heap.size := by
  have hx : ∀ k, (T k ∨ k = P) → ∃ cur t, w.heap[k]? = some (.cells cur t (0, 0)) ∧ (t = 32 ∨ t = 34 ∨ t = 47) := fun k hk => by
    rcases hk with hk | rfl
    · obtain ⟨cur, t, q1, q2⟩ := (hT k hk).2
      exact ⟨cur, t, q1, q2.imp id .inl⟩
    · exact ⟨_, _, h.blk, .inr (.inr rfl)⟩
  have h8 : No8 G (fun k => T k ∨ k = P) w := No8.of fun k hk => by
    obtain ⟨cur, t, q1, q2⟩ := hx k hk
    refine ⟨_, q1, fun cs => cells_ne ?_⟩
    rcases q2 with rfl | rfl | rfl <;> decide
  have hD : ¬ (T D ∨ D = P) := fun hk => by
    obtain ⟨cur, t, q1, q2⟩ := hx D hk
    rw [h.rv.rq.blk] at q1
    refine cells_ne ?_ (Option.some.inj q1)
    rcases q2 with rfl | rfl | rfl <;> decide
  have hm : ¬ (T mb ∨ mb = P) := fun hk => by
    obtain ⟨cur, t, q1, q2⟩ := hx mb hk
    obtain ⟨es, cm, hm⟩ := h.rv.rq.mp.isMap
    rw [hm] at q1
    cases q1
  have hg : ∀ k, k < w.heap.size → G k → Gn G w w5 k := fun k hk hk' => ⟨.inl hk', Nat.lt_of_lt_of_le hk hb.size⟩
  refine ⟨hg P h.lt h.gP, Sn.butG h.sn hb (fun k hk => .inl (hk.elim (fun q => (hT k q).1) fun e => e ▸ h.gP)) (fun k hk => hk.1), (h.rv.turn hb hD hm h8).mono fun k hk hg' => ⟨.inl hg', hk⟩, fun A c ls hl hd => hl.turn hb h8 (fun k hk ht => ?_) hg, fun v S ps ps' hw hd hps => hw.turn hb h8 (fun k hk ht => ?_) hg hps, fun k hk => ⟨hk.1.elim (fun q => (h.gM k q).1) fun q => Nat.le_trans h.hM q, hk.2⟩, Nat.le_trans h.hM hb.size⟩
  · rcases ht with ht | rfl
    · exact hd k hk ht
    · exact hl.ne h.blk (fun cs => cells_ne (by decide)) hk
  · rcases ht with ht | rfl
    · exact hd k hk ht
    · exact hw.ne h.blk (fun cs => cells_ne (by decide)) hk
theorem pcs2 (A4 : Option Addr) (n4 c4 : Nat) (n1 n3 : Nat) : (pcs Ds D A1 n1 c1 v2 A3 n3 c3).setIfInBounds 2 (.slice A4 n4 c4) = pcs Ds D A4 n4 c4 v2 A3 n3 c3 := by simp [pcs]
theorem pcs3 (v4 : Value) (n1 n3 : Nat) : (pcs Ds D A1 n1 c1 v2 A3 n3 c3).setIfInBounds 3 v4 = pcs Ds D A1 n1 c1 v4 A3 n3 c3 := by simp [pcs]
theorem pcs4 (A4 : Option Addr) (n4 c4 : Nat) (n1 n3 : Nat) : (pcs Ds D A1 n1 c1 v2 A3 n3 c3).setIfInBounds 4 (.slice A4 n4 c4) = pcs Ds D A1 n1 c1 v2 A4 n4 c4 := by simp [pcs]
/-- The list behind the store into P. -/
theorem ls_set {A : Option Addr} {c i : Nat} {ls : List (List Nat)} {u : Value} {G' : Nat → Prop} (hl : Ls G' w4 A c ls) {cs : Array Value} (hP : w4.heap[P]? = some (.cells cs 47 (0, 0))) {G5 : Nat → Prop} (hG : ∀ k, k < w4.heap.size → G' k → G5 k) : Ls G5 (w4.setCell ⟨P, i, none⟩ u) A c ls := by
  have hb : But (fun k => k = P) w4 (w4.setCell ⟨P, i, none⟩ u) := (But.refl (fun k => k = P) w4).set (p := ⟨P, i, none⟩) (.inl rfl) u
  exact hl.turn hb (No8.of fun k (hk : k = P) => by subst hk; exact ⟨_, hP, fun cs => cells_ne (by decide)⟩) (fun k hk (e : k = P) => hl.ne hP (fun cs => cells_ne (by decide)) (e ▸ hk)) hG
/-- Something was pushed. -/
theorem Pm.pushed {b : List Nat} {u : Value} {A4 : Option Addr} {c4 : Nat} (h : Pm M G w P Ds D mb s r ps S tl A1 c1 v2 A3 c3) (hS : S ≤ ps.length)
    (hl : Ls (fun k => G k ∨ (w.alloc (.cells #[u] 32)).heap.size ≤ k) w4 A4 c4 (ps ++ [b])) (hb : But (bk A1) (w.alloc (.cells #[u] 32)) w4) (hn : ∀ k, bk A4 k → bk A1 k ∨ (w.alloc (.cells #[u] 32)).heap.size ≤ k) :
    w4.cell? ⟨P, 2, none⟩ = some (.slice A1 ps.length c1) ∧ w4.frozen? ⟨P, 2, none⟩ = false ∧
      ∃ G', Pm M G' (w4.setCell ⟨P, 2, none⟩ (.slice A4 (ps.length + 1) c4)) P Ds D mb s r (ps ++ [b]) S tl A4 c4 v2 A3 c3 := by
  have hlt := h.lt
  have hsz : (w.alloc (.cells #[u] 32)).heap.size = w.heap.size + 1 := by simp
  have b4 : But (bk A1) w w4 := ((But.refl (bk A1) w).alloc _).trans hb fun k _ hk => hk
  have hPA : ¬ bk A1 P := h.pu.ne h.blk fun cs => cells_ne (by decide)
  have hP4 : w4.heap[P]? = some (.cells (pcs Ds D A1 ps.length c1 v2 A3 tl.length c3) 47 (0, 0)) := (b4.same P hlt hPA).trans h.blk
  have b5 : But (fun k => bk A1 k ∨ k = P) w (w4.setCell ⟨P, 2, none⟩ (.slice A4 (ps.length + 1) c4)) := (b4.mono fun k _ hk => .inl hk).set (p := ⟨P, 2, none⟩) (.inl (.inr rfl)) _
  obtain ⟨q1, q2, q3, q4, q5, q6, q7⟩ := h.rest b5 fun k hk => ⟨(h.pu.blk k hk).1, by obtain ⟨cur, hc⟩ := (h.pu.blk k hk).2.2; exact ⟨cur, _, hc, .inl rfl⟩⟩
  have hs4 := b4.size
  have hs5 := b5.size
  refine ⟨cell_of_row w4 P 2 _ _ (0, 0) hP4, frozen_of_row w4 P 2 _ _ hP4, Gn G w (w4.setCell ⟨P, 2, none⟩ (.slice A4 (ps.length + 1) c4)), ?_, q1, q2, q3, ls_set hl hP4 fun k hk hg => ⟨hg.imp id fun q => by omega, by simpa using hk⟩, q5 v2 S ps _ h.wy (fun k hk ht => ?_) fun j hj => lsAt_append_left (by omega), q4 A3 c3 tl h.to fun k hk hk' => h.ne k hk' hk, fun k hk hk3 => ?_, q6, q7⟩
  · rw [heap_setCell_same w4 P 2 _ _ _ hP4, pcs2]
    simp
  · obtain ⟨_, _, cur, hc⟩ := h.pu.blk k ht
    exact h.wy.ne hc (fun cs => cells_ne (by decide)) hk
  · rcases hn k hk with h1 | h1
    · exact h.ne k h1 hk3
    · have := (h.to.blk k hk3).2.1; omega
/-- Something was told. -/
theorem Pm.tell {rs : List (List Nat)} {A4 : Option Addr} {c4 n4 : Nat} (h : Pm M G w P Ds D mb s r ps S tl A1 c1 v2 A3 c3) (hn4 : n4 = (tl ++ rs).length)
    (hl : Ls (fun k => G k ∨ w.heap.size ≤ k) w4 A4 c4 (tl ++ rs)) (hb : But (bk A3) w w4) (hn : ∀ k, bk A4 k → bk A3 k ∨ w.heap.size ≤ k) :
    w4.cell? ⟨P, 4, none⟩ = some (.slice A3 tl.length c3) ∧ w4.frozen? ⟨P, 4, none⟩ = false ∧
      ∃ G', Pm M G' (w4.setCell ⟨P, 4, none⟩ (.slice A4 n4 c4)) P Ds D mb s r ps S (tl ++ rs) A1 c1 v2 A4 c4 := by
  subst hn4
  have hlt := h.lt
  have hPA : ¬ bk A3 P := h.to.ne h.blk fun cs => cells_ne (by decide)
  have hP4 : w4.heap[P]? = some (.cells (pcs Ds D A1 ps.length c1 v2 A3 tl.length c3) 47 (0, 0)) := (hb.same P hlt hPA).trans h.blk
  have b5 : But (fun k => bk A3 k ∨ k = P) w (w4.setCell ⟨P, 4, none⟩ (.slice A4 (tl ++ rs).length c4)) := (hb.mono fun k _ hk => .inl hk).set (p := ⟨P, 4, none⟩) (.inl (.inr rfl)) _
  obtain ⟨q1, q2, q3, q4, q5, q6, q7⟩ := h.rest b5 fun k hk => ⟨(h.to.blk k hk).1, by obtain ⟨cur, hc⟩ := (h.to.blk k hk).2.2; exact ⟨cur, _, hc, .inl rfl⟩⟩
  have hs4 := hb.size
  refine ⟨cell_of_row w4 P 4 _ _ (0, 0) hP4, frozen_of_row w4 P 4 _ _ hP4, Gn G w (w4.setCell ⟨P, 4, none⟩ (.slice A4 (tl ++ rs).length c4)), ?_, q1, q2, q3, q4 A1 c1 ps h.pu fun k hk hk' => h.ne k hk hk', q5 v2 S ps _ h.wy (fun k hk ht => ?_) fun j hj => rfl, ls_set hl hP4 fun k hk hg => ⟨hg, by simpa using hk⟩, fun k hk hk4 => ?_, q6, q7⟩
  · rw [heap_setCell_same w4 P 4 _ _ _ hP4, pcs4]
  · obtain ⟨_, _, cur, hc⟩ := h.to.blk k ht
    exact h.wy.ne hc (fun cs => cells_ne (by decide)) hk
  · rcases hn k hk4 with h1 | h1
    · exact h.ne k hk h1
    · have := (h.pu.blk k hk).2.1; omega
/-- Something was sent. -/
theorem Wy.snoc {v' : Value} {xs : List Value} {u : Value}
    (hx : w4.ownsRow 0 34 3 v' (S + 1) (xs ++ [.int .i64 0, .int .i64 ((S % 128 : Nat) : Int), u])) (hl : xs.length = S * 3) (hv : ∀ k, v'.ownBlock = some k → G k)
    (hj : ∀ j, j < S → xs[j * 3]? = some (.int .i64 0) ∧ xs[j * 3 + 1]? = some (.int .i64 ((j % 128 : Nat) : Int)) ∧ ∃ u, xs[j * 3 + 2]? = some u ∧ El G w4 u (lsAt ps j)) (hu : El G w4 u (lsAt ps S)) : Wy G w4 v' (S + 1) ps := by
  refine ⟨_, hx, hv, fun j hj' => ?_⟩
  by_cases hlt : j < S
  · obtain ⟨q1, q2, u', q3, q4⟩ := hj j hlt
    exact ⟨by rw [List.getElem?_append_left (by omega)]; exact q1, by rw [List.getElem?_append_left (by omega)]; exact q2, u', by rw [List.getElem?_append_left (by omega)]; exact q3, q4⟩
  · obtain rfl : j = S := by omega
    refine ⟨?_, ?_, u, ?_, hu⟩
    · rw [List.getElem?_append_right (by omega), hl, Nat.sub_self]; rfl
    · rw [List.getElem?_append_right (by omega), hl, show j * 3 + 1 - j * 3 = 1 by omega]; rfl
    · rw [List.getElem?_append_right (by omega), hl, show j * 3 + 2 - j * 3 = 2 by omega]; rfl
end
end Go.Proofs.Ytnfjfcoonabmmaa.Rv
