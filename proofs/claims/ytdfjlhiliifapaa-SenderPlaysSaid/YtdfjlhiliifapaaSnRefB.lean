/- The contracts of the reference's Push, Send, Ack, Again, Under, Reset. -/
import Derived.Test.YtdfjlhiliifapaaSnRef
namespace Go.Proofs.Ytdfjlhiliifapaa.Sn
open Go.RowKit
open Go.Proofs.Ytdfjlhiliifapaa.Me Go.Proofs.Ytdfjlhiliifapaa.Hd
set_option linter.unusedVariables false
set_option linter.unusedSimpArgs false

/-- What a region that draws its order holds of the argument's box. -/
def KeptX (g : Nat) (s : Snd) (A : Option Addr) (c : Nat) (W : World) : Prop := W.heap[g]? = some (.cells (rcells s A c) 29 (0, 0))
theorem KeptX.cell {g : Nat} {s : Snd} {A : Option Addr} {c : Nat} {W : World} (h : KeptX g s A c W) (i : Nat) : W.cell? ⟨g, i, none⟩ = (rcells s A c)[i]? := cell_of_row W _ i _ _ (0, 0) h
theorem KeptX.row {g : Nat} {s : Snd} {A : Option Addr} {c : Nat} {W : World} (h : KeptX g s A c W) : W.cell? ⟨g, 0, none⟩ = some (.int .i64 (s.size : Int)) ∧ W.cell? ⟨g, 1, none⟩ = some (.int .i64 (s.base : Int)) ∧ W.cell? ⟨g, 2, none⟩ = some (.slice A s.l.length c) ∧ W.cell? ⟨g, 3, none⟩ = some (.int .i64 (s.under : Int)) := ⟨h.cell 0, h.cell 1, h.cell 2, h.cell 3⟩
theorem KeptX.two {w W W2 : World} {s : Snd} {A : Option Addr} {c : Nat} (h : Two w s A c W) (hb : Below W.heap.size W W2) : KeptX w.heap.size s A c W2 := (hb.block _ h.lt.1).trans h.x
/-- What the reference's calls answer that make a sender anew: the sender (its list in old blocks and new ones), and more. -/
def RAfter (F : Nat → Prop) (w : World) (s : Snd) (A : Option Addr) (c : Nat) (w' : World) : Prop := Ls (fun k => F k ∨ w.heap.size ≤ k) w' A c s.l ∧ Below w.heap.size w w'
theorem RAfter.same {F : Nat → Prop} {w w' : World} {s : Snd} {A : Option Addr} {c : Nat} (h : Ls F w A c s.l) (hb : Below w.heap.size w w') : RAfter F w s A c w' := ⟨(h.below hb).mono fun _ _ h => .inl h, hb⟩
theorem two_new (w : World) (X : Obj) (cs : Array Value) : ((w.alloc X).alloc (.cells cs 29)).heap[w.heap.size + 1]? = some (.cells cs 29 (0, 0)) := by
  have := heap_alloc_new (w.alloc X) (.cells cs 29)
  rw [World.size_alloc] at this
  exact this
theorem payE_push {s : Snd} {p : List Nat} (h : payE p ≠ 0) : pushE s p = payE p ∧ pushS s p = s ∧ (payE p = 2 ∨ payE p = 3) := by
  unfold payE at h ⊢
  unfold pushS pushE
  by_cases h1 : p.length = 0
  · simp [h1]
  · by_cases h2 : 121 < p.length
    · simp [h1, h2]
    · simp [h1, h2] at h
theorem payE_ok {p : List Nat} (h : payE p = 0) : p.length ≠ 0 ∧ ¬ 121 < p.length := by
  unfold payE at h
  constructor
  · intro e; rw [if_pos e] at h; cases h
  · intro e
    by_cases h1 : p.length = 0
    · omega
    · rw [if_neg h1, if_pos e] at h; cases h
/-- The reference's list copied: behind it. -/
structure RMid (F : Nat → Prop) (w : World) (s : Snd) (A : Option Addr) (c : Nat) (A6 : Option Addr) (c6 : Nat) (w6 : World) : Prop where
  x : w6.heap[w.heap.size]? = some (.cells (rcells s A c) 29 (0, 0))
  z : w6.heap[w.heap.size + 1]? = some (.cells zcells 29 (0, 0))
  below : Below w.heap.size w w6
  l : Ls (fun k => F k ∨ w.heap.size ≤ k) w6 A6 c6 s.l
  new : ∀ k, bk A6 k → w.heap.size + 2 ≤ k
theorem RMid.lt {F : Nat → Prop} {w w6 : World} {s : Snd} {A A6 : Option Addr} {c c6 : Nat} (h : RMid F w s A c A6 c6 w6) : w.heap.size < w6.heap.size := (Array.getElem?_eq_some_iff.1 h.x).1
theorem RMid.le {F : Nat → Prop} {w w6 : World} {s : Snd} {A A6 : Option Addr} {c c6 : Nat} (h : RMid F w s A c A6 c6 w6) : w.heap.size ≤ w6.heap.size := Nat.le_of_lt h.lt
theorem rpush_one {F : Nat → Prop} {w W0 : World} {s : Snd} {A : Option Addr} {c : Nat} (h : Ls F w A c s.l) (ht : Two w s A c W0) :
    Ls (fun k => F k ∨ w.heap.size ≤ k) (W0.alloc (.cells #[] 36)) (some ⟨w.heap.size + 1 + 1, 0, none⟩) 0 [] ∧ ∃ us, Src Try.prog 1 27 (.slice A s.l.length c) s.l.length us (W0.alloc (.cells #[] 36)) ∧
      ∀ j, j < s.l.length → ∃ u, us[j]? = some u ∧ El (fun k => F k ∨ w.heap.size ≤ k) (W0.alloc (.cells #[] 36)) u (lsAt s.l j) := by
  have hb := ht.b.alloc ht.b.size (.cells #[] 36)
  have hn : w.heap.size + 1 + 1 = W0.heap.size := ht.n.symm
  refine ⟨.inr ⟨w.heap.size + 1 + 1, 0, #[], rfl, .inr (by omega), by rw [hn]; exact heap_alloc_new W0 _, by simp, by simp, by simp, fun j hj => absurd hj (by simp)⟩, ?_⟩
  exact ((h.below hb).mono (F' := fun k => F k ∨ w.heap.size ≤ k) fun _ _ h => .inl h).src
theorem rpush_two {F : Nat → Prop} {w W0 w6 : World} {s : Snd} {A A6 : Option Addr} {c c6 : Nat} (ht : Two w s A c W0)
    (hl : Ls (fun k => (F k ∨ w.heap.size ≤ k) ∨ (W0.alloc (.cells #[] 36)).heap.size ≤ k) w6 A6 c6 s.l) (hb : But (bk (some ⟨w.heap.size + 1 + 1, 0, none⟩)) (W0.alloc (.cells #[] 36)) w6)
    (hk : ∀ k, bk A6 k → bk (some ⟨w.heap.size + 1 + 1, 0, none⟩) k ∨ (W0.alloc (.cells #[] 36)).heap.size ≤ k) : RMid F w s A c A6 c6 w6 := by
  have hs : (W0.alloc (.cells #[] 36)).heap.size = W0.heap.size + 1 := by simp
  have hn := ht.n
  have hsame : ∀ k, k < W0.heap.size → w6.heap[k]? = W0.heap[k]? := fun k hlt => (hb.same k (by omega) fun ⟨a, e, e2⟩ => by cases e; simp only at e2; omega).trans (Below.heap_alloc _ _ _ hlt)
  refine ⟨(hsame _ (by omega)).trans ht.x, (hsame _ (by omega)).trans ht.z, ht.b.trans ⟨hb.os, hb.tape, hb.output, by have := hb.size; omega, fun k hlt => hsame k (by omega)⟩, hl.mono fun k _ h => ?_, fun k h => ?_⟩
  · rcases h with h | h
    · exact h
    · exact .inr (by omega)
  · rcases hk k h with ⟨a, e, e2⟩ | h
    · cases e; simp only at e2; omega
    · omega
/-- The payload copied too, and laid into a block. -/
structure RMid8 (F : Nat → Prop) (w : World) (s : Snd) (A : Option Addr) (c : Nat) (A6 : Option Addr) (c6 : Nat) (p : List Nat) (A8 : Option Addr) (c8 : Nat) (w8 : World) : Prop where
  x : w8.heap[w.heap.size]? = some (.cells (rcells s A c) 29 (0, 0))
  y : (w8.alloc (.cells #[.slice A8 p.length c8] 36)).heap[w.heap.size]? = some (.cells (rcells s A c) 29 (0, 0))
  z : (w8.alloc (.cells #[.slice A8 p.length c8] 36)).heap[w.heap.size + 1]? = some (.cells zcells 29 (0, 0))
  below : Below w.heap.size w (w8.alloc (.cells #[.slice A8 p.length c8] 36))
  l : Ls (fun k => F k ∨ w.heap.size ≤ k) (w8.alloc (.cells #[.slice A8 p.length c8] 36)) A6 c6 s.l
  new : ∀ k, bk A6 k → w.heap.size + 2 ≤ k
  e : ∀ j, j < [p].length → ∃ u, [Value.slice A8 p.length c8][j]? = some u ∧ El (fun k => F k ∨ w.heap.size ≤ k) (w8.alloc (.cells #[.slice A8 p.length c8] 36)) u (lsAt [p] j)
theorem rpush_three {F : Nat → Prop} {w w6 w8 : World} {s : Snd} {A A6 A8 : Option Addr} {c c6 c8 : Nat} {p : List Nat} (h : RMid F w s A c A6 c6 w6) (hp : 0 < p.length) (ho : Me.Own w8 w6.drew.heap.size (.slice A8 p.length c8) p) (hb : Below w6.drew.heap.size w6.drew w8) : RMid8 F w s A c A6 c6 p A8 c8 w8 := by
  have hz := (Array.getElem?_eq_some_iff.1 h.z).1
  have hb6 : Below w6.heap.size w6 w8 := (Below.refl w6.heap.size w6).drew.trans hb
  have hs := hb6.size
  have hb7 : Below w6.heap.size w6 (w8.alloc (.cells #[.slice A8 p.length c8] 36)) := hb6.alloc hs _
  refine ⟨(hb6.block _ h.lt).trans h.x, (hb7.block _ h.lt).trans h.x, (hb7.block _ hz).trans h.z, h.below.trans (hb7.mono h.le), h.l.below hb7, h.new, fun j hj => ?_⟩
  obtain rfl : j = 0 := by simpa using hj
  refine ⟨_, rfl, A8, c8, by simp [lsAt], ?_, fun a ea => .inr ?_⟩
  · simp only [lsAt, List.getD_cons_zero]
    exact own_base (B' := 0) (own_same ho fun k _ hk => Below.heap_alloc _ _ _ hk) fun _ _ => Nat.zero_le _
  · exact Nat.le_trans h.le (ho.lt a.block (by rw [ea]; rfl)).1
/-- Behind the last append. -/
structure RMid9 (F : Nat → Prop) (w : World) (s : Snd) (A : Option Addr) (c : Nat) (p : List Nat) (A9 : Option Addr) (c9 : Nat) (w9 : World) : Prop where
  x : w9.heap[w.heap.size]? = some (.cells (rcells s A c) 29 (0, 0))
  z : w9.heap[w.heap.size + 1]? = some (.cells zcells 29 (0, 0))
  below : Below w.heap.size w w9
  l : Ls (fun k => F k ∨ w.heap.size ≤ k) w9 A9 c9 (s.l ++ [p])
theorem rpush_four {F : Nat → Prop} {w w8 w9 : World} {s : Snd} {A A6 A8 A9 : Option Addr} {c c6 c8 c9 : Nat} {p : List Nat} (h : RMid8 F w s A c A6 c6 p A8 c8 w8)
    (hl : Ls (fun k => (F k ∨ w.heap.size ≤ k) ∨ (w8.alloc (.cells #[.slice A8 p.length c8] 36)).heap.size ≤ k) w9 A9 c9 (s.l ++ [p])) (hb : But (bk A6) (w8.alloc (.cells #[.slice A8 p.length c8] 36)) w9) : RMid9 F w s A c p A9 c9 w9 := by
  have hz := (Array.getElem?_eq_some_iff.1 h.z).1
  have hn : ∀ k, k < w.heap.size + 2 → ¬ bk A6 k := fun k hk hb => by have := h.new k hb; omega
  refine ⟨(hb.same _ (by omega) (hn _ (by omega))).trans h.y, (hb.same _ hz (hn _ (by omega))).trans h.z, h.below.trans ⟨hb.os, hb.tape, hb.output, hb.size, fun k hk => hb.same k (by omega) (hn k (by omega))⟩, hl.mono fun k _ hk => ?_⟩
  rcases hk with hk | hk
  · exact hk
  · exact .inr (by have := h.below.size; omega)
theorem rpush_five {F : Nat → Prop} {w w9 : World} {s : Snd} {A A9 : Option Addr} {c c9 : Nat} {p : List Nat} (h : RMid9 F w s A c p A9 c9 w9) :
    KeptX w.heap.size s A c (w9.setRow (w.heap.size + 1) (rcells ⟨s.size, s.base, s.under, s.l ++ [p]⟩ A9 c9)) ∧
    (w9.setRow (w.heap.size + 1) (rcells ⟨s.size, s.base, s.under, s.l ++ [p]⟩ A9 c9)).heap[w.heap.size + 1]? = some (.cells (rcells ⟨s.size, s.base, s.under, s.l ++ [p]⟩ A9 c9) 29 (0, 0)) ∧
    Hid (RAfter F w ⟨s.size, s.base, s.under, s.l ++ [p]⟩ A9 c9 (w9.setRow (w.heap.size + 1) (rcells ⟨s.size, s.base, s.under, s.l ++ [p]⟩ A9 c9))) := by
  have hne : ∀ {k : Nat} {cs : Array Value} {T : TypeId}, w9.heap[k]? = some (.cells cs T (0, 0)) → T ≠ 29 → k ≠ w.heap.size + 1 := fun hk hT e => by
    subst e
    rw [h.z] at hk
    simp only [Option.some.injEq, Obj.cells.injEq] at hk
    exact hT hk.2.1.symm
  refine ⟨(setRow_other _ _ _ _ (by omega)).trans h.x, setRow_heap _ _ _ _ _ _ h.z, ?_, h.below.trans ⟨rfl, rfl, rfl, by simp [World.setRow], fun k hk => setRow_other _ _ k _ (by omega)⟩⟩
  rcases h.l with e | ⟨g, off, cur, e1, e2, e3, e4, e5, e6, e7⟩
  · exact .inl e
  · refine .inr ⟨g, off, cur, e1, e2, (setRow_other _ _ g _ (hne e3 (by decide))).trans e3, e4, e5, e6, fun j hj => ?_⟩
    obtain ⟨u, u1, u2⟩ := e7 j hj
    exact ⟨u, u1, u2.kept fun k cs hF hc => ⟨setRow_other _ _ k _ (hne hc (by decide)), hF⟩⟩
set_option maxHeartbeats 2000000 in
theorem RPush_any {F : Nat → Prop} (w : World) (s : Snd) (A : Option Addr) (c : Nat) (h : Hid (Ls F w A c s.l)) (ok : Hid s.Ok) (Ap : Option Addr) (cp : Nat) (p : List Nat) (hp : Hid (Me.Rd w w.heap.size Ap p)) (hA : Hid (Ap = none → p.length = 0 ∧ cp = 0)) :
    Calls Try.prog 26 #[rval s A c, .slice Ap p.length cp] w fun e w' => ∃ A' c', e = .returned (.tuple #[rval (pushS s p) A' c', .int .i64 (pushE s p : Int)]) ∧ Hid (RAfter F w (pushS s p) A' c' w') := by
  rw [show rval s A c = .agg #[.int .i64 (s.size : Int), .int .i64 (s.base : Int), .slice A s.l.length c, .int .i64 (s.under : Int)] from rfl]
  have HPay := Lib.hid (fun W => Payload_any Ap cp p W)
  have HT0 : Two w s A c ((w.alloc (.cells #[.int .i64 (s.size : Int), .int .i64 (s.base : Int), .slice A s.l.length c, .int .i64 (s.under : Int)] 29)).alloc (.cells #[.int .i64 0, .int .i64 0, .slice none 0 0, .int .i64 0] 29)) := Two.new w s A c
  by_cases h1 : payE p = 0
  · rw [h1] at HPay
    obtain ⟨h2, h3⟩ := payE_ok h1
    by_cases h4 : s.l.length = 64
    · have HE : Hid (pushE s p = 6) := by show _ = _; unfold pushE; rw [if_neg h2, if_neg h3, if_pos h4]
      have HS : Hid (pushS s p = s) := by show _ = _; unfold pushS; rw [HE.out]; rfl
      have g1 : (64 : Int) ≤ (s.l.length : Int) := by omega
      clear h1 h2 h3 h4
      go_enter Try.func26, Try.ntmps26
      go_wp2_with (go_at_call 41; refine (HPay.out _).mono ?_; rintro e w' ⟨rfl, rfl⟩)
      refine ret_cell rfl rfl (two_new w _ _) rfl Try.underlying29 (by kernel_rfl) rfl ?_
      exact ⟨A, c, by rw [HS.out, HE.out]; rfl, by rw [HS.out]; exact RAfter.same h.out (Me.below_alloc (Me.below_alloc (Below.refl _ _)))⟩
    · have HE : Hid (pushE s p = 0) := by show _ = _; unfold pushE; rw [if_neg h2, if_neg h3, if_neg h4]
      have HS : Hid (pushS s p = ⟨s.size, s.base, s.under, s.l ++ [p]⟩) := by show _ = _; unfold pushS; rw [HE.out]; rfl
      have hq := ok.out.q
      have g1 : ¬ (64 : Int) ≤ (s.l.length : Int) := by omega
      have HP1 := Lib.hid (show 0 < p.length by omega)
      have HQ := Lib.hid (show (s.l.length + [p].length) * 24 ≤ 140737488355328 by simp; omega)
      have HQ0 := Lib.hid (show (([] : List (List Nat)).length + s.l.length) * 24 ≤ 140737488355328 by simp; omega)
      have HPL := Lib.hid (show ([] : List Nat).length + p.length ≤ 140737488355328 by simp; omega)
      obtain ⟨ad, rfl⟩ : ∃ ad, Ap = some ad := by
        cases Ap with
        | none => have := (hA.out rfl).1; omega
        | some ad => exact ⟨ad, rfl⟩
      clear h1 h2 h3 h4 hq
      go_enter Try.func26, Try.ntmps26
      go_wp2_with (first
        | (go_at_call 41; refine (HPay.out _).mono ?_; rintro e w' ⟨rfl, rfl⟩)
        | (at_builtin; generalize ((w.alloc (.cells #[.int .i64 (s.size : Int), .int .i64 (s.base : Int), .slice A s.l.length c, .int .i64 (s.under : Int)] 29)).alloc (.cells #[.int .i64 0, .int .i64 0, .slice none 0 0, .int .i64 0] 29)) = W0 at HT0 ⊢; obtain ⟨l1, us, l2, l3⟩ := rpush_one h.out HT0; refine appL rfl (.tmp 18) (.tmp 20) rfl (fun k => F k ∨ w.heap.size ≤ k) (some ⟨w.heap.size + 1 + 1, 0, none⟩) 0 [] s.l rfl l1 (.slice A s.l.length c) us (by rfl) l2 l3 HQ0.out ?_; clear l1 l2 l3; intro A6 c6 w6 hl6 hb6 hk6; rw [List.nil_append] at hl6; rw [List.length_nil, Nat.zero_add]; have HM := Lib.hid (rpush_two HT0 hl6 hb6 hk6); clear hl6 hb6 hk6 HT0))
      have S0 : KeptX w.heap.size s A c w6.drew := HM.out.x
      refine wp_region_held_drew (S := KeptX w.heap.size s A c) (by kernel_rfl) S0 (fun hHeld => ?_)
      refine wpAnyH_take (i := 0) (v := ?vz1) rfl (by kernel_rfl) (by kernel_rfl) (by kernel_rfl) (fun _ _ _ h => h) (Or.inl ⟨by rfl, ?hyz1⟩) (by first | assumption | exact trivial) ?restz1
      case hyz1 => intro W hSW; go_simp; try (with_reducible rfl)
      simp only [Act.put, List.getElem_toArray, List.getElem_cons_succ, List.getElem_cons_zero, List.setIfInBounds_toArray, List.set_cons_zero, List.set_cons_succ]
      refine wpAnyH_take (i := 1) (v := ?vz2) rfl (by kernel_rfl) (by kernel_rfl) (by kernel_rfl) (fun _ _ _ h => h) (Or.inl ⟨by rfl, ?hyz2⟩) (by first | assumption | exact trivial) ?restz2
      case hyz2 => intro W hSW; obtain ⟨n0, n1, n2, n3⟩ := KeptX.row hSW; go_simp; try (with_reducible rfl)
      simp only [Act.put, List.getElem_toArray, List.getElem_cons_succ, List.getElem_cons_zero, List.setIfInBounds_toArray, List.set_cons_zero, List.set_cons_succ]
      refine wpAnyH_take (i := 2) (v := ?vz3) rfl (by kernel_rfl) (by kernel_rfl) (by kernel_rfl) (fun _ _ _ h => h) (Or.inl ⟨by rfl, ?hyz3⟩) (by first | assumption | exact trivial) ?restz3
      case hyz3 => intro W hSW; go_simp; try (with_reducible rfl)
      simp only [Act.put, List.getElem_toArray, List.getElem_cons_succ, List.getElem_cons_zero, List.setIfInBounds_toArray, List.set_cons_zero, List.set_cons_succ]
      refine wpAnyH_take (i := 3) (v := ?vz4) rfl (by kernel_rfl) (by kernel_rfl) (by kernel_rfl) (fun _ _ _ h => h) (Or.inl ⟨by rfl, ?hyz4⟩) (by first | assumption | exact trivial) ?restz4
      case hyz4 => intro W hSW; obtain ⟨n0, n1, n2, n3⟩ := KeptX.row hSW; go_simp; try (with_reducible rfl)
      simp only [Act.put, List.getElem_toArray, List.getElem_cons_succ, List.getElem_cons_zero, List.setIfInBounds_toArray, List.set_cons_zero, List.set_cons_succ]
      refine wpAnyH_take (i := 4) (v := ?vz5) rfl (by kernel_rfl) (by kernel_rfl) (by kernel_rfl) (fun _ _ _ h => h) (Or.inl ⟨by rfl, ?hyz5⟩) (by first | assumption | exact trivial) ?restz5
      case hyz5 => intro W hSW; go_simp; try (with_reducible rfl)
      simp only [Act.put, List.getElem_toArray, List.getElem_cons_succ, List.getElem_cons_zero, List.setIfInBounds_toArray, List.set_cons_zero, List.set_cons_succ]
      refine wpAnyH_take (i := 6) (v := ?vz6) rfl (by kernel_rfl) (by kernel_rfl) (by kernel_rfl) (fun _ _ _ h => h) (Or.inl ⟨by rfl, ?hyz6⟩) (by first | assumption | exact trivial) ?restz6
      case hyz6 => intro W hSW; go_simp; try (with_reducible rfl)
      simp only [Act.put, List.getElem_toArray, List.getElem_cons_succ, List.getElem_cons_zero, List.setIfInBounds_toArray, List.set_cons_zero, List.set_cons_succ]
      refine wpAnyH_take (i := 10) (v := ?vz7) rfl (by kernel_rfl) (by kernel_rfl) (by kernel_rfl) (fun _ _ _ h => h) (Or.inl ⟨by rfl, ?hyz7⟩) (by first | assumption | exact trivial) ?restz7
      case hyz7 => intro W hSW; go_simp; try (with_reducible rfl)
      simp only [Act.put, List.getElem_toArray, List.getElem_cons_succ, List.getElem_cons_zero, List.setIfInBounds_toArray, List.set_cons_zero, List.set_cons_succ]
      refine wpAnyH_take (i := 11) (v := ?vz8) rfl (by kernel_rfl) (by kernel_rfl) (by kernel_rfl) (fun _ _ _ h => h) (Or.inl ⟨by rfl, ?hyz8⟩) (by first | assumption | exact trivial) ?restz8
      case hyz8 => intro W hSW; obtain ⟨n0, n1, n2, n3⟩ := KeptX.row hSW; go_simp; try (with_reducible rfl)
      simp only [Act.put, List.getElem_toArray, List.getElem_cons_succ, List.getElem_cons_zero, List.setIfInBounds_toArray, List.set_cons_zero, List.set_cons_succ]
      refine wpAnyH_ready (rs := [5]) (by kernel_rfl) (by simp) ?_
      refine AllReadyH.cons rfl (fun K hK => ?_) AllReadyH.nil
      go_simp
      have S1 : KeptX w.heap.size s A c (w6.drew.alloc (.cells #[] 5)) := (Below.heap_alloc _ _ _ (HM.out.lt)).trans HM.out.x
      refine hK.out _ _ (S1) (fun hHeld => ?_)
      clear hK K
      refine wpAnyH_ready (rs := [7]) (by kernel_rfl) (by simp) ?_
      refine AllReadyH.cons rfl (fun K hK => ?_) AllReadyH.nil
      rw [if_pos (by kernel_rfl)]
      refine app8x (w0 := w6.drew) (.tmp 27) (.tmp 28) rfl w6.drew.heap.size w.heap.size _ [] p rfl (show Me.Own (w6.drew.alloc (.cells #[] 5)) w6.drew.heap.size _ [] from Me.Own.lit (Below.refl _ w6.drew)) (show Below w6.drew.heap.size w6.drew (w6.drew.alloc (.cells #[] 5)) from Me.below_alloc (Below.refl _ _)) (by simp) ad cp rfl (hp.out.below (HM.out.below.drew.alloc HM.out.le _)) HPL.out ?_
      intro v8 w8 ho8 hb8
      rw [List.nil_append] at ho8
      obtain ⟨A8, c8, rfl, _, _, _⟩ := ho8.held hp.out.1
      simp only [Act.put, List.getElem_toArray, List.getElem_cons_succ, List.getElem_cons_zero, List.setIfInBounds_toArray, List.set_cons_zero, List.set_cons_succ]
      have HM8 := Lib.hid (rpush_three HM.out HP1.out ho8 hb8)
      clear ho8 hb8
      have S2 : KeptX w.heap.size s A c w8 := HM8.out.x
      refine hK.out _ _ (S2) (fun hHeld => ?_)
      clear hK K
      refine wpAnyH_ready (rs := [8]) (by kernel_rfl) (by simp) ?_
      refine AllReadyH.cons rfl (fun K hK => ?_) AllReadyH.nil
      go_simp
      have S3 : KeptX w.heap.size s A c (w8.alloc (.cells #[.slice A8 p.length c8] 36)) := HM8.out.y
      refine hK.out _ _ (S3) (fun hHeld => ?_)
      clear hK K
      refine wpAnyH_ready (rs := [9]) (by kernel_rfl) (by simp) ?_
      refine AllReadyH.cons rfl (fun K hK => ?_) AllReadyH.nil
      rw [if_pos (by kernel_rfl)]
      refine appLw (.tmp 26) (.tmp 30) rfl (fun k => F k ∨ w.heap.size ≤ k) A6 c6 s.l [p] rfl HM8.out.l (.slice (some ⟨w8.heap.size, 0, none⟩) 1 1) [.slice A8 p.length c8] (by rfl) (src_one rfl) HM8.out.e HQ.out ?_
      intro A9 c9 w9 hl9 hb9 hk9
      simp only [Act.put, List.getElem_toArray, List.getElem_cons_succ, List.getElem_cons_zero, List.setIfInBounds_toArray, List.set_cons_zero, List.set_cons_succ]
      have HM9 := Lib.hid (rpush_four HM8.out hl9 hb9)
      clear hl9 hb9 hk9
      have S4 : KeptX w.heap.size s A c w9 := HM9.out.x
      refine hK.out _ _ (S4) (fun hHeld => ?_)
      clear hK K
      refine wpAnyH_take (i := 12) (v := ?vz9) rfl (by kernel_rfl) (by kernel_rfl) (by kernel_rfl) (fun _ _ _ h => h) (Or.inl ⟨by rfl, ?hyz9⟩) (by first | assumption | exact trivial) ?restz9
      case hyz9 => intro W hSW; go_simp; try (with_reducible rfl)
      simp only [Act.put, List.getElem_toArray, List.getElem_cons_succ, List.getElem_cons_zero, List.setIfInBounds_toArray, List.set_cons_zero, List.set_cons_succ]
      refine wpAnyH_ready (rs := [13]) (by kernel_rfl) (by simp) ?_
      refine AllReadyH.cons rfl (fun K hK => ?_) AllReadyH.nil
      rw [if_pos (by kernel_rfl)]
      refine wp_store_row 29 (.tmp 4) (.tmp 34) rfl (w.heap.size + 1) (rcells ⟨s.size, s.base, s.under, s.l ++ [p]⟩ A9 c9) rfl (by simp [rcells]; rfl) 29 _ HM9.out.z (by kernel_rfl) rfl (rc_one _ _ _) ?_
      simp only [Act.put, List.getElem_toArray, List.getElem_cons_succ, List.getElem_cons_zero, List.setIfInBounds_toArray, List.set_cons_zero, List.set_cons_succ]
      have HD := Lib.hid (rpush_five HM9.out)
      have S5 : KeptX w.heap.size s A c (w9.setRow (w.heap.size + 1) (rcells ⟨s.size, s.base, s.under, s.l ++ [p]⟩ A9 c9)) := HD.out.1
      refine hK.out _ _ (S5) (fun hHeld => ?_)
      clear hK K
      refine wpAnyH_take (i := 14) (v := ?vz10) rfl (by kernel_rfl) (by kernel_rfl) (by kernel_rfl) (fun _ _ _ h => h) (Or.inl ⟨by rfl, ?hyz10⟩) (by first | assumption | exact trivial) ?restz10
      case hyz10 => intro W hSW; go_simp; try (with_reducible rfl)
      simp only [Act.put, List.getElem_toArray, List.getElem_cons_succ, List.getElem_cons_zero, List.setIfInBounds_toArray, List.set_cons_zero, List.set_cons_succ]
      refine wpAnyH_done (by kernel_rfl) ?_ _
      go_wp2
      refine ret_cell rfl rfl HD.out.2.1 rfl Try.underlying29 (by kernel_rfl) rfl ?_
      exact ⟨A9, c9, by rw [HS.out, HE.out]; rfl, by rw [HS.out]; exact HD.out.2.2⟩
  · obtain ⟨e1, e2, e3⟩ := payE_push (s := s) h1
    have HE : Hid (pushE s p = payE p) := e1
    have HS : Hid (pushS s p = s) := e2
    have g1 : ((payE p : Int) == 0) = false := beq_eq_false_iff_ne.mpr (by omega)
    obtain ⟨k, hk⟩ : ∃ k, payE p = k := ⟨_, rfl⟩
    rw [hk] at HPay HE g1
    clear e1 e2 e3 h1 hk
    go_enter Try.func26, Try.ntmps26
    go_wp2_with (go_at_call 41; refine (HPay.out _).mono ?_; rintro e w' ⟨rfl, rfl⟩)
    generalize ((w.alloc (.cells #[.int .i64 (s.size : Int), .int .i64 (s.base : Int), .slice A s.l.length c, .int .i64 (s.under : Int)] 29)).alloc (.cells #[.int .i64 0, .int .i64 0, .slice none 0 0, .int .i64 0] 29)) = W0 at HT0 ⊢
    have HT := Lib.hid HT0
    clear HT0
    have S0 : KeptX w.heap.size s A c W0.drew := KeptX.two HT.out (Below.refl _ _).drew
    refine wp_region_held_drew (S := KeptX w.heap.size s A c) (by kernel_rfl) S0 (fun hHeld => ?_)
    refine wpAnyH_take (i := 0) (v := ?vz11) rfl (by kernel_rfl) (by kernel_rfl) (by kernel_rfl) (fun _ _ _ h => h) (Or.inl ⟨by rfl, ?hyz11⟩) (by first | assumption | exact trivial) ?restz11
    case hyz11 => intro W hSW; obtain ⟨n0, n1, n2, n3⟩ := KeptX.row hSW; go_simp; try (with_reducible rfl)
    simp only [Act.put, List.getElem_toArray, List.getElem_cons_succ, List.getElem_cons_zero, List.setIfInBounds_toArray, List.set_cons_zero, List.set_cons_succ]
    refine wpAnyH_take (i := 1) (v := ?vz12) rfl (by kernel_rfl) (by kernel_rfl) (by kernel_rfl) (fun _ _ _ h => h) (Or.inl ⟨by rfl, ?hyz12⟩) (by first | assumption | exact trivial) ?restz12
    case hyz12 => intro W hSW; go_simp; try (with_reducible rfl)
    simp only [Act.put, List.getElem_toArray, List.getElem_cons_succ, List.getElem_cons_zero, List.setIfInBounds_toArray, List.set_cons_zero, List.set_cons_succ]
    refine wpAnyH_ready (rs := [2]) (by kernel_rfl) (by simp) ?_
    refine AllReadyH.cons rfl (fun K hK => ?_) AllReadyH.nil
    go_simp
    go_wp2_with (go_at_call 41; refine (HPay.out _).mono ?_; rintro e w' ⟨rfl, rfl⟩)
    refine hK.out _ _ (S0) (fun hHeld => ?_)
    clear hK K
    have HD := Lib.hid (HT.out.done (Below.refl W0.heap.size W0).drew (rcells s A c))
    refine wpAnyH_ready (rs := [3]) (by kernel_rfl) (by simp) ?_
    refine AllReadyH.cons rfl (fun K hK => ?_) AllReadyH.nil
    rw [if_pos (by kernel_rfl)]
    refine wp_store_row 29 (.tmp 4) (.tmp 10) rfl (w.heap.size + 1) (rcells s A c) rfl rfl 29 _ HT.out.z (by kernel_rfl) rfl (rc_one _ _ _) ?_
    simp only [Act.put, List.getElem_toArray, List.getElem_cons_succ, List.getElem_cons_zero, List.setIfInBounds_toArray, List.set_cons_zero, List.set_cons_succ]
    have S1 : KeptX w.heap.size s A c (W0.drew.setRow (w.heap.size + 1) (rcells s A c)) := (HD.out.2.2 _ (by omega)).trans S0
    refine hK.out _ _ (S1) (fun hHeld => ?_)
    clear hK K
    refine wpAnyH_take (i := 4) (v := ?vz13) rfl (by kernel_rfl) (by kernel_rfl) (by kernel_rfl) (fun _ _ _ h => h) (Or.inl ⟨by rfl, ?hyz13⟩) (by first | assumption | exact trivial) ?restz13
    case hyz13 => intro W hSW; go_simp; try (with_reducible rfl)
    simp only [Act.put, List.getElem_toArray, List.getElem_cons_succ, List.getElem_cons_zero, List.setIfInBounds_toArray, List.set_cons_zero, List.set_cons_succ]
    refine wpAnyH_done (by kernel_rfl) ?_ _
    go_wp2
    refine ret_cell rfl rfl HD.out.1 rfl Try.underlying29 (by kernel_rfl) rfl ?_
    exact ⟨A, c, by rw [HS.out, HE.out]; rfl, by rw [HS.out]; exact RAfter.same h.out HD.out.2.1⟩
end Go.Proofs.Ytdfjlhiliifapaa.Sn
