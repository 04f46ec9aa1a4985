/- The disk's small calls: keep, changed, New, Down, Limit, Arm, Safe; what stands against a call; how a file is found. -/
import Derived.Test.YtdjgkoklkoahbaaDkSt
namespace Go.Proofs.Ytdjgkoklkoahbaa.Dk
open Go.RowKit
open Go.Proofs.Ytdjgkoklkoahbaa.Me Go.Proofs.Ytdjgkoklkoahbaa.Hd
set_option linter.unusedVariables false
set_option linter.unusedSimpArgs false

theorem But.of_fresh {S : Nat → Prop} {w X : World} (hb : Below w.heap.size w X) : But S w X := But.of_below hb
/-- A file behind both its stores. -/
theorem file_set {w w2 : World} {p g : Nat} {v : Value} {f : Fl} {l : List Nat} (h : FileIn w p v f) (hr : Me.Row w2 g l) (hb : Below w.heap.size w w2) (hg : w.heap.size ≤ g) (hl : l.length ≤ 140737488355328) (n : Nat) :
    FileIn ((w2.setCell ⟨p, 0, none⟩ (.slice (some ⟨g, 0, none⟩) l.length l.length)).setCell ⟨p, 1, none⟩ (.int .i64 (n : Int))) p (.slice (some ⟨g, 0, none⟩) l.length l.length) ⟨l, n⟩ ∧ But (fun k => k = p) w ((w2.setCell ⟨p, 0, none⟩ (.slice (some ⟨g, 0, none⟩) l.length l.length)).setCell ⟨p, 1, none⟩ (.int .i64 (n : Int))) := by
  have hp := h.lt
  have h1 : w2.heap[p]? = some (.cells #[v, .int .i64 (f.safe : Int)] 68 (0, 0)) := (hb.block p hp).trans h.blk
  have h2 := heap_setCell_same w2 p 0 _ _ (.slice (some ⟨g, 0, none⟩) l.length l.length) h1
  have h3 := heap_setCell_same _ p 1 _ _ (.int .i64 (n : Int)) h2
  refine ⟨⟨h3, own_same (Row.own hr hl) fun k e _ => ?_⟩, ((But.of_below (S := fun k => k = p) hb).set (p := ⟨p, 0, none⟩) (.inl rfl) _).set (p := ⟨p, 1, none⟩) (.inl rfl) _⟩
  have hk : k ≠ p := fun e1 => by
    simp only [Value.ownBlock, Option.some.injEq] at e
    omega
  exact (Below.heap_setCell _ _ _ k hk).trans (Below.heap_setCell _ _ _ k hk)
theorem keep_any (w : World) (p : Nat) (v : Value) (f : Fl) (h : Hid (FileIn w p v f)) (n : Nat) (hn : n ≤ f.bytes.length) (hl : f.bytes.length ≤ 1048576) (hb : ∀ z ∈ f.bytes, z < 256) :
    Calls Try.prog 33 #[.pointer (some ⟨p, 0, none⟩), .int .i64 (n : Int)] w fun e w' => (∃ u, e = .returned u) ∧ Hid (∃ v', FileIn w' p v' ⟨f.bytes.take n, n⟩ ∧ ∀ k, v'.ownBlock = some k → w.heap.size ≤ k) ∧ Hid (But (fun k => k = p) w w') := by
  obtain ⟨A, c, rfl, hc1, hc2, hh⟩ := h.out.own.held hb
  have c0 : w.cell? ⟨p, 0, none⟩ = some (.slice A f.bytes.length c) := cell_of_row w p 0 _ _ (0, 0) h.out.blk
  have z0 : w.frozen? ⟨p, 0, none⟩ = false := frozen_of_row w p 0 _ _ h.out.blk
  have z1 : w.frozen? ⟨p, 1, none⟩ = false := frozen_of_row w p 1 _ _ h.out.blk
  have c1 : w.cell? ⟨p, 1, none⟩ = some (.int .i64 (f.safe : Int)) := cell_of_row w p 1 _ _ (0, 0) h.out.blk
  have hr : Me.Rd w w.heap.size A (f.bytes.take n) := hh.rd.take n
  have ht : (f.bytes.take n).length = n := by simp; omega
  have HC := Lib.hid (copied_any A c w.heap.size (f.bytes.take n) w hr (Nat.le_refl _) (by omega) hc2 (by omega))
  rw [ht] at HC
  have HP := Lib.hid h.out.lt
  have HF : Hid (∀ w2, Me.Row w2 w.heap.size (f.bytes.take n) → Below w.heap.size w w2 → FileIn ((w2.setCell ⟨p, 0, none⟩ (.slice (some ⟨w.heap.size, 0, none⟩) n n)).setCell ⟨p, 1, none⟩ (.int .i64 (n : Int))) p (.slice (some ⟨w.heap.size, 0, none⟩) n n) ⟨f.bytes.take n, n⟩ ∧ But (fun k => k = p) w ((w2.setCell ⟨p, 0, none⟩ (.slice (some ⟨w.heap.size, 0, none⟩) n n)).setCell ⟨p, 1, none⟩ (.int .i64 (n : Int)))) := fun w2 h1 h2 => by
    have := file_set h.out h1 h2 (Nat.le_refl _) (by omega) n
    rw [ht] at this
    exact this
  have a1 : (0 : Int) ≤ (n : Int) := by omega
  have a2 : (n : Int) ≤ (c : Int) := by omega
  obtain ⟨L, hL⟩ : ∃ L, f.bytes.length = L := ⟨_, rfl⟩
  rw [hL] at c0 hc1 hn
  clear hL h hb hl hh hr ht
  obtain ⟨q, hq⟩ : ∃ q, f.safe = q := ⟨_, rfl⟩
  rw [hq] at c1
  clear hq
  have keepc : ∀ w2, Below w.heap.size w w2 → w2.cell? ⟨p, 0, none⟩ = some (.slice A L c) ∧ w2.frozen? ⟨p, 0, none⟩ = false ∧ w2.cell? ⟨p, 1, none⟩ = some (.int .i64 (q : Int)) ∧ w2.frozen? ⟨p, 1, none⟩ = false := fun w2 h2 =>
    ⟨(h2.cell (p := ⟨p, 0, none⟩) HP.out).trans c0, (h2.frozen (p := ⟨p, 0, none⟩) HP.out).trans z0, (h2.cell (p := ⟨p, 1, none⟩) HP.out).trans c1, (h2.frozen (p := ⟨p, 1, none⟩) HP.out).trans z1⟩
  have KC := Lib.hid keepc
  clear keepc
  cases A with
  | none =>
    go_enter Try.func33, Try.ntmps33
    go_wp2_with (go_at_call 31; refine HC.out.mono ?_; rintro e w2 ⟨rfl, hR, hB⟩; obtain ⟨k0, k1, k2, k3⟩ := KC.out w2 hB.out)
    obtain ⟨F1, F2⟩ := HF.out w2 hR.out hB.out
    go_end0
    exact ⟨⟨_, rfl⟩, ⟨_, F1, fun k e => by cases e; exact Nat.le_refl _⟩, F2⟩
  | some a =>
    go_enter Try.func33, Try.ntmps33
    go_wp2_with (go_at_call 31; refine HC.out.mono ?_; rintro e w2 ⟨rfl, hR, hB⟩; obtain ⟨k0, k1, k2, k3⟩ := KC.out w2 hB.out)
    obtain ⟨F1, F2⟩ := HF.out w2 hR.out hB.out
    go_end0
    exact ⟨⟨_, rfl⟩, ⟨_, F1, fun k e => by cases e; exact Nat.le_refl _⟩, F2⟩
end Go.Proofs.Ytdjgkoklkoahbaa.Dk
