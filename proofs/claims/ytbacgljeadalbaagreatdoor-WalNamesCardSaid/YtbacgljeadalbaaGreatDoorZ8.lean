/- A disk in memory: its block, its map; its small calls. -/
import Derived.Test.YtbacgljeadalbaaGreatDoorZ6
import Derived.Handy
import Derived.Maps.RangeWalk
import Derived.Deep.RegionHeld
namespace Go.Proofs.YtbacgljeadalbaaGreatDoor.Dk
open Go.RowKit
open Go.Proofs.YtbacgljeadalbaaGreatDoor.Me Go.Proofs.YtbacgljeadalbaaGreatDoor.Hd
set_option linter.unusedVariables false
set_option linter.unusedSimpArgs false

def dcs (s : St) (mb : Nat) : Array Value := #[.map (some mb), .int .i64 (s.limit : Int), .bool s.down, .int .i64 (s.left : Int)]
/-- Block D is the disk s, block mb its map; all of it in blocks that bear G. -/
structure Dq (G : Nat → Prop) (w : World) (D mb : Nat) (s : St) : Prop where
  blk : w.heap[D]? = some (.cells (dcs s mb) 66 (0, 0))
  mf : Mf (fun k => G k ∧ k ≠ D ∧ k ≠ mb) w mb (look s.files) s.files.length
  gD : G D
  gm : G mb
section
variable {G G' S : Nat → Prop} {w w' : World} {D mb : Nat} {s : St}
theorem Dq.lt (h : Dq G w D mb s) : D < w.heap.size := (Array.getElem?_eq_some_iff.1 h.blk).1
theorem Dq.ltm (h : Dq G w D mb s) : mb < w.heap.size := h.mf.lt
theorem Dq.ne (h : Dq G w D mb s) : D ≠ mb := fun e => by
  obtain ⟨es, c, hm⟩ := h.mf.isMap
  have := h.blk
  rw [e, hm] at this
  cases this
theorem Dq.c0 (h : Dq G w D mb s) : w.cell? ⟨D, 0, none⟩ = some (.map (some mb)) := cell_of_row w D 0 _ _ (0, 0) h.blk
theorem Dq.c1 (h : Dq G w D mb s) : w.cell? ⟨D, 1, none⟩ = some (.int .i64 (s.limit : Int)) := cell_of_row w D 1 _ _ (0, 0) h.blk
theorem Dq.c2 (h : Dq G w D mb s) : w.cell? ⟨D, 2, none⟩ = some (.bool s.down) := cell_of_row w D 2 _ _ (0, 0) h.blk
theorem Dq.c3 (h : Dq G w D mb s) : w.cell? ⟨D, 3, none⟩ = some (.int .i64 (s.left : Int)) := cell_of_row w D 3 _ _ (0, 0) h.blk
theorem Dq.frozen (h : Dq G w D mb s) (i : Nat) : w.frozen? ⟨D, i, none⟩ = false := frozen_of_row w D i _ _ h.blk
theorem Dq.but (h : Dq G w D mb s) (hb : But S w w') (hS : ∀ k, G k → ¬ S k) : Dq G w' D mb s :=
  ⟨(hb.same D h.lt (hS D h.gD)).trans h.blk, h.mf.but hb (hS mb h.gm) fun k hk => hS k hk.1, h.gD, h.gm⟩
theorem Dq.below (h : Dq G w D mb s) (hb : Below w.heap.size w w') : Dq G w' D mb s := h.but (S := fun _ => False) (But.of_below hb) fun _ _ => id
theorem Dq.mono (h : Dq G w D mb s) (hG : ∀ k, k < w.heap.size → G k → G' k) : Dq G' w D mb s :=
  ⟨h.blk, h.mf.mono fun k hk he => ⟨hG k hk he.1, he.2⟩, hG D h.lt h.gD, hG mb h.ltm h.gm⟩
theorem Dq.congr {s' : St} (h : Dq G w D mb s) (e : s' = s) : Dq G w D mb s' := e ▸ h
theorem mf_set (h : Dq G w D mb s) (i : Nat) (v : Value) : Mf (fun k => G k ∧ k ≠ D ∧ k ≠ mb) (w.setCell ⟨D, i, none⟩ v) mb (look s.files) s.files.length :=
  h.mf.keep (Below.heap_setCell w ⟨D, i, none⟩ v mb fun e => h.ne e.symm) fun k _ he => ⟨Below.heap_setCell w ⟨D, i, none⟩ v k fun e => he.2.1 e, he⟩
theorem Dq.set1 (h : Dq G w D mb s) (n : Nat) : Dq G (w.setCell ⟨D, 1, none⟩ (.int .i64 (n : Int))) D mb ⟨n, s.files, s.left, s.down⟩ :=
  ⟨heap_setCell_same w D 1 _ _ _ h.blk, mf_set h _ _, h.gD, h.gm⟩
theorem Dq.set2 (h : Dq G w D mb s) (b : Bool) : Dq G (w.setCell ⟨D, 2, none⟩ (.bool b)) D mb ⟨s.limit, s.files, s.left, b⟩ :=
  ⟨heap_setCell_same w D 2 _ _ _ h.blk, mf_set h _ _, h.gD, h.gm⟩
theorem Dq.set3 (h : Dq G w D mb s) (n : Nat) : Dq G (w.setCell ⟨D, 3, none⟩ (.int .i64 (n : Int))) D mb ⟨s.limit, s.files, n, s.down⟩ :=
  ⟨heap_setCell_same w D 3 _ _ _ h.blk, mf_set h _ _, h.gD, h.gm⟩
theorem but_set (h : Dq G w D mb s) (i : Nat) (v : Value) : But G w (w.setCell ⟨D, i, none⟩ v) := (But.refl G w).set (.inl h.gD) v
/-- Behind a turn of its files. -/
theorem Dq.files {L : Fs} (h : Dq G w D mb s) (hD : w'.heap[D]? = w.heap[D]?) (hm : Mf (fun k => G k ∧ k ≠ D ∧ k ≠ mb) w' mb (look L) L.length) : Dq G w' D mb ⟨s.limit, L, s.left, s.down⟩ :=
  ⟨hD.trans h.blk, hm, h.gD, h.gm⟩
end

/-! ### Bytes in new memory -/
theorem Row.own {w : World} {g : Nat} {l : List Nat} (h : Me.Row w g l) (hl : l.length ≤ 140737488355328) : Me.Own w 0 (.slice (some ⟨g, 0, none⟩) l.length l.length) l := by
  refine ⟨by simp, .inr ⟨g, l.length, (l.map byV).toArray, rfl, Nat.zero_le _, h, Nat.le_refl _, by unfold maxLen; omega, by simp, ?_⟩⟩
  rw [Nat.mul_one]
  exact List.take_of_length_le (by simp)
theorem copied_any (A : Option Addr) (cap B : Nat) (l : List Nat) (w : World) (hr : Hid (Me.Rd w B A l)) (hB : B ≤ w.heap.size) (hlc : l.length ≤ cap) (hc : cap ≤ 9223372036854775807) (hll : l.length ≤ 140737488355000) :
    Calls Tryz.prog 49 #[.slice A l.length cap] w fun e w' => e = .returned (.slice (some ⟨w.heap.size, 0, none⟩) l.length l.length) ∧ Hid (Me.Row w' w.heap.size l) ∧ Hid (Below w.heap.size w w') := by
  obtain ⟨i0, hi, hz0, hz1, hz2⟩ := info_parts info8
  go_enter Tryz.func49, Tryz.ntmps49
  go_wp2_with (first
    | (at_make; refine wpList_make_full _ rfl (.tmp 5) (.tmp 5) 32 rfl w.heap.size 5 i0 (.int .u8 0) 1 Tryz.underlying32 hi hz0 hz1 .i64 .i64 _ _ (l.length + 0) rfl rfl (by omega) (by omega) (by rw [hz2]; omega) (by unfold maxLen; omega) (Nat.le_refl _) ?_; intro w1 hown1 hg1; obtain ⟨HR1, hb1⟩ := made_row hown1 hg1; clear hown1 hg1)
    | (with_reducible refine wpList_copy_splice rfl (.tmp 7) (.tmp 8) 32 32 rfl 5 Tryz.underlying32 size8 _ _ _ _ _ _ rfl rfl w.heap.size 0 _ 5 HR1.out (l.map byV) (min_len l 0) (fun h => ⟨rfl, cells_of l A B w w1 hr.out (hb1.mono hB) h⟩) (fit_len l 0) (one_cells l) w.heap.size w hb1 (Nat.le_refl _) ?_; intro w2 HR2 hb2; have HR3 := copied_row HR2; clear HR2))
  go_ret
  refine ⟨rfl, ?_, hb2⟩
  have := HR3.out
  rw [List.replicate_zero, List.append_nil] at this
  exact this
theorem tail_any (w : World) (p : Nat) (v : Value) (f : Fl) (h : Hid (FileIn w p v f)) (hb : ∀ z ∈ f.bytes, z < 256) (h2 : f.safe ≤ f.bytes.length) : Calls Tryz.prog 36 #[.pointer (some ⟨p, 0, none⟩)] w fun e w' => e = .returned (.int .i64 ((f.bytes.length - f.safe : Nat) : Int)) ∧ Hid (Below w.heap.size w w') := by
  obtain ⟨A, c, rfl, hc1, hc2, hh⟩ := h.out.own.held hb
  have c0 : w.cell? ⟨p, 0, none⟩ = some (.slice A f.bytes.length c) := cell_of_row w p 0 _ _ (0, 0) h.out.blk
  have c1 : w.cell? ⟨p, 1, none⟩ = some (.int .i64 (f.safe : Int)) := cell_of_row w p 1 _ _ (0, 0) h.out.blk
  have HB : Hid (∀ n, Below w.heap.size w (w.drewN n)) := fun n => Me.below_drewN (Below.refl _ w) n
  obtain ⟨n, hn⟩ : ∃ n, f.bytes.length = n := ⟨_, rfl⟩
  obtain ⟨q, hq⟩ : ∃ q, f.safe = q := ⟨_, rfl⟩
  have h63 := hc1
  rw [hn] at c0 h2 h63 ⊢
  rw [hq] at c1 h2 ⊢
  have HW : Hid ((n : Int) - (q : Int) = ((n - q : Nat) : Int)) := by
    show _ = _
    omega
  clear hn hq hb hc1 hh
  go_enter Tryz.func36, Tryz.ntmps36
  go_wp2
  go_quiet (fail)
  go_wp2
  go_ret
  exact ⟨by rw [← HW.out]; rfl, HB.out _⟩
end Go.Proofs.YtbacgljeadalbaaGreatDoor.Dk
/- The disk's small calls: keep, changed, New, Down, Limit, Arm, Safe; what stands against a call; how a file is found. -/
namespace Go.Proofs.YtbacgljeadalbaaGreatDoor.Dk
open Go.RowKit
open Go.Proofs.YtbacgljeadalbaaGreatDoor.Me Go.Proofs.YtbacgljeadalbaaGreatDoor.Hd
set_option linter.unusedVariables false
set_option linter.unusedSimpArgs false

theorem But.of_fresh {S : Nat → Prop} {w X : World} (hb : Below w.heap.size w X) : But S w X := But.of_below hb
/-- A file behind both its stores. -/
theorem file_set {w w2 : World} {p g : Nat} {v : Value} {f : Fl} {l : List Nat} (h : FileIn w p v f) (hr : Me.Row w2 g l) (hb : Below w.heap.size w w2) (hg : w.heap.size ≤ g) (hl : l.length ≤ 140737488355328) (n : Nat) :
    FileIn ((w2.setCell ⟨p, 0, none⟩ (.slice (some ⟨g, 0, none⟩) l.length l.length)).setCell ⟨p, 1, none⟩ (.int .i64 (n : Int))) p (.slice (some ⟨g, 0, none⟩) l.length l.length) ⟨l, n⟩ ∧ But (fun k => k = p) w ((w2.setCell ⟨p, 0, none⟩ (.slice (some ⟨g, 0, none⟩) l.length l.length)).setCell ⟨p, 1, none⟩ (.int .i64 (n : Int))) := by
  have hp := h.lt
  have h1 : w2.heap[p]? = some (.cells #[v, .int .i64 (f.safe : Int)] 70 (0, 0)) := (hb.block p hp).trans h.blk
  have h2 := heap_setCell_same w2 p 0 _ _ (.slice (some ⟨g, 0, none⟩) l.length l.length) h1
  have h3 := heap_setCell_same _ p 1 _ _ (.int .i64 (n : Int)) h2
  refine ⟨⟨h3, own_same (Row.own hr hl) fun k e _ => ?_⟩, ((But.of_below (S := fun k => k = p) hb).set (p := ⟨p, 0, none⟩) (.inl rfl) _).set (p := ⟨p, 1, none⟩) (.inl rfl) _⟩
  have hk : k ≠ p := fun e1 => by
    simp only [Value.ownBlock, Option.some.injEq] at e
    omega
  exact (Below.heap_setCell _ _ _ k hk).trans (Below.heap_setCell _ _ _ k hk)
theorem keep_any (w : World) (p : Nat) (v : Value) (f : Fl) (h : Hid (FileIn w p v f)) (n : Nat) (hn : n ≤ f.bytes.length) (hl : f.bytes.length ≤ 1048576) (hb : ∀ z ∈ f.bytes, z < 256) :
    Calls Tryz.prog 37 #[.pointer (some ⟨p, 0, none⟩), .int .i64 (n : Int)] w fun e w' => (∃ u, e = .returned u) ∧ Hid (∃ v', FileIn w' p v' ⟨f.bytes.take n, n⟩ ∧ ∀ k, v'.ownBlock = some k → w.heap.size ≤ k) ∧ Hid (But (fun k => k = p) w w') := by
  obtain ⟨A, c, rfl, hc1, hc2, hh⟩ := h.out.own.held hb
  have c0 : w.cell? ⟨p, 0, none⟩ = some (.slice A f.bytes.length c) := cell_of_row w p 0 _ _ (0, 0) h.out.blk
  have z0 : w.frozen? ⟨p, 0, none⟩ = false := frozen_of_row w p 0 _ _ h.out.blk
  have z1 : w.frozen? ⟨p, 1, none⟩ = false := frozen_of_row w p 1 _ _ h.out.blk
  have c1 : w.cell? ⟨p, 1, none⟩ = some (.int .i64 (f.safe : Int)) := cell_of_row w p 1 _ _ (0, 0) h.out.blk
  have hr : Me.Rd w w.heap.size A (f.bytes.take n) := hh.rd.take n
  have ht : (f.bytes.take n).length = n := by simp; omega
  have HC := Lib.hid (copied_any A c w.heap.size (f.bytes.take n) w hr (Nat.le_refl _) (by omega) hc2 (by omega))
  rw [ht] at HC
  have HP := Lib.hid h.out.lt
  have HF : Hid (∀ w2, Me.Row w2 w.heap.size (f.bytes.take n) → Below w.heap.size w w2 → FileIn ((w2.setCell ⟨p, 0, none⟩ (.slice (some ⟨w.heap.size, 0, none⟩) n n)).setCell ⟨p, 1, none⟩ (.int .i64 (n : Int))) p (.slice (some ⟨w.heap.size, 0, none⟩) n n) ⟨f.bytes.take n, n⟩ ∧ But (fun k => k = p) w ((w2.setCell ⟨p, 0, none⟩ (.slice (some ⟨w.heap.size, 0, none⟩) n n)).setCell ⟨p, 1, none⟩ (.int .i64 (n : Int)))) := fun w2 h1 h2 => by
    have := file_set h.out h1 h2 (Nat.le_refl _) (by omega) n
    rw [ht] at this
    exact this
  have a1 : (0 : Int) ≤ (n : Int) := by omega
  have a2 : (n : Int) ≤ (c : Int) := by omega
  obtain ⟨L, hL⟩ : ∃ L, f.bytes.length = L := ⟨_, rfl⟩
  rw [hL] at c0 hc1 hn
  clear hL h hb hl hh hr ht
  obtain ⟨q, hq⟩ : ∃ q, f.safe = q := ⟨_, rfl⟩
  rw [hq] at c1
  clear hq
  have keepc : ∀ w2, Below w.heap.size w w2 → w2.cell? ⟨p, 0, none⟩ = some (.slice A L c) ∧ w2.frozen? ⟨p, 0, none⟩ = false ∧ w2.cell? ⟨p, 1, none⟩ = some (.int .i64 (q : Int)) ∧ w2.frozen? ⟨p, 1, none⟩ = false := fun w2 h2 =>
    ⟨(h2.cell (p := ⟨p, 0, none⟩) HP.out).trans c0, (h2.frozen (p := ⟨p, 0, none⟩) HP.out).trans z0, (h2.cell (p := ⟨p, 1, none⟩) HP.out).trans c1, (h2.frozen (p := ⟨p, 1, none⟩) HP.out).trans z1⟩
  have KC := Lib.hid keepc
  clear keepc
  cases A with
  | none =>
    go_enter Tryz.func37, Tryz.ntmps37
    go_wp2_with (go_at_call 49; refine HC.out.mono ?_; rintro e w2 ⟨rfl, hR, hB⟩; obtain ⟨k0, k1, k2, k3⟩ := KC.out w2 hB.out)
    obtain ⟨F1, F2⟩ := HF.out w2 hR.out hB.out
    go_end0
    exact ⟨⟨_, rfl⟩, ⟨_, F1, fun k e => by cases e; exact Nat.le_refl _⟩, F2⟩
  | some a =>
    go_enter Tryz.func37, Tryz.ntmps37
    go_wp2_with (go_at_call 49; refine HC.out.mono ?_; rintro e w2 ⟨rfl, hR, hB⟩; obtain ⟨k0, k1, k2, k3⟩ := KC.out w2 hB.out)
    obtain ⟨F1, F2⟩ := HF.out w2 hR.out hB.out
    go_end0
    exact ⟨⟨_, rfl⟩, ⟨_, F1, fun k e => by cases e; exact Nat.le_refl _⟩, F2⟩
end Go.Proofs.YtbacgljeadalbaaGreatDoor.Dk
/- The disk's small calls, of a disk and of none: New, changed, Down, Limit, Arm, Safe. -/
namespace Go.Proofs.YtbacgljeadalbaaGreatDoor.Dk
open Go.RowKit
open Go.Proofs.YtbacgljeadalbaaGreatDoor.Me Go.Proofs.YtbacgljeadalbaaGreatDoor.Hd
set_option linter.unusedVariables false
set_option linter.unusedSimpArgs false

/-! ### A new disk -/
theorem New_bad (n : Int) (h : n < 1 ∨ 1048576 < n) (w : World) : Calls Tryz.prog 29 #[.int .i64 n] w fun e w' => e = .returned (.tuple #[.pointer none, .int .i64 1]) ∧ w = w' := by
  by_cases h1 : n < 1
  · go_enter Tryz.func29, Tryz.ntmps29
    go_wp2
    go_returns
    exact ⟨rfl, rfl⟩
  · have h2 : 1048576 < n := by omega
    go_enter Tryz.func29, Tryz.ntmps29
    go_wp2
    go_returns
    exact ⟨rfl, rfl⟩
theorem Dq.new (G : Nat → Prop) (w : World) (n : Nat) (h1 : G w.heap.size) (h2 : G (w.heap.size + 1)) : Dq G ((w.alloc (.map #[] 0)).alloc (.cells (dcs (newS n) w.heap.size) 66 (0, 0))) (w.heap.size + 1) w.heap.size (newS n) := by
  refine ⟨?_, (Mf.made _ w).below ((Below.refl _ _).alloc (Nat.le_refl _) _), h2, h1⟩
  have := heap_alloc_new (w.alloc (.map #[] 0)) (.cells (dcs (newS n) w.heap.size) 66 (0, 0))
  rwa [World.size_alloc] at this
theorem New_ok (n : Nat) (h1 : 1 ≤ n) (h2 : n ≤ 1048576) (w : World) : Calls Tryz.prog 29 #[.int .i64 n] w fun e w' =>
    e = .returned (.tuple #[.pointer (some ⟨w.heap.size + 1, 0, none⟩), .int .i64 0]) ∧ Hid (Dq (fun k => w.heap.size ≤ k) w' (w.heap.size + 1) w.heap.size (newS n)) ∧ Hid (Below w.heap.size w w') := by
  have g1 : ¬ (n : Int) < 1 := by omega
  have g2 : ¬ 1048576 < (n : Int) := by omega
  have HR : Hid (Dq (fun k => w.heap.size ≤ k) ((w.alloc (.map #[] 0)).alloc (.cells (dcs (newS n) w.heap.size) 66 (0, 0))) (w.heap.size + 1) w.heap.size (newS n)) := Dq.new _ w n (Nat.le_refl _) (by omega)
  have HB : Hid (Below w.heap.size w ((w.alloc (.map #[] 0)).alloc (.cells (dcs (newS n) w.heap.size) 66 (0, 0)))) := Me.below_alloc (Me.below_alloc (Below.refl _ _))
  have hmm : ∀ W : World, (Instr.makeMap 64 none).run Tryz.prog W = .ok (.map (some W.heap.size)) (W.alloc (.map #[] 0)) := fun W => by kernel_rfl
  go_enter Tryz.func29, Tryz.ntmps29
  go_wp2
  go_returns
  exact ⟨rfl, HR, HB⟩

/-! ### A nil disk -/
section
variable (w : World)
theorem Down_nil : Calls Tryz.prog 33 #[.pointer none] w fun e w' => e = .returned (.bool false) ∧ w = w' := by
  go_enter Tryz.func33, Tryz.ntmps33
  go_wp2
  go_ret
  exact ⟨rfl, rfl⟩
theorem Used_nil : Calls Tryz.prog 45 #[.pointer none] w fun e w' => e = .returned (.int .i64 0) ∧ w = w' := by
  go_enter Tryz.func45, Tryz.ntmps45
  go_wp2
  go_ret
  exact ⟨rfl, rfl⟩
theorem Names_nil : Calls Tryz.prog 24 #[.pointer none] w fun e w' => e = .returned (.slice none 0 0) ∧ w = w' := by
  go_enter Tryz.func24, Tryz.ntmps24
  go_wp2
  go_ret
  exact ⟨rfl, rfl⟩
theorem Safe_nil (v : Value) : Calls Tryz.prog 34 #[.pointer none, v] w fun e w' => e = .returned (.int .i64 0) ∧ w = w' := by
  go_enter Tryz.func34, Tryz.ntmps34
  go_wp2
  go_ret
  exact ⟨rfl, rfl⟩
theorem Arm_nil (n : Int) : Calls Tryz.prog 15 #[.pointer none, .int .i64 n] w fun e w' => e = .returned (.int .i64 7) ∧ w = w' := by
  go_enter Tryz.func15, Tryz.ntmps15
  go_wp2
  go_ret
  exact ⟨rfl, rfl⟩
theorem Crash_nil (v : Value) : Calls Tryz.prog 16 #[.pointer none, v] w fun e w' => e = .returned (.int .i64 7) ∧ w = w' := by
  go_enter Tryz.func16, Tryz.ntmps16
  go_wp2
  go_ret
  exact ⟨rfl, rfl⟩
theorem Fork_nil : Calls Tryz.prog 21 #[.pointer none] w fun e w' => e = .returned (.pointer none) ∧ w = w' := by
  go_enter Tryz.func21, Tryz.ntmps21
  go_wp2
  go_ret
  exact ⟨rfl, rfl⟩
theorem may_nil (v : Value) : Calls Tryz.prog 44 #[.pointer none, v] w fun e w' => e = .returned (.int .i64 7) ∧ w = w' := by
  go_enter Tryz.func44, Tryz.ntmps44
  go_wp2
  go_ret
  exact ⟨rfl, rfl⟩
theorem find_nil (n : ByteArray) : Calls Tryz.prog 48 #[.pointer none, .string n] w fun e w' => e = .returned (.tuple #[.pointer none, .int .i64 7]) ∧ Below w.heap.size w w' := by
  have HM := Lib.hid may_nil
  go_enter Tryz.func48, Tryz.ntmps48
  go_wp2_with (go_at_call 44; refine (HM.out _ _).mono ?_; rintro e w' ⟨rfl, rfl⟩)
  go_returns
  exact ⟨rfl, Me.below_alloc (Below.refl _ _)⟩
theorem Append_nil (n : ByteArray) (v : Value) : Calls Tryz.prog 19 #[.pointer none, .string n, v] w fun e w' => e = .returned (.int .i64 7) ∧ Below w.heap.size w w' := by
  have HM := Lib.hid may_nil
  go_enter Tryz.func19, Tryz.ntmps19
  go_wp2_with (go_at_call 44; refine (HM.out _ _).mono ?_; rintro e w' ⟨rfl, rfl⟩)
  go_ret
  exact ⟨rfl, Me.below_alloc (Below.refl _ _)⟩
theorem Sync_nil (n : ByteArray) : Calls Tryz.prog 35 #[.pointer none, .string n] w fun e w' => e = .returned (.int .i64 7) ∧ Below w.heap.size w w' := by
  have HF := Lib.hid find_nil
  go_enter Tryz.func35, Tryz.ntmps35
  go_wp2_with (go_at_call 48; refine (HF.out _ _).mono ?_; rintro e w' ⟨rfl, hb⟩)
  go_ret
  exact ⟨rfl, hb⟩
theorem Cut_nil (n : ByteArray) (k : Int) : Calls Tryz.prog 74 #[.pointer none, .string n, .int .i64 k] w fun e w' => e = .returned (.int .i64 7) ∧ Below w.heap.size w w' := by
  have HF := Lib.hid find_nil
  go_enter Tryz.func74, Tryz.ntmps74
  go_wp2_with (go_at_call 48; refine (HF.out _ _).mono ?_; rintro e w' ⟨rfl, hb⟩)
  go_ret
  exact ⟨rfl, hb⟩
theorem Remove_nil (n : ByteArray) : Calls Tryz.prog 20 #[.pointer none, .string n] w fun e w' => e = .returned (.int .i64 7) ∧ Below w.heap.size w w' := by
  have HF := Lib.hid find_nil
  go_enter Tryz.func20, Tryz.ntmps20
  go_wp2_with (go_at_call 48; refine (HF.out _ _).mono ?_; rintro e w' ⟨rfl, hb⟩)
  go_ret
  exact ⟨rfl, hb⟩
theorem Read_nil (n : ByteArray) : Calls Tryz.prog 25 #[.pointer none, .string n] w fun e w' => e = .returned (.tuple #[.slice none 0 0, .int .i64 7]) ∧ Below w.heap.size w w' := by
  have HF := Lib.hid find_nil
  go_enter Tryz.func25, Tryz.ntmps25
  go_wp2_with (go_at_call 48; refine (HF.out _ _).mono ?_; rintro e w' ⟨rfl, hb⟩)
  go_returns
  exact ⟨rfl, hb⟩
end

/-! ### A disk -/
section
variable {G : Nat → Prop} (w : World) (D mb : Nat) (s : St)
theorem Down_any (h : Hid (Dq G w D mb s)) : Calls Tryz.prog 33 #[.pointer (some ⟨D, 0, none⟩)] w fun e w' => e = .returned (.bool s.down) ∧ w = w' := by
  have c2 := h.out.c2
  obtain ⟨b, hb⟩ : ∃ b, s.down = b := ⟨_, rfl⟩
  rw [hb] at c2 ⊢
  clear hb
  go_enter Tryz.func33, Tryz.ntmps33
  go_wp2
  go_ret
  exact ⟨rfl, rfl⟩
theorem Arm_any (h : Hid (Dq G w D mb s)) (k : Int) : Calls Tryz.prog 15 #[.pointer (some ⟨D, 0, none⟩), .int .i64 k] w fun e w' => e = .returned (.int .i64 (armE s : Int)) ∧ Hid (Dq G w' D mb (armS s k)) ∧ Hid (But G w w') := by
  have c2 := h.out.c2
  have c3 := h.out.c3
  have f3 := h.out.frozen 3
  have f2 := h.out.frozen 2
  cases hd : s.down with
  | true =>
    have HE : Hid (armE s = 9) := by show _ = _; simp [armE, hd]
    have HS : Hid (armS s k = s) := by show _ = _; simp [armS, hd]
    rw [HE.out, HS.out]
    rw [hd] at c2
    clear hd
    go_enter Tryz.func15, Tryz.ntmps15
    go_wp2
    go_ret
    exact ⟨rfl, h, But.refl _ _⟩
  | false =>
    have HE : Hid (armE s = 0) := by show _ = _; simp [armE, hd]
    have HS : Hid (armS s k = ⟨s.limit, s.files, k.toNat, decide (k = 0)⟩) := by show _ = _; simp [armS, hd]
    have HD := Lib.hid ((h.out.set3 k.toNat).set2 (decide (k = 0)))
    have HB := Lib.hid ((but_set h.out 3 (.int .i64 (k.toNat : Int))).trans (but_set (h.out.set3 k.toNat) 2 (.bool (decide (k = 0)))) (fun _ _ h => h))
    rw [HE.out, HS.out]
    rw [hd] at c2
    clear hd
    have ek : (k.toNat : Int) = max k 0 := by omega
    rw [ek] at HD HB
    clear ek
    go_enter Tryz.func15, Tryz.ntmps15
    go_wp2
    go_ret
    exact ⟨rfl, HD, HB⟩
theorem changed_any (h : Hid (Dq G w D mb s)) (hd : s.down = false) (hl : s.left ≤ 9223372036854775807) : Calls Tryz.prog 47 #[.pointer (some ⟨D, 0, none⟩)] w fun e w' => (∃ u, e = .returned u) ∧ Hid (Dq G w' D mb (chg s s.files)) ∧ Hid (But G w w') := by
  have c2 := h.out.c2
  have c3 := h.out.c3
  have f3 := h.out.frozen 3
  have f2 := h.out.frozen 2
  by_cases h0 : s.left = 0
  · have HS : Hid (chg s s.files = s) := by
      show _ = _
      obtain ⟨a, b, c, d⟩ := s
      simp only at h0 hd
      subst h0 hd
      rfl
    rw [HS.out]
    rw [h0] at c3
    clear h0 hd hl
    go_enter Tryz.func47, Tryz.ntmps47
    go_wp2
    refine bodyPost_ret (results_none rfl _ _ _) rfl ?_
    exact ⟨⟨_, rfl⟩, h, But.refl _ _⟩
  · obtain ⟨q, hq⟩ : ∃ q, s.left = q + 1 := ⟨s.left - 1, by omega⟩
    have HS : Hid (chg s s.files = ⟨s.limit, s.files, q, decide (q = 0)⟩) := by
      show _ = _
      unfold chg
      rw [hq]
      simp
    have HD := Lib.hid ((h.out.set3 q).set2 (decide (q = 0)))
    have HB := Lib.hid ((but_set h.out 3 (.int .i64 (q : Int))).trans (but_set (h.out.set3 q) 2 (.bool (decide (q = 0)))) (fun _ _ h => h))
    rw [HS.out]
    rw [hq] at c3 hl
    clear h0 hq
    rw [hd] at c2
    clear hd
    have e1 : ((q + 1 : Nat) : Int) = (q : Int) + 1 := by omega
    have e2 : ((q : Int) == 0) = decide (q = 0) := by
      by_cases e : q = 0
      · subst e; rfl
      · have : ¬ (q : Int) = 0 := by omega
        simp [e]
    have e3 : (((q : Int) + 1) == 0) = false := by
      have : ¬ (q : Int) + 1 = 0 := by omega
      simpa using this
    rw [e1] at c3
    obtain ⟨b, hb⟩ : ∃ b, decide (q = 0) = b := ⟨_, rfl⟩
    rw [hb] at HD HB e2 ⊢
    clear hb e1
    go_enter Tryz.func47, Tryz.ntmps47
    go_wp2
    go_end0
    exact ⟨⟨_, rfl⟩, HD, HB⟩
end
end Go.Proofs.YtbacgljeadalbaaGreatDoor.Dk
/- What stands against a call; how a file is found; how many bytes of it are safe. -/
namespace Go.Proofs.YtbacgljeadalbaaGreatDoor.Dk
open Go.RowKit
open Go.Proofs.YtbacgljeadalbaaGreatDoor.Me Go.Proofs.YtbacgljeadalbaaGreatDoor.Hd
set_option linter.unusedVariables false
set_option linter.unusedSimpArgs false

/-- Block b holds these names. -/
def NmAt (w : World) (b : Nat) (ns : List Nm) : Prop := b < w.heap.size ∧ ∀ i, i < ns.length → w.cell? ⟨b, i, none⟩ = some (nmV (ns.getD i []))
theorem NmAt.row {w : World} {b : Nat} {ns : List Nm} {c : Array Value} {fr : Nat × Nat} (h : w.heap[b]? = some (.cells c 9 fr)) (hc : c = (ns.map nmV).toArray) : NmAt w b ns := by
  refine ⟨(Array.getElem?_eq_some_iff.1 h).1, fun i hi => ?_⟩
  rw [cell_of_row w b i _ _ fr h, hc]
  simp [hi]
theorem IndexFunc_any (w : World) (b c : Nat) (ns : List Nm) (h : Hid (NmAt w b ns)) (hl : ns.length ≤ 9223372036854775806) :
    Calls Tryz.prog 75 #[.slice (some ⟨b, 0, none⟩) ns.length c, .func (.func 62) #[] #[]] w fun e w' => ∃ r : Int, e = .returned (.int .i64 r) ∧ decide (0 ≤ r) = !ns.all nameOk ∧ Below w.heap.size w w' := by
  have HN := Lib.hid isNoName_any
  obtain ⟨L, hL⟩ : ∃ L, ns.length = L := ⟨_, rfl⟩
  have HL : Hid (ns.length = L) := hL
  rw [hL] at hl ⊢
  clear hL
  have eg : ∀ args w, (callFunc 62 args).run Tryz.prog w = .ok (.enter 62 args) w := enters_of Tryz.func62 (by kernel_rfl) rfl
  go_enter Tryz.func75, Tryz.ntmps75
  go_wp2
  go_loopw [8] (fun i wr => ∃ k : Nat, k ≤ L ∧ i = .int .i64 k ∧ Hid (∀ j, j < k → nameOk (ns.getD j []) = true) ∧ Below w.heap.size w wr) (fun i _ => L - (intOf i).toNat)
  case atStart => exact ⟨0, Nat.zero_le _, rfl, fun j hj => absurd hj (by omega), Below.refl _ _⟩
  case round =>
    obtain ⟨k, hk, rfl, hok, hbr⟩ := hrel
    have HBR := Lib.hid hbr
    clear hbr
    by_cases hlt : k < L
    · have hc1 := (HBR.out.cell (p := ⟨b, k, none⟩) h.out.1).trans (h.out.2 k (by rw [HL.out]; exact hlt))
      obtain ⟨n, hn⟩ : ∃ n, ns.getD k [] = n := ⟨_, rfl⟩
      rw [hn] at hc1
      cases hnk : nameOk n with
      | true =>
        have HOK : Hid (∀ j, j < k + 1 → nameOk (ns.getD j []) = true) := fun j hj => by
          by_cases e : j = k
          · subst e; rw [hn]; exact hnk
          · exact hok.out j (by omega)
        have HN1 := Lib.hid (fun W => HN.out n W)
        rw [hnk] at HN1
        clear hnk hok hn
        go_wp2_with (go_at_call 62; refine (HN1.out _).mono ?_; rintro e w2 ⟨rfl, hb2⟩)
        go_roundw
        case rel => exact ⟨k + 1, by omega, by go_num, HOK, HBR.out.trans (hb2.mono HBR.out.size)⟩
        case measure => simp [intOf]; omega
      | false =>
        have HA : Hid (ns.all nameOk = false) := by
          show _ = _
          cases ha : ns.all nameOk with
          | false => rfl
          | true =>
            have := List.all_eq_true.1 ha n (by
              have hlt' : k < ns.length := by rw [HL.out]; exact hlt
              rw [← hn]
              simp [hlt'])
            rw [hnk] at this; cases this
        have HN1 := Lib.hid (fun W => HN.out n W)
        rw [hnk] at HN1
        clear hnk hok hn
        go_wp2_with (go_at_call 62; refine (HN1.out _).mono ?_; rintro e w2 ⟨rfl, hb2⟩)
        go_ret
        refine ⟨_, rfl, ?_, HBR.out.trans (hb2.mono HBR.out.size)⟩
        rw [HA.out]
        simp
    · have HA : Hid (ns.all nameOk = true) := by
        show _ = _
        refine List.all_eq_true.2 fun n hn => ?_
        obtain ⟨j, hj, rfl⟩ := List.mem_iff_getElem.1 hn
        have := hok.out j (by have := HL.out; omega)
        simpa [hj] using this
      clear hok
      go_wp2
      go_ret
      exact ⟨_, rfl, by rw [HA.out]; rfl, HBR.out⟩
theorem ContainsFunc_any (w : World) (b c : Nat) (ns : List Nm) (h : Hid (NmAt w b ns)) (hl : ns.length ≤ 9223372036854775806) :
    Calls Tryz.prog 61 #[.slice (some ⟨b, 0, none⟩) ns.length c, .func (.func 62) #[] #[]] w fun e w' => e = .returned (.bool (!ns.all nameOk)) ∧ Below w.heap.size w w' := by
  have HI := Lib.hid (IndexFunc_any w b c ns h hl)
  obtain ⟨L, hL⟩ : ∃ L, ns.length = L := ⟨_, rfl⟩
  rw [hL] at HI ⊢
  clear hL hl h
  go_enter Tryz.func61, Tryz.ntmps61
  go_wp2_with (go_at_call 75; refine HI.out.mono ?_; rintro e w1 ⟨r, rfl, hr, hb1⟩; have HR := Lib.hid hr; clear hr)
  go_ret
  exact ⟨by rw [← HR.out]; rfl, hb1⟩
section
variable {G : Nat → Prop} (w : World) (D mb : Nat) (s : St)
theorem may_any (h : Hid (Dq G w D mb s)) (b c : Nat) (ns : List Nm) (hn : Hid (NmAt w b ns)) (hl : ns.length ≤ 9223372036854775806) :
    Calls Tryz.prog 44 #[.pointer (some ⟨D, 0, none⟩), .slice (some ⟨b, 0, none⟩) ns.length c] w fun e w' => e = .returned (.int .i64 (mayE s ns : Int)) ∧ Below w.heap.size w w' := by
  have c2 := h.out.c2
  have HC := Lib.hid (ContainsFunc_any w b c ns hn hl)
  obtain ⟨L, hL⟩ : ∃ L, ns.length = L := ⟨_, rfl⟩
  rw [hL] at HC ⊢
  clear hL hl
  cases hd : s.down with
  | true =>
    have HE : Hid (mayE s ns = 9) := by show _ = _; simp [mayE, hd]
    rw [HE.out]
    rw [hd] at c2
    clear hd
    go_enter Tryz.func44, Tryz.ntmps44
    go_wp2
    go_ret
    exact ⟨rfl, Below.refl _ _⟩
  | false =>
    cases ha : ns.all nameOk with
    | true =>
      have HE : Hid (mayE s ns = 0) := by show _ = _; unfold mayE; rw [hd, ha]; rfl
      rw [HE.out]
      rw [hd] at c2
      rw [ha] at HC
      clear hd ha
      go_enter Tryz.func44, Tryz.ntmps44
      go_wp2_with (go_at_call 61; refine HC.out.mono ?_; rintro e w1 ⟨rfl, hb1⟩)
      go_ret
      exact ⟨rfl, hb1⟩
    | false =>
      have HE : Hid (mayE s ns = 2) := by show _ = _; unfold mayE; rw [hd, ha]; rfl
      rw [HE.out]
      rw [hd] at c2
      rw [ha] at HC
      clear hd ha
      go_enter Tryz.func44, Tryz.ntmps44
      go_wp2_with (go_at_call 61; refine HC.out.mono ?_; rintro e w1 ⟨rfl, hb1⟩)
      go_ret
      exact ⟨rfl, hb1⟩
/-- One name, laid down for the call. -/
theorem may_one (h : Hid (Dq G w D mb s)) (n : Nm) : Calls Tryz.prog 44 #[.pointer (some ⟨D, 0, none⟩), .slice (some ⟨w.heap.size, 0, none⟩) 1 1] (w.alloc (.cells #[nmV n] 9)) fun e w' => e = .returned (.int .i64 (mayE s [n] : Int)) ∧ Below w.heap.size w w' := by
  have hb : Below w.heap.size w (w.alloc (.cells #[nmV n] 9)) := Me.below_alloc (Below.refl _ _)
  refine (may_any (w.alloc (.cells #[nmV n] 9)) D mb s (h.out.below hb) w.heap.size 1 [n] (NmAt.row (heap_alloc_new w _) rfl) (by simp)).mono ?_
  rintro e w' ⟨rfl, hb'⟩
  exact ⟨rfl, hb.trans (hb'.mono hb.size)⟩
theorem may_two (h : Hid (Dq G w D mb s)) (n m : Nm) : Calls Tryz.prog 44 #[.pointer (some ⟨D, 0, none⟩), .slice (some ⟨w.heap.size, 0, none⟩) 2 2] (w.alloc (.cells #[nmV n, nmV m] 9)) fun e w' => e = .returned (.int .i64 (mayE s [n, m] : Int)) ∧ Below w.heap.size w w' := by
  have hb : Below w.heap.size w (w.alloc (.cells #[nmV n, nmV m] 9)) := Me.below_alloc (Below.refl _ _)
  refine (may_any (w.alloc (.cells #[nmV n, nmV m] 9)) D mb s (h.out.below hb) w.heap.size 2 [n, m] (NmAt.row (heap_alloc_new w _) rfl) (by simp)).mono ?_
  rintro e w' ⟨rfl, hb'⟩
  exact ⟨rfl, hb.trans (hb'.mono hb.size)⟩
end
theorem nameOk_len {n : Nm} (h : nameOk n = true) : n.length ≤ 12 := by
  simp only [nameOk, Bool.and_eq_true, decide_eq_true_eq] at h
  omega
theorem mayE_one {s : St} {n : Nm} : mayE s [n] = if s.down then 9 else if nameOk n then 0 else 2 := by simp [mayE]
section
variable {G : Nat → Prop} (w : World) (D mb : Nat) (s : St)
/-- A name of no file. -/
theorem find_bad (h : Hid (Dq G w D mb s)) (n : Nm) (he : findE s n ≠ 0) : Calls Tryz.prog 48 #[.pointer (some ⟨D, 0, none⟩), nmV n] w fun e w' => e = .returned (.tuple #[.pointer none, .int .i64 (findE s n : Int)]) ∧ Below w.heap.size w w' := by
  have HM := Lib.hid (may_one w D mb s h n)
  have c0 := Lib.hid h.out.c0
  have HD := Lib.hid h.out.lt
  by_cases hm : mayE s [n] = 0
  · have hlook : look s.files n = none := by
      rw [mayE_one] at hm
      unfold findE at he
      split at hm
      · cases hm
      · rename_i hd
        rw [if_neg hd] at he
        split at hm
        · rename_i hok
          rw [if_pos hok] at he
          cases hl : look s.files n with
          | none => rfl
          | some f => rw [hl] at he; simp at he
        · cases hm
    have hlen : n.length ≤ maxLen := by
      rw [mayE_one] at hm
      split at hm
      · cases hm
      · split at hm
        · rename_i hok; have := nameOk_len hok; unfold maxLen; omega
        · cases hm
    have HE : Hid (findE s n = 4) := by
      show _ = _
      rw [mayE_one] at hm
      unfold findE
      split at hm
      · cases hm
      · rename_i hd
        rw [if_neg hd]
        split at hm
        · rename_i hok
          rw [if_pos hok, hlook]; rfl
        · cases hm
    rw [HE.out]
    rw [hm] at HM
    have HLK := Lib.hid (fun W hW => h.out.mf.no hlen hlook W hW)
    have Hmb := Lib.hid h.out.ltm
    clear hm hlook hlen he
    obtain ⟨ns, hns⟩ : ∃ ns, (⟨n.toArray⟩ : ByteArray) = ns := ⟨_, rfl⟩
    show Calls Tryz.prog 48 #[.pointer (some ⟨D, 0, none⟩), .string ⟨n.toArray⟩] w _
    simp only [nmV] at HM HLK
    rw [hns] at HM HLK ⊢
    clear hns
    go_enter Tryz.func48, Tryz.ntmps48
    go_wp2_with (go_at_call 44; refine HM.out.mono ?_; rintro e w1 ⟨rfl, hb1⟩; have HB1 := Lib.hid hb1; have k0 := (hb1.cell (p := ⟨D, 0, none⟩) HD.out).trans c0.out; have hl1 := HLK.out w1 (hb1.block mb Hmb.out); clear hb1)
    go_returns
    exact ⟨rfl, HB1.out⟩
  · have HE : Hid (findE s n = mayE s [n]) := by
      show _ = _
      rw [mayE_one] at hm ⊢
      unfold findE
      split at hm
      · rename_i hd; rw [if_pos hd, if_pos hd]
      · rename_i hd
        rw [if_neg hd, if_neg hd]
        split at hm
        · exact absurd rfl hm
        · rename_i hok
          rw [if_neg hok, if_neg hok]
    rw [HE.out]
    obtain ⟨q, hq⟩ : ∃ q, mayE s [n] = q := ⟨_, rfl⟩
    rw [hq] at HM hm ⊢
    clear hq he HE
    have hz : ((q : Int) == 0) = false := by
      have : ¬ (q : Int) = 0 := by omega
      simpa using this
    obtain ⟨ns, hns⟩ : ∃ ns, (⟨n.toArray⟩ : ByteArray) = ns := ⟨_, rfl⟩
    show Calls Tryz.prog 48 #[.pointer (some ⟨D, 0, none⟩), .string ⟨n.toArray⟩] w _
    simp only [nmV] at HM
    rw [hns] at HM ⊢
    clear hns
    go_enter Tryz.func48, Tryz.ntmps48
    go_wp2_with (go_at_call 44; refine HM.out.mono ?_; rintro e w1 ⟨rfl, hb1⟩; have HB1 := Lib.hid hb1; clear hb1)
    go_returns
    exact ⟨rfl, HB1.out⟩
/-- A file's name, and where the map says that its file lies. -/
theorem find_ok (h : Hid (Dq G w D mb s)) (n : Nm) (he : findE s n = 0) (p : Nat) (hp : Hid (∀ W : World, W.heap[mb]? = w.heap[mb]? → (Instr.lookup 64 (.map (some mb)) (nmV n) false).run Tryz.prog W = .ok (.pointer (some ⟨p, 0, none⟩)) W)) :
    Calls Tryz.prog 48 #[.pointer (some ⟨D, 0, none⟩), nmV n] w fun e w' => e = .returned (.tuple #[.pointer (some ⟨p, 0, none⟩), .int .i64 0]) ∧ Below w.heap.size w w' := by
  have HM := Lib.hid (may_one w D mb s h n)
  have c0 := Lib.hid h.out.c0
  have HD := Lib.hid h.out.lt
  have Hmb := Lib.hid h.out.ltm
  obtain ⟨hd, hok, hl⟩ := findE_ok he
  have hm : mayE s [n] = 0 := by rw [mayE_one, hd, hok]; rfl
  rw [hm] at HM
  clear hd hok hl hm he
  obtain ⟨ns, hns⟩ : ∃ ns, (⟨n.toArray⟩ : ByteArray) = ns := ⟨_, rfl⟩
  show Calls Tryz.prog 48 #[.pointer (some ⟨D, 0, none⟩), .string ⟨n.toArray⟩] w _
  simp only [nmV] at HM hp
  rw [hns] at HM hp ⊢
  clear hns
  go_enter Tryz.func48, Tryz.ntmps48
  go_wp2_with (go_at_call 44; refine HM.out.mono ?_; rintro e w1 ⟨rfl, hb1⟩; have HB1 := Lib.hid hb1; have k0 := (hb1.cell (p := ⟨D, 0, none⟩) HD.out).trans c0.out; have hl1 := hp.out w1 (hb1.block mb Hmb.out); clear hb1)
  go_returns
  exact ⟨rfl, HB1.out⟩
end
end Go.Proofs.YtbacgljeadalbaaGreatDoor.Dk
/- What a disk tells: Safe, Names, Used. -/
namespace Go.Proofs.YtbacgljeadalbaaGreatDoor.Dk
open Go.RowKit Go.Maps Go.Sort Go.Shelf
open Go.Proofs.YtbacgljeadalbaaGreatDoor.Me Go.Proofs.YtbacgljeadalbaaGreatDoor.Hd
set_option linter.unusedVariables false
set_option linter.unusedSimpArgs false

/-! ### Names, sorted -/
theorem sorts (m : Nat) : AnyZ.SortsIn Tryz.prog Tryz.sorted__ren Fence.wide m :=
  ⟨fun blk off cap ss W hH hblk hsz => callsIn_wide.2 (AnyM.slices_Sort_string Tryz.sort_ blk off cap ss W hH hblk hsz),
   fun p cap W => callsIn_wide.2 (AnyM.slices_Sort_string_none Tryz.sort_ p cap W)⟩
theorem Keys_in (mb : Option Nat) (W : World) : CallsIn Fence.wide 5 Tryz.prog 52 #[.map mb] W fun e w' => e = .returned (.func (.func 66) #[] #[.pointer (some ⟨W.heap.size, 0, none⟩)]) ∧ w' = W.alloc (.cells #[.map mb] 64) :=
  AnyZ.keys_in Tryz.keys_ Fence.wide 5 trivial rfl mb W
set_option maxHeartbeats 1000000 in
theorem Sorted_in {H : Type} (b nn : Nat) (D0 : DataW H) (R : Value → Option (DataW H × List MemPlace)) (w : World) (hown : w.ownsMap Tryz.prog 9 R b nn D0) (hmax : Maps.size D0 ≤ maxLen) (hbytes : Maps.size D0 * 16 ≤ 140737488355328) :
    CallsIn Fence.wide 5 Tryz.prog 51 #[.func (.func 66) #[] #[.pointer (some ⟨w.heap.size, 0, none⟩)]] (w.alloc (.cells #[.map (some b)] 64)) fun e w' => ∃ (v : Value) (ss : List (List UInt8)), e = .returned v ∧ ss.Perm (strKeys D0) ∧
      w'.ownsRow (w.alloc (.cells #[.map (some b)] 64)).heap.size 9 1 v ss.length ((ss.mergeSort (fun x y => decide (x ≤ y))).map encStr) ∧ (v = .slice none 0 0 ↔ ss = []) ∧ Below (w.alloc (.cells #[.map (some b)] 64)).heap.size (w.alloc (.cells #[.map (some b)] 64)) w' := by
  have hbl := hown.lt
  have hseq : SeqGives Fence.wide 2 Tryz.prog 66 #[.pointer (some ⟨w.heap.size, 0, none⟩)] encStr (fun ss => ss.Perm (strKeys D0)) (Maps.size D0) (w.alloc (.cells #[.map (some b)] 64)) :=
    AnyZ.keys_gives (ρ := Tryz.keys__ren) { Tryz.keys_ with } Fence.wide _ trivial rfl (by omega) w.heap.size b nn D0 _ (by simp) (by simp) (by
      obtain ⟨es, clock, hb, Ft, hs, hD⟩ := hown
      exact ⟨es, clock, (Below.heap_alloc _ _ b hbl).trans hb, Ft, hs, hD⟩)
  exact AnyZ.sorted_in Tryz.sorted_ Fence.wide 5 trivial trivial trivial trivial rfl (by omega) (sorts _) (enters_of Tryz.func65 (by kernel_rfl) rfl) 66 #[.pointer (some ⟨w.heap.size, 0, none⟩)] trivial (enters_of Tryz.func66 (by kernel_rfl) rfl) _ _ hmax hbytes _ hseq
def namesL (L : Fs) : List Nm := L.map (·.1)
theorem names_perm {E : Nat → Prop} {w : World} {b : Nat} {L : Fs} {D : DataW Value} {ent : Nm → Nat × Value} (how : w.ownsMap Tryz.prog 9 RV b L.length D) (hv : Vf E w D ent (look L)) (hs : Srt L) : (namesL L).Perm (strKeys D) := by
  obtain ⟨es, rfl, hpw, _⟩ := how.entries keyed
  obtain ⟨es', hD', hko⟩ := how.keysOf
  obtain rfl : es = es' := by simpa using hD'
  refine perm_strKeys hpw (fun p hp => by obtain ⟨v, hv⟩ := hko p hp; obtain ⟨x, _, hx, _⟩ := Maps.keyOf_str Tryz.underlying9 hv; exact ⟨x, hx⟩) ?_ fun x => ?_
  · exact List.pairwise_map.2 (hs.imp fun h => nm_ne h)
  · constructor
    · intro hx
      obtain ⟨p, hp, rfl⟩ := List.mem_map.1 hx
      exact (hv.yes _ _ (look_of_mem hs (n := p.1) (f := p.2) hp)).1
    · intro hx
      obtain ⟨m, e, hm⟩ := hv.keys _ hx
      cases e
      obtain ⟨f, hf⟩ := Option.isSome_iff_exists.1 hm
      exact List.mem_map.2 ⟨_, look_mem hf, rfl⟩
theorem names_sorted {L : Fs} (hs : Srt L) {ss : List Nm} (h : ss.Perm (namesL L)) : ss.mergeSort (fun x y => decide (x ≤ y)) = namesL L := by
  have e := mergeSort_of_perm h
  have e2 : (namesL L).mergeSort leB = namesL L := List.mergeSort_of_pairwise (List.pairwise_map.2 (hs.imp fun h => by
    simp only [leB, decide_eq_true_eq]
    exact List.not_lt.1 fun h2 => nm_irrefl _ (nm_trans h h2)))
  rw [e2] at e
  exact e
/-- A slice of one's own that holds these names. -/
def NmS (w : World) (B : Nat) (v : Value) (ns : List Nm) : Prop := w.ownsRow B 9 1 v ns.length (ns.map nmV)
theorem NmS.form {w : World} {B : Nat} {v : Value} {ns : List Nm} (h : NmS w B v ns) : ∃ A c, v = .slice A ns.length c ∧ ns.length ≤ c ∧ c ≤ 9223372036854775807 ∧ (0 < ns.length → ∃ g, A = some ⟨g, 0, none⟩ ∧ B ≤ g ∧ g < w.heap.size ∧ ∀ i, i < ns.length → w.cell? ⟨g, i, none⟩ = some (nmV (ns.getD i []))) := by
  rcases h.2 with ⟨h1, h2⟩ | ⟨g, cap, cur, h1, h2, h3, h4, h5, h6, h7⟩
  · have : ns = [] := by simpa using h2
    subst this
    exact ⟨none, 0, h1, Nat.le_refl _, Nat.zero_le _, fun hp => absurd hp (by simp)⟩
  · refine ⟨some ⟨g, 0, none⟩, cap, h1, h4, by unfold maxLen at h5; omega, fun hp => ⟨g, rfl, h2, (Array.getElem?_eq_some_iff.1 h3).1, fun i hi => ?_⟩⟩
    subst h1
    have h' : w.ownsRow B 9 1 (.slice (some ⟨g, 0, none⟩) ns.length cap) ns.length (ns.map nmV) := h
    rw [h'.cellAt i (by omega)]
    simp [hi]
set_option maxHeartbeats 1000000 in
theorem Names_any {G : Nat → Prop} (w : World) (D mb : Nat) (s : St) (h : Hid (Dq G w D mb s)) (ok : Hid s.Ok) :
    Calls Tryz.prog 24 #[.pointer (some ⟨D, 0, none⟩)] w fun e w' => ∃ v, e = .returned v ∧ Hid (NmS w' w.heap.size v (namesL s.files)) ∧ Hid (Below w.heap.size w w') := by
  obtain ⟨D0, ent, how, hsz, hv⟩ := h.out.mf
  have hp := Lib.hid (names_perm how hv ok.out.srt)
  have hcnt := ok.out.cnt
  have HS := Lib.hid (Sorted_in mb s.files.length D0 RV w how (by rw [hsz]; unfold maxLen; omega) (by rw [hsz]; omega))
  have c0 := h.out.c0
  clear how hsz hv hcnt
  refine (callsIn_wide (n := 6)).1 ?_
  have hfK : Fence.wide.fn 52 := trivial
  have hfS : Fence.wide.fn 51 := trivial
  refine callsIn_of_wp Tryz.func24 rfl trivial ?_ rfl
  simp only [Tryz.ntmps24, List.size_toArray, List.length_cons, List.length_nil, Nat.reduceAdd, Nat.reduceSub, Array.replicate_succ, Array.replicate_zero, List.push_toArray, List.append_toArray, List.nil_append, List.cons_append]
  gi_wp2_with (first
    | (gi_at_call 52; refine (Keys_in _ _).mono ?_; rintro e w' ⟨rfl, rfl⟩)
    | (gi_at_call 51; refine HS.out.mono ?_; rintro e w' ⟨v, ss, rfl, hS, hrow, hnil, hb⟩; have HROW := Lib.hid hrow; have HPP := Lib.hid (hS.trans hp.out.symm); have HBB := Lib.hid hb; clear hrow hS hb hnil))
  go_ret
  refine ⟨v, rfl, ?_, ((Below.refl _ w).alloc (Nat.le_refl _) _).trans (HBB.out.mono (by simp))⟩
  have e1 := names_sorted ok.out.srt HPP.out
  have e2 := HPP.out.length_eq
  have := HROW.out
  rw [e1, e2] at this
  exact ownsRow_base_a this (by simp)
section
variable {G : Nat → Prop} (w : World) (D mb : Nat) (s : St)
theorem Safe_any (h : Hid (Dq G w D mb s)) (n : Nm) (hn : n.length ≤ maxLen) : Calls Tryz.prog 34 #[.pointer (some ⟨D, 0, none⟩), nmV n] w fun e w' => e = .returned (.int .i64 ((fileOf s n).safe : Int)) ∧ w = w' := by
  have c0 := h.out.c0
  show Calls Tryz.prog 34 #[.pointer (some ⟨D, 0, none⟩), .string ⟨n.toArray⟩] w _
  cases hl : look s.files n with
  | none =>
    have HE : Hid ((fileOf s n).safe = 0) := by show _ = _; simp [fileOf, hl]
    rw [HE.out]
    have hk := h.out.mf.no hn hl w rfl
    simp only [nmV] at hk
    obtain ⟨ns, hns⟩ : ∃ ns, (⟨n.toArray⟩ : ByteArray) = ns := ⟨_, rfl⟩
    rw [hns] at hk ⊢
    clear hns hl
    go_enter Tryz.func34, Tryz.ntmps34
    go_wp2
    go_ret
    exact ⟨rfl, rfl⟩
  | some f =>
    have HE : Hid ((fileOf s n).safe = f.safe) := by show _ = _; simp [fileOf, hl]
    rw [HE.out]
    obtain ⟨p, v, hF, _, _, hk, _⟩ := h.out.mf.yes hn hl
    have hk := hk w rfl
    have c1 : w.cell? ⟨p, 1, none⟩ = some (.int .i64 (f.safe : Int)) := cell_of_row w p 1 _ _ (0, 0) hF.blk
    simp only [nmV] at hk
    obtain ⟨ns, hns⟩ : ∃ ns, (⟨n.toArray⟩ : ByteArray) = ns := ⟨_, rfl⟩
    obtain ⟨q, hq⟩ : ∃ q, f.safe = q := ⟨_, rfl⟩
    rw [hns] at hk ⊢
    rw [hq] at c1 ⊢
    clear hns hl hF hq
    go_enter Tryz.func34, Tryz.ntmps34
    go_wp2
    go_ret
    exact ⟨rfl, rfl⟩
end

/-! ### How many bytes all have -/
def sumL (L : Fs) (ss : List Nm) : Nat := (ss.map fun n => ((look L n).map fun f => f.bytes.length).getD 0).sum
theorem sumL_perm (L : Fs) {ss ss' : List Nm} (h : ss.Perm ss') : sumL L ss = sumL L ss' := (h.map _).sum_nat
theorem sumL_keys {L : Fs} (hs : Srt L) : sumL L (namesL L) = used L := by
  unfold sumL namesL used
  rw [List.map_map]
  congr 1
  refine List.map_congr_left fun p hp => ?_
  simp [look_of_mem hs (n := p.1) (f := p.2) hp]
theorem sumL_snoc (L : Fs) (ss : List Nm) (n : Nm) : sumL L (ss ++ [n]) = sumL L ss + ((look L n).map fun f => f.bytes.length).getD 0 := by simp [sumL]
theorem sumL_le {L : Fs} (h : ∀ p ∈ L, p.2.bytes.length ≤ 1048576) : ∀ ss : List Nm, sumL L ss ≤ ss.length * 1048576
  | [] => by simp [sumL]
  | n :: r => by
    have ih := sumL_le h r
    unfold sumL at ih ⊢
    simp only [List.map_cons, List.sum_cons, List.length_cons]
    have : ((look L n).map fun f => f.bytes.length).getD 0 ≤ 1048576 := by
      cases hl : look L n with
      | none => simp
      | some f => exact h _ (look_mem hl)
    omega
set_option maxRecDepth 100000 in
theorem Used_any {G : Nat → Prop} (w : World) (D mb : Nat) (s : St) (h : Hid (Dq G w D mb s)) (ok : Hid s.Ok) :
    Calls Tryz.prog 45 #[.pointer (some ⟨D, 0, none⟩)] w fun e w' => e = .returned (.int .i64 (used s.files : Int)) ∧ Hid (Below w.heap.size w w') := by
  obtain ⟨D0, ent, how, hsz, hv⟩ := h.out.mf
  have HV := Lib.hid hv
  have HP := Lib.hid (names_perm how hv ok.out.srt)
  have HOW := Lib.hid how
  have hcnt := ok.out.cnt
  have HB := Lib.hid (fun p (hp : p ∈ s.files) => Nat.le_trans (used_mem hp) ok.out.use)
  have c0 := h.out.c0
  have hmb := h.out.ltm
  have HSZ : Hid (Maps.size D0 ≤ 64) := by show _ ≤ _; omega
  clear hv how hsz hcnt
  go_enter Tryz.func45, Tryz.ntmps45
  go_wp2_with (first
    | (at_range; refine wpList_range_own _ rfl _ 64 rfl 9 67 keyed Tryz.underlying64 _ mb _ _ rfl HOW.out ?_; intro w0 hrg0 hg0 hs0)
    | go_in)
  go_frame
  go_loopw [3] (fun u wr => ∃ (left : Lit → Bool) (cnt : Nat) (ss : List Nm), u = .int .i64 (sumL s.files ss : Int) ∧ Hid (wr.ranges Tryz.prog 9 RV mb w.heap.size s.files.length D0 left cnt) ∧ Hid (Collected D0 left ss) ∧ Hid (ss.length + cnt ≤ Maps.size D0) ∧ Hid (Below w.heap.size w wr))
    (fun _ wr => wr.rangeLeft mb w.heap.size)
  case atStart =>
    exact ⟨_, _, [], rfl, hrg0, Collected.start D0, by show 0 + _ ≤ _; omega, (Below.refl _ w).grown hg0 (Nat.le_refl _) (fun j hj => by cases hj)⟩
  case round =>
    obtain ⟨left, cnt, ss, rfl, hrg, hC, hle, hbr⟩ := hrel
    obtain ⟨u, hu⟩ : ∃ u, sumL s.files ss = u := ⟨_, rfl⟩
    have HU : Hid (sumL s.files ss = u) := hu
    have hu1 : u ≤ 67108864 := by
      have := sumL_le HB.out ss
      have := hle.out
      have := HSZ.out
      omega
    rw [hu]
    clear hu
    go_wp2_with (first
      | (at_next; refine wpList_next_ranges _ rfl _ rfl 9 keyed RV encStr (fun v : Value => v) (fun key kl hk => by obtain ⟨x, hx, _⟩ := Maps.keyOf_str Tryz.underlying9 hk; exact ⟨x, hx⟩) (fun v y _ => ⟨v, rfl⟩) mb w.heap.size _ _ _ _ rfl hrg.out ?_ ?_)
      | go_in)
    · intro hc0 hl0
      go_wp2
      go_ret
      refine ⟨?_, hbr⟩
      have hp := hC.out.perm HOW.out keyed Tryz.underlying9 hl0
      have e1 := sumL_perm s.files (hp.trans HP.out.symm)
      rw [sumL_keys ok.out.srt, HU.out] at e1
      rw [← e1]; rfl
    · intro x c kl yd yp w2 cnt2 hkey hlk hvv hyp hat hrg2 hlt hg2 hs2 hen
      clear hs2
      obtain ⟨x', ex, rfl, _⟩ := Maps.keyOf_str Tryz.underlying9 hkey
      obtain rfl : x = x' := encStr_inj ex
      subst hvv
      have hC2 := hC.out.step hlk hat
      have hhas := has_true_of_atKey hat
      obtain ⟨m, e, hm⟩ := HV.out.keys _ hhas
      cases e
      obtain ⟨f, hf⟩ := Option.isSome_iff_exists.1 hm
      have hy := (HV.out.yes x f hf).2 (.held c)
      rw [hat] at hy
      simp only [DataW.held.injEq] at hy
      subst hy
      obtain ⟨hF, _, _⟩ := HV.out.file x f hf
      obtain ⟨A, cc, hv2, hc1, hc2, _⟩ := hF.own.held (ok.out.byte _ (look_mem hf))
      have hbf : f.bytes.length ≤ 1048576 := HB.out _ (look_mem hf)
      have HB2 : Hid (Below w.heap.size w w2) := hbr.out.grown hg2 hbr.out.size (fun j hj => by cases hj; exact Nat.le_refl _)
      have c1 : w2.cell? ⟨(ent x).1, 0, none⟩ = some (.slice A f.bytes.length cc) := by
        rw [HB2.out.cell (p := ⟨(ent x).1, 0, none⟩) hF.lt, cell_of_row w (ent x).1 0 _ _ (0, 0) hF.blk, hv2]; rfl
      have HS2 : Hid (sumL s.files (ss ++ [x]) = u + f.bytes.length) := by
        show _ = _
        rw [sumL_snoc, hf, HU.out]; rfl
      obtain ⟨L, hL⟩ : ∃ L, f.bytes.length = L := ⟨_, rfl⟩
      obtain ⟨p, hp⟩ : ∃ p, (ent x).1 = p := ⟨_, rfl⟩
      rw [hL] at c1 HS2 hbf hc1
      rw [hp] at c1 hen
      have HRG2 := Lib.hid hrg2
      have HC2 := Lib.hid hC2
      have HLT := Lib.hid hlt
      clear hrg2 hC2 hlt hkey hlk hat hg2 hhas hm hF hv2 hf hL hp ex
      go_wp2
      go_roundw
      case rel =>
        exact ⟨_, cnt2, ss ++ [x], by rw [HS2.out]; go_num, HRG2, HC2, by show (ss ++ [x]).length + cnt2 ≤ _; have := hle.out; have := HLT.out; simp; omega, HB2⟩
      case measure => rw [HRG2.out.left_eq, hrg.out.left_eq]; exact HLT.out
end Go.Proofs.YtbacgljeadalbaaGreatDoor.Dk
/- How a file is laid under a name. -/
namespace Go.Proofs.YtbacgljeadalbaaGreatDoor.Dk
open Go.RowKit
open Go.Proofs.YtbacgljeadalbaaGreatDoor.Me Go.Proofs.YtbacgljeadalbaaGreatDoor.Hd
set_option linter.unusedVariables false
set_option linter.unusedSimpArgs false

theorem Clone_any (s : ByteArray) (w : World) (hs : s.size ≤ 281474976710656) : Calls Tryz.prog 63 #[.string s] w fun e w' => e = .returned (.string s) ∧ Below w.heap.size w w' := by
  have HC := Lib.hid (Tryz.Clone s w hs)
  clear hs
  go_enter Tryz.func63, Tryz.ntmps63
  go_wp2_with (go_at_call 78; refine HC.out.mono ?_; rintro e w1 ⟨rfl, hb⟩)
  go_ret
  exact ⟨rfl, hb⟩
theorem putM {w : World} {o : Oper} {a : Act} {K : Act → World → Prop} {Q : Exit → Act → World → Prop} (m x v : Operand) (ho : o.op = .mapUpdate 64 m x v)
    (E : Nat → Prop) (b N : Nat) (kept : Nm → Option Fl) (n : Nm) (p : Nat) (u : Value) (f : Fl) (hm : a.eval m = .map (some b)) (hx : a.eval x = nmV n) (hv : a.eval v = .pointer (some ⟨p, 0, none⟩)) (hM : Mf E w b kept N) (hn : n.length ≤ maxLen) (hN : N < maxLen) (hF : FileIn w p u f) (hp : ¬ E p) (hu : ∀ k, u.ownBlock = some k → ¬ E k)
    (h : ∀ w', Mf (fun k => E k ∨ k = p ∨ u.ownBlock = some k) w' b (fun m => if m = n then some f else kept m) (if (kept n).isSome then N else N + 1) → But (fun k => k = b) w w' → w'.heap.size = w.heap.size → (∀ W : World, W.heap[b]? = w'.heap[b]? → (Instr.lookup 64 (.map (some b)) (nmV n) false).run Tryz.prog W = .ok (.pointer (some ⟨p, 0, none⟩)) W) → K (a.put o.dst undef) w') : o.wp Tryz.prog a w K Q := by
  obtain ⟨w', hr, h1, h2, h3, h4⟩ := hM.put hn hN hF hp hu
  unfold Oper.wp execOp
  simp only [ho, Sem.run_bind, Sem.run_pure, Result.andThen_ok, hm, hx, hv, hr]
  exact h w' h1 h2 h3 h4
theorem put_length {L : Fs} (hs : Srt L) (n : Nm) (f : Fl) : (put L n f).length = if (look L n).isSome then L.length else L.length + 1 := by
  cases h : look L n with
  | none => simp [(put_none h f).1]
  | some g => simp [(put_some hs h f).1]
/-- Behind lay: the disk with that file too. -/
theorem Dq.laid {G : Nat → Prop} {w w' : World} {D mb : Nat} {s : St} {n : Nm} {f : Fl} {p : Nat} {v : Value} (h : Dq G w D mb s) (hs : Srt s.files) (hp : ¬ G p) (hv : ∀ k, v.ownBlock = some k → ¬ G k)
    (hm : Mf (fun k => (G k ∧ k ≠ D ∧ k ≠ mb) ∨ k = p ∨ v.ownBlock = some k) w' mb (fun m => if m = n then some f else look s.files m) (if (look s.files n).isSome then s.files.length else s.files.length + 1)) (hb : But (fun k => k = mb) w w') :
    Dq (fun k => G k ∨ k = p ∨ v.ownBlock = some k) w' D mb ⟨s.limit, put s.files n f, s.left, s.down⟩ := by
  refine ⟨(hb.same D h.lt h.ne).trans h.blk, ?_, .inl h.gD, .inl h.gm⟩
  rw [put_length hs]
  refine (hm.mono fun k _ hk => ?_).congr (look_put s.files n f)
  rcases hk with hk | hk | hk
  · exact ⟨.inl hk.1, hk.2⟩
  · exact ⟨.inr (.inl hk), fun e => hp (hk ▸ e ▸ h.gD), fun e => hp (hk ▸ e ▸ h.gm)⟩
  · exact ⟨.inr (.inr hk), fun e => hv k hk (e ▸ h.gD), fun e => hv k hk (e ▸ h.gm)⟩
set_option maxHeartbeats 1000000 in
set_option maxRecDepth 100000 in
theorem lay_any {G : Nat → Prop} (w : World) (D mb : Nat) (s : St) (h : Hid (Dq G w D mb s)) (hs : Hid (Srt s.files)) (hc : Hid (s.files.length ≤ 64)) (n : Nm) (hn : Hid (n.length ≤ 12)) (p : Nat) (v : Value) (f : Fl) (hF : Hid (FileIn w p v f)) (hp : Hid (¬ G p)) (hv : Hid (∀ k, v.ownBlock = some k → ¬ G k)) :
    Calls Tryz.prog 46 #[.pointer (some ⟨D, 0, none⟩), nmV n, .pointer (some ⟨p, 0, none⟩)] w fun e w' => (∃ u, e = .returned u) ∧ Hid (Dq (fun k => G k ∨ k = p ∨ v.ownBlock = some k) w' D mb ⟨s.limit, put s.files n f, s.left, s.down⟩) ∧ Hid (But (fun k => k = mb) w w') ∧ Hid (∀ W : World, W.heap[mb]? = w'.heap[mb]? → (Instr.lookup 64 (.map (some mb)) (nmV n) false).run Tryz.prog W = .ok (.pointer (some ⟨p, 0, none⟩)) W) := by
  have c0 := h.out.c0
  have HC := Lib.hid (fun W => Clone_any ⟨n.toArray⟩ W (by have := hn.out; rw [sz]; omega))
  have HD := Lib.hid h.out.lt
  have HNE := Lib.hid h.out.ne
  show Calls Tryz.prog 46 #[.pointer (some ⟨D, 0, none⟩), .string ⟨n.toArray⟩, .pointer (some ⟨p, 0, none⟩)] w _
  obtain ⟨ns, hns⟩ : ∃ ns, (⟨n.toArray⟩ : ByteArray) = ns := ⟨_, rfl⟩
  have HNS : Hid (nmV n = .string ns) := by show _ = _; rw [← hns]
  rw [hns] at HC ⊢
  clear hns
  go_enter Tryz.func46, Tryz.ntmps46
  go_wp2
  refine wp_region_held_drew (S := fun W => W.cell? ⟨D, 0, none⟩ = some (.map (some mb))) (by kernel_rfl) c0 (fun hHeld => ?_)
  refine wpAnyH_take (i := 0) (v := ?vz1) rfl (by kernel_rfl) (by kernel_rfl) (by kernel_rfl) (fun _ _ _ h => h) (Or.inl ⟨by rfl, ?hyz1⟩) (by first | assumption | exact trivial) ?restz1
  case hyz1 => intro W hSW; go_simp; try (with_reducible rfl)
  simp only [Act.put, List.getElem_toArray, List.getElem_cons_succ, List.getElem_cons_zero, List.setIfInBounds_toArray, List.set_cons_zero, List.set_cons_succ]
  refine wpAnyH_take (i := 1) (v := ?vz2) rfl (by kernel_rfl) (by kernel_rfl) (by kernel_rfl) (fun _ _ _ h => h) (Or.inl ⟨by rfl, ?hyz2⟩) (by first | assumption | exact trivial) ?restz2
  case hyz2 => intro W hSW; go_simp; try (with_reducible rfl)
  simp only [Act.put, List.getElem_toArray, List.getElem_cons_succ, List.getElem_cons_zero, List.setIfInBounds_toArray, List.set_cons_zero, List.set_cons_succ]
  refine wpAnyH_take (i := 2) (v := ?vz3) rfl (by kernel_rfl) (by kernel_rfl) (by kernel_rfl) (fun _ _ _ h => h) (Or.inl ⟨by rfl, ?hyz3⟩) (by first | assumption | exact trivial) ?restz3
  case hyz3 => intro W hSW; go_simp; try (with_reducible rfl)
  simp only [Act.put, List.getElem_toArray, List.getElem_cons_succ, List.getElem_cons_zero, List.setIfInBounds_toArray, List.set_cons_zero, List.set_cons_succ]
  refine wpAnyH_take (i := 3) (v := ?vz4) rfl (by kernel_rfl) (by kernel_rfl) (by kernel_rfl) (fun _ _ _ h => h) (Or.inl ⟨by rfl, ?hyz4⟩) (by first | assumption | exact trivial) ?restz4
  case hyz4 => intro W hSW; have q3 := hSW; go_simp; try (with_reducible rfl)
  simp only [Act.put, List.getElem_toArray, List.getElem_cons_succ, List.getElem_cons_zero, List.setIfInBounds_toArray, List.set_cons_zero, List.set_cons_succ]
  refine wpAnyH_take (i := 4) (v := ?vz5) rfl (by kernel_rfl) (by kernel_rfl) (by kernel_rfl) (fun _ _ _ h => h) (Or.inl ⟨by rfl, ?hyz5⟩) (by first | assumption | exact trivial) ?restz5
  case hyz5 => intro W hSW; go_simp; try (with_reducible rfl)
  simp only [Act.put, List.getElem_toArray, List.getElem_cons_succ, List.getElem_cons_zero, List.setIfInBounds_toArray, List.set_cons_zero, List.set_cons_succ]
  refine wpAnyH_take (i := 6) (v := ?vz6) rfl (by kernel_rfl) (by kernel_rfl) (by kernel_rfl) (fun _ _ _ h => h) (Or.inl ⟨by rfl, ?hyz6⟩) (by first | assumption | exact trivial) ?restz6
  case hyz6 => intro W hSW; go_simp; try (with_reducible rfl)
  simp only [Act.put, List.getElem_toArray, List.getElem_cons_succ, List.getElem_cons_zero, List.setIfInBounds_toArray, List.set_cons_zero, List.set_cons_succ]
  refine wpAnyH_ready (rs := [5]) (by kernel_rfl) (by simp) ?_
  refine AllReadyH.cons rfl (fun K hK => ?_) AllReadyH.nil
  go_simp
  go_wp2_with (go_at_call 63; refine (HC.out _).mono ?_; rintro e w2 ⟨rfl, hb2⟩)
  have B2 : Below w.heap.size w w2 := ((Below.refl _ w).drew).trans hb2
  have H2 : Dq G w2 D mb s := h.out.below B2
  refine hK.out _ _ (H2.c0) (fun hHeld => ?_)
  clear hK K
  refine wpAnyH_ready (rs := [7]) (by kernel_rfl) (by simp) ?_
  refine AllReadyH.cons rfl (fun K hK => ?_) AllReadyH.nil
  rw [if_pos (by kernel_rfl)]
  have f2 : FileIn w2 p v f := hF.out.keep (B2.block p hF.out.lt) fun k e => B2.block k (hF.out.ltv k e)
  have l1 : n.length ≤ maxLen := by have := hn.out; unfold maxLen; omega
  have l2 : s.files.length < maxLen := by have := hc.out; unfold maxLen; omega
  have e1 : ¬ (G p ∧ p ≠ D ∧ p ≠ mb) := fun e => hp.out e.1
  have e2 : ∀ k, v.ownBlock = some k → ¬ (G k ∧ k ≠ D ∧ k ≠ mb) := fun k e e2 => hv.out k e e2.1
  have m2 := H2.mf
  refine putM (.tmp 9) (.tmp 11) (.tmp 12) rfl (fun k => G k ∧ k ≠ D ∧ k ≠ mb) mb s.files.length (look s.files) n p v f rfl ?hx rfl m2 l1 l2 f2 e1 e2 ?_
  case hx => exact HNS.out.symm
  intro w3 hm3 hb3 hs3 hk3
  have K3 := Lib.hid hk3
  clear hk3
  have H3 : Hid (Dq (fun k => G k ∨ k = p ∨ v.ownBlock = some k) w3 D mb ⟨s.limit, put s.files n f, s.left, s.down⟩) := H2.laid hs.out hp.out hv.out hm3 hb3
  have B3 : Hid (But (fun k => k = mb) w w3) := (But.of_below B2).trans hb3 fun _ _ h => h
  simp only [Act.put, List.getElem_toArray, List.getElem_cons_succ, List.getElem_cons_zero, List.setIfInBounds_toArray, List.set_cons_zero, List.set_cons_succ]
  refine hK.out _ _ (H3.out.c0) (fun hHeld => ?_)
  clear hK K
  refine wpAnyH_done (by kernel_rfl) ?_ _
  go_end0
  exact ⟨⟨_, rfl⟩, H3, B3, K3⟩
end Go.Proofs.YtbacgljeadalbaaGreatDoor.Dk
