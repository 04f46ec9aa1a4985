/- A disk in memory: its block, its map; its small calls. -/
import Derived.Test.YtdjgkoklkoahbaaDkName
import Derived.Handy
namespace Go.Proofs.Ytdjgkoklkoahbaa.Dk
open Go.RowKit
open Go.Proofs.Ytdjgkoklkoahbaa.Me Go.Proofs.Ytdjgkoklkoahbaa.Hd
set_option linter.unusedVariables false
set_option linter.unusedSimpArgs false

def dcs (s : St) (mb : Nat) : Array Value := #[.map (some mb), .int .i64 (s.limit : Int), .bool s.down, .int .i64 (s.left : Int)]
/-- Block D is the disk s, block mb its map; all of it in blocks that bear G. -/
structure Dq (G : Nat → Prop) (w : World) (D mb : Nat) (s : St) : Prop where
  blk : w.heap[D]? = some (.cells (dcs s mb) 64 (0, 0))
  mf : Mf (fun k => G k ∧ k ≠ D ∧ k ≠ mb) w mb (look s.files) s.files.length
  gD : G D
  gm : G mb
section
variable {G G' S : Nat → Prop} {w w' : World} {D mb : Nat} {s : St}
theorem Dq.lt (h : Dq G w D mb s) : D < w.heap.size := (Array.getElem?_eq_some_iff.1 h.blk).1
theorem Dq.ltm (h : Dq G w D mb s) : mb < w.heap.size := h.mf.lt
theorem Dq.ne (h : Dq G w D mb s) : D ≠ mb := fun e => by
  obtain ⟨es, c, hm⟩ := h.mf.isMap
  have := h.blk
  rw [e, hm] at this
  cases this
theorem Dq.c0 (h : Dq G w D mb s) : w.cell? ⟨D, 0, none⟩ = some (.map (some mb)) := cell_of_row w D 0 _ _ (0, 0) h.blk
theorem Dq.c1 (h : Dq G w D mb s) : w.cell? ⟨D, 1, none⟩ = some (.int .i64 (s.limit : Int)) := cell_of_row w D 1 _ _ (0, 0) h.blk
theorem Dq.c2 (h : Dq G w D mb s) : w.cell? ⟨D, 2, none⟩ = some (.bool s.down) := cell_of_row w D 2 _ _ (0, 0) h.blk
theorem Dq.c3 (h : Dq G w D mb s) : w.cell? ⟨D, 3, none⟩ = some (.int .i64 (s.left : Int)) := cell_of_row w D 3 _ _ (0, 0) h.blk
theorem Dq.frozen (h : Dq G w D mb s) (i : Nat) : w.frozen? ⟨D, i, none⟩ = false := frozen_of_row w D i _ _ h.blk
theorem Dq.but (h : Dq G w D mb s) (hb : But S w w') (hS : ∀ k, G k → ¬ S k) : Dq G w' D mb s :=
  ⟨(hb.same D h.lt (hS D h.gD)).trans h.blk, h.mf.but hb (hS mb h.gm) fun k hk => hS k hk.1, h.gD, h.gm⟩
theorem Dq.below (h : Dq G w D mb s) (hb : Below w.heap.size w w') : Dq G w' D mb s := h.but (S := fun _ => False) (But.of_below hb) fun _ _ => id
theorem Dq.mono (h : Dq G w D mb s) (hG : ∀ k, k < w.heap.size → G k → G' k) : Dq G' w D mb s :=
  ⟨h.blk, h.mf.mono fun k hk he => ⟨hG k hk he.1, he.2⟩, hG D h.lt h.gD, hG mb h.ltm h.gm⟩
theorem Dq.congr {s' : St} (h : Dq G w D mb s) (e : s' = s) : Dq G w D mb s' := e ▸ h
theorem mf_set (h : Dq G w D mb s) (i : Nat) (v : Value) : Mf (fun k => G k ∧ k ≠ D ∧ k ≠ mb) (w.setCell ⟨D, i, none⟩ v) mb (look s.files) s.files.length :=
  h.mf.keep (Below.heap_setCell w ⟨D, i, none⟩ v mb fun e => h.ne e.symm) fun k _ he => ⟨Below.heap_setCell w ⟨D, i, none⟩ v k fun e => he.2.1 e, he⟩
theorem Dq.set1 (h : Dq G w D mb s) (n : Nat) : Dq G (w.setCell ⟨D, 1, none⟩ (.int .i64 (n : Int))) D mb ⟨n, s.files, s.left, s.down⟩ :=
  ⟨heap_setCell_same w D 1 _ _ _ h.blk, mf_set h _ _, h.gD, h.gm⟩
theorem Dq.set2 (h : Dq G w D mb s) (b : Bool) : Dq G (w.setCell ⟨D, 2, none⟩ (.bool b)) D mb ⟨s.limit, s.files, s.left, b⟩ :=
  ⟨heap_setCell_same w D 2 _ _ _ h.blk, mf_set h _ _, h.gD, h.gm⟩
theorem Dq.set3 (h : Dq G w D mb s) (n : Nat) : Dq G (w.setCell ⟨D, 3, none⟩ (.int .i64 (n : Int))) D mb ⟨s.limit, s.files, n, s.down⟩ :=
  ⟨heap_setCell_same w D 3 _ _ _ h.blk, mf_set h _ _, h.gD, h.gm⟩
theorem but_set (h : Dq G w D mb s) (i : Nat) (v : Value) : But G w (w.setCell ⟨D, i, none⟩ v) := (But.refl G w).set (.inl h.gD) v
/-- Behind a turn of its files. -/
theorem Dq.files {L : Fs} (h : Dq G w D mb s) (hD : w'.heap[D]? = w.heap[D]?) (hm : Mf (fun k => G k ∧ k ≠ D ∧ k ≠ mb) w' mb (look L) L.length) : Dq G w' D mb ⟨s.limit, L, s.left, s.down⟩ :=
  ⟨hD.trans h.blk, hm, h.gD, h.gm⟩
end

/-! ### Bytes in new memory -/
theorem Row.own {w : World} {g : Nat} {l : List Nat} (h : Me.Row w g l) (hl : l.length ≤ 140737488355328) : Me.Own w 0 (.slice (some ⟨g, 0, none⟩) l.length l.length) l := by
  refine ⟨by simp, .inr ⟨g, l.length, (l.map byV).toArray, rfl, Nat.zero_le _, h, Nat.le_refl _, by unfold maxLen; omega, by simp, ?_⟩⟩
  rw [Nat.mul_one]
  exact List.take_of_length_le (by simp)
theorem copied_any (A : Option Addr) (cap B : Nat) (l : List Nat) (w : World) (hr : Hid (Me.Rd w B A l)) (hB : B ≤ w.heap.size) (hlc : l.length ≤ cap) (hc : cap ≤ 9223372036854775807) (hll : l.length ≤ 140737488355000) :
    Calls Try.prog 31 #[.slice A l.length cap] w fun e w' => e = .returned (.slice (some ⟨w.heap.size, 0, none⟩) l.length l.length) ∧ Hid (Me.Row w' w.heap.size l) ∧ Hid (Below w.heap.size w w') := by
  obtain ⟨i0, hi, hz0, hz1, hz2⟩ := info_parts info8
  go_enter Try.func31, Try.ntmps31
  go_wp2_with (first
    | (at_make; refine wpList_make_full _ rfl (.tmp 5) (.tmp 5) 33 rfl w.heap.size 5 i0 (.int .u8 0) 1 Try.underlying33 hi hz0 hz1 .i64 .i64 _ _ (l.length + 0) rfl rfl (by omega) (by omega) (by rw [hz2]; omega) (by unfold maxLen; omega) (Nat.le_refl _) ?_; intro w1 hown1 hg1; obtain ⟨HR1, hb1⟩ := made_row hown1 hg1; clear hown1 hg1)
    | (with_reducible refine wpList_copy_splice rfl (.tmp 7) (.tmp 8) 33 33 rfl 5 Try.underlying33 size8 _ _ _ _ _ _ rfl rfl w.heap.size 0 _ 5 HR1.out (l.map byV) (min_len l 0) (fun h => ⟨rfl, cells_of l A B w w1 hr.out (hb1.mono hB) h⟩) (fit_len l 0) (one_cells l) w.heap.size w hb1 (Nat.le_refl _) ?_; intro w2 HR2 hb2; have HR3 := copied_row HR2; clear HR2))
  go_ret
  refine ⟨rfl, ?_, hb2⟩
  have := HR3.out
  rw [List.replicate_zero, List.append_nil] at this
  exact this
theorem tail_any (w : World) (p : Nat) (v : Value) (f : Fl) (h : Hid (FileIn w p v f)) (hb : ∀ z ∈ f.bytes, z < 256) (h2 : f.safe ≤ f.bytes.length) : Calls Try.prog 32 #[.pointer (some ⟨p, 0, none⟩)] w fun e w' => e = .returned (.int .i64 ((f.bytes.length - f.safe : Nat) : Int)) ∧ Hid (Below w.heap.size w w') := by
  obtain ⟨A, c, rfl, hc1, hc2, hh⟩ := h.out.own.held hb
  have c0 : w.cell? ⟨p, 0, none⟩ = some (.slice A f.bytes.length c) := cell_of_row w p 0 _ _ (0, 0) h.out.blk
  have c1 : w.cell? ⟨p, 1, none⟩ = some (.int .i64 (f.safe : Int)) := cell_of_row w p 1 _ _ (0, 0) h.out.blk
  have HB : Hid (∀ n, Below w.heap.size w (w.drewN n)) := fun n => Me.below_drewN (Below.refl _ w) n
  obtain ⟨n, hn⟩ : ∃ n, f.bytes.length = n := ⟨_, rfl⟩
  obtain ⟨q, hq⟩ : ∃ q, f.safe = q := ⟨_, rfl⟩
  have h63 := hc1
  rw [hn] at c0 h2 h63 ⊢
  rw [hq] at c1 h2 ⊢
  have HW : Hid ((n : Int) - (q : Int) = ((n - q : Nat) : Int)) := by
    show _ = _
    omega
  clear hn hq hb hc1 hh
  go_enter Try.func32, Try.ntmps32
  go_wp2
  go_quiet (fail)
  go_wp2
  go_ret
  exact ⟨by rw [← HW.out]; rfl, HB.out _⟩
end Go.Proofs.Ytdjgkoklkoahbaa.Dk
