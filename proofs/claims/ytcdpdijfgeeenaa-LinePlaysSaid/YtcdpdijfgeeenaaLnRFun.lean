/- The document's line: New, Bytes, Put. -/
import Derived.Test.YtcdpdijfgeeenaaLnRMem
import Derived.Deep.RegionHeld
import Derived.Handy
namespace Go.Proofs.Ytcdpdijfgeeenaa.Li
open Go.RowKit
open Go.Proofs.Ytcdpdijfgeeenaa.Sb
set_option linter.unusedVariables false
set_option linter.unusedSimpArgs false

/-- One byte appended to bytes of the call's own. -/
theorem app81 {w0 wl w : World} {ops : Array Oper} {rest : List Oper} {o : Oper} {a : Act} {Q : Exit → Act → World → Prop} (hgd : o.guard = none) (s x : Operand)
    (ho : o.op = .call { callee := .builtin .append, args := #[s, x], argTypes := #[33, 33] })
    (B : Nat) (v : Value) (l : List Nat) (b : Nat) (hs : a.eval s = v) (hw : w = wl.alloc (.cells #[.int .u8 (b : Int)] 5)) (hown : Me.Own wl B v l) (hb : Below B w0 wl) (hB : B ≤ wl.heap.size)
    (g : Nat) (hg : g = wl.heap.size) (hx : a.eval x = .slice (some ⟨g, 0, none⟩) 1 1) (hbb : b < 256) (hlen : l.length ≤ 1000000)
    (h : ∀ v' w', Me.Own w' B v' (l ++ [b]) → Below B w0 w' → wpList Try.prog ops Q rest (a.put o.dst v') w') : wpList Try.prog ops Q (o :: rest) a w := by
  subst hw hg
  refine Me.app8 hgd s x ho B (wl.heap.size + 1) v l [b] hs (hown.alloc _) (hb.alloc hB _) (by simp; omega) (some ⟨wl.heap.size, 0, none⟩) 1 hx (Me.rd_lit (w := wl) (r := [b]) (by simpa using hbb) 5) (fun e => by cases e) (by simp; omega) ?_
  intro v' w' h1 h2 _
  exact h v' w' h1 h2
theorem RNew_bad (n : Int) (h : n < 0 ∨ 64 < n) (w : World) : Calls Try.prog 8 #[.int .i64 n] w fun e w' => e = .returned (.tuple #[.agg (lnV 0 none 0 0), .int .i64 1]) ∧ Hid (Below w.heap.size w w') := by
  have HZ : Hid (Bl (w.alloc (.cells (lnV 0 none 0 0) 29)) w.heap.size 0 none 0 0) := heap_alloc_new w _
  by_cases h1 : n < 0
  · clear h
    go_enter Try.func8, Try.ntmps8
    go_wp2_with (first
      | (refine Mi.allocTo rfl (.pointer (some ⟨_, 0, none⟩)) (.cells (lnV 0 none 0 0) 29 (0, 0)) (alloc_ln _ _ rfl _) ?_)
      | (refine wpList_store_row rfl 29 (.tmp 2) (.tmp 10) rfl w.heap.size (lnV 0 none 0 0) rfl rfl 29 _ HZ.out (ln_size _ _ _ _) rfl (ln_one _ _ _ _) ?_))
    exact ret_box2 rfl rfl (setRow_heap _ _ _ _ _ _ HZ.out) rfl Try.underlying29 (ln_size _ _ _ _) rfl ⟨rfl, Sb.below_setRow _ (Me.below_alloc (Below.refl _ _)) (Nat.le_refl _)⟩
  · have h2 : 64 < n := by omega
    clear h
    go_enter Try.func8, Try.ntmps8
    go_wp2_with (first
      | (refine Mi.allocTo rfl (.pointer (some ⟨_, 0, none⟩)) (.cells (lnV 0 none 0 0) 29 (0, 0)) (alloc_ln _ _ rfl _) ?_)
      | (refine wpList_store_row rfl 29 (.tmp 2) (.tmp 10) rfl w.heap.size (lnV 0 none 0 0) rfl rfl 29 _ HZ.out (ln_size _ _ _ _) rfl (ln_one _ _ _ _) ?_))
    exact ret_box2 rfl rfl (setRow_heap _ _ _ _ _ _ HZ.out) rfl Try.underlying29 (ln_size _ _ _ _) rfl ⟨rfl, Sb.below_setRow _ (Me.below_alloc (Below.refl _ _)) (Nat.le_refl _)⟩
theorem RNew_ok (n : Nat) (h : n ≤ 64) (w : World) : Calls Try.prog 8 #[.int .i64 (n : Int)] w fun e w' => e = .returned (.tuple #[.agg (lnV n none 0 0), .int .i64 0]) ∧ Hid (Below w.heap.size w w') := by
  have HZ : Hid (Bl (w.alloc (.cells (lnV 0 none 0 0) 29)) w.heap.size 0 none 0 0) := heap_alloc_new w _
  have h1 : ¬ (n : Int) < 0 := by omega
  have h2 : ¬ 64 < (n : Int) := by omega
  go_enter Try.func8, Try.ntmps8
  go_wp2_with (first
    | (refine Mi.allocTo rfl (.pointer (some ⟨_, 0, none⟩)) (.cells (lnV 0 none 0 0) 29 (0, 0)) (alloc_ln _ _ rfl _) ?_)
    | (refine wpList_store_row rfl 29 (.tmp 2) (.tmp 12) rfl w.heap.size (lnV n none 0 0) rfl rfl 29 _ HZ.out (ln_size _ _ _ _) rfl (ln_one _ _ _ _) ?_))
  exact ret_box2 rfl rfl (setRow_heap _ _ _ _ _ _ HZ.out) rfl Try.underlying29 (ln_size _ _ _ _) rfl ⟨rfl, Sb.below_setRow _ (Me.below_alloc (Below.refl _ _)) (Nat.le_refl _)⟩
set_option maxRecDepth 100000 in
theorem RBytes_any (d : Nat) (A : Option Addr) (n c : Nat) (L : List Wy) (w : World) (hr : Hid (RW w A n c L)) (hbt : Hid (∀ p ∈ L, p.1 < 256)) (hn : n ≤ 65536) :
    Calls Try.prog 12 #[.agg (lnV d A n c)] w fun e w' => ∃ v, e = .returned v ∧ Hid (Me.Own w' 0 v (L.map (·.1))) ∧ Hid (∀ k, v.ownBlock = some k → w.heap.size ≤ k) ∧ Hid (Below w.heap.size w w') := by
  have HL : Hid (n = L.length) := hr.out.len
  obtain ⟨w1, hw1⟩ : ∃ w1, w.alloc (.cells (lnV d A n c) 29) = w1 := ⟨_, rfl⟩
  have HW1 : Hid (w.alloc (.cells (lnV d A n c) 29) = w1) := hw1
  have HBx : Hid (Bl w1 w.heap.size d A n c) := by rw [← hw1]; exact heap_alloc_new w _
  have HB1 : Hid (Below w.heap.size w w1) := by rw [← hw1]; exact Me.below_alloc (Below.refl _ _)
  have HSz : Hid (w1.heap.size = w.heap.size + 1) := by rw [← hw1]; exact World.size_alloc _ _
  clear hw1
  obtain ⟨e0, e1⟩ := HBx.out.cells
  go_enter Try.func12, Try.ntmps12
  go_wp2_with (refine Mi.allocTo rfl (.pointer (some ⟨_, 0, none⟩)) (.cells (lnV d A n c) 29 (0, 0)) (exec_boxl _ _ d A n c (.tmp 0) rfl rfl _) ?_; rw [HW1.out])
  go_loopw [3, 4] (fun u3 u4 wr => ∃ k : Nat, k ≤ n ∧ u4 = .int .i64 (k : Int) ∧ Hid (Me.Own wr w1.heap.size u3 ((L.take k).map (·.1))) ∧ Hid (Below w1.heap.size w1 wr)) (fun _ u4 _ => n - (intOf u4).toNat)
  case atStart => exact ⟨0, Nat.zero_le _, rfl, Me.Own.lit (Below.refl _ _), Me.below_alloc (Below.refl _ _)⟩
  case round =>
    obtain ⟨k, hk, rfl, HO, HB⟩ := hrel
    clear e0 e1
    obtain ⟨e0, e1⟩ := (HBx.out.below HB.out).cells
    by_cases hkn : k < n
    · have q1 : (k : Int) < (n : Int) := by omega
      obtain ⟨p, hp⟩ : ∃ p, L[k]? = some p := ⟨_, List.getElem?_eq_getElem (by rw [← HL.out]; exact hkn)⟩
      obtain ⟨g, off, hA, x1, _⟩ := ((hr.out.below HB1.out).below HB.out).cells hp
      have HA := Lib.hid hA
      have HP : Hid (((L.take k).map (·.1)) ++ [p.1] = (L.take (k + 1)).map (·.1)) := by show _ = _; rw [List.take_add_one, hp]; simp
      have HP2 : Hid (p.1 < 256) := hbt.out p (List.mem_of_getElem? hp)
      have HP3 : Hid (((L.take k).map (·.1)).length ≤ 1000000) := by show _ ≤ _; rw [List.length_map, List.length_take]; omega
      rw [hA] at e1
      have hkn2 : k < n := hkn
      clear hA hp
      go_wp2_with (at_builtin; refine app81 rfl (.tmp 13) (.tmp 20) rfl w1.heap.size u3 ((L.take k).map (·.1)) p.1 rfl rfl HO.out HB.out HB.out.size wr.heap.size rfl rfl HP2.out HP3.out ?_; intro v3 w3 ho3 hb3; rw [HP.out] at ho3; have HO3 := Lib.hid ho3; have HB3 := Lib.hid hb3; clear ho3 hb3)
      go_roundw
      case rel => exact ⟨k + 1, by omega, by go_num, HO3, HB3⟩
      case measure => simp [intOf]; omega
    · obtain rfl : k = n := by omega
      have q1 : ¬ (k : Int) < (k : Int) := by omega
      go_wp2
      go_ret
      refine ⟨_, rfl, ?_, fun j e => by have := (HO.out.lt j e).1; have := HSz.out; omega, HB1.out.trans (HB.out.mono HB1.out.size)⟩
      have h1 := Sb.own_base HO.out (B' := 0) fun _ _ => Nat.zero_le _
      have h2 : L.take k = L := List.take_of_length_le (by rw [← HL.out]; exact Nat.le_refl _)
      unfold Me.Own
      rw [← h2]
      exact h1
theorem RPut_full (d : Nat) (A : Option Addr) (n c : Nat) (L : List Wy) (Ap : Option Addr) (pn pc : Nat) (w : World) (hr : Hid (RW w A n c L)) (hn : n ≤ 65536) (hp : pn ≤ 140737488351232) (hf : 65536 < n + pn) :
    Calls Try.prog 20 #[.agg (lnV d A n c), .slice Ap pn pc] w fun e w' => e = .returned (.tuple #[.agg (lnV d A n c), .int .i64 6]) ∧ Hid (Below w.heap.size w w') := by
  obtain ⟨w1, hw1, B1, B2, hsz, hb, hr1⟩ := two_ln w d A n c L hr.out
  have HW1 := Lib.hid hw1
  have HB2 := Lib.hid B2
  have HB1 := Lib.hid B1
  have HB := Lib.hid hb
  have HR1 := Lib.hid hr1
  obtain ⟨e0, e1⟩ := B1.cells
  have HS := Lib.hid hsz
  have q1 : (65536 : Int) < (n : Int) + (pn : Int) := by omega
  clear hw1 B1 B2 hsz hb hr1
  go_enter Try.func20, Try.ntmps20
  go_wp2_with (first
    | (refine Mi.allocTo rfl (.pointer (some ⟨_, 0, none⟩)) (.cells (lnV d A n c) 29 (0, 0)) (exec_boxl _ _ d A n c (.tmp 0) rfl rfl _) ?_)
    | (refine Mi.allocTo rfl (.pointer (some ⟨_, 0, none⟩)) (.cells (lnV 0 none 0 0) 29 (0, 0)) (alloc_ln _ _ rfl _) ?_; rw [HW1.out])
    | (refine wpList_load_row rfl 29 (.tmp 2) rfl w.heap.size rfl 29 _ (0, 0) _ HB1.out Try.underlying29 rfl (ln_size _ _ _ _) ?_)
    | (refine wpList_store_row rfl 29 (.tmp 4) (.tmp 15) rfl (w.heap.size + 1) (lnV d A n c) rfl rfl 29 _ HB2.out (ln_size _ _ _ _) rfl (ln_one _ _ _ _) ?_))
  exact ret_box2 rfl rfl (setRow_heap _ _ _ _ _ _ HB2.out) rfl Try.underlying29 (ln_size _ _ _ _) rfl ⟨rfl, Sb.below_setRow _ HB.out (Nat.le_succ _)⟩
end Go.Proofs.Ytcdpdijfgeeenaa.Li
