/- Contracts of crc's Add and Right, of the program and of its reference. -/
import Derived.Test.YtoaffkmjobmhaaaLists
namespace Go.Proofs.Ytoaffkmjobmhaaa.Cr
open Go.RowKit
open Go.Proofs.Ytoaffkmjobmhaaa.Me
set_option linter.unusedVariables false

/-- Bytes with their sum. -/
def addL (l : List Nat) : List Nat := l ++ [fcs l % 256, fcs l / 256]
theorem length_add (l : List Nat) : (addL l).length = l.length + 2 := by simp [addL]
theorem add_bytes {l : List Nat} (h : ∀ z ∈ l, z < 256) : ∀ z ∈ addL l, z < 256 := by
  intro z hz
  have hf := fcs_lt h
  unfold U16 at hf
  simp only [addL, List.mem_append, List.mem_cons, List.not_mem_nil, or_false] at hz
  rcases hz with hz | rfl | rfl
  · exact h z hz
  · omega
  · omega
theorem add_store (l : List Nat) (x y : Nat) : ((l ++ List.replicate 2 0).set l.length x).set (l.length + 1) y = l ++ [x, y] := by
  rw [List.set_append_right _ _ (Nat.le_refl _), Nat.sub_self, List.set_append_right _ _ (by omega), Nat.add_sub_cancel_left]; rfl
theorem add_cells {w : World} {g : Nat} {l : List Nat} {o : Obj} {f : Nat} (h : Hid (Row w g (l ++ List.replicate 2 0))) :
    (w.alloc o).cell? ⟨g, l.length, none⟩ = some (.int .u8 0) ∧ (w.alloc o).frozen? ⟨g, l.length, none⟩ = false ∧
    ((w.alloc o).setCell ⟨g, l.length, none⟩ (.int .u8 ((f : Int) % 256))).cell? ⟨g, l.length + 1, none⟩ = some (.int .u8 0) ∧ ((w.alloc o).setCell ⟨g, l.length, none⟩ (.int .u8 ((f : Int) % 256))).frozen? ⟨g, l.length + 1, none⟩ = false ∧
    Hid (Row (((w.alloc o).setCell ⟨g, l.length, none⟩ (.int .u8 ((f : Int) % 256))).setCell ⟨g, l.length + 1, none⟩ (.int .u8 ((f : Int) / 256))) g (l ++ [f % 256, f / 256])) := by
  have h1 := row_alloc (o := o) h
  have h2 := h1.out.store l.length (f % 256)
  have h3 := h2.store (l.length + 1) (f / 256)
  rw [add_store] at h3
  have c1 := h1.out.cell (i := l.length) (by simp)
  have c2 := h2.cell (i := l.length + 1) (by simp)
  have e1 : by_ (l ++ List.replicate 2 0) l.length = 0 := by simp [by_]
  have e2 : by_ ((l ++ List.replicate 2 0).set l.length (f % 256)) (l.length + 1) = 0 := by simp [by_]
  rw [e1] at c1
  rw [e2] at c2
  exact ⟨c1, h1.out.frozen _, c2, h2.frozen _, h3⟩
theorem Add_long (A : Option Addr) (cap B : Nat) (l : List Nat) (w : World) (hr : Hid (Rd w B A l)) (hB : B ≤ w.heap.size) (hlc : l.length ≤ cap) (hc : cap ≤ 9223372036854775807) (hll : l.length ≤ 140737488355000) :
    Calls Try.prog 23 #[.slice A l.length cap] w fun e w' => e = .returned (.slice (some ⟨w.heap.size, 0, none⟩) (l.length + 2) (l.length + 2)) ∧ Hid (Row w' w.heap.size (addL l)) ∧ Hid (Below w.heap.size w w') := by
  obtain ⟨i0, hi, hz0, hz1, hz2⟩ := info_parts info8
  have hf : fcs l < 65536 := fcs_lt hr.out.1
  have c1 : IntKind.u8.wrap (fcs l : Int) = (fcs l % 256 : Nat) := by simp [IntKind.wrap, IntKind.bits, IntKind.signed]
  have c2 : IntKind.u8.wrap ((fcs l : Int) / 256) = (fcs l / 256 : Nat) := by simp [IntKind.wrap, IntKind.bits, IntKind.signed]; omega
  have C1 := Lib.hid c1
  have C2 := Lib.hid c2
  clear c1 c2
  go_enter Try.func23, Try.ntmps23
  go_wp2_with (first
    | (at_make; refine wpList_make_full _ rfl (.tmp 7) (.tmp 7) 22 rfl w.heap.size 5 i0 (.int .u8 0) 1 Try.underlying22 hi hz0 hz1 .i64 .i64 _ _ (l.length + 2) rfl rfl (by omega) (by omega) (by rw [hz2]; omega) (by unfold maxLen; omega) (Nat.le_refl _) ?_; intro w1 hown1 hg1; obtain ⟨HR1, hb1⟩ := made_row hown1 hg1; clear hown1 hg1)
    | (with_reducible refine wpList_copy_splice rfl (.tmp 9) (.tmp 10) 22 22 rfl 5 Try.underlying22 size8 _ _ _ _ _ _ rfl rfl w.heap.size 0 _ 5 HR1.out (l.map byV) (min_len l 2) (fun h => ⟨rfl, cells_of l A B w w1 hr.out (hb1.mono hB) h⟩) (fit_len l 2) (one_cells l) w.heap.size w hb1 (Nat.le_refl _) ?_; intro w2 HR2 hb2; have HR3 := copied_row HR2; clear HR2; have HRA := Lib.hid (hr.out.below (hb2.mono hB)); have HB2 := Nat.le_trans hB hb2.size)
    | (go_at_call 32; refine (Fcs_any _ 1 B [l] _ (lst_one (T := 22) HRA.out hlc (by omega) HB2) (by simp)).mono ?_; rintro e w' ⟨rfl, rfl⟩; obtain ⟨q1, q2, q3, q4, HR5⟩ := add_cells (f := fcs l) (o := .cells #[.slice A l.length cap] 22) HR3; have HB3 := Lib.hid (((hb2.alloc hb2.size (.cells #[.slice A l.length cap] 22)).setCell (p := ⟨w.heap.size, l.length, none⟩) (Nat.le_refl _) (.int .u8 ((fcs l : Int) % 256))).setCell (p := ⟨w.heap.size, l.length + 1, none⟩) (Nat.le_refl _) (.int .u8 ((fcs l : Int) / 256)))))
  go_ret
  exact ⟨rfl, HR5, HB3⟩
theorem Add_any (A : Option Addr) (cap B : Nat) (l : List Nat) (w : World) (hr : Hid (Rd w B A l)) (hB : B ≤ w.heap.size) (hlc : l.length ≤ cap) (hc : cap ≤ 140737488355000) :
    Calls Try.prog 23 #[.slice A l.length cap] w fun e w' => e = .returned (.slice (some ⟨w.heap.size, 0, none⟩) (l.length + 2) (l.length + 2)) ∧ Hid (Row w' w.heap.size (addL l)) ∧ Hid (Below w.heap.size w w') :=
  Add_long A cap B l w hr hB hlc (by omega) (by omega)
theorem RAdd_any (A : Option Addr) (cap B : Nat) (l : List Nat) (w : World) (hr : Hid (Rd w B A l)) (hA : Hid (A = none → l.length = 0 ∧ cap = 0)) (hB : B ≤ w.heap.size) (hlc : l.length ≤ 140737488355000) :
    Calls Try.prog 25 #[.slice A l.length cap] w (NewB w (addL l)) := by
  have hf : fcs l < 65536 := fcs_lt hr.out.1
  have hf2 : (fcs l : Int) / 256 < 256 := by omega
  have HL := Lib.hid (add_bytes hr.out.1)
  have HF := Lib.hid hf
  go_enter Try.func25, Try.ntmps25
  go_wp2_with (first
    | (go_at_call 33; refine (RFcs_any A cap B l _ hr (by omega)).mono ?_; rintro e w' ⟨rfl, rfl⟩)
    | (at_builtin; refine app8 rfl (.tmp 7) (.tmp 8) rfl w.heap.size B _ [] l rfl (Own.lit (Below.refl _ _)) (below_alloc (Below.refl _ _)) (by simp) A cap rfl (hr.out.below ((Below.refl _ _).alloc hB _)) hA.out (by simp; omega) ?_; intro v2 w2 ho2 hb2 _; have HO2 := Lib.hid ho2; have HB2 := Lib.hid hb2; clear ho2 hb2)
    | (at_builtin; refine app8 rfl (.tmp 10) (.tmp 17) rfl w.heap.size (w2.heap.size + 1) _ ([] ++ l) [fcs l % 256, fcs l / 256] rfl (HO2.out.alloc _) (below_alloc HB2.out) (Nat.le_trans HB2.out.size (by simp)) (some ⟨w2.heap.size, 0, none⟩) 2 rfl (rd_lit (r := [fcs l % 256, fcs l / 256]) (by simp; omega) 5) (fun h => by cases h) (by simp; omega) ?_; intro v3 w3 ho3 hb3 _; have HO3 := Lib.hid ho3; have HB3 := Lib.hid hb3; clear ho3 hb3))
  go_ret
  exact NewB.mk HO3.out HB3.out HL.out
end Go.Proofs.Ytoaffkmjobmhaaa.Cr
