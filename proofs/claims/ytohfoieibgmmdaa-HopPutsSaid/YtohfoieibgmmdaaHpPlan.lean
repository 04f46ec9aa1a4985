/- among: which next hops are up. -/
import Derived.Test.YtohfoieibgmmdaaHpVia
import Derived.Test.YtohfoieibgmmdaaHpFun
import Derived.Test.YtohfoieibgmmdaaLay
namespace Go.Proofs.Ytohfoieibgmmdaa.Hp
open Go.RowKit Go.Maps
open Go.Proofs.Ytohfoieibgmmdaa.Sb
set_option linter.unusedVariables false
set_option linter.unusedSimpArgs false

/-! ### Arrays of 64 tests -/
def rowB (f : Nat → Bool) : Array Value := ((List.range 64).map fun i => Value.bool (f i)).toArray
theorem rowB_size (f : Nat → Bool) : (rowB f).size = 64 := by simp [rowB]
theorem rowB_at (f : Nat → Bool) {j : Nat} (h : j < 64) : (rowB f)[j]? = some (.bool (f j)) := by simp [rowB, h]
theorem rowB_one (f : Nat → Bool) : (rowB f).all (·.oneCell') = true := by
  simp only [rowB, List.all_toArray, List.all_map]
  exact List.all_eq_true.mpr fun _ _ => rfl
theorem rowB_ext {f : Nat → Bool} {cs : Array Value} (hs : cs.size = 64) (h : ∀ j, j < 64 → cs[j]? = some (.bool (f j))) : cs = rowB f := by
  apply Array.ext_getElem?
  intro i
  by_cases hi : i < 64
  · rw [h i hi, rowB_at f hi]
  · rw [Array.getElem?_eq_none (by omega), Array.getElem?_eq_none (by rw [rowB_size]; omega)]
theorem rowB_set (f : Nat → Bool) {j : Nat} (h : j < 64) (v : Bool) : (rowB f).setIfInBounds j (.bool v) = rowB fun d => if d = j then v else f d := by
  refine rowB_ext (by simp [rowB_size]) fun i hi => ?_
  rw [Array.getElem?_setIfInBounds, rowB_size]
  by_cases e : j = i
  · subst e
    simp [h]
  · rw [if_neg e, rowB_at f hi]
    simp only [if_neg (fun h : i = j => e h.symm)]
theorem sizeB64 (f : Nat → Bool) : (Try.prog.info? 102).map (·.size) = some (rowB f).size := by rw [rowB_size]; kernel_rfl
theorem alloc_rowB (ρ : Operand → Value) (o : Oper) (ho : o.op = .alloc 102) (w : World) : (execOp ρ o).run Try.prog w = .ok (.value (.pointer (some ⟨w.heap.size, 0, none⟩))) (w.alloc (.cells (rowB fun _ => false) 102 (0, 0))) := by
  unfold execOp
  rw [ho]
  kernel_rfl
/-- Block g is an array of these tests. -/
def Br (w : World) (g : Nat) (f : Nat → Bool) : Prop := w.heap[g]? = some (.cells (rowB f) 102 (0, 0))
section
variable {w w' : World} {g B : Nat} {f : Nat → Bool}
theorem Br.lt (h : Br w g f) : g < w.heap.size := (Array.getElem?_eq_some_iff.1 h).1
theorem Br.cell (h : Br w g f) {j : Nat} (hj : j < 64) : w.cell? ⟨g, j, none⟩ = some (.bool (f j)) := by rw [cell_of_row w g j _ _ (0, 0) h, rowB_at f hj]
theorem Br.frozen (h : Br w g f) (j : Nat) : w.frozen? ⟨g, j, none⟩ = false := frozen_of_row w g j _ _ h
theorem Br.below (h : Br w g f) (hb : Below w.heap.size w w') : Br w' g f := (hb.block g h.lt).trans h
theorem Br.set (h : Br w g f) {j : Nat} (hj : j < 64) (v : Bool) : Br (w.setCell ⟨g, j, none⟩ (.bool v)) g fun d => if d = j then v else f d := by
  unfold Br
  rw [heap_setCell_same w g j _ _ _ h, rowB_set f hj]
theorem Br.eq (h : Br w g f) {f' : Nat → Bool} (he : ∀ d, d < 64 → f d = f' d) : Br w g f' := by
  unfold Br
  have : rowB f' = rowB f := (rowB_ext (f := f) (rowB_size f') fun j hj => by rw [rowB_at f' hj, he j hj])
  rw [this]
  exact h
end
/-- slices.Contains of numbers that are read. -/
theorem Con_any (A : Option Addr) (c B : Nat) (l : List Int) (x : Int) (w : World) (hr : Mi.Rd w B A l) (hc : l.length ≤ 9223372036854775807) : Calls Try.prog 88 #[.slice A l.length c, .int .i64 x] w fun e w' => e = .returned (.bool (l.contains x)) ∧ w = w' := by
  by_cases h0 : l = []
  · subst h0
    refine (Try.ConI0 A c x w).mono ?_
    rintro e w' ⟨rfl, rfl⟩
    exact ⟨rfl, rfl⟩
  · obtain ⟨b, off, rfl, _, hcell⟩ := hr (List.length_pos_iff.mpr h0)
    refine (Try.ConI b off l.length c l x w (Nat.le_refl _) hc fun j hj => ?_).mono ?_
    · exact hcell j hj
    · rintro e w' ⟨rfl, rfl⟩
      rw [List.take_length]
      exact ⟨rfl, rfl⟩
/-- Which next hops are up. -/
def amB (via up : List Int) (j : Nat) : Bool := up.contains (Mi.at_ via j)
theorem ret_arr {fn : Func} {R : Ending → World → Prop} {a : Act} {w : World} {g : Nat} {cs : Array Value} {p : Tmp} {ty t : TypeId} {fr : Nat × Nat} {d : TypeDesc} (hres : fn.results = #[.cell p ty]) (hp : a.tmps.getD p undef = .pointer (some ⟨g, 0, none⟩)) (hg : w.heap[g]? = some (.cells cs t fr))
    (hd : d.isRow = true) (hu : Try.prog.underlying ty = some d) (hi : (Try.prog.info? ty).map (·.size) = some cs.size) (hdef : a.defers = []) (hR : R (.returned (.agg cs)) w) : bodyPost Try.prog fn R .ret a w := by
  have hp' : a.tmps[p]?.getD undef = .pointer (some ⟨g, 0, none⟩) := by simpa using hp
  refine bodyPost_ret (v := .agg cs) ?_ hdef hR
  simp [results, hres, hp', asAddr, run_loadVar_row w g t ty cs fr d hg hu (by cases d <;> first | rfl | cases hd) hi]
set_option maxRecDepth 100000 in
theorem among_any (A : Option Addr) (ca : Nat) (via : List Int) (U : Option Addr) (cu : Nat) (up : List Int) (w : World) (hv : Hid (Mi.Rd w w.heap.size A via)) (hl : via.length = 64) (hu : Hid (Mi.Rd w w.heap.size U up)) (hc : up.length ≤ 9223372036854775807) :
    Calls Try.prog 59 #[.slice A 64 ca, .slice U up.length cu] w fun e w' => e = .returned (.agg (rowB (amB via up))) ∧ Hid (Below w.heap.size w w') := by
  have HC : Hid (∀ (x : Int) W, Below w.heap.size w W → Calls Try.prog 88 #[.slice U up.length cu, .int .i64 x] W fun e w' => e = .returned (.bool (up.contains x)) ∧ W = w') := fun x W hW => Con_any U cu _ up x W (hu.out.below hW) hc
  have HL := Lib.hid hl
  have HBX : Hid (Br (w.alloc (.cells (rowB fun _ => false) 102 (0, 0))) w.heap.size fun _ => false) := heap_alloc_new w _
  have HB0 : Hid (Below w.heap.size w (w.alloc (.cells (rowB fun _ => false) 102 (0, 0)))) := Mi.below_alloc (Below.refl _ _)
  obtain ⟨n, hn⟩ : ∃ n, up.length = n := ⟨_, rfl⟩
  rw [hn] at HC ⊢
  clear hn hc hl hu
  go_enter Try.func59, Try.ntmps59
  go_wp2_with (refine Mi.allocTo rfl (.pointer (some ⟨_, 0, none⟩)) (.cells (rowB fun _ => false) 102 (0, 0)) (alloc_rowB _ _ rfl _) ?_)
  obtain ⟨W0, hW0⟩ : ∃ W, w.alloc (.cells (rowB fun _ => false) 102 (0, 0)) = W := ⟨_, rfl⟩
  rw [hW0] at HBX HB0 ⊢
  clear hW0
  obtain ⟨g, hg⟩ : ∃ g, w.heap.size = g := ⟨_, rfl⟩
  have HG := Lib.hid hg
  rw [hg] at HBX ⊢
  clear hg
  go_loopw [6] (fun v wr => ∃ j : Nat, j ≤ 64 ∧ v = .int .i64 j ∧ Hid (Br wr g fun d => if d < j then amB via up d else false) ∧ Hid (Below w.heap.size w wr)) (fun v _ => 64 - (intOf v).toNat)
  case atStart => exact ⟨0, Nat.zero_le _, rfl, HBX.out.eq (by intro d _; simp), HB0⟩
  case round =>
    obtain ⟨j, hj, rfl, HBj, HBr⟩ := hrel
    clear HBX HB0
    by_cases hlt : j < 64
    · obtain ⟨b, off, rfl, u0⟩ := rd_at (hv.out.below HBr.out) (i := j) (by rw [HL.out]; exact hlt)
      obtain ⟨x, hx⟩ : ∃ x, Mi.at_ via j = x := ⟨_, rfl⟩
      rw [hx] at u0
      have HXA : Hid (amB via up j = up.contains x) := by show _ = _; unfold amB; rw [hx]
      obtain ⟨q, hq⟩ : ∃ q, up.contains x = q := ⟨_, rfl⟩
      have HC1 := Lib.hid (HC.out x)
      rw [hq] at HXA HC1
      have c2 := HBj.out.cell hlt
      rw [if_neg (Nat.lt_irrefl j)] at c2
      have f2 := HBj.out.frozen j
      have HP : Hid (Br (wr.setCell ⟨g, j, none⟩ (.bool q)) g fun d => if d < j + 1 then amB via up d else false) := (HBj.out.set hlt q).eq (by
        intro d _
        by_cases e : d = j
        · subst e
          rw [if_pos rfl, if_pos (by omega), HXA.out]
        · rw [if_neg e]
          by_cases h : d < j
          · rw [if_pos h, if_pos (by omega)]
          · rw [if_neg h, if_neg (by omega)])
      have HB1 : Hid (Below w.heap.size w (wr.setCell ⟨g, j, none⟩ (.bool q))) := HBr.out.setCell (p := ⟨g, j, none⟩) (by rw [HG.out]; exact Nat.le_refl _) _
      clear hx hq HC
      go_wp2_with (go_at_call 88; refine (HC1.out wr HBr.out).mono ?_; rintro e w' ⟨rfl, rfl⟩)
      go_roundw
      case rel => exact ⟨j + 1, by omega, by go_num, HP, HB1⟩
      case measure => simp [intOf]; omega
    · have HK : Hid (Br wr g (amB via up)) := HBj.out.eq (by intro d hd; rw [if_pos (by omega)])
      go_wp2_with (first
        | (refine wpList_load_row rfl 102 (.tmp 4) rfl g rfl 102 _ (0, 0) _ HK.out Try.underlying102 rfl (sizeB64 _) ?_)
        | (refine wpList_store_row rfl 102 (.tmp 4) (.tmp 18) rfl g (rowB (amB via up)) rfl rfl 102 _ HK.out (sizeB64 _) rfl (rowB_one _) ?_))
      refine ret_arr rfl rfl (setRow_heap _ _ _ _ _ _ HK.out) rfl Try.underlying102 (sizeB64 _) rfl ⟨rfl, ?_⟩
      exact Sb.below_setRow _ HBr.out (by rw [HG.out]; exact Nat.le_refl _)
end Go.Proofs.Ytohfoieibgmmdaa.Hp
