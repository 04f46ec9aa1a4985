/- The shelf's contracts at this program, in plain words (written by program: layh.py). -/
import Derived.Test.YtohfoieibgmmdaaProg
import Derived.Test.YtohfoieibgmmdaaZ13
import Derived.Test.YtohfoieibgmmdaaZ2
import Derived.Test.YtohfoieibgmmdaaHpIn
import Derived.WalkKit
import Derived.Shelf.Lays
import Derived.Shelf.Slices.Turned
namespace Go.Proofs
open Go.Shelf
def Try.con__ren : Go.Shelf.Ren := ⟨fun | 107 => 88 | 108 => 116 | n => n, fun | 28 => 27 | 3 => 3 | 4 => 4 | 0 => 0 | n => n, fun | n => n⟩
theorem Try.con_ : Go.Proofs.Lays.n107 Try.prog Try.con__ren := {
  mixed := by kernel_rfl
  f107 := Try.func88.trans (congrArg some (by kernel_rfl))
  f108 := Try.func116.trans (congrArg some (by kernel_rfl))
  t0 := Try.underlying0
  a0 := Try.isAgg0
  z0 := Try.sizeOf0
  v0 := Try.zeroValue0
  t3 := Try.underlying3
  a3 := Try.isAgg3
  z3 := Try.sizeOf3
  v3 := Try.zeroValue3
  t4 := Try.underlying4
  a4 := Try.isAgg4
  z4 := Try.sizeOf4
  v4 := Try.zeroValue4
  t28 := Try.underlying27
  a28 := Try.isAgg27
  z28 := Try.sizeOf27
  v28 := Try.zeroValue27 }
open Go.RowKit in
theorem Try.ConI (b off n c : Nat) (zs : List Int) (x : Int) (w : World) (hz : n ≤ zs.length) (hbig : n ≤ 9223372036854775807) (hc : ∀ j, j < zs.length → w.cell? ⟨b, off + j, none⟩ = some (.int .i64 (zs.getD j 0))) :
    Calls Try.prog 88 #[.slice (some ⟨b, off, none⟩) n c, .int .i64 x] w fun e w' => e = .returned (.bool ((zs.take n).contains x)) ∧ w' = w := Any.slices_Contains_int Try.con_ b off n c zs x w hz hbig hc
open Go.RowKit in
theorem Try.ConI0 (a : Option Addr) (c : Nat) (x : Int) (w : World) :
    Calls Try.prog 88 #[.slice a 0 c, .int .i64 x] w fun e w' => e = .returned (.bool false) ∧ w' = w := Any.slices_Contains_int_empty Try.con_ a c x w
end Go.Proofs
/- among: which next hops are up. -/
namespace Go.Proofs.Ytohfoieibgmmdaa.Hp
open Go.RowKit Go.Maps
open Go.Proofs.Ytohfoieibgmmdaa.Sb
set_option linter.unusedVariables false
set_option linter.unusedSimpArgs false

/-! ### Arrays of 64 tests -/
def rowB (f : Nat → Bool) : Array Value := ((List.range 64).map fun i => Value.bool (f i)).toArray
theorem rowB_size (f : Nat → Bool) : (rowB f).size = 64 := by simp [rowB]
theorem rowB_at (f : Nat → Bool) {j : Nat} (h : j < 64) : (rowB f)[j]? = some (.bool (f j)) := by simp [rowB, h]
theorem rowB_one (f : Nat → Bool) : (rowB f).all (·.oneCell') = true := by
  simp only [rowB, List.all_toArray, List.all_map]
  exact List.all_eq_true.mpr fun _ _ => rfl
theorem rowB_ext {f : Nat → Bool} {cs : Array Value} (hs : cs.size = 64) (h : ∀ j, j < 64 → cs[j]? = some (.bool (f j))) : cs = rowB f := by
  apply Array.ext_getElem?
  intro i
  by_cases hi : i < 64
  · rw [h i hi, rowB_at f hi]
  · rw [Array.getElem?_eq_none (by omega), Array.getElem?_eq_none (by rw [rowB_size]; omega)]
theorem rowB_set (f : Nat → Bool) {j : Nat} (h : j < 64) (v : Bool) : (rowB f).setIfInBounds j (.bool v) = rowB fun d => if d = j then v else f d := by
  refine rowB_ext (by simp [rowB_size]) fun i hi => ?_
  rw [Array.getElem?_setIfInBounds, rowB_size]
  by_cases e : j = i
  · subst e
    simp [h]
  · rw [if_neg e, rowB_at f hi]
    simp only [if_neg (fun h : i = j => e h.symm)]
theorem sizeB64 (f : Nat → Bool) : (Try.prog.info? 102).map (·.size) = some (rowB f).size := by rw [rowB_size]; kernel_rfl
theorem alloc_rowB (ρ : Operand → Value) (o : Oper) (ho : o.op = .alloc 102) (w : World) : (execOp ρ o).run Try.prog w = .ok (.value (.pointer (some ⟨w.heap.size, 0, none⟩))) (w.alloc (.cells (rowB fun _ => false) 102 (0, 0))) := by
  unfold execOp
  rw [ho]
  kernel_rfl
/-- Block g is an array of these tests. -/
def Br (w : World) (g : Nat) (f : Nat → Bool) : Prop := w.heap[g]? = some (.cells (rowB f) 102 (0, 0))
section
variable {w w' : World} {g B : Nat} {f : Nat → Bool}
theorem Br.lt (h : Br w g f) : g < w.heap.size := (Array.getElem?_eq_some_iff.1 h).1
theorem Br.cell (h : Br w g f) {j : Nat} (hj : j < 64) : w.cell? ⟨g, j, none⟩ = some (.bool (f j)) := by rw [cell_of_row w g j _ _ (0, 0) h, rowB_at f hj]
theorem Br.frozen (h : Br w g f) (j : Nat) : w.frozen? ⟨g, j, none⟩ = false := frozen_of_row w g j _ _ h
theorem Br.below (h : Br w g f) (hb : Below w.heap.size w w') : Br w' g f := (hb.block g h.lt).trans h
theorem Br.set (h : Br w g f) {j : Nat} (hj : j < 64) (v : Bool) : Br (w.setCell ⟨g, j, none⟩ (.bool v)) g fun d => if d = j then v else f d := by
  unfold Br
  rw [heap_setCell_same w g j _ _ _ h, rowB_set f hj]
theorem Br.eq (h : Br w g f) {f' : Nat → Bool} (he : ∀ d, d < 64 → f d = f' d) : Br w g f' := by
  unfold Br
  have : rowB f' = rowB f := (rowB_ext (f := f) (rowB_size f') fun j hj => by rw [rowB_at f' hj, he j hj])
  rw [this]
  exact h
end
/-- slices.Contains of numbers that are read. -/
theorem Con_any (A : Option Addr) (c B : Nat) (l : List Int) (x : Int) (w : World) (hr : Mi.Rd w B A l) (hc : l.length ≤ 9223372036854775807) : Calls Try.prog 88 #[.slice A l.length c, .int .i64 x] w fun e w' => e = .returned (.bool (l.contains x)) ∧ w = w' := by
  by_cases h0 : l = []
  · subst h0
    refine (Try.ConI0 A c x w).mono ?_
    rintro e w' ⟨rfl, rfl⟩
    exact ⟨rfl, rfl⟩
  · obtain ⟨b, off, rfl, _, hcell⟩ := hr (List.length_pos_iff.mpr h0)
    refine (Try.ConI b off l.length c l x w (Nat.le_refl _) hc fun j hj => ?_).mono ?_
    · exact hcell j hj
    · rintro e w' ⟨rfl, rfl⟩
      rw [List.take_length]
      exact ⟨rfl, rfl⟩
/-- Which next hops are up. -/
def amB (via up : List Int) (j : Nat) : Bool := up.contains (Mi.at_ via j)
theorem ret_arr {fn : Func} {R : Ending → World → Prop} {a : Act} {w : World} {g : Nat} {cs : Array Value} {p : Tmp} {ty t : TypeId} {fr : Nat × Nat} {d : TypeDesc} (hres : fn.results = #[.cell p ty]) (hp : a.tmps.getD p undef = .pointer (some ⟨g, 0, none⟩)) (hg : w.heap[g]? = some (.cells cs t fr))
    (hd : d.isRow = true) (hu : Try.prog.underlying ty = some d) (hi : (Try.prog.info? ty).map (·.size) = some cs.size) (hdef : a.defers = []) (hR : R (.returned (.agg cs)) w) : bodyPost Try.prog fn R .ret a w := by
  have hp' : a.tmps[p]?.getD undef = .pointer (some ⟨g, 0, none⟩) := by simpa using hp
  refine bodyPost_ret (v := .agg cs) ?_ hdef hR
  simp [results, hres, hp', asAddr, run_loadVar_row w g t ty cs fr d hg hu (by cases d <;> first | rfl | cases hd) hi]
set_option maxRecDepth 100000 in
theorem among_any (A : Option Addr) (ca : Nat) (via : List Int) (U : Option Addr) (cu : Nat) (up : List Int) (w : World) (hv : Hid (Mi.Rd w w.heap.size A via)) (hl : via.length = 64) (hu : Hid (Mi.Rd w w.heap.size U up)) (hc : up.length ≤ 9223372036854775807) :
    Calls Try.prog 59 #[.slice A 64 ca, .slice U up.length cu] w fun e w' => e = .returned (.agg (rowB (amB via up))) ∧ Hid (Below w.heap.size w w') := by
  have HC : Hid (∀ (x : Int) W, Below w.heap.size w W → Calls Try.prog 88 #[.slice U up.length cu, .int .i64 x] W fun e w' => e = .returned (.bool (up.contains x)) ∧ W = w') := fun x W hW => Con_any U cu _ up x W (hu.out.below hW) hc
  have HL := Lib.hid hl
  have HBX : Hid (Br (w.alloc (.cells (rowB fun _ => false) 102 (0, 0))) w.heap.size fun _ => false) := heap_alloc_new w _
  have HB0 : Hid (Below w.heap.size w (w.alloc (.cells (rowB fun _ => false) 102 (0, 0)))) := Mi.below_alloc (Below.refl _ _)
  obtain ⟨n, hn⟩ : ∃ n, up.length = n := ⟨_, rfl⟩
  rw [hn] at HC ⊢
  clear hn hc hl hu
  go_enter Try.func59, Try.ntmps59
  go_wp2_with (refine Mi.allocTo rfl (.pointer (some ⟨_, 0, none⟩)) (.cells (rowB fun _ => false) 102 (0, 0)) (alloc_rowB _ _ rfl _) ?_)
  obtain ⟨W0, hW0⟩ : ∃ W, w.alloc (.cells (rowB fun _ => false) 102 (0, 0)) = W := ⟨_, rfl⟩
  rw [hW0] at HBX HB0 ⊢
  clear hW0
  obtain ⟨g, hg⟩ : ∃ g, w.heap.size = g := ⟨_, rfl⟩
  have HG := Lib.hid hg
  rw [hg] at HBX ⊢
  clear hg
  go_loopw [6] (fun v wr => ∃ j : Nat, j ≤ 64 ∧ v = .int .i64 j ∧ Hid (Br wr g fun d => if d < j then amB via up d else false) ∧ Hid (Below w.heap.size w wr)) (fun v _ => 64 - (intOf v).toNat)
  case atStart => exact ⟨0, Nat.zero_le _, rfl, HBX.out.eq (by intro d _; simp), HB0⟩
  case round =>
    obtain ⟨j, hj, rfl, HBj, HBr⟩ := hrel
    clear HBX HB0
    by_cases hlt : j < 64
    · obtain ⟨b, off, rfl, u0⟩ := rd_at (hv.out.below HBr.out) (i := j) (by rw [HL.out]; exact hlt)
      obtain ⟨x, hx⟩ : ∃ x, Mi.at_ via j = x := ⟨_, rfl⟩
      rw [hx] at u0
      have HXA : Hid (amB via up j = up.contains x) := by show _ = _; unfold amB; rw [hx]
      obtain ⟨q, hq⟩ : ∃ q, up.contains x = q := ⟨_, rfl⟩
      have HC1 := Lib.hid (HC.out x)
      rw [hq] at HXA HC1
      have c2 := HBj.out.cell hlt
      rw [if_neg (Nat.lt_irrefl j)] at c2
      have f2 := HBj.out.frozen j
      have HP : Hid (Br (wr.setCell ⟨g, j, none⟩ (.bool q)) g fun d => if d < j + 1 then amB via up d else false) := (HBj.out.set hlt q).eq (by
        intro d _
        by_cases e : d = j
        · subst e
          rw [if_pos rfl, if_pos (by omega), HXA.out]
        · rw [if_neg e]
          by_cases h : d < j
          · rw [if_pos h, if_pos (by omega)]
          · rw [if_neg h, if_neg (by omega)])
      have HB1 : Hid (Below w.heap.size w (wr.setCell ⟨g, j, none⟩ (.bool q))) := HBr.out.setCell (p := ⟨g, j, none⟩) (by rw [HG.out]; exact Nat.le_refl _) _
      clear hx hq HC
      go_wp2_with (go_at_call 88; refine (HC1.out wr HBr.out).mono ?_; rintro e w' ⟨rfl, rfl⟩)
      go_roundw
      case rel => exact ⟨j + 1, by omega, by go_num, HP, HB1⟩
      case measure => simp [intOf]; omega
    · have HK : Hid (Br wr g (amB via up)) := HBj.out.eq (by intro d hd; rw [if_pos (by omega)])
      go_wp2_with (first
        | (refine wpList_load_row rfl 102 (.tmp 4) rfl g rfl 102 _ (0, 0) _ HK.out Try.underlying102 rfl (sizeB64 _) ?_)
        | (refine wpList_store_row rfl 102 (.tmp 4) (.tmp 18) rfl g (rowB (amB via up)) rfl rfl 102 _ HK.out (sizeB64 _) rfl (rowB_one _) ?_))
      refine ret_arr rfl rfl (setRow_heap _ _ _ _ _ _ HK.out) rfl Try.underlying102 (sizeB64 _) rfl ⟨rfl, ?_⟩
      exact Sb.below_setRow _ HBr.out (by rw [HG.out]; exact Nat.le_refl _)
end Go.Proofs.Ytohfoieibgmmdaa.Hp
/- The law's copied: the same word, in new memory. -/
namespace Go.Proofs.Ytohfoieibgmmdaa.Hp
open Go.RowKit Go.Shelf
open Go.Proofs.Ytohfoieibgmmdaa.Me Go.Proofs.Ytohfoieibgmmdaa.Sb Go.Proofs.Ytohfoieibgmmdaa.Mg
set_option linter.unusedVariables false
set_option linter.unusedSimpArgs false

theorem hop_one (k n o d e c : Int) (A : Option Addr) (x y : Nat) (B : Option Addr) (u v : Nat) : (#[.int .i64 k, .int .i64 n, .int .i64 o, .int .i64 d, .int .i64 e, .int .i64 c, .slice A x y, .slice B u v] : Array Value).all (·.oneCell') = true := by simp [Value.oneCell']
set_option maxRecDepth 100000 in
theorem copied_any (k n : Int) (i : Id4) (A : Option Addr) (dn dc : Nat) (l : List Nat) (B : Option Addr) (cs : List Int) (cc : Nat) (w : World) (hi : Hid (MsIn w A dn dc l)) (hr : Hid (CoIn w B cs cc)) :
    Calls Try.prog 9 #[.agg (hopC k n i A dn dc B cs.length cc)] w fun e w' => ∃ A2 c2 B2 d2, e = .returned (.agg (hopC k n i A2 dn c2 B2 cs.length d2)) ∧ Hid (Me.Own w' w.heap.size (.slice A2 dn c2) l) ∧ Hid (Mi.Own w' w.heap.size (.slice B2 cs.length d2) cs) ∧ Hid (Below w.heap.size w w') := by
  have HDl : Hid (dn = l.length) := hi.out.1.1
  obtain ⟨W0, hW0⟩ : ∃ W, (w.alloc (.cells (hopC k n i A dn dc B cs.length cc) 29 (0, 0))).alloc (.cells #[.int .i64 0, .int .i64 0, .int .i64 0, .int .i64 0, .int .i64 0, .int .i64 0, .slice none 0 0, .slice none 0 0] 29 (0, 0)) = W := ⟨_, rfl⟩
  have hb0 : Below w.heap.size w W0 := by rw [← hW0]; exact Me.below_alloc (Me.below_alloc (Below.refl _ _))
  have hg0 : W0.heap[w.heap.size]? = some (.cells (hopC k n i A dn dc B cs.length cc) 29 (0, 0)) := by rw [← hW0]; exact (Below.heap_alloc _ _ _ (by simp)).trans (heap_alloc_new w _)
  have hz0 : W0.heap[w.heap.size + 1]? = some (.cells #[.int .i64 0, .int .i64 0, .int .i64 0, .int .i64 0, .int .i64 0, .int .i64 0, .slice none 0 0, .slice none 0 0] 29 (0, 0)) := by
    rw [← hW0]
    have := heap_alloc_new (w.alloc (.cells (hopC k n i A dn dc B cs.length cc) 29 (0, 0))) (.cells #[.int .i64 0, .int .i64 0, .int .i64 0, .int .i64 0, .int .i64 0, .int .i64 0, .slice none 0 0, .slice none 0 0] 29 (0, 0))
    rw [World.size_alloc] at this
    exact this
  have HS0 : Hid (W0.heap.size = w.heap.size + 1 + 1) := by show _ = _; rw [← hW0]; simp
  have HR : Hid (∀ W, Below w.heap.size w W → Rd W W.heap.size A l) := fun W hW => (hi.out.below hW).1.2.2.2.1
  have HAn : Hid (A = none → l.length = 0 ∧ dc = 0) := hi.out.1.2.2.2.2
  have HRi : Hid (∀ W, Below w.heap.size w W → Mi.Rd W W.heap.size B cs) := fun W hW => (hr.out.1.2.2.2.1.below hW).more hW.size
  have HBn : Hid (B = none → cs.length = 0 ∧ cc = 0) := hr.out.1.2.2.2.2.1
  have HLl : Hid (l.length ≤ 140737488351232) := by have := hi.out.1.2.1; have := hi.out.2; show _ ≤ _; omega
  have HLc : Hid (cs.length * 8 ≤ 140737488351232) := by have := hr.out.1.2.1; have := hr.out.2; show _ ≤ _; omega
  have HLT := Lib.hid hi.out.1.2.2.2.1.1
  have HB0 := Lib.hid hb0
  have HG0 := Lib.hid hg0
  have HZ0 := Lib.hid hz0
  have HW0 := Lib.hid hW0
  obtain ⟨N, hN⟩ : ∃ N, cs.length = N := ⟨_, rfl⟩
  have HN := Lib.hid hN
  rw [hN] at HG0 HW0 ⊢
  clear hi hr hb0 hg0 hz0 hW0 hN
  obtain ⟨o, d, ee, c⟩ := i
  simp only [hopC] at HG0 HW0 ⊢
  obtain ⟨x0, x1, x2, x3, x4, x5, x6, x7⟩ := hx_row (i := ⟨o, d, ee, c⟩) HG0.out
  have y6 : (W0.alloc (.cells #[] 5)).cell? ⟨w.heap.size, 6, none⟩ = some (.slice A dn dc) := ((Me.below_alloc (Below.refl W0.heap.size W0)).cell (p := ⟨w.heap.size, 6, none⟩) (by have := HS0.out; show w.heap.size < W0.heap.size; omega)).trans x6
  have HO0 : Hid (Me.Own (W0.alloc (.cells #[] 5)) W0.heap.size (.slice (some ⟨W0.heap.size, 0, none⟩) 0 0) []) := Own.lit (Below.refl _ _)
  go_enter Try.func9, Try.ntmps9
  go_wp2_with (first
    | (rw [HW0.out])
    | (at_builtin; refine app8 rfl (.tmp 3) (.tmp 6) rfl W0.heap.size (W0.alloc (.cells #[] 5)).heap.size _ [] l rfl HO0.out (Me.below_alloc (Below.refl _ _)) (by simp) A dc (by rw [← HDl.out]; rfl) (HR.out _ (Me.below_alloc HB0.out)) HAn.out (by have := HLl.out; simp; omega) ?_; intro v3 w3 ho3 hb3 _; rw [List.nil_append] at ho3; obtain ⟨A3, c3, e3, _, _, _⟩ := ho3.held HLT.out; rw [← HDl.out] at e3; subst e3; have hG3 := (hb3.block w.heap.size (by have := HS0.out; omega)).trans HG0.out; obtain ⟨u0, u1, u2, u3, u4, u5, u6, u7⟩ := hx_row (i := ⟨o, d, ee, c⟩) hG3; have f6 := frozen_of_row w3 w.heap.size 6 _ _ hG3; have HO3 := Lib.hid ho3; have HB3 := Lib.hid hb3; have HG3 := Lib.hid hG3; clear ho3 hb3 hG3; obtain ⟨W4, hW4⟩ : ∃ W, w3.setCell ⟨w.heap.size, 6, none⟩ (.slice A3 dn c3) = W := ⟨_, rfl⟩; have HW4 := Lib.hid hW4; have hs4 : W4.heap.size = w3.heap.size := (by rw [← hW4]; simp); have hoth4 : ∀ k, k ≠ w.heap.size → W4.heap[k]? = w3.heap[k]? := (fun k hk => by rw [← hW4]; exact Below.heap_setCell w3 _ _ k hk); have hG4 : W4.heap[w.heap.size]? = some (.cells #[.int .i64 k, .int .i64 n, .int .i64 o, .int .i64 d, .int .i64 ee, .int .i64 c, .slice A3 dn c3, .slice B N cc] 29 (0, 0)) := (by rw [← hW4, heap_setCell_same w3 w.heap.size 6 _ _ _ HG3.out]; rfl); have hb4 : Below w.heap.size w W4 := (by rw [← hW4]; exact (HB0.out.trans (HB3.out.mono HB0.out.size)).setCell (p := ⟨w.heap.size, 6, none⟩) (Nat.le_refl _) _); have HS4 : Hid (W4.heap.size = w3.heap.size) := hs4; have HOt4 := Lib.hid hoth4; have HG4 := Lib.hid hG4; have HB4 := Lib.hid hb4; have v7 : (W4.alloc (.cells #[] 3)).cell? ⟨w.heap.size, 7, none⟩ = some (.slice B N cc) := ((Me.below_alloc (Below.refl W4.heap.size W4)).cell (p := ⟨w.heap.size, 7, none⟩) (Array.getElem?_eq_some_iff.1 hG4).1).trans (hx_row (i := ⟨o, d, ee, c⟩) hG4).2.2.2.2.2.2.2; have HI0 : Hid (Mi.Own (W4.alloc (.cells #[] 3)) W4.heap.size (.slice (some ⟨W4.heap.size, 0, none⟩) 0 0) []) := Mi.Own.lit (Below.refl _ _); clear hW4 hs4 hoth4 hG4 hb4)
    | (rw [HW4.out])
    | (at_builtin; refine Mi.app rfl (.tmp 10) (.tmp 12) rfl W4.heap.size (W4.alloc (.cells #[] 3)).heap.size _ [] cs rfl HI0.out (Me.below_alloc (Below.refl _ _)) (by simp) B N cc HN.out.symm rfl (HRi.out _ (Me.below_alloc HB4.out)) HBn.out (by have := HLc.out; simp; omega) ?_; intro v5 w5 ho5 hb5 _; rw [List.nil_append] at ho5; obtain ⟨A5, c5, e5, _, _, _⟩ := ho5.form; rw [HN.out] at e5; subst e5; have hG5 := (hb5.block w.heap.size (Array.getElem?_eq_some_iff.1 HG4.out).1).trans HG4.out; obtain ⟨t0, t1, t2, t3, t4, t5, t6, t7⟩ := hx_row (i := ⟨o, d, ee, c⟩) hG5; have f7 := frozen_of_row w5 w.heap.size 7 _ _ hG5; have HO5 := Lib.hid ho5; have HB5 := Lib.hid hb5; have HG5 := Lib.hid hG5; clear ho5 hb5 hG5; obtain ⟨W6, hW6⟩ : ∃ W, w5.setCell ⟨w.heap.size, 7, none⟩ (.slice A5 N c5) = W := ⟨_, rfl⟩; have HW6 := Lib.hid hW6; have HO6 : Hid (∀ k, k ≠ w.heap.size → W6.heap[k]? = w5.heap[k]?) := (fun k hk => by rw [← hW6]; exact Below.heap_setCell w5 _ _ k hk); have HS6 : Hid (W6.heap.size = w5.heap.size) := (by show _ = _; rw [← hW6]; simp); have HG6 : Hid (W6.heap[w.heap.size]? = some (.cells #[.int .i64 k, .int .i64 n, .int .i64 o, .int .i64 d, .int .i64 ee, .int .i64 c, .slice A3 dn c3, .slice A5 N c5] 29 (0, 0))) := (by show _ = _; rw [← hW6, heap_setCell_same w5 w.heap.size 7 _ _ _ HG5.out]; rfl); have HB6 : Hid (Below w.heap.size w W6) := (by show Below _ _ _; rw [← hW6]; exact (HB4.out.trans (HB5.out.mono HB4.out.size)).setCell (p := ⟨w.heap.size, 7, none⟩) (Nat.le_refl _) _); have HZ6 : Hid (W6.heap[w.heap.size + 1]? = some (.cells #[.int .i64 0, .int .i64 0, .int .i64 0, .int .i64 0, .int .i64 0, .int .i64 0, .slice none 0 0, .slice none 0 0] 29 (0, 0))) := ((HO6.out _ (by omega)).trans ((HB5.out.block _ (by have := HS4.out; have := HB3.out.size; have := HS0.out; omega)).trans ((HOt4.out _ (by omega)).trans ((HB3.out.block _ (by have := HS0.out; omega)).trans HZ0.out)))); clear hW6; obtain ⟨s0, s1, s2, s3, s4, s5, s6, s7⟩ := hx_row (i := ⟨o, d, ee, c⟩) HG6.out)
    | (rw [HW6.out])
    | (refine wpList_store_row rfl 29 (.tmp 2) (.tmp 15) rfl (w.heap.size + 1) #[.int .i64 k, .int .i64 n, .int .i64 o, .int .i64 d, .int .i64 ee, .int .i64 c, .slice A3 dn c3, .slice A5 N c5] rfl rfl 29 _ HZ6.out (by kernel_rfl) rfl (hop_one _ _ _ _ _ _ _ _ _ _ _ _) ?_))
  have hne : ∀ x, x ≠ w.heap.size + 1 → (W6.setRow (w.heap.size + 1) #[.int .i64 k, .int .i64 n, .int .i64 o, .int .i64 d, .int .i64 ee, .int .i64 c, .slice A3 dn c3, .slice A5 N c5]).heap[x]? = W6.heap[x]? := fun x hx => setRow_other _ _ x _ hx
  refine ret_arr rfl rfl (setRow_heap _ _ _ _ _ _ HZ6.out) rfl Try.underlying29 (by kernel_rfl) rfl ⟨A3, c3, A5, c5, rfl, ?_, ?_, ?_⟩
  · have h3 : Me.Own w3 W0.heap.size (.slice A3 dn c3) l := HO3.out
    refine own_same (own_base h3 fun x e => Nat.le_trans HB0.out.size (World.ownsRow.lt h3 x e).1) fun x e hk => ?_
    have h1 := (World.ownsRow.lt h3 x e).1
    have h2 := HS0.out
    rw [hne x (by omega), HO6.out x (by omega), HB5.out.block x (by rw [HS4.out]; exact hk), HOt4.out x (by omega)]
  · have h5 : Mi.Own w5 W4.heap.size (.slice A5 N c5) cs := HO5.out
    refine (h5.base fun x e => Nat.le_trans HB4.out.size (World.ownsRow.lt h5 x e).1).same fun x e hk => ?_
    have h1 := (World.ownsRow.lt h5 x e).1
    have h2 := HS0.out
    have h3 := HS4.out
    have h4 := HB3.out.size
    rw [hne x (by omega), HO6.out x (by omega)]
  · exact Sb.below_setRow _ HB6.out (Nat.le_succ _)
end Go.Proofs.Ytohfoieibgmmdaa.Hp
