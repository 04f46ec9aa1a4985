/- The contract of bytes.Clone. -/
import Derived.Test.YtpofdimagfldnaaZ1
import Derived.Test.YtpofdimagfldnaaMgRGet
import Derived.Test.YtpofdimagfldnaaZ3
import Derived.Lib.SliceRun
namespace Go.Proofs.Ytpofdimagfldnaa.Hd
open Go.RowKit
open Go.Proofs.Ytpofdimagfldnaa.Me
set_option linter.unusedVariables false
set_option linter.unusedSimpArgs false

theorem BClone_any (A : Option Addr) (cap B : Nat) (l : List Nat) (w : World) (hr : Hid (Rd w B A l)) (hA : Hid (A = none → l.length = 0 ∧ cap = 0)) (hB : B ≤ w.heap.size) (hc : l.length ≤ 140737488355328) :
    Calls Try.prog 38 #[.slice A l.length cap] w fun e w' => ∃ v, e = .returned v ∧ Hid (Me.Own w' w.heap.size v l) ∧ Hid (Below w.heap.size w w') := by
  have ke := fun (w : World) (a : Option Addr) (n c : Nat) => Lib.run_eql_slice_nil (P := Try.prog) w 44 5 a n c 0 0 Try.underlying44
  rcases A with _ | ad
  · obtain ⟨h1, rfl⟩ := hA.out rfl
    obtain rfl : l = [] := List.eq_nil_of_length_eq_zero h1
    go_enter Try.func38, Try.ntmps38
    go_wp2
    go_ret
    exact ⟨_, rfl, Me.Own.nil _ _, Below.refl _ _⟩
  · go_enter Try.func38, Try.ntmps38
    go_wp2_with (at_builtin; refine app8 rfl (.tmp 5) (.tmp 6) rfl w.heap.size B _ [] l rfl (Me.Own.lit (Below.refl _ _)) (below_alloc (Below.refl _ _)) (by simp) (some ad) cap rfl (hr.out.below ((Below.refl _ _).alloc hB _)) hA.out (by simp; omega) ?_; intro v2 w2 ho2 hb2 _; have HO2 := Lib.hid ho2; have HB2 := Lib.hid hb2; clear ho2 hb2)
    go_ret
    exact ⟨_, rfl, HO2, HB2⟩
end Go.Proofs.Ytpofdimagfldnaa.Hd
/- The message of bytes: Get. -/
namespace Go.Proofs.Ytpofdimagfldnaa.Mg
open Go.RowKit
open Go.Proofs.Ytpofdimagfldnaa.Me Go.Proofs.Ytpofdimagfldnaa.Ba Go.Proofs.Ytpofdimagfldnaa.Ma Go.Proofs.Ytpofdimagfldnaa.Bt Go.Proofs.Ytpofdimagfldnaa.Hd
set_option linter.unusedVariables false
set_option linter.unusedSimpArgs false

def mgO (l : List Nat) : Prop := 7 ≤ l.length ∧ l.length ≤ 54 ∧ chkN (idOf (l.take 6)) = 0
instance (l : List Nat) : Decidable (mgO l) := by unfold mgO; infer_instance
def mI (l : List Nat) : Id4 := if mgO l then idOf (l.take 6) else ⟨0, 0, 0, 0⟩
def mD (l : List Nat) : List Nat := if mgO l then l.drop 6 else []
def mZ (l : List Nat) : Nat := if mgO l then 0 else 2
/-- What Get answers. -/
def GetM (l : List Nat) (w : World) (e : Ending) (w' : World) : Prop :=
  ∃ A c, e = .returned (.tuple #[.agg (msgC (mI l) A (mD l).length c), .int .i64 (mZ l : Int)]) ∧ Hid (Own w' w.heap.size (.slice A (mD l).length c) (mD l)) ∧ Hid (Below w.heap.size w w')
def msg0 : Array Value := #[.int .i64 0, .int .i64 0, .int .i64 0, .int .i64 0, .slice none 0 0]
theorem GetM.no {l : List Nat} {w w' : World} {e : Ending} (h : ¬ mgO l) (he : e = .returned (.tuple #[.agg msg0, .int .i64 2])) (hb : Below w.heap.size w w') : GetM l w e w' := by
  unfold GetM mI mD mZ
  rw [if_neg h, if_neg h, if_neg h]
  exact ⟨none, 0, he, Own.nil _ _, hb⟩
theorem GetM.ok {l : List Nat} {w w' : World} {e : Ending} {j : Id4} {A : Option Addr} {r c : Nat} (h : mgO l) (hj : idOf (l.take 6) = j) (hr : (l.drop 6).length = r) (he : e = .returned (.tuple #[.agg (msgC j A r c), .int .i64 ((0 : Nat) : Int)])) (ho : Own w' w.heap.size (.slice A r c) (l.drop 6)) (hb : Below w.heap.size w w') : GetM l w e w' := by
  subst hj hr
  unfold GetM mI mD mZ
  rw [if_pos h, if_pos h, if_pos h]
  exact ⟨A, c, he, ho, hb⟩
theorem msg_one5 (o d ee c : Int) (A : Option Addr) (n cp : Nat) : (#[.int .i64 o, .int .i64 d, .int .i64 ee, .int .i64 c, .slice A n cp] : Array Value).all (·.oneCell') = true := by simp [Value.oneCell']
theorem by_take {w : World} {a : Addr} {n c : Nat} {l : List Nat} (h : BySlice w (some a) n c l) {k : Nat} (hk : k ≤ l.length) : BySlice w (some a) k c (l.take k) :=
  ⟨by simp; omega, by have := h.2.1; simp; omega, h.2.2.1, h.2.2.2.1.take k, fun e => by cases e⟩
theorem own_setRow {w : World} {B g : Nat} {v : Value} {l : List Nat} (cs : Array Value) (h : Own w B v l) (hg : v.ownBlock ≠ some g) : Own (w.setRow g cs) B v l :=
  own_same h fun k e _ => setRow_other _ _ k _ (fun e2 => hg (by rw [e, e2]))
theorem own_ty {V : World} {B D T : Nat} {v : Value} {l : List Nat} {old : Array Value} {f : Nat × Nat} (h : Own V B v l) (hD : V.heap[D]? = some (.cells old T f)) (hT : T ≠ 5) : v.ownBlock ≠ some D := by
  rcases h.2 with ⟨rfl, _⟩ | ⟨g, cap, cur, rfl, _, h3, _⟩
  · simp [Value.ownBlock]
  · intro e
    obtain rfl : g = D := by simpa [Value.ownBlock] using e
    rw [h3] at hD
    simp at hD
    exact hT hD.2.1.symm
theorem get_end {w W1 w5 w6 : World} {D g r c : Nat} {l : List Nat} {x : Value} (cs : Array Value) (hD : W1.heap.size ≤ D ∧ D < w5.heap.size) (h01 : w.heap.size < W1.heap.size) (h6 : Below W1.heap.size W1 w6) (hb : Below w.heap.size w W1) (ho : Own w6 w5.heap.size (.slice (some ⟨g, 0, none⟩) r c) l) :
    Own ((w6.setCell ⟨D, 4, none⟩ x).setRow w.heap.size cs) w.heap.size (.slice (some ⟨g, 0, none⟩) r c) l ∧ Below w.heap.size w ((w6.setCell ⟨D, 4, none⟩ x).setRow w.heap.size cs) := by
  have hg : w5.heap.size ≤ g := (ho.lt g rfl).1
  refine ⟨own_setRow cs (own_same (own_base ho fun k e => ?_) fun k e _ => Below.heap_setCell _ _ _ _ ?_) ?_, below_setRow cs ?_ (Nat.le_refl _)⟩
  · obtain rfl : g = k := by simpa [Value.ownBlock] using e
    omega
  · obtain rfl : g = k := by simpa [Value.ownBlock] using e
    show g ≠ D; omega
  · intro e
    have : g = w.heap.size := by simpa [Value.ownBlock] using e
    omega
  · have e := hb.trans (h6.mono hb.size)
    exact ⟨e.os, e.tape, e.output, by simpa using e.size, fun b hb' => (Below.heap_setCell _ _ _ _ (by show b ≠ D; omega)).trans (e.block b hb')⟩
set_option maxRecDepth 100000 in
set_option maxHeartbeats 8000000 in
theorem Get_any (A : Option Addr) (n cap : Nat) (l : List Nat) (w : World) (hi : Hid (BySlice w A n cap l)) :
    Calls Try.prog 86 #[.slice A n cap] w (GetM l w) := by
  obtain rfl : n = l.length := hi.out.1
  obtain ⟨W1, hW1⟩ : ∃ W, w.alloc (.cells #[.int .i64 0, .int .i64 0, .int .i64 0, .int .i64 0, .slice none 0 0] 46) = W := ⟨_, rfl⟩
  have b1 : Below w.heap.size w W1 := by rw [← hW1]; exact Me.below_alloc (Below.refl _ _)
  have z1 : W1.heap.size = w.heap.size + 1 := by rw [← hW1]; simp
  have r1 : W1.heap[w.heap.size]? = some (.cells #[.int .i64 0, .int .i64 0, .int .i64 0, .int .i64 0, .slice none 0 0] 46 (0, 0)) := by
    rw [← hW1]
    exact heap_alloc_new w _
  have hi1 : BySlice W1 A l.length cap l := by_below hi.out b1
  have HW := Lib.hid hW1; have B1 := Lib.hid b1; have Z1 := Lib.hid z1; have R1 := Lib.hid r1
  have hlc := hi.out.2.1
  have hcm := hi.out.2.2.1
  have HBE : Hid (∀ w2 w3 x, Below W1.heap.size W1 w2 → Below (w2.alloc x).heap.size (w2.alloc x) w3 → w3.heap[w.heap.size]? = some (.cells #[.int .i64 0, .int .i64 0, .int .i64 0, .int .i64 0, .slice none 0 0] 46 (0, 0)) ∧ ∀ cs, Below w.heap.size w (w3.setRow w.heap.size cs)) := fun w2 w3 x h2 h3 => by
    have e2 := Me.below_alloc (o := x) h2
    have e3 := e2.trans (h3.mono e2.size)
    exact ⟨(e3.block _ (by omega)).trans r1, fun cs => below_setRow cs (b1.trans (e3.mono b1.size)) (Nat.le_refl _)⟩
  clear hW1 z1 r1
  by_cases h6 : 6 ≤ l.length
  · obtain ⟨b, off, rfl, hbl, hc⟩ := hi.out.2.2.2.1.2 (by omega)
    have hG := GetId_any (some ⟨b, off, none⟩) 6 cap (l.take 6) W1 (by_take hi1 h6)
    have hl6 : (l.take 6).length = 6 := by simp; omega
    by_cases hk : chkN (idOf (l.take 6)) = 0
    · have hI : getI (l.take 6) = idOf (l.take 6) := by unfold getI; rw [if_pos ⟨hl6, hk⟩]
      have hZ : getZ (l.take 6) = 0 := by unfold getZ; rw [if_pos ⟨hl6, hk⟩]
      rw [hI, hZ] at hG
      obtain ⟨j, hj⟩ : ∃ j, idOf (l.take 6) = j := ⟨_, rfl⟩
      rw [hj] at hG hk
      have HJ := Lib.hid hj
      clear hj
      obtain ⟨r, hr⟩ : ∃ r, l.length = 6 + r := ⟨l.length - 6, by omega⟩
      obtain ⟨R, hR⟩ : ∃ R, cap = 6 + R := ⟨cap - 6, by omega⟩
      have hMN : msgN j r = if r = 0 then 2 else if 48 < r then 3 else 0 := by unfold msgN; rw [if_neg (by simp [hk])]
      obtain ⟨A', hA'⟩ : ∃ A', (if R = 0 then (some ⟨b, off, none⟩ : Option Addr) else some ⟨b, off + 6, none⟩) = A' := ⟨_, rfl⟩
      have HRD : Hid (∀ W, Below w.heap.size w W → Rd W w.heap.size A' (l.drop 6)) := fun W hW => by
        have := (hi.out.2.2.2.1.below hW).drop 6
        rw [← hA']
        split
        · exact ⟨fun z hz => this.1 z hz, fun h => by simp at h; omega⟩
        · exact this
      have HAN : Hid (A' = none → (l.drop 6).length = 0 ∧ R = 0) := fun e => by rw [← hA'] at e; split at e <;> cases e
      have HA' := Lib.hid hA'
      clear hA'
      have HK := Lib.hid (fun W => CheckMsg_any j A' r R W)
      obtain ⟨o, dd, ee, cc⟩ := j
      simp only [idC, show ((0 : Nat) : Int) = 0 from rfl] at hG
      simp only [msgC] at HK
      have HG := Lib.hid hG
      have hdl : (l.drop 6).length = r := by simp [hr]
      obtain ⟨L, hL⟩ : ∃ L, l.length = L := ⟨_, rfl⟩
      rw [hL] at h6 hr hlc hi hi1 ⊢
      subst hr hR
      have HMG : Hid (mgO l ↔ msgN ⟨o, dd, ee, cc⟩ r = 0) := by
        refine Lib.hid ⟨fun h => ?_, fun h => ?_⟩
        · rw [hMN, if_neg (by have := h.1; omega), if_neg (by have := h.2.1; omega)]
        · have h2 := msgN_zero h
          exact ⟨by omega, by omega, by rw [HJ.out]; exact hk⟩
      have m1 : ¬ (((6 + r : Nat) : Int) < 6) := by omega
      have m2 : (6 : Int) ≤ ((6 + r : Nat) : Int) := by omega
      have m3 : 6 ≤ 6 + R := by omega
      have m4 : (6 : Int) ≤ ((6 + R : Nat) : Int) := by omega
      have m5 : 6 ≤ 6 + r := by omega
      have m6 : (min (6 + (r : Int)) 6).toNat = 6 := by omega
      have m7 : 6 ≤ 6 + (r : Int) := by omega
      have m8 : 6 ≤ 6 + (R : Int) := by omega
      clear hi hi1 hc hG hl6 hk hI hZ b1
      go_enter Try.func86, Try.ntmps86
      go_wp2_with (first
        | (go_at_call 87; rw [HW.out]; with_reducible refine HG.out.mono ?_; rintro e w2 ⟨rfl, hb2⟩))
      obtain ⟨W4, hW4⟩ : ∃ W4, w2.alloc (.cells #[.int .i64 o, .int .i64 dd, .int .i64 ee, .int .i64 cc] 28) = W4 := ⟨_, rfl⟩
      have g4 : Below W1.heap.size W1 W4 := by rw [← hW4]; exact Me.below_alloc hb2.out
      have z4 : w2.heap.size < W4.heap.size := by rw [← hW4]; simp
      have r4 : W4.heap[w2.heap.size]? = some (.cells #[.int .i64 o, .int .i64 dd, .int .i64 ee, .int .i64 cc] 28 (0, 0)) := by
        rw [← hW4]
        exact heap_alloc_new w2 _
      rw [hW4]
      have HC : Hid (∀ W, Below W4.heap.size W4 W → W.cell? ⟨w2.heap.size, 0, none⟩ = some (.int .i64 o) ∧ W.cell? ⟨w2.heap.size, 1, none⟩ = some (.int .i64 dd) ∧ W.cell? ⟨w2.heap.size, 2, none⟩ = some (.int .i64 ee) ∧ W.cell? ⟨w2.heap.size, 3, none⟩ = some (.int .i64 cc)) := fun W hW => by
        have h := (hW.block _ z4).trans r4
        exact ⟨cell_of_row W _ 0 _ _ (0, 0) h, cell_of_row W _ 1 _ _ (0, 0) h, cell_of_row W _ 2 _ _ (0, 0) h, cell_of_row W _ 3 _ _ (0, 0) h⟩
      have G4 := Lib.hid g4
      have S0 := (Below.refl W4.heap.size W4).drew
      clear hW4 z4 r4 g4 hb2 HG HBE
      refine wp_region_held_drew (S := fun W => Below W4.heap.size W4 W) (by kernel_rfl) S0 (fun hHeld => ?_)
      refine wpAnyH_take (i := 0) (v := .agg #[.int .i64 o, .int .i64 dd, .int .i64 ee, .int .i64 cc]) rfl (by kernel_rfl) (by kernel_rfl) (by kernel_rfl) (fun _ _ _ h => h) (Or.inl ⟨by rfl, ?_⟩) (by first | assumption | exact trivial) ?_
      · intro W hSW; obtain ⟨y0, y1, y2, y3⟩ := HC.out W hSW; go_simp; try (with_reducible rfl)
      simp only [Act.put, List.getElem_toArray, List.getElem_cons_succ, List.getElem_cons_zero, List.setIfInBounds_toArray, List.set_cons_zero, List.set_cons_succ]
      refine wpAnyH_take (i := 1) (v := .slice (some ⟨b, off, none⟩) (6 + r) (6 + R)) rfl (by kernel_rfl) (by kernel_rfl) (by kernel_rfl) (fun _ _ _ h => h) (Or.inl ⟨by rfl, ?_⟩) (by first | assumption | exact trivial) ?_
      · intro W hSW; go_simp; try (with_reducible rfl)
      simp only [Act.put, List.getElem_toArray, List.getElem_cons_succ, List.getElem_cons_zero, List.setIfInBounds_toArray, List.set_cons_zero, List.set_cons_succ]
      refine wpAnyH_take (i := 2) (v := .slice A' r R) rfl (by kernel_rfl) (by kernel_rfl) (by kernel_rfl) (fun _ _ _ h => h) (Or.inl ⟨by rfl, ?_⟩) (by first | assumption | exact trivial) ?_
      · intro W hSW; rw [← HA'.out]; go_simp; try (with_reducible rfl)
      simp only [Act.put, List.getElem_toArray, List.getElem_cons_succ, List.getElem_cons_zero, List.setIfInBounds_toArray, List.set_cons_zero, List.set_cons_succ]
      refine wpAnyH_take (i := 3) (v := .agg #[.int .i64 o, .int .i64 dd, .int .i64 ee, .int .i64 cc, .slice A' r R]) rfl (by kernel_rfl) (by kernel_rfl) (by kernel_rfl) (fun _ _ _ h => h) (Or.inl ⟨by rfl, ?_⟩) (by first | assumption | exact trivial) ?_
      · intro W hSW; go_simp; try (with_reducible rfl)
      simp only [Act.put, List.getElem_toArray, List.getElem_cons_succ, List.getElem_cons_zero, List.setIfInBounds_toArray, List.set_cons_zero, List.set_cons_succ]
      refine wpAnyH_ready (rs := [4]) (by kernel_rfl) (by simp) ?_
      refine AllReadyH.cons rfl (fun K hK => ?_) AllReadyH.nil
      go_simp
      obtain ⟨V6, hV6⟩ : ∃ V, (W4.alloc (.cells #[.int .i64 0, .int .i64 0, .int .i64 0, .int .i64 0, .slice none 0 0] 46)).drew = V := ⟨_, rfl⟩
      have hb6 : Below W4.heap.size W4 V6 := by rw [← hV6]; exact (Me.below_alloc (Below.refl _ _)).drew
      have hD6 : V6.heap[W4.heap.size]? = some (.cells #[.int .i64 0, .int .i64 0, .int .i64 0, .int .i64 0, .slice none 0 0] 46 (0, 0)) := by rw [← hV6]; exact heap_alloc_new W4 _
      rw [hV6]
      clear hV6
      obtain ⟨D, hDD⟩ : ∃ D, W4.heap.size = D := ⟨_, rfl⟩
      have hd := Lib.hid hDD
      rw [hDD] at hD6 ⊢
      refine hK.out _ _ (hb6) (fun hHeld => ?_)
      clear hK K
      refine wpAnyH_ready (rs := [5]) (by kernel_rfl) (by simp) ?_
      refine AllReadyH.cons rfl (fun K hK => ?_) AllReadyH.nil
      rw [if_pos (by kernel_rfl)]
      refine wp_store_row 46 (.tmp 6) (.tmp 23) rfl D #[.int .i64 o, .int .i64 dd, .int .i64 ee, .int .i64 cc, .slice A' r R] rfl (by rfl) 46 _ hD6 (by kernel_rfl) rfl (msg_one5 _ _ _ _ _ _ _) ?_
      simp only [Act.put, List.getElem_toArray, List.getElem_cons_succ, List.getElem_cons_zero, List.setIfInBounds_toArray, List.set_cons_zero, List.set_cons_succ]
      obtain ⟨V9, hV9⟩ : ∃ V, V6.setRow D #[.int .i64 o, .int .i64 dd, .int .i64 ee, .int .i64 cc, .slice A' r R] = V := ⟨_, rfl⟩
      have hb9 : Below W4.heap.size W4 V9 := by
        rw [← hV9]
        exact below_setRow _ hb6 (Nat.le_of_eq hd.out)
      have hD9 : V9.heap[D]? = some (.cells #[.int .i64 o, .int .i64 dd, .int .i64 ee, .int .i64 cc, .slice A' r R] 46 (0, 0)) := by rw [← hV9]; exact setRow_heap _ _ _ _ _ _ hD6
      rw [hV9]
      refine hK.out _ _ (hb9) (fun hHeld => ?_)
      clear hK K
      refine wpAnyH_done (by kernel_rfl) ?_ _
      have HD9 := Lib.hid hD9
      have f0 : V9.cell? ⟨D, 0, none⟩ = some (.int .i64 o) := cell_of_row V9 D 0 _ _ (0, 0) hD9
      have f1 : V9.cell? ⟨D, 1, none⟩ = some (.int .i64 dd) := cell_of_row V9 D 1 _ _ (0, 0) hD9
      have f2 : V9.cell? ⟨D, 2, none⟩ = some (.int .i64 ee) := cell_of_row V9 D 2 _ _ (0, 0) hD9
      have f3 : V9.cell? ⟨D, 3, none⟩ = some (.int .i64 cc) := cell_of_row V9 D 3 _ _ (0, 0) hD9
      have f4 : V9.cell? ⟨D, 4, none⟩ = some (.slice A' r R) := cell_of_row V9 D 4 _ _ (0, 0) hD9
      have G9 : Hid (Below W1.heap.size W1 V9) := G4.out.trans (hb9.mono G4.out.size)
      have HDl : Hid (W1.heap.size ≤ D ∧ D < V9.heap.size) := ⟨by have := G4.out.size; have := hd.out; omega, (Array.getElem?_eq_some_iff.1 hD9).1⟩
      have HFin : Hid (∀ V, Below V9.heap.size V9 V → V.heap[w.heap.size]? = some (.cells #[.int .i64 0, .int .i64 0, .int .i64 0, .int .i64 0, .slice none 0 0] 46 (0, 0)) ∧ V.heap[D]? = some (.cells #[.int .i64 o, .int .i64 dd, .int .i64 ee, .int .i64 cc, .slice A' r R] 46 (0, 0)) ∧ Below W1.heap.size W1 V) := fun V hV => by
        have e := G9.out.trans (hV.mono G9.out.size)
        exact ⟨(e.block _ (by have := Z1.out; omega)).trans R1.out, (hV.block _ HDl.out.2).trans HD9.out, e⟩
      clear hV9 hb6 hD6 hb9 hD9 S0 hDD HC hHeld HA' HW m1 m2 m3 m4 m5 m6 m7 m8
      by_cases hm : msgN ⟨o, dd, ee, cc⟩ r = 0
      · obtain ⟨_, h1, h48⟩ := msgN_zero hm
        rw [hm] at HK
        have HCL : Hid (∀ W, Below W1.heap.size W1 W → Calls Try.prog 38 #[.slice A' r R] W fun e w' => ∃ v, e = .returned v ∧ Hid (Me.Own w' W.heap.size v (l.drop 6)) ∧ Hid (Below W.heap.size W w')) := fun W hW => by
          have hw := B1.out.trans (hW.mono B1.out.size)
          have := BClone_any A' R w.heap.size (l.drop 6) W (HRD.out W hw) HAN.out hw.size (by omega)
          rw [hdl] at this
          exact this
        have hmg := HMG.out.2 hm
        have HOK := Lib.hid (fun g c w' h1 h2 => GetM.ok (w := w) (w' := w') (A := some ⟨g, 0, none⟩) (c := c) hmg HJ.out hdl rfl h1 h2)
        simp only [msgC, show ((0 : Nat) : Int) = 0 from rfl] at HK HOK
        have HR : Hid (0 < (l.drop 6).length) := by show _ < _; omega
        have HDL := Lib.hid hdl
        clear hMN HJ hdl h1 h48 hm hmg HMG hcm hlc h6 HRD HAN
        go_wp2_with (first
          | (go_at_call 80; refine (HK.out _).mono ?_; rintro e w5 ⟨rfl, hb5⟩; obtain ⟨q1, q2, q3⟩ := HFin.out w5 hb5.out; have Q3 := Lib.hid q3; clear q1 q3; have e0 : w5.cell? ⟨D, 0, none⟩ = some (.int .i64 o) := cell_of_row w5 D 0 _ _ (0, 0) q2; have e1 : w5.cell? ⟨D, 1, none⟩ = some (.int .i64 dd) := cell_of_row w5 D 1 _ _ (0, 0) q2; have e2 : w5.cell? ⟨D, 2, none⟩ = some (.int .i64 ee) := cell_of_row w5 D 2 _ _ (0, 0) q2; have e3 : w5.cell? ⟨D, 3, none⟩ = some (.int .i64 cc) := cell_of_row w5 D 3 _ _ (0, 0) q2; have e4 : w5.cell? ⟨D, 4, none⟩ = some (.slice A' r R) := cell_of_row w5 D 4 _ _ (0, 0) q2; clear q2)
          | (go_at_call 38; refine (HCL.out _ Q3.out).mono ?_; rintro e w6 ⟨v, rfl, ho6, hb6⟩; obtain ⟨g, c, rfl, hg1, hg2⟩ := ho6.out.form HR.out; simp only [HDL.out] at *; have hb56 := Lib.hid (hb5.out.trans (hb6.out.mono hb5.out.size)); obtain ⟨q1, q2, q3⟩ := HFin.out w6 hb56.out; have Q1 := Lib.hid q1; have Q2 := Lib.hid q2; have Q33 := Lib.hid q3; clear q1 q3; have e0 : w6.cell? ⟨D, 0, none⟩ = some (.int .i64 o) := cell_of_row w6 D 0 _ _ (0, 0) q2; have e1 : w6.cell? ⟨D, 1, none⟩ = some (.int .i64 dd) := cell_of_row w6 D 1 _ _ (0, 0) q2; have e2 : w6.cell? ⟨D, 2, none⟩ = some (.int .i64 ee) := cell_of_row w6 D 2 _ _ (0, 0) q2; have e3 : w6.cell? ⟨D, 3, none⟩ = some (.int .i64 cc) := cell_of_row w6 D 3 _ _ (0, 0) q2; have e4 : w6.cell? ⟨D, 4, none⟩ = some (.slice A' r R) := cell_of_row w6 D 4 _ _ (0, 0) q2; have ef : w6.frozen? ⟨D, 4, none⟩ = false := frozen_of_row w6 D 4 _ _ q2; clear q2; have QS := Lib.hid ((Below.heap_setCell w6 ⟨D, 4, none⟩ (.slice (some ⟨g, 0, none⟩) r c) w.heap.size (by show w.heap.size ≠ D; have := HDl.out.1; have := Z1.out; omega)).trans Q1.out); have HE := Lib.hid (fun cs => get_end (x := .slice (some ⟨g, 0, none⟩) r c) cs ⟨HDl.out.1, Nat.lt_of_lt_of_le HDl.out.2 hb5.out.size⟩ (by have := Z1.out; omega) Q33.out B1.out ho6.out))
          | (refine wpList_store_row rfl 46 (.tmp 2) (.tmp 32) rfl w.heap.size #[.int .i64 o, .int .i64 dd, .int .i64 ee, .int .i64 cc, .slice (some ⟨g, 0, none⟩) r c] rfl rfl 46 _ QS.out (by kernel_rfl) rfl (msg_one5 _ _ _ _ _ _ _) ?_))
        exact ret_box2 (g := w.heap.size) rfl (by rfl) (setRow_heap _ _ _ _ _ _ QS.out) rfl Try.underlying46 (by kernel_rfl) rfl (HOK.out g c _ (HE.out _).1 (HE.out _).2)
      · obtain ⟨z, hz⟩ : ∃ z, msgN ⟨o, dd, ee, cc⟩ r = z := ⟨_, rfl⟩
        rw [hz] at HK hm HMG
        have hne := nz hm
        have HN : Hid (¬ mgO l) := fun h => hm (HMG.out.1 h)
        clear hMN HJ hdl hm hz HMG hcm hlc h6 HRD HAN
        go_wp2_with (first
          | (go_at_call 80; refine (HK.out _).mono ?_; rintro e w5 ⟨rfl, hb5⟩; obtain ⟨q1, q2, q3⟩ := HFin.out w5 hb5.out; have Q1 := Lib.hid q1; have Q3 := Lib.hid q3; clear q1 q2 q3)
          | (refine wpList_store_row rfl 46 (.tmp 2) (.tmp 27) rfl w.heap.size msg0 rfl rfl 46 _ Q1.out (by kernel_rfl) rfl (msg_one5 _ _ _ _ _ _ _) ?_))
        exact ret_box2 (g := w.heap.size) rfl (by rfl) (setRow_heap _ _ _ _ _ _ Q1.out) rfl Try.underlying46 (by kernel_rfl) rfl (GetM.no HN.out rfl (below_setRow _ (B1.out.trans (Q3.out.mono B1.out.size)) (Nat.le_refl _)))
    · have hI : getI (l.take 6) = ⟨0, 0, 0, 0⟩ := by unfold getI; rw [if_neg (by simp [hk])]
      have hZ : getZ (l.take 6) = 2 := by unfold getZ; rw [if_neg (by simp [hk])]
      rw [hI, hZ] at hG
      have HN : Hid (¬ mgO l) := fun h => hk h.2.2
      simp only [idC, show ((2 : Nat) : Int) = 2 from rfl] at hG
      have HG := Lib.hid hG
      have m1 : ¬ ((l.length : Int) < 6) := by omega
      have m2 : (6 : Int) ≤ (l.length : Int) := by omega
      have m3 : 6 ≤ cap := by omega
      have m4 : (6 : Int) ≤ (cap : Int) := by omega
      have m6 : (min (l.length : Int) 6).toNat = 6 := by omega
      clear hi hi1 hc hG hl6 hk hI hZ b1
      go_enter Try.func86, Try.ntmps86
      go_wp2_with (first
        | (go_at_call 87; rw [HW.out]; with_reducible refine HG.out.mono ?_; rintro e w2 ⟨rfl, hb2⟩)
        | (obtain ⟨q1, q2⟩ := HBE.out _ _ (.cells #[.int .i64 0, .int .i64 0, .int .i64 0, .int .i64 0] 28) hb2.out (Below.refl _ _); refine wpList_store_row rfl 46 (.tmp 2) (.tmp 18) rfl w.heap.size msg0 rfl rfl 46 _ q1 (by kernel_rfl) rfl (msg_one5 _ _ _ _ _ _ _) ?_))
      exact ret_box2 (g := w.heap.size) rfl (by rfl) (setRow_heap _ _ _ _ _ _ q1) rfl Try.underlying46 (by kernel_rfl) rfl (GetM.no HN.out rfl (q2 _))
  · have h6' : l.length < 6 := by omega
    have hG := GetId_any A l.length cap l W1 hi1
    have hI : getI l = ⟨0, 0, 0, 0⟩ := by unfold getI; rw [if_neg (by omega)]
    have hZ : getZ l = 2 := by unfold getZ; rw [if_neg (by omega)]
    rw [hI, hZ] at hG
    have HN : Hid (¬ mgO l) := fun h => by have := h.1; omega
    simp only [idC, show ((2 : Nat) : Int) = 2 from rfl] at hG
    have HG := Lib.hid hG
    have m1 : ¬ ((6 : Int) ≤ (l.length : Int)) := by omega
    have m2 : (l.length : Int) < 6 := by omega
    have m3 : (l.length : Int) ≤ (cap : Int) := by omega
    have m6 : (min (l.length : Int) 6).toNat = l.length := by omega
    have m7 : (min (l.length : Int) 6) ≤ (cap : Int) := by omega
    clear hi hi1 hG hI hZ b1 h6
    go_enter Try.func86, Try.ntmps86
    go_wp2_with (first
      | (go_at_call 87; rw [HW.out]; with_reducible refine HG.out.mono ?_; rintro e w2 ⟨rfl, hb2⟩)
      | (obtain ⟨q1, q2⟩ := HBE.out _ _ (.cells #[.int .i64 0, .int .i64 0, .int .i64 0, .int .i64 0] 28) hb2.out (Below.refl _ _); refine wpList_store_row rfl 46 (.tmp 2) (.tmp 18) rfl w.heap.size msg0 rfl rfl 46 _ q1 (by kernel_rfl) rfl (msg_one5 _ _ _ _ _ _ _) ?_))
    exact ret_box2 (g := w.heap.size) rfl (by rfl) (setRow_heap _ _ _ _ _ _ q1) rfl Try.underlying46 (by kernel_rfl) rfl (GetM.no HN.out rfl (q2 _))
end Go.Proofs.Ytpofdimagfldnaa.Mg
/- There and back of bytes, as plain data. -/
namespace Go.Proofs.Ytpofdimagfldnaa.Mg
open Go.RowKit
open Go.Proofs.Ytpofdimagfldnaa.Me Go.Proofs.Ytpofdimagfldnaa.Ba Go.Proofs.Ytpofdimagfldnaa.Ma Go.Proofs.Ytpofdimagfldnaa.Bt
set_option linter.unusedVariables false
set_option linter.unusedSimpArgs false

theorem idOf_idL {i : Id4} (h : Right i) : idOf (idL i) = i := by
  obtain ⟨h1, h2, h3, h4, h5, h6, h7, h8, _⟩ := h
  obtain ⟨o, d, e, c⟩ := i
  simp only at h1 h2 h3 h4 h5 h6 h7 h8
  rw [idL_six]
  simp only [idOf, numP, num, List.drop_zero, List.drop_succ_cons, List.take_succ_cons, List.take_zero, List.foldl_cons, List.foldl_nil]
  congr 1
  all_goals omega
theorem six {l : List Nat} (h : l.length = 6) : ∃ a b c d e f, l = [a, b, c, d, e, f] := by
  match l, h with
  | [a, b, c, d, e, f], _ => exact ⟨a, b, c, d, e, f, rfl⟩
theorem idL_idOf {l : List Nat} (h : l.length = 6) (hz : ∀ z ∈ l, z < 256) : idL (idOf l) = l := by
  obtain ⟨a, b, c, d, e, f, rfl⟩ := six h
  simp only [List.mem_cons, List.not_mem_nil, or_false, forall_eq_or_imp, forall_eq] at hz
  obtain ⟨h1, h2, h3, h4, h5, h6⟩ := hz
  rw [idL_six]
  simp only [idOf, numP, num, List.drop_zero, List.drop_succ_cons, List.take_succ_cons, List.take_zero, List.foldl_cons, List.foldl_nil, Int.toNat_natCast]
  simp only [List.cons.injEq, and_true]
  omega
theorem put_get {i : Id4} {l : List Nat} (h : msgN i l.length = 0) : mI (idL i ++ l) = i ∧ mD (idL i ++ l) = l ∧ mZ (idL i ++ l) = 0 := by
  obtain ⟨hr, h1, h2⟩ := msgN_zero h
  have e1 : (idL i ++ l).take 6 = idL i := List.take_left' (idL_len i)
  have e2 : (idL i ++ l).drop 6 = l := List.drop_left' (idL_len i)
  have hl := idL_len i
  have hm : mgO (idL i ++ l) := ⟨by rw [List.length_append]; omega, by rw [List.length_append]; omega, by rw [e1, idOf_idL hr]; exact right_iff.2 hr⟩
  unfold mI mD mZ
  rw [if_pos hm, if_pos hm, if_pos hm, e1, e2]
  exact ⟨idOf_idL hr, rfl, rfl⟩
theorem get_put {l : List Nat} (hz : ∀ z ∈ l, z < 256) (h : mZ l = 0) : msgN (mI l) (mD l).length = 0 ∧ idL (mI l) ++ mD l = l := by
  have hm : mgO l := by
    apply Classical.byContradiction
    intro hn
    unfold mZ at h
    rw [if_neg hn] at h
    cases h
  unfold mI mD
  rw [if_pos hm, if_pos hm]
  obtain ⟨h1, h2, h3⟩ := hm
  refine ⟨?_, ?_⟩
  · unfold msgN
    rw [h3, if_neg (by simp), if_neg (by simp; omega), if_neg (by simp; omega)]
  · rw [idL_idOf (by simp; omega) fun z hz' => hz z (List.mem_of_mem_take hz')]
    exact List.take_append_drop 6 l
end Go.Proofs.Ytpofdimagfldnaa.Mg
/- An event's bytes, the event of bytes: as plain data. -/
namespace Go.Proofs.Ytpofdimagfldnaa.So
open Go.RowKit
open Go.Proofs.Ytpofdimagfldnaa.Mg (idL idL_len idOf getI getZ mI mD mZ mgO)
set_option linter.unusedVariables false
set_option linter.unusedSimpArgs false

/-- The bytes of a right event. -/
def evB (k : Int) (i : Mg.Id4) (p : List Nat) : List Nat := if k = 1 then [1] else if k = 2 then 2 :: (idL i ++ p) else k.toNat :: idL i
def evL (k : Int) (i : Mg.Id4) (p : List Nat) : List Nat := if chkE k i p.length = 0 then evB k i p else []
theorem evL_no {k : Int} {i : Mg.Id4} {p : List Nat} (h : ¬ chkE k i p.length = 0) : evL k i p = [] := if_neg h
theorem evL_ok {k : Int} {i : Mg.Id4} {p : List Nat} (h : chkE k i p.length = 0) : evL k i p = evB k i p := if_pos h
theorem evB_two (i : Mg.Id4) (p : List Nat) : evB 2 i p = 2 :: (idL i ++ p) := by unfold evB; rw [if_neg (by decide), if_pos rfl]
theorem evB_id {k : Int} (h : k = 3 ∨ k = 4) (i : Mg.Id4) (p : List Nat) : evB k i p = k.toNat :: idL i := by unfold evB; rw [if_neg (by omega), if_neg (by omega)]
theorem chk_zero {k : Int} {i : Mg.Id4} {n : Nat} (h : chkE k i n = 0) : (k = 1 ∧ i = zeroI ∧ n = 0) ∨ (k = 2 ∧ Mg.msgN i n = 0) ∨ ((k = 3 ∨ k = 4) ∧ Mg.chkN i = 0 ∧ n = 0) := by
  unfold chkE at h
  by_cases h1 : k = 1
  · rw [if_pos h1] at h
    by_cases h2 : i = zeroI ∧ n = 0
    · exact .inl ⟨h1, h2⟩
    · rw [if_neg h2] at h; cases h
  · rw [if_neg h1] at h
    by_cases h2 : k = 2
    · rw [if_pos h2] at h
      exact .inr (.inl ⟨h2, h⟩)
    · rw [if_neg h2] at h
      by_cases h3 : k = 3 ∨ k = 4
      · rw [if_pos h3] at h
        by_cases h4 : Mg.chkN i = 0
        · rw [if_neg (fun e => e h4)] at h
          by_cases h5 : n = 0
          · exact .inr (.inr ⟨h3, h4, h5⟩)
          · rw [if_neg h5] at h; cases h
        · rw [if_pos h4] at h; exact absurd h h4
      · rw [if_neg h3] at h; cases h
theorem chk_two (i : Mg.Id4) (n : Nat) : chkE 2 i n = Mg.msgN i n := by unfold chkE; rw [if_neg (by decide), if_pos rfl]
theorem chk_id {k : Int} (h : k = 3 ∨ k = 4) (i : Mg.Id4) : chkE k i 0 = Mg.chkN i := by
  unfold chkE
  rw [if_neg (by omega), if_neg (by omega), if_pos h]
  by_cases h4 : Mg.chkN i = 0
  · rw [if_neg (fun e => e h4), if_pos rfl, h4]
  · rw [if_pos h4]
theorem chk_one (i : Mg.Id4) : chkE 1 i 0 = if i = zeroI then 0 else 2 := by unfold chkE; rw [if_pos rfl]; by_cases h : i = zeroI <;> simp [h]
theorem evB_lt {k : Int} {i : Mg.Id4} {p : List Nat} (h : chkE k i p.length = 0) (hp : ∀ z ∈ p, z < 256) : ∀ z ∈ evB k i p, z < 256 := by
  intro z hz
  rcases chk_zero h with ⟨rfl, _⟩ | ⟨rfl, _⟩ | ⟨hk, _⟩
  · unfold evB at hz
    rw [if_pos rfl] at hz
    simp at hz; omega
  · rw [evB_two] at hz
    rcases List.mem_cons.1 hz with rfl | hz
    · omega
    · rcases List.mem_append.1 hz with hz | hz
      · exact Mg.bytK_lt i 4 z hz
      · exact hp z hz
  · rw [evB_id hk] at hz
    rcases List.mem_cons.1 hz with rfl | hz
    · omega
    · exact Mg.bytK_lt i 4 z hz
theorem evL_lt {k : Int} {i : Mg.Id4} {p : List Nat} (hp : ∀ z ∈ p, z < 256) : ∀ z ∈ evL k i p, z < 256 := by
  by_cases h : chkE k i p.length = 0
  · rw [evL_ok h]; exact evB_lt h hp
  · rw [evL_no h]; intro z hz; cases hz

/-! ### The event of bytes -/
/-- Are bytes behind the kind those of an event of it? -/
def geO (k : Int) (r : List Nat) : Bool := if k = 1 then decide (r = []) else if k = 2 then decide (mgO r) else if k = 3 ∨ k = 4 then decide (getZ r = 0) else false
def geI (k : Int) (r : List Nat) : Mg.Id4 := if geO k r = true then (if k = 2 then mI r else if k = 1 then zeroI else getI r) else zeroI
def geD (k : Int) (r : List Nat) : List Nat := if geO k r = true ∧ k = 2 then mD r else []
def geK (l : List Nat) : Int := match l with | [] => 0 | k :: r => if geO k r = true then k else 0
def geZ (l : List Nat) : Nat := match l with | [] => 2 | k :: r => if geO k r = true then 0 else 2
def gI (l : List Nat) : Mg.Id4 := match l with | [] => zeroI | k :: r => geI k r
def gD (l : List Nat) : List Nat := match l with | [] => [] | k :: r => geD k r
theorem getI_zero {r : List Nat} (h : ¬ getZ r = 0) : getI r = zeroI := by
  unfold getZ at h
  unfold getI
  by_cases hc : r.length = 6 ∧ Mg.chkN (idOf r) = 0
  · rw [if_pos hc] at h; exact absurd rfl h
  · rw [if_neg hc]; rfl
theorem getZ_zero {r : List Nat} (h : getZ r = 0) : r.length = 6 ∧ Mg.chkN (idOf r) = 0 ∧ getI r = idOf r := by
  unfold getZ at h
  by_cases hc : r.length = 6 ∧ Mg.chkN (idOf r) = 0
  · exact ⟨hc.1, hc.2, by unfold getI; rw [if_pos hc]⟩
  · rw [if_neg hc] at h; cases h
theorem chk_zeroI : Mg.chkN zeroI = 1 := by decide
theorem mI_no {r : List Nat} (h : ¬ mgO r) : mI r = zeroI ∧ mD r = [] := by
  unfold mI mD
  rw [if_neg h, if_neg h]
  exact ⟨rfl, rfl⟩
theorem mZ_zero {r : List Nat} : mZ r = 0 ↔ mgO r := by
  unfold mZ
  by_cases h : mgO r
  · rw [if_pos h]; simp [h]
  · rw [if_neg h]; simp [h]
/-- What the document's look at the bytes finds: the event they would be, put, is they. -/
theorem ref_get {k : Nat} {r : List Nat} (hk : k < 256) (hr : ∀ z ∈ r, z < 256) :
    ((k : Int) = 2 → ((chkE 2 (mI r) (mD r).length = 0 ∧ evB 2 (mI r) (mD r) = k :: r) ↔ geO k r = true)) ∧
    (¬ (k : Int) = 2 → ((chkE k (getI r) 0 = 0 ∧ evB k (getI r) [] = k :: r) ↔ geO k r = true)) := by
  constructor
  · intro h2
    have hk2 : k = 2 := by omega
    subst hk2
    have eo : geO ((2 : Nat) : Int) r = decide (mgO r) := by unfold geO; rw [if_neg (by decide), if_pos (by decide)]
    rw [eo, evB_two, chk_two]
    constructor
    · rintro ⟨h, _⟩
      apply Classical.byContradiction
      intro hn
      have hn' : ¬ mgO r := by simpa using hn
      rw [(mI_no hn').1, (mI_no hn').2] at h
      revert h
      decide
    · intro h
      have hm : mgO r := by simpa using h
      obtain ⟨h1, h3⟩ := Mg.get_put hr (mZ_zero.2 hm)
      exact ⟨h1, by rw [h3]⟩
  · intro h2
    by_cases h1 : k = 1
    · subst h1
      have eo : geO ((1 : Nat) : Int) r = decide (r = []) := by unfold geO; rw [if_pos (by decide)]
      have e1 : evB ((1 : Nat) : Int) (getI r) [] = [1] := by unfold evB; rw [if_pos (by decide)]
      rw [eo, e1]
      constructor
      · rintro ⟨_, h⟩
        simp only [List.cons.injEq, true_and] at h
        simp [← h]
      · intro h
        have hn : r = [] := by simpa using h
        subst hn
        exact ⟨by decide, rfl⟩
    · by_cases h3 : (k : Int) = 3 ∨ (k : Int) = 4
      · have eo : geO (k : Int) r = decide (getZ r = 0) := by unfold geO; rw [if_neg (by omega), if_neg h2, if_pos h3]
        rw [eo, chk_id h3, evB_id h3]
        constructor
        · rintro ⟨h, _⟩
          apply Classical.byContradiction
          intro hn
          have hn' : ¬ getZ r = 0 := by simpa using hn
          rw [getI_zero hn', chk_zeroI] at h
          cases h
        · intro h
          have hz : getZ r = 0 := by simpa using h
          obtain ⟨q1, q2, q3⟩ := getZ_zero hz
          rw [q3]
          exact ⟨q2, by rw [Mg.idL_idOf q1 hr]; rfl⟩
      · have eo : geO (k : Int) r = false := by unfold geO; rw [if_neg (by omega), if_neg h2, if_neg h3]
        rw [eo]
        constructor
        · rintro ⟨h, _⟩
          rcases chk_zero h with ⟨h, _⟩ | ⟨h, _⟩ | ⟨h, _⟩
          · omega
          · exact absurd h h2
          · exact absurd h h3
        · intro h; cases h
/-- What is got, put, is as it was. -/
theorem ge_back {l : List Nat} (hl : ∀ z ∈ l, z < 256) (h : geZ l = 0) : chkE (geK l) (gI l) (gD l).length = 0 ∧ evB (geK l) (gI l) (gD l) = l := by
  cases l with
  | nil => cases h
  | cons k r =>
    have hk : k < 256 := hl k (by simp)
    have hr : ∀ z ∈ r, z < 256 := fun z hz => hl z (by simp [hz])
    have ho : geO k r = true := by
      apply Classical.byContradiction
      intro hn
      have h' : (if geO (k : Int) r = true then 0 else 2) = 0 := h
      rw [if_neg hn] at h'
      cases h'
    obtain ⟨r1, r2⟩ := ref_get hk hr
    have eK : geK (k :: r) = k := by show (if geO k r = true then (k : Int) else 0) = k; rw [if_pos ho]
    rw [eK]
    show chkE k (geI k r) (geD k r).length = 0 ∧ evB k (geI k r) (geD k r) = k :: r
    by_cases h2 : (k : Int) = 2
    · have := (r1 h2).2 ho
      unfold geI geD
      rw [if_pos ho, if_pos h2, if_pos ⟨ho, h2⟩, h2]
      exact this
    · have := (r2 h2).2 ho
      have eI : geI (k : Int) r = if (k : Int) = 1 then zeroI else getI r := by unfold geI; rw [if_pos ho, if_neg h2]
      have eD : geD (k : Int) r = [] := by unfold geD; rw [if_neg (fun e => h2 e.2)]
      rw [eI, eD]
      by_cases h1 : (k : Int) = 1
      · rw [if_pos h1]
        have hk1 : k = 1 := by omega
        subst hk1
        have hrn : r = [] := by
          unfold geO at ho
          rw [if_pos (by decide)] at ho
          simpa using ho
        subst hrn
        exact ⟨by decide, rfl⟩
      · rw [if_neg h1]
        exact this
/-- What is put, got, is as it was. -/
theorem ev_back {k : Int} {i : Mg.Id4} {p : List Nat} (h : chkE k i p.length = 0) : geZ (evB k i p) = 0 ∧ geK (evB k i p) = k ∧ gI (evB k i p) = i ∧ gD (evB k i p) = p := by
  rcases chk_zero h with ⟨rfl, rfl, hp⟩ | ⟨rfl, hm⟩ | ⟨hk, hz, hp⟩
  · have : p = [] := List.eq_nil_of_length_eq_zero hp
    subst this
    have e1 : evB 1 zeroI [] = [1] := rfl
    rw [e1]
    exact ⟨by decide, by decide, by decide, by decide⟩
  · rw [evB_two]
    obtain ⟨h1, h2, h3⟩ := Mg.put_get hm
    have ho : geO ((2 : Nat) : Int) (idL i ++ p) = true := by unfold geO; rw [if_neg (by decide), if_pos (by decide)]; simpa using mZ_zero.1 h3
    refine ⟨?_, ?_, ?_, ?_⟩
    · show (if geO ((2 : Nat) : Int) (idL i ++ p) = true then 0 else 2) = 0
      rw [if_pos ho]
    · show (if geO ((2 : Nat) : Int) (idL i ++ p) = true then ((2 : Nat) : Int) else 0) = 2
      rw [if_pos ho]; rfl
    · show geI ((2 : Nat) : Int) (idL i ++ p) = i
      unfold geI
      rw [if_pos ho, if_pos (by decide), h1]
    · show geD ((2 : Nat) : Int) (idL i ++ p) = p
      unfold geD
      rw [if_pos ⟨ho, by decide⟩, h2]
  · have : p = [] := List.eq_nil_of_length_eq_zero hp
    subst this
    rw [evB_id hk]
    have hR := Mg.right_iff.1 hz
    have hl := idL_len i
    have hid : idOf (idL i) = i := Mg.idOf_idL hR
    have hzz : getZ (idL i) = 0 := by unfold getZ; rw [if_pos ⟨hl, by rw [hid]; exact hz⟩]
    have hgi : getI (idL i) = i := by rw [(getZ_zero hzz).2.2, hid]
    have hkk : ((k.toNat : Nat) : Int) = k := by omega
    have ho : geO ((k.toNat : Nat) : Int) (idL i) = true := by
      rw [hkk]
      unfold geO
      rw [if_neg (by omega), if_neg (by omega), if_pos hk]
      simpa using hzz
    refine ⟨?_, ?_, ?_, ?_⟩
    · show (if geO ((k.toNat : Nat) : Int) (idL i) = true then 0 else 2) = 0
      rw [if_pos ho]
    · show (if geO ((k.toNat : Nat) : Int) (idL i) = true then ((k.toNat : Nat) : Int) else 0) = k
      rw [if_pos ho, hkk]
    · show geI ((k.toNat : Nat) : Int) (idL i) = i
      unfold geI
      rw [if_pos ho, hkk, if_neg (by omega), if_neg (by omega), hgi]
    · show geD ((k.toNat : Nat) : Int) (idL i) = []
      unfold geD
      rw [hkk, if_neg (by rintro ⟨_, h⟩; omega)]
end Go.Proofs.Ytpofdimagfldnaa.So
