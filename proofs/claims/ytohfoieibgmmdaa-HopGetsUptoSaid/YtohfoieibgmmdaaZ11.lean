/- The contract of bytes.Clone. -/
import Derived.Test.YtohfoieibgmmdaaZ1
import Derived.Test.YtohfoieibgmmdaaMgRGet
import Derived.Test.YtohfoieibgmmdaaZ9
import Derived.Lib.SliceRun
namespace Go.Proofs.Ytohfoieibgmmdaa.Hd
open Go.RowKit
open Go.Proofs.Ytohfoieibgmmdaa.Me
set_option linter.unusedVariables false
set_option linter.unusedSimpArgs false

theorem BClone_any (A : Option Addr) (cap B : Nat) (l : List Nat) (w : World) (hr : Hid (Rd w B A l)) (hA : Hid (A = none → l.length = 0 ∧ cap = 0)) (hB : B ≤ w.heap.size) (hc : l.length ≤ 140737488355328) :
    Calls Try.prog 89 #[.slice A l.length cap] w fun e w' => ∃ v, e = .returned v ∧ Hid (Me.Own w' w.heap.size v l) ∧ Hid (Below w.heap.size w w') := by
  have ke := fun (w : World) (a : Option Addr) (n c : Nat) => Lib.run_eql_slice_nil (P := Try.prog) w 24 5 a n c 0 0 Try.underlying24
  rcases A with _ | ad
  · obtain ⟨h1, rfl⟩ := hA.out rfl
    obtain rfl : l = [] := List.eq_nil_of_length_eq_zero h1
    go_enter Try.func89, Try.ntmps89
    go_wp2
    go_ret
    exact ⟨_, rfl, Me.Own.nil _ _, Below.refl _ _⟩
  · go_enter Try.func89, Try.ntmps89
    go_wp2_with (at_builtin; refine app8 rfl (.tmp 5) (.tmp 6) rfl w.heap.size B _ [] l rfl (Me.Own.lit (Below.refl _ _)) (below_alloc (Below.refl _ _)) (by simp) (some ad) cap rfl (hr.out.below ((Below.refl _ _).alloc hB _)) hA.out (by simp; omega) ?_; intro v2 w2 ho2 hb2 _; have HO2 := Lib.hid ho2; have HB2 := Lib.hid hb2; clear ho2 hb2)
    go_ret
    exact ⟨_, rfl, HO2, HB2⟩
end Go.Proofs.Ytohfoieibgmmdaa.Hd
/- The message of bytes: Get. -/
namespace Go.Proofs.Ytohfoieibgmmdaa.Mg
open Go.RowKit
open Go.Proofs.Ytohfoieibgmmdaa.Me Go.Proofs.Ytohfoieibgmmdaa.Ba Go.Proofs.Ytohfoieibgmmdaa.Ma Go.Proofs.Ytohfoieibgmmdaa.Bt Go.Proofs.Ytohfoieibgmmdaa.Hd
set_option linter.unusedVariables false
set_option linter.unusedSimpArgs false

def mgO (l : List Nat) : Prop := 7 ≤ l.length ∧ l.length ≤ 54 ∧ chkN (idOf (l.take 6)) = 0
instance (l : List Nat) : Decidable (mgO l) := by unfold mgO; infer_instance
def mI (l : List Nat) : Id4 := if mgO l then idOf (l.take 6) else ⟨0, 0, 0, 0⟩
def mD (l : List Nat) : List Nat := if mgO l then l.drop 6 else []
def mZ (l : List Nat) : Nat := if mgO l then 0 else 2
/-- What Get answers. -/
def GetM (l : List Nat) (w : World) (e : Ending) (w' : World) : Prop :=
  ∃ A c, e = .returned (.tuple #[.agg (msgC (mI l) A (mD l).length c), .int .i64 (mZ l : Int)]) ∧ Hid (Own w' w.heap.size (.slice A (mD l).length c) (mD l)) ∧ Hid (Below w.heap.size w w')
def msg0 : Array Value := #[.int .i64 0, .int .i64 0, .int .i64 0, .int .i64 0, .slice none 0 0]
theorem GetM.no {l : List Nat} {w w' : World} {e : Ending} (h : ¬ mgO l) (he : e = .returned (.tuple #[.agg msg0, .int .i64 2])) (hb : Below w.heap.size w w') : GetM l w e w' := by
  unfold GetM mI mD mZ
  rw [if_neg h, if_neg h, if_neg h]
  exact ⟨none, 0, he, Own.nil _ _, hb⟩
theorem GetM.ok {l : List Nat} {w w' : World} {e : Ending} {j : Id4} {A : Option Addr} {r c : Nat} (h : mgO l) (hj : idOf (l.take 6) = j) (hr : (l.drop 6).length = r) (he : e = .returned (.tuple #[.agg (msgC j A r c), .int .i64 ((0 : Nat) : Int)])) (ho : Own w' w.heap.size (.slice A r c) (l.drop 6)) (hb : Below w.heap.size w w') : GetM l w e w' := by
  subst hj hr
  unfold GetM mI mD mZ
  rw [if_pos h, if_pos h, if_pos h]
  exact ⟨A, c, he, ho, hb⟩
theorem msg_one5 (o d ee c : Int) (A : Option Addr) (n cp : Nat) : (#[.int .i64 o, .int .i64 d, .int .i64 ee, .int .i64 c, .slice A n cp] : Array Value).all (·.oneCell') = true := by simp [Value.oneCell']
theorem by_take {w : World} {a : Addr} {n c : Nat} {l : List Nat} (h : BySlice w (some a) n c l) {k : Nat} (hk : k ≤ l.length) : BySlice w (some a) k c (l.take k) :=
  ⟨by simp; omega, by have := h.2.1; simp; omega, h.2.2.1, h.2.2.2.1.take k, fun e => by cases e⟩
theorem own_setRow {w : World} {B g : Nat} {v : Value} {l : List Nat} (cs : Array Value) (h : Own w B v l) (hg : v.ownBlock ≠ some g) : Own (w.setRow g cs) B v l :=
  own_same h fun k e _ => setRow_other _ _ k _ (fun e2 => hg (by rw [e, e2]))
theorem own_ty {V : World} {B D T : Nat} {v : Value} {l : List Nat} {old : Array Value} {f : Nat × Nat} (h : Own V B v l) (hD : V.heap[D]? = some (.cells old T f)) (hT : T ≠ 5) : v.ownBlock ≠ some D := by
  rcases h.2 with ⟨rfl, _⟩ | ⟨g, cap, cur, rfl, _, h3, _⟩
  · simp [Value.ownBlock]
  · intro e
    obtain rfl : g = D := by simpa [Value.ownBlock] using e
    rw [h3] at hD
    simp at hD
    exact hT hD.2.1.symm
theorem get_end {w W1 w5 w6 : World} {D g r c : Nat} {l : List Nat} {x : Value} (cs : Array Value) (hD : W1.heap.size ≤ D ∧ D < w5.heap.size) (h01 : w.heap.size < W1.heap.size) (h6 : Below W1.heap.size W1 w6) (hb : Below w.heap.size w W1) (ho : Own w6 w5.heap.size (.slice (some ⟨g, 0, none⟩) r c) l) :
    Own ((w6.setCell ⟨D, 4, none⟩ x).setRow w.heap.size cs) w.heap.size (.slice (some ⟨g, 0, none⟩) r c) l ∧ Below w.heap.size w ((w6.setCell ⟨D, 4, none⟩ x).setRow w.heap.size cs) := by
  have hg : w5.heap.size ≤ g := (ho.lt g rfl).1
  refine ⟨own_setRow cs (own_same (own_base ho fun k e => ?_) fun k e _ => Below.heap_setCell _ _ _ _ ?_) ?_, below_setRow cs ?_ (Nat.le_refl _)⟩
  · obtain rfl : g = k := by simpa [Value.ownBlock] using e
    omega
  · obtain rfl : g = k := by simpa [Value.ownBlock] using e
    show g ≠ D; omega
  · intro e
    have : g = w.heap.size := by simpa [Value.ownBlock] using e
    omega
  · have e := hb.trans (h6.mono hb.size)
    exact ⟨e.os, e.tape, e.output, by simpa using e.size, fun b hb' => (Below.heap_setCell _ _ _ _ (by show b ≠ D; omega)).trans (e.block b hb')⟩
set_option maxRecDepth 100000 in
set_option maxHeartbeats 8000000 in
theorem Get_any (A : Option Addr) (n cap : Nat) (l : List Nat) (w : World) (hi : Hid (BySlice w A n cap l)) :
    Calls Try.prog 73 #[.slice A n cap] w (GetM l w) := by
  obtain rfl : n = l.length := hi.out.1
  obtain ⟨W1, hW1⟩ : ∃ W, w.alloc (.cells #[.int .i64 0, .int .i64 0, .int .i64 0, .int .i64 0, .slice none 0 0] 26) = W := ⟨_, rfl⟩
  have b1 : Below w.heap.size w W1 := by rw [← hW1]; exact Me.below_alloc (Below.refl _ _)
  have z1 : W1.heap.size = w.heap.size + 1 := by rw [← hW1]; simp
  have r1 : W1.heap[w.heap.size]? = some (.cells #[.int .i64 0, .int .i64 0, .int .i64 0, .int .i64 0, .slice none 0 0] 26 (0, 0)) := by
    rw [← hW1]
    exact heap_alloc_new w _
  have hi1 : BySlice W1 A l.length cap l := by_below hi.out b1
  have HW := Lib.hid hW1; have B1 := Lib.hid b1; have Z1 := Lib.hid z1; have R1 := Lib.hid r1
  have hlc := hi.out.2.1
  have hcm := hi.out.2.2.1
  have HBE : Hid (∀ w2 w3 x, Below W1.heap.size W1 w2 → Below (w2.alloc x).heap.size (w2.alloc x) w3 → w3.heap[w.heap.size]? = some (.cells #[.int .i64 0, .int .i64 0, .int .i64 0, .int .i64 0, .slice none 0 0] 26 (0, 0)) ∧ ∀ cs, Below w.heap.size w (w3.setRow w.heap.size cs)) := fun w2 w3 x h2 h3 => by
    have e2 := Me.below_alloc (o := x) h2
    have e3 := e2.trans (h3.mono e2.size)
    exact ⟨(e3.block _ (by omega)).trans r1, fun cs => below_setRow cs (b1.trans (e3.mono b1.size)) (Nat.le_refl _)⟩
  clear hW1 z1 r1
  by_cases h6 : 6 ≤ l.length
  · obtain ⟨b, off, rfl, hbl, hc⟩ := hi.out.2.2.2.1.2 (by omega)
    have hG := GetId_any (some ⟨b, off, none⟩) 6 cap (l.take 6) W1 (by_take hi1 h6)
    have hl6 : (l.take 6).length = 6 := by simp; omega
    by_cases hk : chkN (idOf (l.take 6)) = 0
    · have hI : getI (l.take 6) = idOf (l.take 6) := by unfold getI; rw [if_pos ⟨hl6, hk⟩]
      have hZ : getZ (l.take 6) = 0 := by unfold getZ; rw [if_pos ⟨hl6, hk⟩]
      rw [hI, hZ] at hG
      obtain ⟨j, hj⟩ : ∃ j, idOf (l.take 6) = j := ⟨_, rfl⟩
      rw [hj] at hG hk
      have HJ := Lib.hid hj
      clear hj
      obtain ⟨r, hr⟩ : ∃ r, l.length = 6 + r := ⟨l.length - 6, by omega⟩
      obtain ⟨R, hR⟩ : ∃ R, cap = 6 + R := ⟨cap - 6, by omega⟩
      have hMN : msgN j r = if r = 0 then 2 else if 48 < r then 3 else 0 := by unfold msgN; rw [if_neg (by simp [hk])]
      obtain ⟨A', hA'⟩ : ∃ A', (if R = 0 then (some ⟨b, off, none⟩ : Option Addr) else some ⟨b, off + 6, none⟩) = A' := ⟨_, rfl⟩
      have HRD : Hid (∀ W, Below w.heap.size w W → Rd W w.heap.size A' (l.drop 6)) := fun W hW => by
        have := (hi.out.2.2.2.1.below hW).drop 6
        rw [← hA']
        split
        · exact ⟨fun z hz => this.1 z hz, fun h => by simp at h; omega⟩
        · exact this
      have HAN : Hid (A' = none → (l.drop 6).length = 0 ∧ R = 0) := fun e => by rw [← hA'] at e; split at e <;> cases e
      have HA' := Lib.hid hA'
      clear hA'
      have HK := Lib.hid (fun W => CheckMsg_any j A' r R W)
      obtain ⟨o, dd, ee, cc⟩ := j
      simp only [idC, show ((0 : Nat) : Int) = 0 from rfl] at hG
      simp only [msgC] at HK
      have HG := Lib.hid hG
      have hdl : (l.drop 6).length = r := by simp [hr]
      obtain ⟨L, hL⟩ : ∃ L, l.length = L := ⟨_, rfl⟩
      rw [hL] at h6 hr hlc hi hi1 ⊢
      subst hr hR
      have HMG : Hid (mgO l ↔ msgN ⟨o, dd, ee, cc⟩ r = 0) := by
        refine Lib.hid ⟨fun h => ?_, fun h => ?_⟩
        · rw [hMN, if_neg (by have := h.1; omega), if_neg (by have := h.2.1; omega)]
        · have h2 := msgN_zero h
          exact ⟨by omega, by omega, by rw [HJ.out]; exact hk⟩
      have m1 : ¬ (((6 + r : Nat) : Int) < 6) := by omega
      have m2 : (6 : Int) ≤ ((6 + r : Nat) : Int) := by omega
      have m3 : 6 ≤ 6 + R := by omega
      have m4 : (6 : Int) ≤ ((6 + R : Nat) : Int) := by omega
      have m5 : 6 ≤ 6 + r := by omega
      have m6 : (min (6 + (r : Int)) 6).toNat = 6 := by omega
      have m7 : 6 ≤ 6 + (r : Int) := by omega
      have m8 : 6 ≤ 6 + (R : Int) := by omega
      clear hi hi1 hc hG hl6 hk hI hZ b1
      go_enter Try.func73, Try.ntmps73
      go_wp2_with (first
        | (go_at_call 74; rw [HW.out]; with_reducible refine HG.out.mono ?_; rintro e w2 ⟨rfl, hb2⟩))
      obtain ⟨W4, hW4⟩ : ∃ W4, w2.alloc (.cells #[.int .i64 o, .int .i64 dd, .int .i64 ee, .int .i64 cc] 23) = W4 := ⟨_, rfl⟩
      have g4 : Below W1.heap.size W1 W4 := by rw [← hW4]; exact Me.below_alloc hb2.out
      have z4 : w2.heap.size < W4.heap.size := by rw [← hW4]; simp
      have r4 : W4.heap[w2.heap.size]? = some (.cells #[.int .i64 o, .int .i64 dd, .int .i64 ee, .int .i64 cc] 23 (0, 0)) := by
        rw [← hW4]
        exact heap_alloc_new w2 _
      rw [hW4]
      have HC : Hid (∀ W, Below W4.heap.size W4 W → W.cell? ⟨w2.heap.size, 0, none⟩ = some (.int .i64 o) ∧ W.cell? ⟨w2.heap.size, 1, none⟩ = some (.int .i64 dd) ∧ W.cell? ⟨w2.heap.size, 2, none⟩ = some (.int .i64 ee) ∧ W.cell? ⟨w2.heap.size, 3, none⟩ = some (.int .i64 cc)) := fun W hW => by
        have h := (hW.block _ z4).trans r4
        exact ⟨cell_of_row W _ 0 _ _ (0, 0) h, cell_of_row W _ 1 _ _ (0, 0) h, cell_of_row W _ 2 _ _ (0, 0) h, cell_of_row W _ 3 _ _ (0, 0) h⟩
      have G4 := Lib.hid g4
      have S0 := (Below.refl W4.heap.size W4).drew
      clear hW4 z4 r4 g4 hb2 HG HBE
      refine wp_region_held_drew (S := fun W => Below W4.heap.size W4 W) (by kernel_rfl) S0 (fun hHeld => ?_)
      refine wpAnyH_take (i := 0) (v := .agg #[.int .i64 o, .int .i64 dd, .int .i64 ee, .int .i64 cc]) rfl (by kernel_rfl) (by kernel_rfl) (by kernel_rfl) (fun _ _ _ h => h) (Or.inl ⟨by rfl, ?_⟩) (by first | assumption | exact trivial) ?_
      · intro W hSW; obtain ⟨y0, y1, y2, y3⟩ := HC.out W hSW; go_simp; try (with_reducible rfl)
      simp only [Act.put, List.getElem_toArray, List.getElem_cons_succ, List.getElem_cons_zero, List.setIfInBounds_toArray, List.set_cons_zero, List.set_cons_succ]
      refine wpAnyH_take (i := 1) (v := .slice (some ⟨b, off, none⟩) (6 + r) (6 + R)) rfl (by kernel_rfl) (by kernel_rfl) (by kernel_rfl) (fun _ _ _ h => h) (Or.inl ⟨by rfl, ?_⟩) (by first | assumption | exact trivial) ?_
      · intro W hSW; go_simp; try (with_reducible rfl)
      simp only [Act.put, List.getElem_toArray, List.getElem_cons_succ, List.getElem_cons_zero, List.setIfInBounds_toArray, List.set_cons_zero, List.set_cons_succ]
      refine wpAnyH_take (i := 2) (v := .slice A' r R) rfl (by kernel_rfl) (by kernel_rfl) (by kernel_rfl) (fun _ _ _ h => h) (Or.inl ⟨by rfl, ?_⟩) (by first | assumption | exact trivial) ?_
      · intro W hSW; rw [← HA'.out]; go_simp; try (with_reducible rfl)
      simp only [Act.put, List.getElem_toArray, List.getElem_cons_succ, List.getElem_cons_zero, List.setIfInBounds_toArray, List.set_cons_zero, List.set_cons_succ]
      refine wpAnyH_take (i := 3) (v := .agg #[.int .i64 o, .int .i64 dd, .int .i64 ee, .int .i64 cc, .slice A' r R]) rfl (by kernel_rfl) (by kernel_rfl) (by kernel_rfl) (fun _ _ _ h => h) (Or.inl ⟨by rfl, ?_⟩) (by first | assumption | exact trivial) ?_
      · intro W hSW; go_simp; try (with_reducible rfl)
      simp only [Act.put, List.getElem_toArray, List.getElem_cons_succ, List.getElem_cons_zero, List.setIfInBounds_toArray, List.set_cons_zero, List.set_cons_succ]
      refine wpAnyH_ready (rs := [4]) (by kernel_rfl) (by simp) ?_
      refine AllReadyH.cons rfl (fun K hK => ?_) AllReadyH.nil
      go_simp
      obtain ⟨V6, hV6⟩ : ∃ V, (W4.alloc (.cells #[.int .i64 0, .int .i64 0, .int .i64 0, .int .i64 0, .slice none 0 0] 26)).drew = V := ⟨_, rfl⟩
      have hb6 : Below W4.heap.size W4 V6 := by rw [← hV6]; exact (Me.below_alloc (Below.refl _ _)).drew
      have hD6 : V6.heap[W4.heap.size]? = some (.cells #[.int .i64 0, .int .i64 0, .int .i64 0, .int .i64 0, .slice none 0 0] 26 (0, 0)) := by rw [← hV6]; exact heap_alloc_new W4 _
      rw [hV6]
      clear hV6
      obtain ⟨D, hDD⟩ : ∃ D, W4.heap.size = D := ⟨_, rfl⟩
      have hd := Lib.hid hDD
      rw [hDD] at hD6 ⊢
      refine hK.out _ _ (hb6) (fun hHeld => ?_)
      clear hK K
      refine wpAnyH_ready (rs := [5]) (by kernel_rfl) (by simp) ?_
      refine AllReadyH.cons rfl (fun K hK => ?_) AllReadyH.nil
      rw [if_pos (by kernel_rfl)]
      refine wp_store_row 26 (.tmp 6) (.tmp 23) rfl D #[.int .i64 o, .int .i64 dd, .int .i64 ee, .int .i64 cc, .slice A' r R] rfl (by rfl) 26 _ hD6 (by kernel_rfl) rfl (msg_one5 _ _ _ _ _ _ _) ?_
      simp only [Act.put, List.getElem_toArray, List.getElem_cons_succ, List.getElem_cons_zero, List.setIfInBounds_toArray, List.set_cons_zero, List.set_cons_succ]
      obtain ⟨V9, hV9⟩ : ∃ V, V6.setRow D #[.int .i64 o, .int .i64 dd, .int .i64 ee, .int .i64 cc, .slice A' r R] = V := ⟨_, rfl⟩
      have hb9 : Below W4.heap.size W4 V9 := by
        rw [← hV9]
        exact below_setRow _ hb6 (Nat.le_of_eq hd.out)
      have hD9 : V9.heap[D]? = some (.cells #[.int .i64 o, .int .i64 dd, .int .i64 ee, .int .i64 cc, .slice A' r R] 26 (0, 0)) := by rw [← hV9]; exact setRow_heap _ _ _ _ _ _ hD6
      rw [hV9]
      refine hK.out _ _ (hb9) (fun hHeld => ?_)
      clear hK K
      refine wpAnyH_done (by kernel_rfl) ?_ _
      have HD9 := Lib.hid hD9
      have f0 : V9.cell? ⟨D, 0, none⟩ = some (.int .i64 o) := cell_of_row V9 D 0 _ _ (0, 0) hD9
      have f1 : V9.cell? ⟨D, 1, none⟩ = some (.int .i64 dd) := cell_of_row V9 D 1 _ _ (0, 0) hD9
      have f2 : V9.cell? ⟨D, 2, none⟩ = some (.int .i64 ee) := cell_of_row V9 D 2 _ _ (0, 0) hD9
      have f3 : V9.cell? ⟨D, 3, none⟩ = some (.int .i64 cc) := cell_of_row V9 D 3 _ _ (0, 0) hD9
      have f4 : V9.cell? ⟨D, 4, none⟩ = some (.slice A' r R) := cell_of_row V9 D 4 _ _ (0, 0) hD9
      have G9 : Hid (Below W1.heap.size W1 V9) := G4.out.trans (hb9.mono G4.out.size)
      have HDl : Hid (W1.heap.size ≤ D ∧ D < V9.heap.size) := ⟨by have := G4.out.size; have := hd.out; omega, (Array.getElem?_eq_some_iff.1 hD9).1⟩
      have HFin : Hid (∀ V, Below V9.heap.size V9 V → V.heap[w.heap.size]? = some (.cells #[.int .i64 0, .int .i64 0, .int .i64 0, .int .i64 0, .slice none 0 0] 26 (0, 0)) ∧ V.heap[D]? = some (.cells #[.int .i64 o, .int .i64 dd, .int .i64 ee, .int .i64 cc, .slice A' r R] 26 (0, 0)) ∧ Below W1.heap.size W1 V) := fun V hV => by
        have e := G9.out.trans (hV.mono G9.out.size)
        exact ⟨(e.block _ (by have := Z1.out; omega)).trans R1.out, (hV.block _ HDl.out.2).trans HD9.out, e⟩
      clear hV9 hb6 hD6 hb9 hD9 S0 hDD HC hHeld HA' HW m1 m2 m3 m4 m5 m6 m7 m8
      by_cases hm : msgN ⟨o, dd, ee, cc⟩ r = 0
      · obtain ⟨_, h1, h48⟩ := msgN_zero hm
        rw [hm] at HK
        have HCL : Hid (∀ W, Below W1.heap.size W1 W → Calls Try.prog 89 #[.slice A' r R] W fun e w' => ∃ v, e = .returned v ∧ Hid (Me.Own w' W.heap.size v (l.drop 6)) ∧ Hid (Below W.heap.size W w')) := fun W hW => by
          have hw := B1.out.trans (hW.mono B1.out.size)
          have := BClone_any A' R w.heap.size (l.drop 6) W (HRD.out W hw) HAN.out hw.size (by omega)
          rw [hdl] at this
          exact this
        have hmg := HMG.out.2 hm
        have HOK := Lib.hid (fun g c w' h1 h2 => GetM.ok (w := w) (w' := w') (A := some ⟨g, 0, none⟩) (c := c) hmg HJ.out hdl rfl h1 h2)
        simp only [msgC, show ((0 : Nat) : Int) = 0 from rfl] at HK HOK
        have HR : Hid (0 < (l.drop 6).length) := by show _ < _; omega
        have HDL := Lib.hid hdl
        clear hMN HJ hdl h1 h48 hm hmg HMG hcm hlc h6 HRD HAN
        go_wp2_with (first
          | (go_at_call 63; refine (HK.out _).mono ?_; rintro e w5 ⟨rfl, hb5⟩; obtain ⟨q1, q2, q3⟩ := HFin.out w5 hb5.out; have Q3 := Lib.hid q3; clear q1 q3; have e0 : w5.cell? ⟨D, 0, none⟩ = some (.int .i64 o) := cell_of_row w5 D 0 _ _ (0, 0) q2; have e1 : w5.cell? ⟨D, 1, none⟩ = some (.int .i64 dd) := cell_of_row w5 D 1 _ _ (0, 0) q2; have e2 : w5.cell? ⟨D, 2, none⟩ = some (.int .i64 ee) := cell_of_row w5 D 2 _ _ (0, 0) q2; have e3 : w5.cell? ⟨D, 3, none⟩ = some (.int .i64 cc) := cell_of_row w5 D 3 _ _ (0, 0) q2; have e4 : w5.cell? ⟨D, 4, none⟩ = some (.slice A' r R) := cell_of_row w5 D 4 _ _ (0, 0) q2; clear q2)
          | (go_at_call 89; refine (HCL.out _ Q3.out).mono ?_; rintro e w6 ⟨v, rfl, ho6, hb6⟩; obtain ⟨g, c, rfl, hg1, hg2⟩ := ho6.out.form HR.out; simp only [HDL.out] at *; have hb56 := Lib.hid (hb5.out.trans (hb6.out.mono hb5.out.size)); obtain ⟨q1, q2, q3⟩ := HFin.out w6 hb56.out; have Q1 := Lib.hid q1; have Q2 := Lib.hid q2; have Q33 := Lib.hid q3; clear q1 q3; have e0 : w6.cell? ⟨D, 0, none⟩ = some (.int .i64 o) := cell_of_row w6 D 0 _ _ (0, 0) q2; have e1 : w6.cell? ⟨D, 1, none⟩ = some (.int .i64 dd) := cell_of_row w6 D 1 _ _ (0, 0) q2; have e2 : w6.cell? ⟨D, 2, none⟩ = some (.int .i64 ee) := cell_of_row w6 D 2 _ _ (0, 0) q2; have e3 : w6.cell? ⟨D, 3, none⟩ = some (.int .i64 cc) := cell_of_row w6 D 3 _ _ (0, 0) q2; have e4 : w6.cell? ⟨D, 4, none⟩ = some (.slice A' r R) := cell_of_row w6 D 4 _ _ (0, 0) q2; have ef : w6.frozen? ⟨D, 4, none⟩ = false := frozen_of_row w6 D 4 _ _ q2; clear q2; have QS := Lib.hid ((Below.heap_setCell w6 ⟨D, 4, none⟩ (.slice (some ⟨g, 0, none⟩) r c) w.heap.size (by show w.heap.size ≠ D; have := HDl.out.1; have := Z1.out; omega)).trans Q1.out); have HE := Lib.hid (fun cs => get_end (x := .slice (some ⟨g, 0, none⟩) r c) cs ⟨HDl.out.1, Nat.lt_of_lt_of_le HDl.out.2 hb5.out.size⟩ (by have := Z1.out; omega) Q33.out B1.out ho6.out))
          | (refine wpList_store_row rfl 26 (.tmp 2) (.tmp 32) rfl w.heap.size #[.int .i64 o, .int .i64 dd, .int .i64 ee, .int .i64 cc, .slice (some ⟨g, 0, none⟩) r c] rfl rfl 26 _ QS.out (by kernel_rfl) rfl (msg_one5 _ _ _ _ _ _ _) ?_))
        exact ret_box2 (g := w.heap.size) rfl (by rfl) (setRow_heap _ _ _ _ _ _ QS.out) rfl Try.underlying26 (by kernel_rfl) rfl (HOK.out g c _ (HE.out _).1 (HE.out _).2)
      · obtain ⟨z, hz⟩ : ∃ z, msgN ⟨o, dd, ee, cc⟩ r = z := ⟨_, rfl⟩
        rw [hz] at HK hm HMG
        have hne := nz hm
        have HN : Hid (¬ mgO l) := fun h => hm (HMG.out.1 h)
        clear hMN HJ hdl hm hz HMG hcm hlc h6 HRD HAN
        go_wp2_with (first
          | (go_at_call 63; refine (HK.out _).mono ?_; rintro e w5 ⟨rfl, hb5⟩; obtain ⟨q1, q2, q3⟩ := HFin.out w5 hb5.out; have Q1 := Lib.hid q1; have Q3 := Lib.hid q3; clear q1 q2 q3)
          | (refine wpList_store_row rfl 26 (.tmp 2) (.tmp 27) rfl w.heap.size msg0 rfl rfl 26 _ Q1.out (by kernel_rfl) rfl (msg_one5 _ _ _ _ _ _ _) ?_))
        exact ret_box2 (g := w.heap.size) rfl (by rfl) (setRow_heap _ _ _ _ _ _ Q1.out) rfl Try.underlying26 (by kernel_rfl) rfl (GetM.no HN.out rfl (below_setRow _ (B1.out.trans (Q3.out.mono B1.out.size)) (Nat.le_refl _)))
    · have hI : getI (l.take 6) = ⟨0, 0, 0, 0⟩ := by unfold getI; rw [if_neg (by simp [hk])]
      have hZ : getZ (l.take 6) = 2 := by unfold getZ; rw [if_neg (by simp [hk])]
      rw [hI, hZ] at hG
      have HN : Hid (¬ mgO l) := fun h => hk h.2.2
      simp only [idC, show ((2 : Nat) : Int) = 2 from rfl] at hG
      have HG := Lib.hid hG
      have m1 : ¬ ((l.length : Int) < 6) := by omega
      have m2 : (6 : Int) ≤ (l.length : Int) := by omega
      have m3 : 6 ≤ cap := by omega
      have m4 : (6 : Int) ≤ (cap : Int) := by omega
      have m6 : (min (l.length : Int) 6).toNat = 6 := by omega
      clear hi hi1 hc hG hl6 hk hI hZ b1
      go_enter Try.func73, Try.ntmps73
      go_wp2_with (first
        | (go_at_call 74; rw [HW.out]; with_reducible refine HG.out.mono ?_; rintro e w2 ⟨rfl, hb2⟩)
        | (obtain ⟨q1, q2⟩ := HBE.out _ _ (.cells #[.int .i64 0, .int .i64 0, .int .i64 0, .int .i64 0] 23) hb2.out (Below.refl _ _); refine wpList_store_row rfl 26 (.tmp 2) (.tmp 18) rfl w.heap.size msg0 rfl rfl 26 _ q1 (by kernel_rfl) rfl (msg_one5 _ _ _ _ _ _ _) ?_))
      exact ret_box2 (g := w.heap.size) rfl (by rfl) (setRow_heap _ _ _ _ _ _ q1) rfl Try.underlying26 (by kernel_rfl) rfl (GetM.no HN.out rfl (q2 _))
  · have h6' : l.length < 6 := by omega
    have hG := GetId_any A l.length cap l W1 hi1
    have hI : getI l = ⟨0, 0, 0, 0⟩ := by unfold getI; rw [if_neg (by omega)]
    have hZ : getZ l = 2 := by unfold getZ; rw [if_neg (by omega)]
    rw [hI, hZ] at hG
    have HN : Hid (¬ mgO l) := fun h => by have := h.1; omega
    simp only [idC, show ((2 : Nat) : Int) = 2 from rfl] at hG
    have HG := Lib.hid hG
    have m1 : ¬ ((6 : Int) ≤ (l.length : Int)) := by omega
    have m2 : (l.length : Int) < 6 := by omega
    have m3 : (l.length : Int) ≤ (cap : Int) := by omega
    have m6 : (min (l.length : Int) 6).toNat = l.length := by omega
    have m7 : (min (l.length : Int) 6) ≤ (cap : Int) := by omega
    clear hi hi1 hG hI hZ b1 h6
    go_enter Try.func73, Try.ntmps73
    go_wp2_with (first
      | (go_at_call 74; rw [HW.out]; with_reducible refine HG.out.mono ?_; rintro e w2 ⟨rfl, hb2⟩)
      | (obtain ⟨q1, q2⟩ := HBE.out _ _ (.cells #[.int .i64 0, .int .i64 0, .int .i64 0, .int .i64 0] 23) hb2.out (Below.refl _ _); refine wpList_store_row rfl 26 (.tmp 2) (.tmp 18) rfl w.heap.size msg0 rfl rfl 26 _ q1 (by kernel_rfl) rfl (msg_one5 _ _ _ _ _ _ _) ?_))
    exact ret_box2 (g := w.heap.size) rfl (by rfl) (setRow_heap _ _ _ _ _ _ q1) rfl Try.underlying26 (by kernel_rfl) rfl (GetM.no HN.out rfl (q2 _))
end Go.Proofs.Ytohfoieibgmmdaa.Mg
/- There and back of bytes, as plain data. -/
namespace Go.Proofs.Ytohfoieibgmmdaa.Mg
open Go.RowKit
open Go.Proofs.Ytohfoieibgmmdaa.Me Go.Proofs.Ytohfoieibgmmdaa.Ba Go.Proofs.Ytohfoieibgmmdaa.Ma Go.Proofs.Ytohfoieibgmmdaa.Bt
set_option linter.unusedVariables false
set_option linter.unusedSimpArgs false

theorem idOf_idL {i : Id4} (h : Right i) : idOf (idL i) = i := by
  obtain ⟨h1, h2, h3, h4, h5, h6, h7, h8, _⟩ := h
  obtain ⟨o, d, e, c⟩ := i
  simp only at h1 h2 h3 h4 h5 h6 h7 h8
  rw [idL_six]
  simp only [idOf, numP, num, List.drop_zero, List.drop_succ_cons, List.take_succ_cons, List.take_zero, List.foldl_cons, List.foldl_nil]
  congr 1
  all_goals omega
theorem six {l : List Nat} (h : l.length = 6) : ∃ a b c d e f, l = [a, b, c, d, e, f] := by
  match l, h with
  | [a, b, c, d, e, f], _ => exact ⟨a, b, c, d, e, f, rfl⟩
theorem idL_idOf {l : List Nat} (h : l.length = 6) (hz : ∀ z ∈ l, z < 256) : idL (idOf l) = l := by
  obtain ⟨a, b, c, d, e, f, rfl⟩ := six h
  simp only [List.mem_cons, List.not_mem_nil, or_false, forall_eq_or_imp, forall_eq] at hz
  obtain ⟨h1, h2, h3, h4, h5, h6⟩ := hz
  rw [idL_six]
  simp only [idOf, numP, num, List.drop_zero, List.drop_succ_cons, List.take_succ_cons, List.take_zero, List.foldl_cons, List.foldl_nil, Int.toNat_natCast]
  simp only [List.cons.injEq, and_true]
  omega
theorem put_get {i : Id4} {l : List Nat} (h : msgN i l.length = 0) : mI (idL i ++ l) = i ∧ mD (idL i ++ l) = l ∧ mZ (idL i ++ l) = 0 := by
  obtain ⟨hr, h1, h2⟩ := msgN_zero h
  have e1 : (idL i ++ l).take 6 = idL i := List.take_left' (idL_len i)
  have e2 : (idL i ++ l).drop 6 = l := List.drop_left' (idL_len i)
  have hl := idL_len i
  have hm : mgO (idL i ++ l) := ⟨by rw [List.length_append]; omega, by rw [List.length_append]; omega, by rw [e1, idOf_idL hr]; exact right_iff.2 hr⟩
  unfold mI mD mZ
  rw [if_pos hm, if_pos hm, if_pos hm, e1, e2]
  exact ⟨idOf_idL hr, rfl, rfl⟩
theorem get_put {l : List Nat} (hz : ∀ z ∈ l, z < 256) (h : mZ l = 0) : msgN (mI l) (mD l).length = 0 ∧ idL (mI l) ++ mD l = l := by
  have hm : mgO l := by
    apply Classical.byContradiction
    intro hn
    unfold mZ at h
    rw [if_neg hn] at h
    cases h
  unfold mI mD
  rw [if_pos hm, if_pos hm]
  obtain ⟨h1, h2, h3⟩ := hm
  refine ⟨?_, ?_⟩
  · unfold msgN
    rw [h3, if_neg (by simp), if_neg (by simp; omega), if_neg (by simp; omega)]
  · rw [idL_idOf (by simp; omega) fun z hz' => hz z (List.mem_of_mem_take hz')]
    exact List.take_append_drop 6 l
end Go.Proofs.Ytohfoieibgmmdaa.Mg
/- The word that bytes would be: pure. -/
namespace Go.Proofs.Ytohfoieibgmmdaa.Hp
open Go.RowKit Go.Shelf
open Go.Proofs.Ytohfoieibgmmdaa.Me Go.Proofs.Ytohfoieibgmmdaa.Sb Go.Proofs.Ytohfoieibgmmdaa.Mg Go.Proofs.Ytohfoieibgmmdaa.Ba Go.Proofs.Ytohfoieibgmmdaa.Ma Go.Proofs.Ytohfoieibgmmdaa.Bt
set_option linter.unusedVariables false
set_option linter.unusedSimpArgs false

/-- A word, and an error. -/
structure Wd where
  k : Nat
  n : Nat
  i : Id4
  p : List Nat
  cs : List Int
  e : Nat
def zI : Id4 := ⟨0, 0, 0, 0⟩
def Wd0 : Wd := ⟨0, 0, zI, [], [], 2⟩
def intL (l : List Nat) : List Int := l.map fun b : Nat => (b : Int)
/-- What read answers. -/
def rdW (l : List Nat) : Wd :=
  if l.length < 1 then Wd0 else
  if by_ l 0 = 4 then ⟨4, 0, zI, [], intL (l.drop 1), 0⟩ else
  if l.length < 3 then ⟨by_ l 0, 0, zI, [], [], 2⟩ else
  if by_ l 0 = 1 then ⟨1, numP l 1 2, mI (l.drop 3), mD (l.drop 3), [], mZ (l.drop 3)⟩ else
  ⟨by_ l 0, numP l 1 2, getI (l.drop 3), [], [], getZ (l.drop 3)⟩
def Wd.ok (x : Wd) : Bool := x.e == 0 && hopN x.k x.n x.i x.p.length x.cs == 0
/-- What Get answers. -/
def gtW (l : List Nat) : Wd := if (rdW (l.take 66)).ok = true then rdW (l.take 66) else Wd0
end Go.Proofs.Ytohfoieibgmmdaa.Hp
/- There and back: pure. -/
namespace Go.Proofs.Ytohfoieibgmmdaa.Hp
open Go.RowKit Go.Shelf
open Go.Proofs.Ytohfoieibgmmdaa.Me Go.Proofs.Ytohfoieibgmmdaa.Sb Go.Proofs.Ytohfoieibgmmdaa.Mg Go.Proofs.Ytohfoieibgmmdaa.Ba Go.Proofs.Ytohfoieibgmmdaa.Ma Go.Proofs.Ytohfoieibgmmdaa.Bt
set_option linter.unusedVariables false
set_option linter.unusedSimpArgs false

theorem zero_eq {i : Id4} (h : zeroB i = true) : i = zI := by
  obtain ⟨a, b, c, d⟩ := i
  simp only [zeroB, Bool.and_eq_true, beq_iff_eq] at h
  obtain ⟨rfl, rfl, rfl, rfl⟩ := h
  rfl
theorem numP_mid (a n : Nat) (h : n < 65536) (r : List Nat) : numP ([a] ++ byts n 2 ++ r) 1 2 = n := by
  unfold numP
  have e : (([a] ++ byts n 2 ++ r).drop 1).take 2 = byts n 2 := by
    have h2 := length_byts n 2
    rw [List.append_assoc, List.drop_append_of_le_length (by simp)]
    simp only [List.drop_one, List.tail_cons, List.nil_append]
    rw [List.take_append_of_le_length (by omega), List.take_of_length_le (by omega)]
  rw [e, num_byts]
  exact Nat.mod_eq_of_lt h
theorem drop_mid (a n : Nat) (r : List Nat) : ([a] ++ byts n 2 ++ r).drop 3 = r := by
  have h2 := length_byts n 2
  rw [List.drop_append_of_le_length (by simp; omega), List.drop_of_length_le (by simp; omega)]
  rfl
theorem rd_mid {a n : Nat} (h : n < 65536) (r : List Nat) (h4 : a ≠ 4) : rdW ([a] ++ byts n 2 ++ r) = if a = 1 then ⟨1, n, mI r, mD r, [], mZ r⟩ else ⟨a, n, getI r, [], [], getZ r⟩ := by
  have h2 := length_byts n 2
  have hb : by_ ([a] ++ byts n 2 ++ r) 0 = a := by simp [by_]
  unfold rdW
  rw [if_neg (by simp), hb, if_neg h4, if_neg (by simp; omega), numP_mid a n h r, drop_mid a n r]
/-- What was put is got. -/
theorem put_gt {k n : Int} {i : Id4} {l : List Nat} {cs : List Int} (h : hopN k n i l.length cs = 0) (hl : ∀ z ∈ l, z < 256) :
    gtW (putH k n i l cs) = ⟨k.toNat, n.toNat, i, l, cs, 0⟩ ∧ (k.toNat : Int) = k ∧ (n.toNat : Int) = n ∧ 9 ≤ (putH k n i l cs).length ∧ (putH k n i l cs).length ≤ 65 := by
  obtain ⟨h1, h2, h3⟩ := hop_zero h
  obtain ⟨m, rfl⟩ := Int.eq_ofNat_of_zero_le h1
  have hb := length_byts m 2
  have key : ∀ x : Wd, rdW (putH k m i l cs) = x → (putH k m i l cs).length ≤ 65 → x = ⟨k.toNat, m, i, l, cs, 0⟩ → (k.toNat : Int) = k → gtW (putH k m i l cs) = ⟨k.toNat, m, i, l, cs, 0⟩ := fun x e1 e2 e3 e4 => by
    unfold gtW
    rw [List.take_of_length_le (by omega), e1, e3, if_pos]
    unfold Wd.ok
    simp only [e4, h]
    rfl
  have hP : putH k m i l cs = if k = 4 then 4 :: cs.map Int.toNat else [k.toNat] ++ byts m 2 ++ (if k = 1 then idL i ++ l else idL i) := by
    unfold putH
    rw [if_neg (by rw [h]; decide), Int.toNat_natCast]
  rcases h3 with ⟨rfl, hm, rfl⟩ | ⟨hk, hm, hd, rfl⟩ | ⟨rfl, h0, hz, hd, hc, hbad⟩
  · have e1 : putH 1 m i l [] = [1] ++ byts m 2 ++ (idL i ++ l) := by rw [hP, if_neg (by decide), if_pos rfl]; rfl
    obtain ⟨g1, g2, g3⟩ := put_get hm
    have hlen := (msgN_zero hm).2
    have hle : (putH 1 m i l []).length = 9 + l.length := by rw [e1]; simp [idL_len, hb]; omega
    refine ⟨key ⟨1, m, i, l, [], 0⟩ ?_ (by omega) rfl rfl, rfl, rfl, by omega, by omega⟩
    rw [e1, rd_mid (by omega) _ (by decide), if_pos rfl, g1, g2, g3]
  · have hlz : l = [] := List.eq_nil_of_length_eq_zero hd
    subst hlz
    have hr := right_iff.1 hm
    have g1 : getI (idL i) = i := by unfold getI; rw [if_pos ⟨idL_len i, by rw [idOf_idL hr]; exact hm⟩, idOf_idL hr]
    have g2 : getZ (idL i) = 0 := by unfold getZ; rw [if_pos ⟨idL_len i, by rw [idOf_idL hr]; exact hm⟩]
    have e1 : putH k m i [] [] = [k.toNat] ++ byts m 2 ++ idL i := by rw [hP, if_neg (by omega), if_neg (by omega)]
    have hle : (putH k m i [] []).length = 9 := by rw [e1]; simp [idL_len, hb]
    refine ⟨key ⟨k.toNat, m, i, [], [], 0⟩ ?_ (by omega) rfl (by omega), by omega, rfl, by omega, by omega⟩
    rw [e1, rd_mid (by omega) _ (by omega), if_neg (by omega), g1, g2]
  · have hlz : l = [] := List.eq_nil_of_length_eq_zero hd
    subst hlz
    obtain rfl : m = 0 := by omega
    obtain rfl := zero_eq hz
    have e1 : putH 4 (0 : Nat) zI [] cs = 4 :: cs.map Int.toNat := by rw [hP, if_pos rfl]
    have hle : (putH 4 (0 : Nat) zI [] cs).length = 65 := by rw [e1]; simp [hc]
    refine ⟨key ⟨4, 0, zI, [], cs, 0⟩ ?_ (by omega) rfl rfl, rfl, rfl, by omega, by omega⟩
    rw [e1]
    unfold rdW
    rw [if_neg (by simp), if_pos (by simp [by_])]
    have : intL ((4 :: cs.map Int.toNat).drop 1) = cs := by
      simp only [List.drop_one, List.tail_cons]
      unfold intL
      rw [List.map_map]
      conv => rhs; rw [← List.map_id cs]
      refine List.map_congr_left fun x hx => ?_
      have := List.any_eq_false.1 hbad x hx
      simp only [badC, Bool.or_eq_true, decide_eq_true_eq, not_or, Int.not_lt] at this
      simp only [Function.comp_apply, id_eq]
      omega
    rw [this]
theorem lead3 {l : List Nat} (h : 3 ≤ l.length) : ∃ a b c r, l = a :: b :: c :: r := by
  match l, h with
  | a :: b :: c :: r, _ => exact ⟨a, b, c, r, rfl⟩
/-- What was got is put. -/
theorem get_pt {l : List Nat} (hl : ∀ z ∈ l, z < 256) (h : (gtW l).e = 0) : hopN (gtW l).k (gtW l).n (gtW l).i (gtW l).p.length (gtW l).cs = 0 ∧ putH (gtW l).k (gtW l).n (gtW l).i (gtW l).p (gtW l).cs = l ∧ gtW l = rdW l := by
  have hok : (rdW (l.take 66)).ok = true := by
    cases hc : (rdW (l.take 66)).ok with
    | true => rfl
    | false =>
      unfold gtW at h
      rw [hc] at h
      cases h
  have hg : gtW l = rdW (l.take 66) := by unfold gtW; rw [hok, if_pos rfl]
  rw [hg]
  unfold Wd.ok at hok
  rw [Bool.and_eq_true, beq_iff_eq, beq_iff_eq] at hok
  obtain ⟨he, hh⟩ := hok
  obtain ⟨m, hm⟩ : ∃ m, l.take 66 = m := ⟨_, rfl⟩
  rw [hm] at he hh ⊢
  have hml : ∀ z ∈ m, z < 256 := fun z hz => hl z (by rw [← hm] at hz; exact List.mem_of_mem_take hz)
  refine ⟨hh, ?_⟩
  -- the prefix is the whole
  have hput : putH (rdW m).k (rdW m).n (rdW m).i (rdW m).p (rdW m).cs = m ∧ m.length ≤ 65 := by
    have hz := hop_zero hh
    unfold putH
    rw [if_neg (by rw [hh]; decide)]
    unfold rdW at he hz ⊢
    by_cases h1 : m.length < 1
    · rw [if_pos h1] at he
      cases he
    · rw [if_neg h1] at he hz ⊢
      by_cases h4 : by_ m 0 = 4
      · rw [if_pos h4] at he hz ⊢
        simp only at hz ⊢
        rw [if_pos (show ((4 : Nat) : Int) = 4 from rfl)]
        rcases hz.2.2 with ⟨h, _⟩ | ⟨h | h, _⟩ | ⟨_, _, _, _, hc, _⟩
        · cases h
        · cases h
        · cases h
        · have hlen : m.length = 65 := by simp [intL] at hc; omega
          refine ⟨?_, by omega⟩
          have e2 : (intL (m.drop 1)).map Int.toNat = m.drop 1 := by
            unfold intL
            rw [List.map_map]
            conv => rhs; rw [← List.map_id (m.drop 1)]
            exact List.map_congr_left fun x _ => by simp
          rw [e2]
          match m, h1, h4 with
          | a :: r, _, h4 =>
            have : a = 4 := by simpa [by_] using h4
            rw [this]
            rfl
      · rw [if_neg h4] at he hz ⊢
        by_cases h3 : m.length < 3
        · rw [if_pos h3] at he
          cases he
        · rw [if_neg h3] at he hz ⊢
          obtain ⟨a, b, c, r, rfl⟩ := lead3 (l := m) (by omega)
          have hb0 : by_ (a :: b :: c :: r) 0 = a := rfl
          have hd3 : (a :: b :: c :: r).drop 3 = r := rfl
          have hbc : byts (numP (a :: b :: c :: r) 1 2) 2 = [b, c] := by
            have : numP (a :: b :: c :: r) 1 2 = num [b, c] := rfl
            rw [this]
            have h1 := hml b (by simp)
            have h2 := hml c (by simp)
            simp [byts, num]
            omega
          rw [hb0, hd3] at he hz ⊢
          rw [hb0] at h4
          have hrl : ∀ z ∈ r, z < 256 := fun z hz => hml z (by simp [hz])
          by_cases ha : a = 1
          · subst ha
            rw [if_pos rfl] at he hz ⊢
            simp only at he hz ⊢
            obtain ⟨q1, q2⟩ := get_put hrl he
            have q3 : mgO r := by
              unfold mZ at he
              split at he
              · assumption
              · cases he
            rw [if_neg (show ¬ ((1 : Nat) : Int) = 4 by decide), if_pos (show ((1 : Nat) : Int) = 1 from rfl), q2, Int.toNat_natCast, Int.toNat_natCast, hbc]
            exact ⟨rfl, by have := q3.2.1; simp; omega⟩
          · rw [if_neg ha] at he hz ⊢
            simp only at he hz ⊢
            have q0 : r.length = 6 ∧ chkN (idOf r) = 0 := by
              unfold getZ at he
              split at he
              · assumption
              · cases he
            have q1 : idL (getI r) = r := by unfold getI; rw [if_pos q0]; exact idL_idOf q0.1 hrl
            rw [if_neg (by omega), if_neg (by omega), q1, Int.toNat_natCast, Int.toNat_natCast, hbc]
            exact ⟨rfl, by simp; omega⟩
  have hlm : l = m := by
    have := hput.2
    rw [← hm] at this
    rw [← hm]
    refine (List.take_of_length_le ?_).symm
    simp at this
    omega
  exact ⟨by rw [hput.1]; exact hlm.symm, by rw [hlm]⟩
end Go.Proofs.Ytohfoieibgmmdaa.Hp
