/- All that a store has, told: State. -/
import Derived.Test.YtfnlhfelpdkieaaGreatZ5
import Derived.Test.YtfnlhfelpdkieaaGreatZ21
import Derived.Test.YtfnlhfelpdkieaaGreatZ11
namespace Go.Proofs.YtfnlhfelpdkieaaGreat.So
open Go.RowKit
open Go.Proofs.YtfnlhfelpdkieaaGreat.Me Go.Proofs.YtfnlhfelpdkieaaGreat.Sb
open Go.Proofs.YtfnlhfelpdkieaaGreat.Se (Mw Pm Pls mrOf Ord)
set_option linter.unusedVariables false
set_option linter.unusedSimpArgs false

theorem Box.range {w : World} {D hb sd : Nat} {v : Value} {n : Int} {s : Sto} (h : Box w D s hb sd v n) : w.rangeAt D 5 (lastV s.last).toList := fun j u hj => by
  have hj' : j < 64 := by
    have := (List.getElem?_eq_some_iff.1 hj).1
    rw [Array.length_toList, lastV_size] at this
    exact this
  rw [h.last hj', ← hj, Array.getElem?_toList, lastV_at _ hj']
/-- What State answers. -/
def StT (s : Sto) (m : Nat) (w : World) (e : Ending) (w' : World) : Prop :=
  ∃ vU vH vM PH PM L, e = .returned (.agg #[.int .i64 s.self, .int .i64 s.epoch, vU, vH, vM]) ∧ Hid (Kn w' w.heap.size vU (usedTo s.last 64)) ∧ Hid (Ow w' w.heap.size vH PH) ∧ Hid (PH.map Pq.x = s.held) ∧ Hid (Mw w' w.heap.size vM PM) ∧ Hid (Ord s.seen.kept m L) ∧ Hid (PM.map Pm.m = L.map (mrOf s.seen.kept)) ∧ Hid (Below w.heap.size w w')
theorem st_one (a b : Int) (A B C : Option Addr) (n1 n2 n3 c1 c2 c3 : Nat) : (#[.int .i64 a, .int .i64 b, .slice A n1 c1, .slice B n2 c2, .slice C n3 c3] : Array Value).all (·.oneCell') = true := by simp [Value.oneCell']
theorem mw_base {w : World} {B B' : Nat} {v : Value} {P : List Pm} (h : Mw w B v P) (hB : B' ≤ B) : Mw w B' v P := h.base hB
theorem mw_butP {S : Nat → Prop} {w w' : World} {B : Nat} {v : Value} {P : List Pm} (h : Mw w B v P) (hb : But S w w') (hS : ∀ k, S k → k < B) : Mw w' B v P :=
  ⟨own_same h.own fun k e hk => hb.same k hk fun hs => by have := (h.own.lt k e).1; have := hS k hs; omega, fun p hp => own_same (h.each p hp) fun k e hk => hb.same k hk fun hs => by have := (World.ownsRow.lt (h.each p hp) k e).1; have := hS k hs; omega⟩
theorem kn_butP {S : Nat → Prop} {w w' : World} {B : Nat} {v : Value} {l : Nx} (h : Kn w B v l) (hb : But S w w') (hS : ∀ k, S k → k < B) : Kn w' B v l :=
  own_same h fun k e hk => hb.same k hk fun hs => by have := (World.ownsRow.lt h k e).1; have := hS k hs; omega
section
variable {E : Nat → Prop} {D hb sd sb m : Nat} {v : Value} {s : Sto} {w : World}
set_option maxRecDepth 100000 in
set_option maxHeartbeats 16000000 in
theorem State_any (hm : m ≤ 5000000) (hS : Hid (Sq E w D hb sd sb m v s)) : Calls Tryz.prog 17 #[.pointer (some ⟨D, 0, none⟩)] w (StT s m w) := by
  have HU : Hid (∀ W, Calls Tryz.prog 44 #[.agg (lastV s.last)] W fun e w' => ∃ v, e = .returned v ∧ Hid (Kn w' W.heap.size v (usedTo s.last 64)) ∧ Hid (Below W.heap.size W w')) := fun W => used_any s.last W
  have HH : Hid (∀ W, Below w.heap.size w W → Calls Tryz.prog 16 #[.pointer (some ⟨D, 0, none⟩)] W fun e w' => ∃ vh P, e = .returned vh ∧ Hid (Ow w' W.heap.size vh P) ∧ Hid (P.map Pq.x = s.held) ∧ Hid (Below W.heap.size W w')) := fun W hW => Held_any (hS.out.below hW)
  have HMk : Hid (∀ W, Below w.heap.size w W → Calls Tryz.prog 45 #[.pointer (some ⟨sd, 0, none⟩)] W fun e w' => ∃ v P L, e = .returned v ∧ Hid (Mw w' W.heap.size v P) ∧ Hid (Below W.heap.size W w') ∧ Hid (Ord s.seen.kept m L) ∧ Hid (P.map Pm.m = L.map (mrOf s.seen.kept))) := fun W hW => Se.Marks_any true sd sb m s.seen W (hS.out.below hW).set hm
  have HR : Hid (∀ W, Below w.heap.size w W → W.rangeAt D 5 (lastV s.last).toList) := fun W hW => (hS.out.below hW).box.range
  have HC : Hid (∀ W, Below w.heap.size w W → W.cell? ⟨D, 0, none⟩ = some (.int .i64 s.self) ∧ W.cell? ⟨D, 4, none⟩ = some (.int .i64 s.epoch) ∧ W.cell? ⟨D, 72, none⟩ = some (.pointer (some ⟨sd, 0, none⟩))) := fun W hW => ⟨(hS.out.below hW).box.self, (hS.out.below hW).box.epoch, (hS.out.below hW).box.set⟩
  have HSz := Lib.hid (size64 s.last)
  unfold StT
  obtain ⟨UL, hUL⟩ : ∃ x, usedTo s.last 64 = x := ⟨_, rfl⟩
  obtain ⟨HL, hHL⟩ : ∃ x, s.held = x := ⟨_, rfl⟩
  obtain ⟨me, hme⟩ : ∃ x, s.self = x := ⟨_, rfl⟩
  obtain ⟨ep, hep⟩ : ∃ x, s.epoch = x := ⟨_, rfl⟩
  obtain ⟨ke, hke⟩ : ∃ x, s.seen.kept = x := ⟨_, rfl⟩
  obtain ⟨V, hV⟩ : ∃ x, lastV s.last = x := ⟨_, rfl⟩
  rw [hUL, hV] at HU
  rw [hHL] at HH
  rw [hke] at HMk
  rw [hV] at HR HSz
  rw [hme, hep] at HC
  rw [hUL, hHL, hme, hep, hke]
  clear hUL hHL hme hep hke hV hS
  obtain ⟨V0, hV0⟩ : ∃ x, w.alloc (.cells #[.int .i64 0, .int .i64 0, .slice none 0 0, .slice none 0 0, .slice none 0 0] 59) = x := ⟨_, rfl⟩
  have hX : V0.heap[w.heap.size]? = some (.cells #[.int .i64 0, .int .i64 0, .slice none 0 0, .slice none 0 0, .slice none 0 0] 59 (0, 0)) := by rw [← hV0]; exact heap_alloc_new w _
  have hB : Below w.heap.size w V0 := by rw [← hV0]; exact Me.below_alloc (Below.refl _ _)
  have hl0 : w.heap.size < V0.heap.size := (Array.getElem?_eq_some_iff.1 hX).1
  have HX := Lib.hid hX
  have HB := Lib.hid hB
  have HL0 := Lib.hid hl0
  have HV0 := Lib.hid hV0
  clear hV0 hX hB hl0
  go_enter Tryz.func17, Tryz.ntmps17
  go_wp2
  rw [HV0.out]
  have S0 : Below w.heap.size w V0.drew := HB.out.drew
  refine wp_region_held_drew (S := fun W => Below w.heap.size w W) (by kernel_rfl) S0 (fun hHeld => ?_)
  refine wpAnyH_take (i := 0) (v := .pointer (some ⟨D, 0, none⟩)) rfl (by kernel_rfl) (by kernel_rfl) (by kernel_rfl) (fun _ _ _ h => h) (Or.inl ⟨by rfl, ?_⟩) (by first | assumption | exact trivial) ?_
  · intro W hSW; go_simp; try (with_reducible rfl)
  simp only [Act.put, List.getElem_toArray, List.getElem_cons_succ, List.getElem_cons_zero, List.setIfInBounds_toArray, List.set_cons_zero, List.set_cons_succ]
  refine wpAnyH_take (i := 1) (v := .pointer (some ⟨D, 0, none⟩)) rfl (by kernel_rfl) (by kernel_rfl) (by kernel_rfl) (fun _ _ _ h => h) (Or.inl ⟨by rfl, ?_⟩) (by first | assumption | exact trivial) ?_
  · intro W hSW; go_simp; try (with_reducible rfl)
  simp only [Act.put, List.getElem_toArray, List.getElem_cons_succ, List.getElem_cons_zero, List.setIfInBounds_toArray, List.set_cons_zero, List.set_cons_succ]
  refine wpAnyH_take (i := 2) (v := .pointer (some ⟨D, 0, none⟩)) rfl (by kernel_rfl) (by kernel_rfl) (by kernel_rfl) (fun _ _ _ h => h) (Or.inl ⟨by rfl, ?_⟩) (by first | assumption | exact trivial) ?_
  · intro W hSW; go_simp; try (with_reducible rfl)
  simp only [Act.put, List.getElem_toArray, List.getElem_cons_succ, List.getElem_cons_zero, List.setIfInBounds_toArray, List.set_cons_zero, List.set_cons_succ]
  refine wpAnyH_take (i := 3) (v := .int .i64 me) rfl (by kernel_rfl) (by kernel_rfl) (by kernel_rfl) (fun _ _ _ h => h) (Or.inl ⟨by rfl, ?_⟩) (by first | assumption | exact trivial) ?_
  · intro W hSW; have q := (HC.out W hSW).1; go_simp; try (with_reducible rfl)
  simp only [Act.put, List.getElem_toArray, List.getElem_cons_succ, List.getElem_cons_zero, List.setIfInBounds_toArray, List.set_cons_zero, List.set_cons_succ]
  refine wpAnyH_take (i := 4) (v := .pointer (some ⟨D, 0, none⟩)) rfl (by kernel_rfl) (by kernel_rfl) (by kernel_rfl) (fun _ _ _ h => h) (Or.inl ⟨by rfl, ?_⟩) (by first | assumption | exact trivial) ?_
  · intro W hSW; go_simp; try (with_reducible rfl)
  simp only [Act.put, List.getElem_toArray, List.getElem_cons_succ, List.getElem_cons_zero, List.setIfInBounds_toArray, List.set_cons_zero, List.set_cons_succ]
  refine wpAnyH_take (i := 5) (v := .pointer (some ⟨D, 0, none⟩)) rfl (by kernel_rfl) (by kernel_rfl) (by kernel_rfl) (fun _ _ _ h => h) (Or.inl ⟨by rfl, ?_⟩) (by first | assumption | exact trivial) ?_
  · intro W hSW; go_simp; try (with_reducible rfl)
  simp only [Act.put, List.getElem_toArray, List.getElem_cons_succ, List.getElem_cons_zero, List.setIfInBounds_toArray, List.set_cons_zero, List.set_cons_succ]
  refine wpAnyH_take (i := 6) (v := .pointer (some ⟨D, 4, none⟩)) rfl (by kernel_rfl) (by kernel_rfl) (by kernel_rfl) (fun _ _ _ h => h) (Or.inl ⟨by rfl, ?_⟩) (by first | assumption | exact trivial) ?_
  · intro W hSW; go_simp; try (with_reducible rfl)
  simp only [Act.put, List.getElem_toArray, List.getElem_cons_succ, List.getElem_cons_zero, List.setIfInBounds_toArray, List.set_cons_zero, List.set_cons_succ]
  refine wpAnyH_take (i := 7) (v := .int .i64 ep) rfl (by kernel_rfl) (by kernel_rfl) (by kernel_rfl) (fun _ _ _ h => h) (Or.inl ⟨by rfl, ?_⟩) (by first | assumption | exact trivial) ?_
  · intro W hSW; have q := (HC.out W hSW).2.1; go_simp; try (with_reducible rfl)
  simp only [Act.put, List.getElem_toArray, List.getElem_cons_succ, List.getElem_cons_zero, List.setIfInBounds_toArray, List.set_cons_zero, List.set_cons_succ]
  refine wpAnyH_take (i := 8) (v := .pointer (some ⟨D, 0, none⟩)) rfl (by kernel_rfl) (by kernel_rfl) (by kernel_rfl) (fun _ _ _ h => h) (Or.inl ⟨by rfl, ?_⟩) (by first | assumption | exact trivial) ?_
  · intro W hSW; go_simp; try (with_reducible rfl)
  simp only [Act.put, List.getElem_toArray, List.getElem_cons_succ, List.getElem_cons_zero, List.setIfInBounds_toArray, List.set_cons_zero, List.set_cons_succ]
  refine wpAnyH_take (i := 9) (v := .pointer (some ⟨D, 0, none⟩)) rfl (by kernel_rfl) (by kernel_rfl) (by kernel_rfl) (fun _ _ _ h => h) (Or.inl ⟨by rfl, ?_⟩) (by first | assumption | exact trivial) ?_
  · intro W hSW; go_simp; try (with_reducible rfl)
  simp only [Act.put, List.getElem_toArray, List.getElem_cons_succ, List.getElem_cons_zero, List.setIfInBounds_toArray, List.set_cons_zero, List.set_cons_succ]
  refine wpAnyH_take (i := 10) (v := .pointer (some ⟨D, 5, none⟩)) rfl (by kernel_rfl) (by kernel_rfl) (by kernel_rfl) (fun _ _ _ h => h) (Or.inl ⟨by rfl, ?_⟩) (by first | assumption | exact trivial) ?_
  · intro W hSW; go_simp; try (with_reducible rfl)
  simp only [Act.put, List.getElem_toArray, List.getElem_cons_succ, List.getElem_cons_zero, List.setIfInBounds_toArray, List.set_cons_zero, List.set_cons_succ]
  refine wpAnyH_take (i := 11) (v := .agg V) rfl (by kernel_rfl) (by kernel_rfl) (by kernel_rfl) (fun _ _ _ h => h) (yieldsIf_load_mid (by rfl) 76 (.tmp 16) rfl D 5 rfl V.toList _ (fun W hW => HR.out W hW) Tryz.underlying76 rfl HSz.out) (by first | assumption | exact trivial) ?_
  simp only [Act.put, List.getElem_toArray, List.getElem_cons_succ, List.getElem_cons_zero, List.setIfInBounds_toArray, List.set_cons_zero, List.set_cons_succ]
  refine wpAnyH_take (i := 13) (v := .pointer (some ⟨D, 0, none⟩)) rfl (by kernel_rfl) (by kernel_rfl) (by kernel_rfl) (fun _ _ _ h => h) (Or.inl ⟨by rfl, ?_⟩) (by first | assumption | exact trivial) ?_
  · intro W hSW; go_simp; try (with_reducible rfl)
  simp only [Act.put, List.getElem_toArray, List.getElem_cons_succ, List.getElem_cons_zero, List.setIfInBounds_toArray, List.set_cons_zero, List.set_cons_succ]
  refine wpAnyH_take (i := 15) (v := .pointer (some ⟨D, 0, none⟩)) rfl (by kernel_rfl) (by kernel_rfl) (by kernel_rfl) (fun _ _ _ h => h) (Or.inl ⟨by rfl, ?_⟩) (by first | assumption | exact trivial) ?_
  · intro W hSW; go_simp; try (with_reducible rfl)
  simp only [Act.put, List.getElem_toArray, List.getElem_cons_succ, List.getElem_cons_zero, List.setIfInBounds_toArray, List.set_cons_zero, List.set_cons_succ]
  refine wpAnyH_take (i := 16) (v := .pointer (some ⟨D, 0, none⟩)) rfl (by kernel_rfl) (by kernel_rfl) (by kernel_rfl) (fun _ _ _ h => h) (Or.inl ⟨by rfl, ?_⟩) (by first | assumption | exact trivial) ?_
  · intro W hSW; go_simp; try (with_reducible rfl)
  simp only [Act.put, List.getElem_toArray, List.getElem_cons_succ, List.getElem_cons_zero, List.setIfInBounds_toArray, List.set_cons_zero, List.set_cons_succ]
  refine wpAnyH_take (i := 17) (v := .pointer (some ⟨D, 72, none⟩)) rfl (by kernel_rfl) (by kernel_rfl) (by kernel_rfl) (fun _ _ _ h => h) (Or.inl ⟨by rfl, ?_⟩) (by first | assumption | exact trivial) ?_
  · intro W hSW; go_simp; try (with_reducible rfl)
  simp only [Act.put, List.getElem_toArray, List.getElem_cons_succ, List.getElem_cons_zero, List.setIfInBounds_toArray, List.set_cons_zero, List.set_cons_succ]
  refine wpAnyH_take (i := 18) (v := .pointer (some ⟨sd, 0, none⟩)) rfl (by kernel_rfl) (by kernel_rfl) (by kernel_rfl) (fun _ _ _ h => h) (Or.inl ⟨by rfl, ?_⟩) (by first | assumption | exact trivial) ?_
  · intro W hSW; have q := (HC.out W hSW).2.2; go_simp; try (with_reducible rfl)
  simp only [Act.put, List.getElem_toArray, List.getElem_cons_succ, List.getElem_cons_zero, List.setIfInBounds_toArray, List.set_cons_zero, List.set_cons_succ]
  refine wpAnyH_ready (rs := [12]) (by kernel_rfl) (by simp) ?_
  refine AllReadyH.cons rfl (fun K hK => ?_) AllReadyH.nil
  go_simp
  go_wp2_with (go_at_call 44; refine (HU.out _).mono ?_; rintro e w1 ⟨vU, rfl, hk1, hb1⟩)
  have k1 : Below w.heap.size w w1 := go_on S0 hb1.out
  refine hK.out _ _ (k1) (fun hHeld => ?_)
  clear hK K
  refine wpAnyH_ready (rs := [14]) (by kernel_rfl) (by simp) ?_
  refine AllReadyH.cons rfl (fun K hK => ?_) AllReadyH.nil
  go_simp
  go_wp2_with (go_at_call 16; refine (HH.out _ k1).mono ?_; rintro e w2 ⟨vH, PH, rfl, ho2, hp2, hb2⟩)
  have k2 : Below w.heap.size w w2 := go_on k1 hb2.out
  refine hK.out _ _ (k2) (fun hHeld => ?_)
  clear hK K
  refine wpAnyH_ready (rs := [19]) (by kernel_rfl) (by simp) ?_
  refine AllReadyH.cons rfl (fun K hK => ?_) AllReadyH.nil
  go_simp
  go_wp2_with (go_at_call 45; refine (HMk.out _ k2).mono ?_; rintro e w3 ⟨vM, PM, L, rfl, hm3, hb3, hO3, hP3⟩)
  have k3 : Below w.heap.size w w3 := go_on k2 hb3.out
  have K3 : Kn w3 (w.heap.size + 1) vU UL := ((hk1.out.base (show w.heap.size + 1 ≤ _ from Nat.le_trans HL0.out (Nat.le_refl _))).below hb2.out).below hb3.out
  have O3 : Ow w3 (w.heap.size + 1) vH PH := (ho2.out.base (Nat.le_trans HL0.out hb1.out.size)).below hb3.out
  have M3 : Mw w3 (w.heap.size + 1) vM PM := hm3.out.base (Nat.le_trans HL0.out (Nat.le_trans hb1.out.size hb2.out.size))
  obtain ⟨aU, cU, rfl, _⟩ := K3.form
  obtain ⟨aH, cH, rfl, _⟩ := O3.form
  obtain ⟨aM, cM, rfl, _⟩ := M3.form
  obtain ⟨nU, hnU⟩ : ∃ n, UL.length = n := ⟨_, rfl⟩
  obtain ⟨nH, hnH⟩ : ∃ n, PH.length = n := ⟨_, rfl⟩
  obtain ⟨nM, hnM⟩ : ∃ n, PM.length = n := ⟨_, rfl⟩
  rw [hnU] at K3 ⊢
  rw [hnH] at O3 ⊢
  rw [hnM] at M3 ⊢
  have hX3 := (hb3.out.block _ (Nat.lt_of_lt_of_le HL0.out (Nat.le_trans hb1.out.size hb2.out.size))).trans ((hb2.out.block _ (Nat.lt_of_lt_of_le HL0.out hb1.out.size)).trans ((hb1.out.block _ HL0.out).trans HX.out))
  refine hK.out _ _ (k3) (fun hHeld => ?_)
  clear hK K
  refine wpAnyH_take (i := 20) (v := .agg #[.int .i64 me, .int .i64 ep, .slice aU nU cU, .slice aH nH cH, .slice aM nM cM]) rfl (by kernel_rfl) (by kernel_rfl) (by kernel_rfl) (fun _ _ _ h => h) (Or.inl ⟨by rfl, ?_⟩) (by first | assumption | exact trivial) ?_
  · intro W hSW; go_simp; try (with_reducible rfl)
  simp only [Act.put, List.getElem_toArray, List.getElem_cons_succ, List.getElem_cons_zero, List.setIfInBounds_toArray, List.set_cons_zero, List.set_cons_succ]
  refine wpAnyH_ready (rs := [21]) (by kernel_rfl) (by simp) ?_
  refine AllReadyH.cons rfl (fun K hK => ?_) AllReadyH.nil
  rw [if_pos (by kernel_rfl)]
  refine wp_store_row 59 (.tmp 2) (.tmp 26) rfl w.heap.size #[.int .i64 me, .int .i64 ep, .slice aU nU cU, .slice aH nH cH, .slice aM nM cM] rfl (by rfl) 59 _ hX3 (by kernel_rfl) rfl (st_one _ _ _ _ _ _ _ _ _ _ _) ?_
  simp only [Act.put, List.getElem_toArray, List.getElem_cons_succ, List.getElem_cons_zero, List.setIfInBounds_toArray, List.set_cons_zero, List.set_cons_succ]
  obtain ⟨V9, hV9⟩ : ∃ x, w3.setRow w.heap.size #[.int .i64 me, .int .i64 ep, .slice aU nU cU, .slice aH nH cH, .slice aM nM cM] = x := ⟨_, rfl⟩
  have hb9 : But (fun k => k = w.heap.size) w3 V9 := by rw [← hV9]; exact (But.refl (fun k => k = w.heap.size) w3).setRow (.inl rfl) _
  have hX9 : V9.heap[w.heap.size]? = some (.cells #[.int .i64 me, .int .i64 ep, .slice aU nU cU, .slice aH nH cH, .slice aM nM cM] 59 (0, 0)) := by rw [← hV9]; exact setRow_heap _ _ _ _ _ _ hX3
  have hB9 : Below w.heap.size w V9 := by rw [← hV9]; exact Sb.below_setRow _ k3 (Nat.le_refl _)
  rw [hV9]
  clear hV9
  refine hK.out _ _ (hB9) (fun hHeld => ?_)
  clear hK K
  refine wpAnyH_done (by kernel_rfl) ?_ _
  go_wp2
  exact Sb.ret_box (g := w.heap.size) rfl (by rfl) hX9 rfl Tryz.underlying59 (by kernel_rfl) rfl ⟨_, _, _, PH, PM, L, rfl, (kn_butP K3 hb9 fun k e => by omega).base (Nat.le_succ _), (O3.butP hb9 fun k e => by omega).base (Nat.le_succ _), hp2, (mw_butP M3 hb9 fun k e => by omega).base (Nat.le_succ _), hO3, hP3, hB9⟩
end
end Go.Proofs.YtfnlhfelpdkieaaGreat.So
