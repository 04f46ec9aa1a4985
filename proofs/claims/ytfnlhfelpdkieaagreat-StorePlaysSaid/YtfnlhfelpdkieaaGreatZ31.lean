/- What a law writes over: bytes, messages, counters of its own. -/
import Derived.Test.YtfnlhfelpdkieaaGreatZ30
import Derived.Test.YtfnlhfelpdkieaaGreatZ12
import Derived.Test.YtfnlhfelpdkieaaGreatSoRAppHa
namespace Go.Proofs.YtfnlhfelpdkieaaGreat.So
open Go.RowKit
open Go.Proofs.YtfnlhfelpdkieaaGreat.Me Go.Proofs.YtfnlhfelpdkieaaGreat.Sb
set_option linter.unusedVariables false
set_option linter.unusedSimpArgs false

/-- n bytes from the beginning of a block from B on, whatever they are. -/
def Dat (w : World) (B : Nat) (A : Option Addr) (n : Nat) : Prop :=
  n = 0 ∨ ∃ g cs, A = some ⟨g, 0, none⟩ ∧ B ≤ g ∧ w.heap[g]? = some (.cells cs 5 (0, 0)) ∧ ∀ i, i < n → ∃ b : Nat, b < 256 ∧ cs[i]? = some (byV b)
section
variable {w w' : World} {B : Nat} {A : Option Addr} {n : Nat}
theorem Dat.of_own {c : Nat} {l : List Nat} (h : Me.Own w B (.slice A l.length c) l) (hl : ∀ z ∈ l, z < 256) : Dat w B A l.length := by
  rcases h.2 with ⟨h1, h2⟩ | ⟨g, cap, cur, h1, h2, h3, h4, h5, h6, h7⟩
  · exact .inl h2
  · cases h1
    refine .inr ⟨g, cur, rfl, h2, h3, fun i hi => ⟨l[i], hl _ (List.getElem_mem _), ?_⟩⟩
    have e : (l.map byV)[i]? = some (byV l[i]) := by simp [hi]
    rw [← h7, List.getElem?_take, if_pos (by omega), Array.getElem?_toList] at e
    exact e
theorem Dat.at_ (h : Dat w B A n) {i : Nat} (hi : i < n) : ∃ (g b : Nat) (cs : Array Value), A = some ⟨g, 0, none⟩ ∧ B ≤ g ∧ b < 256 ∧ w.heap[g]? = some (.cells cs 5 (0, 0)) ∧ w.cell? ⟨g, i, none⟩ = some (.int .u8 (b : Int)) ∧ w.frozen? ⟨g, i, none⟩ = false := by
  rcases h with h | ⟨g, cs, h1, h2, h3, h4⟩
  · omega
  · obtain ⟨b, hb, hc⟩ := h4 i hi
    exact ⟨g, b, cs, h1, h2, hb, h3, (cell_of_row w g i _ _ (0, 0) h3).trans hc, frozen_of_row w g i _ _ h3⟩
theorem Dat.set (h : Dat w B A n) (g i : Nat) {b : Nat} (hb : b < 256) : Dat (w.setCell ⟨g, i, none⟩ (.int .u8 (b : Int))) B A n := by
  rcases h with h | ⟨g', cs, h1, h2, h3, h4⟩
  · exact .inl h
  · by_cases e : g' = g
    · subst e
      refine .inr ⟨g', _, h1, h2, heap_setCell_same w g' i _ _ _ h3, fun k hk => ?_⟩
      rw [Array.getElem?_setIfInBounds]
      obtain ⟨b', hb', hc⟩ := h4 k hk
      by_cases e : i = k
      · subst e
        rw [if_pos rfl, if_pos (Array.getElem?_eq_some_iff.1 hc).1]
        exact ⟨b, hb, rfl⟩
      · rw [if_neg e]
        exact ⟨b', hb', hc⟩
    · exact .inr ⟨g', cs, h1, h2, (heap_setCell_other w _ _ _ e).trans h3, h4⟩
theorem Dat.keep (h : Dat w B A n) (hk : ∀ (k : Nat) (cs : Array Value), w.heap[k]? = some (.cells cs 5 (0, 0)) → w'.heap[k]? = w.heap[k]?) : Dat w' B A n := by
  rcases h with h | ⟨g, cs, h1, h2, h3, h4⟩
  · exact .inl h
  · exact .inr ⟨g, cs, h1, h2, (hk g cs h3).trans h3, h4⟩
theorem Dat.below (h : Dat w B A n) (hb : Below w.heap.size w w') : Dat w' B A n := h.keep fun k cs hk => hb.block k (Array.getElem?_eq_some_iff.1 hk).1
end
/-- Messages from place i on: their rows, and bytes, whatever these are. -/
def Mz (w : World) (B : Nat) (A : Option Addr) (P : List Pq) (i : Nat) : Prop :=
  ∀ j p, i ≤ j → P[j]? = some p → ∃ (g : Nat) (cur : Array Value), A = some ⟨g, 0, none⟩ ∧ B ≤ g ∧ w.heap[g]? = some (.cells cur 46 (0, 0)) ∧ (∀ k u, k < 5 → (qV p)[k]? = some u → cur[j * 5 + k]? = some u) ∧ Dat w B p.A p.x.p.length
section
variable {w w' : World} {B : Nat} {A : Option Addr} {P : List Pq} {i : Nat}
theorem Mz.of_ow {n c : Nat} (h : Ow w B (.slice A n c) P) (hl : ∀ p ∈ P, ∀ z ∈ p.x.p, z < 256) : Mz w B A P 0 := fun j p _ hj => by
  have h0 := h.own
  have hlt := (List.getElem?_eq_some_iff.1 hj).1
  rcases h0.2 with ⟨h1, h2⟩ | ⟨g, cap, cur, h1, h2, h3, h4, h5, h6, h7⟩
  · have : P = [] := by simpa using h2
    subst this; simp at hlt
  · cases h1
    refine ⟨g, cur, rfl, h2, h3, fun k u hk hu => ?_, Dat.of_own (h.each p (List.mem_of_getElem? hj)) (hl p (List.mem_of_getElem? hj))⟩
    have e := qsV_get hj hk
    rw [hu, ← h7, List.getElem?_take, if_pos (by omega), Array.getElem?_toList] at e
    exact e
theorem Mz.at_ (h : Mz w B A P i) {p : Pq} (hj : P[i]? = some p) : ∃ g : Nat, A = some ⟨g, 0, none⟩ ∧ B ≤ g ∧ (∃ cur : Array Value, w.heap[g]? = some (.cells cur 46 (0, 0)) ∧ i * 5 + 4 < cur.size) ∧ w.cell? ⟨g, i * 5, none⟩ = some (.int .i64 p.x.i.o) ∧ w.cell? ⟨g, i * 5 + 1, none⟩ = some (.int .i64 p.x.i.d) ∧ w.cell? ⟨g, i * 5 + 2, none⟩ = some (.int .i64 p.x.i.e) ∧ w.cell? ⟨g, i * 5 + 3, none⟩ = some (.int .i64 p.x.i.c) ∧ w.cell? ⟨g, i * 5 + 4, none⟩ = some p.v ∧ (∀ k, w.frozen? ⟨g, k, none⟩ = false) ∧ Dat w B p.A p.x.p.length := by
  obtain ⟨g, cur, h1, h2, h3, h4, h5⟩ := h i p (Nat.le_refl _) hj
  have hx : ∀ k u, k < 5 → (qV p)[k]? = some u → w.cell? ⟨g, i * 5 + k, none⟩ = some u := fun k u hk hu => (cell_of_row w g _ _ _ (0, 0) h3).trans (h4 k u hk hu)
  exact ⟨g, h1, h2, ⟨cur, h3, (Array.getElem?_eq_some_iff.1 (h4 4 _ (by omega) rfl)).1⟩, hx 0 _ (by omega) rfl, hx 1 _ (by omega) rfl, hx 2 _ (by omega) rfl, hx 3 _ (by omega) rfl, hx 4 _ (by omega) rfl, fun k => frozen_of_row w g k _ _ h3, h5⟩
/-- A byte is written. -/
theorem Mz.set (h : Mz w B A P i) {g k : Nat} {cs : Array Value} (hg : w.heap[g]? = some (.cells cs 5 (0, 0))) {b : Nat} (hb : b < 256) : Mz (w.setCell ⟨g, k, none⟩ (.int .u8 (b : Int))) B A P i := fun j p hij hj => by
  obtain ⟨g', cur, h1, h2, h3, h4, h5⟩ := h j p hij hj
  have hne : g' ≠ g := fun e => by
    subst e
    rw [h3] at hg
    simp at hg
  exact ⟨g', cur, h1, h2, (heap_setCell_other w _ _ _ hne).trans h3, h4, h5.set g k hb⟩
/-- The row at place i is written. -/
theorem Mz.row (h : Mz w B A P i) {g : Nat} (hA : A = some ⟨g, 0, none⟩) (hP : i < P.length) {us : List Value} (hu : us.length = 5) : Mz (w.setCells g (i * 5) us) B A P (i + 1) := fun j p hij hj => by
  obtain ⟨g', cur, h1, h2, h3, h4, h5⟩ := h j p (by omega) hj
  rw [hA] at h1
  cases h1
  obtain ⟨cur', q1, q2, q3, q4⟩ := heap_setCells g 46 us (i * 5) w cur h3
  refine ⟨g, cur', hA, h2, q1, fun k u hk hku => by rw [q3 _ (.inr (by rw [hu]; omega))]; exact h4 k u hk hku, h5.keep fun k cs hk => ?_⟩
  have hne : k ≠ g := fun e => by
    subst e
    rw [h3] at hk
    simp at hk
  exact (but_setCells w g (i * 5) us).1.same k (Array.getElem?_eq_some_iff.1 hk).1 hne
theorem Mz.below (h : Mz w B A P i) (hb : Below w.heap.size w w') : Mz w' B A P i := fun j p hij hj => by
  obtain ⟨g, cur, h1, h2, h3, h4, h5⟩ := h j p hij hj
  exact ⟨g, cur, h1, h2, (hb.block g (Array.getElem?_eq_some_iff.1 h3).1).trans h3, h4, h5.below hb⟩
end
/-- n counters of one's own, whatever they are. -/
def Nz (w : World) (B : Nat) (A : Option Addr) (n : Nat) : Prop :=
  n = 0 ∨ ∃ g cs, A = some ⟨g, 0, none⟩ ∧ B ≤ g ∧ w.heap[g]? = some (.cells cs 62 (0, 0)) ∧ n * 2 ≤ cs.size
section
variable {w w' : World} {B : Nat} {A : Option Addr} {n : Nat}
theorem Nz.of_kn {c : Nat} {l : Nx} (h : Kn w B (.slice A n c) l) : Nz w B A l.length := by
  rcases h.2 with ⟨h1, h2⟩ | ⟨g, cap, cur, h1, h2, h3, h4, h5, h6, h7⟩
  · exact .inl h2
  · cases h1
    exact .inr ⟨g, cur, rfl, h2, h3, by rw [h6]; omega⟩
theorem Nz.at_ (h : Nz w B A n) {i : Nat} (hi : i < n) : ∃ (g : Nat) (u : Value), A = some ⟨g, 0, none⟩ ∧ B ≤ g ∧ g < w.heap.size ∧ w.cell? ⟨g, i * 2 + 1, none⟩ = some u ∧ w.frozen? ⟨g, i * 2 + 1, none⟩ = false := by
  rcases h with h | ⟨g, cs, h1, h2, h3, h4⟩
  · omega
  · have hl : i * 2 + 1 < cs.size := by omega
    exact ⟨g, cs[i * 2 + 1], h1, h2, (Array.getElem?_eq_some_iff.1 h3).1, (cell_of_row w g _ _ _ (0, 0) h3).trans (Array.getElem?_eq_getElem hl), frozen_of_row w g _ _ _ h3⟩
theorem Nz.set (h : Nz w B A n) (g i : Nat) (u : Value) : Nz (w.setCell ⟨g, i, none⟩ u) B A n := by
  rcases h with h | ⟨g', cs, h1, h2, h3, h4⟩
  · exact .inl h
  · by_cases e : g' = g
    · subst e
      exact .inr ⟨g', _, h1, h2, heap_setCell_same w g' i _ _ _ h3, by simpa using h4⟩
    · exact .inr ⟨g', cs, h1, h2, (heap_setCell_other w _ _ _ e).trans h3, h4⟩
theorem Nz.below (h : Nz w B A n) (hb : Below w.heap.size w w') : Nz w' B A n := by
  rcases h with h | ⟨g, cs, h1, h2, h3, h4⟩
  · exact .inl h
  · exact .inr ⟨g, cs, h1, h2, (hb.block g (Array.getElem?_eq_some_iff.1 h3).1).trans h3, h4⟩
end
theorem appE_no {s : Sto} {k : Int} {i : Mg.Id4} {p : List Nat} (h : mayE s k i p.length ≠ 0) : appE s k i p = s := by unfold appE; rw [if_pos h]
end Go.Proofs.YtfnlhfelpdkieaaGreat.So
/- A law's copy of an event, in new memory. -/
namespace Go.Proofs.YtfnlhfelpdkieaaGreat.So
open Go.RowKit
open Go.Proofs.YtfnlhfelpdkieaaGreat.Me Go.Proofs.YtfnlhfelpdkieaaGreat.Sb
set_option linter.unusedVariables false
set_option linter.unusedSimpArgs false

theorem ev_one (k o d e c : Int) (A : Option Addr) (n q : Nat) : (#[.int .i64 k, .int .i64 o, .int .i64 d, .int .i64 e, .int .i64 c, .slice A n q] : Array Value).all (·.oneCell') = true := by simp [Value.oneCell']
set_option maxRecDepth 100000 in
set_option maxHeartbeats 8000000 in
theorem copied_any (k : Int) (i : Mg.Id4) (R : Option Addr) (c : Nat) (p : List Nat) (w : World) (hR : Me.Rd w w.heap.size R p) (hRn : R = none → p.length = 0 ∧ c = 0) (hl : p.length ≤ 140737488351232) :
    Calls Tryz.prog 11 #[.agg (evC k i R p.length c)] w fun e w' => ∃ A' c', e = .returned (.agg (evC k i A' p.length c')) ∧ Hid (p.length ≤ c' ∧ c' ≤ 9223372036854775807) ∧ Hid (Me.Own w' w.heap.size (.slice A' p.length c') p) ∧ Hid (Below w.heap.size w w') := by
  unfold evC
  obtain ⟨hB, hY, hX⟩ := two_new w #[.int .i64 k, .int .i64 i.o, .int .i64 i.d, .int .i64 i.e, .int .i64 i.c, .slice R p.length c] #[.int .i64 0, .int .i64 0, .int .i64 0, .int .i64 0, .int .i64 0, .slice none 0 0] 48 48
  obtain ⟨V0, hV0⟩ : ∃ V, (w.alloc (.cells #[.int .i64 k, .int .i64 i.o, .int .i64 i.d, .int .i64 i.e, .int .i64 i.c, .slice R p.length c] 48)).alloc (.cells #[.int .i64 0, .int .i64 0, .int .i64 0, .int .i64 0, .int .i64 0, .slice none 0 0] 48) = V := ⟨_, rfl⟩
  rw [hV0] at hB hY hX
  have HRd : Hid (∀ W, Below w.heap.size w W → Me.Rd W w.heap.size R p) := fun W hW => hR.below hW
  have HA := Lib.hid hRn
  have HLT : Hid (∀ z ∈ p, z < 256) := hR.1
  have HLN : Hid (([] : List Nat).length + p.length ≤ 140737488355328) := by
    show 0 + _ ≤ _
    omega
  obtain ⟨n, hn⟩ : ∃ n, p.length = n := ⟨_, rfl⟩
  have HN := Lib.hid hn
  have HV := Lib.hid hV0
  rw [hn] at HV hX ⊢
  have HB := Lib.hid hB
  have HY := Lib.hid hY
  have HX := Lib.hid hX
  obtain ⟨o, d, ee, cc⟩ := i
  simp only at HV HX ⊢
  have hlt : w.heap.size + 1 < V0.heap.size := (Array.getElem?_eq_some_iff.1 hY).1
  have HLT0 := Lib.hid hlt
  clear hB hY hX hR hRn hl hn hV0 hlt
  go_enter Tryz.func11, Tryz.ntmps11
  go_wp2
  rw [HV.out]
  have S0 : Below w.heap.size w V0.drew ∧ V0.drew.heap[w.heap.size]? = some (.cells #[.int .i64 k, .int .i64 o, .int .i64 d, .int .i64 ee, .int .i64 cc, .slice R n c] 48 (0, 0)) := ⟨HB.out.drew, HX.out⟩
  refine wp_region_held_drew (S := fun W => Below w.heap.size w W ∧ W.heap[w.heap.size]? = some (.cells #[.int .i64 k, .int .i64 o, .int .i64 d, .int .i64 ee, .int .i64 cc, .slice R n c] 48 (0, 0))) (by kernel_rfl) S0 (fun hHeld => ?_)
  refine wpAnyH_take (i := 0) (v := .pointer (some ⟨w.heap.size, 0, none⟩)) rfl (by kernel_rfl) (by kernel_rfl) (by kernel_rfl) (fun _ _ _ h => h) (Or.inl ⟨by rfl, ?_⟩) (by first | assumption | exact trivial) ?_
  · intro W hSW; go_simp; try (with_reducible rfl)
  simp only [Act.put, List.getElem_toArray, List.getElem_cons_succ, List.getElem_cons_zero, List.setIfInBounds_toArray, List.set_cons_zero, List.set_cons_succ]
  refine wpAnyH_take (i := 1) (v := .int .i64 k) rfl (by kernel_rfl) (by kernel_rfl) (by kernel_rfl) (fun _ _ _ h => h) (Or.inl ⟨by rfl, ?_⟩) (by first | assumption | exact trivial) ?_
  · intro W hSW; obtain ⟨u0, u1, u2, u3, u4, u5⟩ := ev_cells hSW.2; go_simp; try (with_reducible rfl)
  simp only [Act.put, List.getElem_toArray, List.getElem_cons_succ, List.getElem_cons_zero, List.setIfInBounds_toArray, List.set_cons_zero, List.set_cons_succ]
  refine wpAnyH_take (i := 2) (v := .pointer (some ⟨w.heap.size, 1, none⟩)) rfl (by kernel_rfl) (by kernel_rfl) (by kernel_rfl) (fun _ _ _ h => h) (Or.inl ⟨by rfl, ?_⟩) (by first | assumption | exact trivial) ?_
  · intro W hSW; go_simp; try (with_reducible rfl)
  simp only [Act.put, List.getElem_toArray, List.getElem_cons_succ, List.getElem_cons_zero, List.setIfInBounds_toArray, List.set_cons_zero, List.set_cons_succ]
  refine wpAnyH_take (i := 3) (v := .pointer (some ⟨w.heap.size, 1, none⟩)) rfl (by kernel_rfl) (by kernel_rfl) (by kernel_rfl) (fun _ _ _ h => h) (Or.inl ⟨by rfl, ?_⟩) (by first | assumption | exact trivial) ?_
  · intro W hSW; go_simp; try (with_reducible rfl)
  simp only [Act.put, List.getElem_toArray, List.getElem_cons_succ, List.getElem_cons_zero, List.setIfInBounds_toArray, List.set_cons_zero, List.set_cons_succ]
  refine wpAnyH_take (i := 4) (v := .agg #[.int .i64 o, .int .i64 d, .int .i64 ee, .int .i64 cc]) rfl (by kernel_rfl) (by kernel_rfl) (by kernel_rfl) (fun _ _ _ h => h) (Or.inl ⟨by rfl, ?_⟩) (by first | assumption | exact trivial) ?_
  · intro W hSW; obtain ⟨u0, u1, u2, u3, u4, u5⟩ := ev_cells hSW.2; go_simp; try (with_reducible rfl)
  simp only [Act.put, List.getElem_toArray, List.getElem_cons_succ, List.getElem_cons_zero, List.setIfInBounds_toArray, List.set_cons_zero, List.set_cons_succ]
  refine wpAnyH_take (i := 6) (v := .pointer (some ⟨w.heap.size, 1, none⟩)) rfl (by kernel_rfl) (by kernel_rfl) (by kernel_rfl) (fun _ _ _ h => h) (Or.inl ⟨by rfl, ?_⟩) (by first | assumption | exact trivial) ?_
  · intro W hSW; go_simp; try (with_reducible rfl)
  simp only [Act.put, List.getElem_toArray, List.getElem_cons_succ, List.getElem_cons_zero, List.setIfInBounds_toArray, List.set_cons_zero, List.set_cons_succ]
  refine wpAnyH_take (i := 7) (v := .pointer (some ⟨w.heap.size, 5, none⟩)) rfl (by kernel_rfl) (by kernel_rfl) (by kernel_rfl) (fun _ _ _ h => h) (Or.inl ⟨by rfl, ?_⟩) (by first | assumption | exact trivial) ?_
  · intro W hSW; go_simp; try (with_reducible rfl)
  simp only [Act.put, List.getElem_toArray, List.getElem_cons_succ, List.getElem_cons_zero, List.setIfInBounds_toArray, List.set_cons_zero, List.set_cons_succ]
  refine wpAnyH_take (i := 8) (v := .slice R n c) rfl (by kernel_rfl) (by kernel_rfl) (by kernel_rfl) (fun _ _ _ h => h) (Or.inl ⟨by rfl, ?_⟩) (by first | assumption | exact trivial) ?_
  · intro W hSW; obtain ⟨u0, u1, u2, u3, u4, u5⟩ := ev_cells hSW.2; go_simp; try (with_reducible rfl)
  simp only [Act.put, List.getElem_toArray, List.getElem_cons_succ, List.getElem_cons_zero, List.setIfInBounds_toArray, List.set_cons_zero, List.set_cons_succ]
  refine wpAnyH_ready (rs := [5]) (by kernel_rfl) (by simp) ?_
  refine AllReadyH.cons rfl (fun K hK => ?_) AllReadyH.nil
  go_simp
  have hb1 : Below V0.heap.size V0 (V0.alloc (.cells #[] 5)).drew := (Me.below_alloc (Below.refl _ _)).drew
  have ho1 : Me.Own (V0.alloc (.cells #[] 5)).drew V0.heap.size (.slice (some ⟨V0.heap.size, 0, none⟩) 0 0) [] := Own.lit (Below.refl _ _)
  obtain ⟨V1, hV1⟩ : ∃ V, (V0.alloc (.cells #[] 5)).drew = V := ⟨_, rfl⟩
  rw [hV1] at hb1 ho1 ⊢
  clear hV1
  have S1 : Below w.heap.size w V1 ∧ V1.heap[w.heap.size]? = some (.cells #[.int .i64 k, .int .i64 o, .int .i64 d, .int .i64 ee, .int .i64 cc, .slice R n c] 48 (0, 0)) := ⟨go_on HB.out hb1, (hb1.block _ (by have := HLT0.out; omega)).trans HX.out⟩
  refine hK.out _ _ (S1) (fun hHeld => ?_)
  clear hK K
  refine wpAnyH_ready (rs := [9]) (by kernel_rfl) (by simp) ?_
  refine AllReadyH.cons rfl (fun K hK => ?_) AllReadyH.nil
  rw [if_pos (by kernel_rfl)]
  refine Mg.app8b (.tmp 8) (.tmp 11) rfl V0.heap.size w.heap.size _ [] p rfl ho1 hb1 hb1.size R c (by rw [HN.out]; rfl) (HRd.out _ S1.1) HA.out HLN.out ?_
  intro v5 w8 ho8 hb8 _
  rw [List.nil_append] at ho8
  obtain ⟨A1, c1, rfl, p1, p2, _⟩ := ho8.held HLT.out
  rw [HN.out] at ho8 p1 ⊢
  simp only [Act.put, List.getElem_toArray, List.getElem_cons_succ, List.getElem_cons_zero, List.setIfInBounds_toArray, List.set_cons_zero, List.set_cons_succ]
  have S8 : Below w.heap.size w w8 ∧ w8.heap[w.heap.size]? = some (.cells #[.int .i64 k, .int .i64 o, .int .i64 d, .int .i64 ee, .int .i64 cc, .slice R n c] 48 (0, 0)) := ⟨go_on HB.out hb8, (hb8.block _ (by have := HLT0.out; omega)).trans HX.out⟩
  have hD8 : w8.heap[w.heap.size + 1]? = some (.cells #[.int .i64 0, .int .i64 0, .int .i64 0, .int .i64 0, .int .i64 0, .slice none 0 0] 48 (0, 0)) := (hb8.block _ HLT0.out).trans HY.out
  refine hK.out _ _ (S8) (fun hHeld => ?_)
  clear hK K
  refine wpAnyH_take (i := 10) (v := .agg #[.int .i64 o, .int .i64 d, .int .i64 ee, .int .i64 cc, .slice A1 n c1]) rfl (by kernel_rfl) (by kernel_rfl) (by kernel_rfl) (fun _ _ _ h => h) (Or.inl ⟨by rfl, ?_⟩) (by first | assumption | exact trivial) ?_
  · intro W hSW; go_simp; try (with_reducible rfl)
  simp only [Act.put, List.getElem_toArray, List.getElem_cons_succ, List.getElem_cons_zero, List.setIfInBounds_toArray, List.set_cons_zero, List.set_cons_succ]
  refine wpAnyH_take (i := 11) (v := .agg #[.int .i64 k, .int .i64 o, .int .i64 d, .int .i64 ee, .int .i64 cc, .slice A1 n c1]) rfl (by kernel_rfl) (by kernel_rfl) (by kernel_rfl) (fun _ _ _ h => h) (Or.inl ⟨by rfl, ?_⟩) (by first | assumption | exact trivial) ?_
  · intro W hSW; go_simp; try (with_reducible rfl)
  simp only [Act.put, List.getElem_toArray, List.getElem_cons_succ, List.getElem_cons_zero, List.setIfInBounds_toArray, List.set_cons_zero, List.set_cons_succ]
  refine wpAnyH_ready (rs := [12]) (by kernel_rfl) (by simp) ?_
  refine AllReadyH.cons rfl (fun K hK => ?_) AllReadyH.nil
  rw [if_pos (by kernel_rfl)]
  refine wp_store_row 48 (.tmp 2) (.tmp 14) rfl (w.heap.size + 1) #[.int .i64 k, .int .i64 o, .int .i64 d, .int .i64 ee, .int .i64 cc, .slice A1 n c1] rfl (by rfl) 48 _ hD8 (by kernel_rfl) rfl (ev_one _ _ _ _ _ _ _ _) ?_
  simp only [Act.put, List.getElem_toArray, List.getElem_cons_succ, List.getElem_cons_zero, List.setIfInBounds_toArray, List.set_cons_zero, List.set_cons_succ]
  obtain ⟨V9, hV9⟩ : ∃ V, w8.setRow (w.heap.size + 1) #[.int .i64 k, .int .i64 o, .int .i64 d, .int .i64 ee, .int .i64 cc, .slice A1 n c1] = V := ⟨_, rfl⟩
  have hb9 : Below w.heap.size w V9 := by rw [← hV9]; exact Sb.below_setRow _ S8.1 (by omega)
  have hD9 : V9.heap[w.heap.size + 1]? = some (.cells #[.int .i64 k, .int .i64 o, .int .i64 d, .int .i64 ee, .int .i64 cc, .slice A1 n c1] 48 (0, 0)) := by rw [← hV9]; exact setRow_heap _ _ _ _ _ _ hD8
  have hX9 : V9.heap[w.heap.size]? = some (.cells #[.int .i64 k, .int .i64 o, .int .i64 d, .int .i64 ee, .int .i64 cc, .slice R n c] 48 (0, 0)) := by rw [← hV9]; exact (setRow_other _ _ _ _ (by omega)).trans S8.2
  have ho9 : Me.Own V9 w.heap.size (.slice A1 n c1) p := own_base (own_same ho8 fun q e hq => by
    rw [← hV9]
    exact setRow_other _ _ _ _ (by have := (World.ownsRow.lt ho8 q e).1; have := HLT0.out; omega)) fun q e => by have := (World.ownsRow.lt ho8 q e).1; have := HLT0.out; omega
  rw [hV9]
  clear hV9
  refine hK.out _ _ (⟨hb9, hX9⟩) (fun hHeld => ?_)
  clear hK K
  refine wpAnyH_done (by kernel_rfl) ?_ _
  have HO9 := Lib.hid ho9
  clear hHeld S0 S1 S8 hD8 hX9 ho8 hb8 hb1 ho1 ho9
  go_wp2
  exact ret_box (g := w.heap.size + 1) rfl (by rfl) hD9 rfl Tryz.underlying48 (by kernel_rfl) rfl ⟨A1, c1, rfl, ⟨p1, p2⟩, HO9, hb9⟩
end Go.Proofs.YtfnlhfelpdkieaaGreat.So
