/- offer: a message is offered to a neighbour. -/
import Derived.Test.YtohfoieibgmmdaaZ14
import Derived.Test.YtohfoieibgmmdaaZ7
import Derived.Test.YtohfoieibgmmdaaZ8
import Derived.Test.YtohfoieibgmmdaaZ11
import Derived.Maps.AppendAt
namespace Go.Proofs.Ytohfoieibgmmdaa.Hp
open Go.RowKit Go.Maps
open Go.Proofs.Ytohfoieibgmmdaa.Me Go.Proofs.Ytohfoieibgmmdaa.Sb
set_option linter.unusedVariables false
set_option linter.unusedSimpArgs false

/-- A desk behind an offer. -/
def offK (d : Dk) (i : Mg.Id4) (t : Int) : Dk := ⟨d.wait, d.passed, (d.next + 1) % 65536, putK d.kept i ⟨true, t, d.next, (d.passed : Int) + 64⟩⟩
/-- An offer's cells. -/
def ofC (t : Int) (n : Nat) (i : Mg.Id4) (A : Option Addr) (l c : Nat) : Array Value := #[.int .i64 t, .int .i64 (n : Int), .int .i64 i.o, .int .i64 i.d, .int .i64 i.e, .int .i64 i.c, .slice A l c]
/-- Blocks that are as they were: the message's, the desk's. -/
def Sw (g D : Nat) (x y : Array Value) (W : World) : Prop := W.heap[g]? = some (.cells x 26 (0, 0)) ∧ W.heap[D]? = some (.cells y 85 (0, 0))
theorem Sw.c1 {g D : Nat} {o d ee c : Int} {v : Value} {y : Array Value} {W : World} (h : Sw g D #[.int .i64 o, .int .i64 d, .int .i64 ee, .int .i64 c, v] y W) : W.cell? ⟨g, 0, none⟩ = some (.int .i64 o) ∧ W.cell? ⟨g, 1, none⟩ = some (.int .i64 d) ∧ W.cell? ⟨g, 2, none⟩ = some (.int .i64 ee) ∧ W.cell? ⟨g, 3, none⟩ = some (.int .i64 c) ∧ W.cell? ⟨g, 4, none⟩ = some v := by
  refine ⟨?_, ?_, ?_, ?_, ?_⟩
  all_goals
    rw [cell_of_row W g _ _ _ (0, 0) h.1]
    rfl
theorem Sw.c2 {g D : Nat} {x : Array Value} {a b c e : Value} {W : World} (h : Sw g D x #[a, b, c, e] W) : W.cell? ⟨D, 0, none⟩ = some a ∧ W.cell? ⟨D, 1, none⟩ = some b ∧ W.cell? ⟨D, 2, none⟩ = some c ∧ W.cell? ⟨D, 3, none⟩ = some e := by
  refine ⟨?_, ?_, ?_, ?_⟩
  all_goals
    rw [cell_of_row W D _ _ _ (0, 0) h.2]
    rfl
theorem of_one (t : Int) (n : Int) (o d e c : Int) (A : Option Addr) (l k : Nat) : (#[.int .i64 t, .int .i64 n, .int .i64 o, .int .i64 d, .int .i64 e, .int .i64 c, .slice A l k] : Array Value).all (·.oneCell') = true := by simp [Value.oneCell']
/-- A desk's block holds no numbers of one's own. -/
theorem desk_ne {w : World} {D mb m : Nat} {dk : Dk} (h : Dq w D mb m dk) {b off : Nat} {k : IntKind} {x : Int} (hk : k ≠ .i64) (hc : w.cell? ⟨b, off, none⟩ = some (.int k x)) : b ≠ mb ∧ b ≠ D := by
  constructor
  · rintro rfl
    obtain ⟨es, c, hm⟩ := h.map.isMap
    simp [World.cell?, hm] at hc
  · rintro rfl
    rw [cell_of_row w b off _ _ (0, 0) h.box] at hc
    unfold dkC at hc
    match off, hc with
    | 0, hc => simp at hc; exact hk hc.1.symm
    | 1, hc => simp at hc; exact hk hc.1.symm
    | 2, hc => simp at hc; exact hk hc.1.symm
    | 3, hc => simp at hc
    | n + 4, hc => simp at hc
theorem rd_desk {w W : World} {D mb m B : Nat} {dk : Dk} {A : Option Addr} {l : List Nat} (h : Dq w D mb m dk) (hr : Me.Rd w B A l) (hB : B ≤ w.heap.size) (hb : But (fun k => k = mb ∨ k = D) w W) : Me.Rd W B A l := by
  refine ⟨hr.1, fun hl => ?_⟩
  obtain ⟨b, off, e, h1, h2⟩ := hr.2 hl
  have hne := desk_ne h (by decide) (h2 0 hl)
  exact ⟨b, off, e, h1, fun i hi => (World.cell?_of_block (w := w) (w' := W) (a := ⟨b, off + i, none⟩) (hb.same b (by omega) (fun e => e.elim hne.1 hne.2))).trans (h2 i hi)⟩
/-- What offer does. -/
def Off (w : World) (D mb m : Nat) (dk : Dk) (i : Mg.Id4) (t : Int) (l : List Nat) (e : Ending) (w' : World) : Prop :=
  ∃ A c, e = .returned (.agg (ofC t dk.next i A l.length c)) ∧ Me.Own w' w.heap.size (.slice A l.length c) l ∧ Dq w' D mb (if (dk.kept i).isSome = true then m else m + 1) (offK dk i t) ∧ But (fun k => k = mb ∨ k = D) w w'
set_option maxRecDepth 100000 in
set_option maxHeartbeats 1000000 in
theorem offer_any (D mb m : Nat) (dk : Dk) (i : Mg.Id4) (t : Int) (A : Option Addr) (n c : Nat) (l : List Nat) (w : World) (h : Hid (Dq w D mb m dk)) (hf : Fit i) (hm : m ≤ 1000000000000000000) (hp : dk.passed ≤ 1000000) (hx : dk.next < 65536) (hi : Hid (Mg.MsIn w A n c l)) :
    Calls Try.prog 61 #[.pointer (some ⟨D, 0, none⟩), .agg (Mg.msgC i A n c), .int .i64 t] w (Off w D mb m dk i t l) := by
  obtain rfl : n = l.length := hi.out.1.1
  have hbm : Below w.heap.size w (w.alloc (.cells (Mg.msgC i A l.length c) 26 (0, 0))) := Me.below_alloc (Below.refl _ _)
  obtain ⟨W1, hW1⟩ : ∃ W, (w.alloc (.cells (Mg.msgC i A l.length c) 26 (0, 0))).alloc (.cells #[.int .i64 0, .int .i64 0, .int .i64 0, .int .i64 0, .int .i64 0, .int .i64 0, .slice none 0 0] 68 (0, 0)) = W := ⟨_, rfl⟩
  have hb1 : Below w.heap.size w W1 := by rw [← hW1]; exact Me.below_alloc hbm
  have hs1 : W1.heap.size = w.heap.size + 1 + 1 := by rw [← hW1]; simp
  have hg1 : W1.heap[w.heap.size]? = some (.cells (Mg.msgC i A l.length c) 26 (0, 0)) := by rw [← hW1]; exact (Below.heap_alloc _ _ _ (by simp)).trans (heap_alloc_new w _)
  have hr1 : W1.heap[w.heap.size + 1]? = some (.cells #[.int .i64 0, .int .i64 0, .int .i64 0, .int .i64 0, .int .i64 0, .int .i64 0, .slice none 0 0] 68 (0, 0)) := by
    rw [← hW1]
    have := heap_alloc_new (w.alloc (.cells (Mg.msgC i A l.length c) 26 (0, 0))) (.cells #[.int .i64 0, .int .i64 0, .int .i64 0, .int .i64 0, .int .i64 0, .int .i64 0, .slice none 0 0] 68 (0, 0))
    rw [World.size_alloc] at this
    exact this
  have hq1 := h.out.below hb1
  obtain ⟨nx, hnx⟩ : ∃ x, (dk.next + 1) % 65536 = x := ⟨_, rfl⟩
  obtain ⟨W2, hW2⟩ : ∃ W, W1.setCell ⟨D, 2, none⟩ (.int .i64 (nx : Int)) = W := ⟨_, rfl⟩
  have hlD := h.out.ltD
  have hlm := h.out.ltm
  have hne := h.out.ne
  have hb2 : ∀ k, k ≠ D → W2.heap[k]? = W1.heap[k]? := fun k hk => by rw [← hW2]; exact Below.heap_setCell W1 _ _ k hk
  have hs2 : W2.heap.size = W1.heap.size := by rw [← hW2]; simp
  have hD2 : W2.heap[D]? = some (.cells (dkC ⟨dk.wait, dk.passed, nx, dk.kept⟩ mb) 85 (0, 0)) := by
    rw [← hW2, heap_setCell_same W1 D 2 _ _ _ hq1.box]
    rfl
  have hm2 : Mp W2 mb m dk.kept := hq1.map.same (hb2 mb (fun e => hne e.symm))
  have hg2 : W2.heap[w.heap.size]? = some (.cells (Mg.msgC i A l.length c) 26 (0, 0)) := (hb2 _ (by omega)).trans hg1
  have hr2 := (hb2 (w.heap.size + 1) (by omega)).trans hr1
  have hbt2 : But (fun k => k = mb ∨ k = D) w W2 := by rw [← hW2]; exact (But.of_below hb1).set (p := ⟨D, 2, none⟩) (.inl (.inr rfl)) _
  have hfr1 := hq1.frozen 2
  obtain ⟨q0, q1, q2, q3⟩ := hq1.cells
  have HQ1 := Lib.hid hq1
  have HD2 := Lib.hid hD2
  have HM2 := Lib.hid hm2
  have HG2 := Lib.hid hg2
  have HR2 := Lib.hid hr2
  have HBT2 := Lib.hid hbt2
  have HW1 := Lib.hid hW1
  have HW2 := Lib.hid hW2
  have HNX := Lib.hid hnx
  have HF := Lib.hid hf
  have HMm := Lib.hid hm
  have HNE := Lib.hid hne
  have HLD := Lib.hid hlD
  have HLM := Lib.hid hlm
  have HS2 : Hid (W2.heap.size = w.heap.size + 1 + 1) := hs2.trans hs1
  have HE : Hid (∀ w', Dq w' D mb (if (dk.kept i).isSome = true then m else m + 1) ⟨dk.wait, dk.passed, nx, putK dk.kept i ⟨true, t, dk.next, (dk.passed : Int) + 64⟩⟩ = Dq w' D mb (if (dk.kept i).isSome = true then m else m + 1) (offK dk i t)) := fun w' => by unfold offK; rw [hnx]
  have HPW : Hid (IntKind.i64.wrap ((dk.passed : Int) + 64) = (dk.passed : Int) + 64) := Mi.fits' (by unfold Mi.I64; omega)
  have HCl : Hid (∀ W, But (fun k => k = mb ∨ k = D) w W → Calls Try.prog 89 #[.slice A l.length c] W fun e w' => ∃ v, e = .returned v ∧ Hid (Me.Own w' W.heap.size v l) ∧ Hid (Below W.heap.size W w')) := fun W hW => Hd.BClone_any A c w.heap.size l W (rd_desk h.out hi.out.1.2.2.2.1 (Nat.le_refl _) hW) hi.out.1.2.2.2.2 hW.size (by have := hi.out.1.2.1; have := hi.out.2; omega)
  have HLT := Lib.hid hi.out.1.2.2.2.1.1
  have e0 : ((dk.next : Int) + 1) % 65536 = (nx : Int) := by omega
  clear hb2 hs2 hD2 hm2 hg2 hr2 hbt2 hnx hW1 hf hm hp hi h hb1 hs1 hg1 hr1 hq1 hbm hlD hlm hne
  have e1 : (dk.next : Int) + 1 ≤ 70000 := by omega
  obtain ⟨j, hj⟩ : ∃ j, i = j := ⟨_, rfl⟩
  have HJ := Lib.hid hj
  obtain ⟨o, d, ee, cc⟩ := i
  have HJC : Hid (Mg.idC j = #[.int .i64 o, .int .i64 d, .int .i64 ee, .int .i64 cc]) := by show _ = _; rw [← hj]; rfl
  simp only [hj] at HF HE HM2
  clear hj
  obtain ⟨N, hN⟩ : ∃ N, l.length = N := ⟨_, rfl⟩
  have HN := Lib.hid hN
  simp only [Mg.msgC, Mg.idC, dkC, hN] at HW1 HD2 HG2 HCl ⊢
  clear hN
  go_enter Try.func61, Try.ntmps61
  go_wp2_with (rw [HW1.out])
  clear hW2
  have S0 : Sw w.heap.size D #[.int .i64 o, .int .i64 d, .int .i64 ee, .int .i64 cc, .slice A N c] #[.int .i64 dk.wait, .int .i64 dk.passed, .int .i64 nx, .map (some mb)] W2.drew := ⟨HG2.out, HD2.out⟩
  refine wp_region_held_drew (S := Sw w.heap.size D #[.int .i64 o, .int .i64 d, .int .i64 ee, .int .i64 cc, .slice A N c] #[.int .i64 dk.wait, .int .i64 dk.passed, .int .i64 nx, .map (some mb)]) (by kernel_rfl) S0 (fun hHeld => ?_)
  refine wpAnyH_take (i := 0) (v := .pointer (some ⟨D, 0, none⟩)) rfl (by kernel_rfl) (by kernel_rfl) (by kernel_rfl) (fun _ _ _ h => h) (Or.inl ⟨by rfl, ?_⟩) (by first | assumption | exact trivial) ?_
  · intro W hSW; go_simp; try (with_reducible rfl)
  simp only [Act.put, List.getElem_toArray, List.getElem_cons_succ, List.getElem_cons_zero, List.setIfInBounds_toArray, List.set_cons_zero, List.set_cons_succ]
  refine wpAnyH_take (i := 1) (v := .pointer (some ⟨D, 0, none⟩)) rfl (by kernel_rfl) (by kernel_rfl) (by kernel_rfl) (fun _ _ _ h => h) (Or.inl ⟨by rfl, ?_⟩) (by first | assumption | exact trivial) ?_
  · intro W hSW; go_simp; try (with_reducible rfl)
  simp only [Act.put, List.getElem_toArray, List.getElem_cons_succ, List.getElem_cons_zero, List.setIfInBounds_toArray, List.set_cons_zero, List.set_cons_succ]
  refine wpAnyH_take (i := 2) (v := .pointer (some ⟨D, 3, none⟩)) rfl (by kernel_rfl) (by kernel_rfl) (by kernel_rfl) (fun _ _ _ h => h) (Or.inl ⟨by rfl, ?_⟩) (by first | assumption | exact trivial) ?_
  · intro W hSW; go_simp; try (with_reducible rfl)
  simp only [Act.put, List.getElem_toArray, List.getElem_cons_succ, List.getElem_cons_zero, List.setIfInBounds_toArray, List.set_cons_zero, List.set_cons_succ]
  refine wpAnyH_take (i := 3) (v := .map (some mb)) rfl (by kernel_rfl) (by kernel_rfl) (by kernel_rfl) (fun _ _ _ h => h) (Or.inl ⟨by rfl, ?_⟩) (by first | assumption | exact trivial) ?_
  · intro W hSW; obtain ⟨_, _, _, z⟩ := hSW.c2; go_simp; try (with_reducible rfl)
  simp only [Act.put, List.getElem_toArray, List.getElem_cons_succ, List.getElem_cons_zero, List.setIfInBounds_toArray, List.set_cons_zero, List.set_cons_succ]
  refine wpAnyH_take (i := 4) (v := .pointer (some ⟨w.heap.size, 0, none⟩)) rfl (by kernel_rfl) (by kernel_rfl) (by kernel_rfl) (fun _ _ _ h => h) (Or.inl ⟨by rfl, ?_⟩) (by first | assumption | exact trivial) ?_
  · intro W hSW; go_simp; try (with_reducible rfl)
  simp only [Act.put, List.getElem_toArray, List.getElem_cons_succ, List.getElem_cons_zero, List.setIfInBounds_toArray, List.set_cons_zero, List.set_cons_succ]
  refine wpAnyH_take (i := 5) (v := .agg #[.int .i64 o, .int .i64 d, .int .i64 ee, .int .i64 cc]) rfl (by kernel_rfl) (by kernel_rfl) (by kernel_rfl) (fun _ _ _ h => h) (Or.inl ⟨by rfl, ?_⟩) (by first | assumption | exact trivial) ?_
  · intro W hSW; obtain ⟨y0, y1, y2, y3, _⟩ := hSW.c1; go_simp; try (with_reducible rfl)
  simp only [Act.put, List.getElem_toArray, List.getElem_cons_succ, List.getElem_cons_zero, List.setIfInBounds_toArray, List.set_cons_zero, List.set_cons_succ]
  refine wpAnyH_take (i := 6) (v := .int .i64 t) rfl (by kernel_rfl) (by kernel_rfl) (by kernel_rfl) (fun _ _ _ h => h) (Or.inl ⟨by rfl, ?_⟩) (by first | assumption | exact trivial) ?_
  · intro W hSW; go_simp; try (with_reducible rfl)
  simp only [Act.put, List.getElem_toArray, List.getElem_cons_succ, List.getElem_cons_zero, List.setIfInBounds_toArray, List.set_cons_zero, List.set_cons_succ]
  refine wpAnyH_take (i := 7) (v := .int .i64 (dk.next : Int)) rfl (by kernel_rfl) (by kernel_rfl) (by kernel_rfl) (fun _ _ _ h => h) (Or.inl ⟨by rfl, ?_⟩) (by first | assumption | exact trivial) ?_
  · intro W hSW; go_simp; try (with_reducible rfl)
  simp only [Act.put, List.getElem_toArray, List.getElem_cons_succ, List.getElem_cons_zero, List.setIfInBounds_toArray, List.set_cons_zero, List.set_cons_succ]
  refine wpAnyH_take (i := 8) (v := .pointer (some ⟨D, 0, none⟩)) rfl (by kernel_rfl) (by kernel_rfl) (by kernel_rfl) (fun _ _ _ h => h) (Or.inl ⟨by rfl, ?_⟩) (by first | assumption | exact trivial) ?_
  · intro W hSW; go_simp; try (with_reducible rfl)
  simp only [Act.put, List.getElem_toArray, List.getElem_cons_succ, List.getElem_cons_zero, List.setIfInBounds_toArray, List.set_cons_zero, List.set_cons_succ]
  refine wpAnyH_take (i := 9) (v := .pointer (some ⟨D, 0, none⟩)) rfl (by kernel_rfl) (by kernel_rfl) (by kernel_rfl) (fun _ _ _ h => h) (Or.inl ⟨by rfl, ?_⟩) (by first | assumption | exact trivial) ?_
  · intro W hSW; go_simp; try (with_reducible rfl)
  simp only [Act.put, List.getElem_toArray, List.getElem_cons_succ, List.getElem_cons_zero, List.setIfInBounds_toArray, List.set_cons_zero, List.set_cons_succ]
  refine wpAnyH_take (i := 10) (v := .pointer (some ⟨D, 1, none⟩)) rfl (by kernel_rfl) (by kernel_rfl) (by kernel_rfl) (fun _ _ _ h => h) (Or.inl ⟨by rfl, ?_⟩) (by first | assumption | exact trivial) ?_
  · intro W hSW; go_simp; try (with_reducible rfl)
  simp only [Act.put, List.getElem_toArray, List.getElem_cons_succ, List.getElem_cons_zero, List.setIfInBounds_toArray, List.set_cons_zero, List.set_cons_succ]
  refine wpAnyH_take (i := 11) (v := .int .i64 (dk.passed : Int)) rfl (by kernel_rfl) (by kernel_rfl) (by kernel_rfl) (fun _ _ _ h => h) (Or.inl ⟨by rfl, ?_⟩) (by first | assumption | exact trivial) ?_
  · intro W hSW; obtain ⟨_, z, _, _⟩ := hSW.c2; go_simp; try (with_reducible rfl)
  simp only [Act.put, List.getElem_toArray, List.getElem_cons_succ, List.getElem_cons_zero, List.setIfInBounds_toArray, List.set_cons_zero, List.set_cons_succ]
  refine wpAnyH_take (i := 12) (v := .int .i64 ((dk.passed : Int) + 64)) rfl (by kernel_rfl) (by kernel_rfl) (by kernel_rfl) (fun _ _ _ h => h) (Or.inl ⟨by rfl, ?_⟩) (by first | assumption | exact trivial) ?_
  · intro W hSW; have z := HPW.out; go_simp; try (with_reducible rfl)
  simp only [Act.put, List.getElem_toArray, List.getElem_cons_succ, List.getElem_cons_zero, List.setIfInBounds_toArray, List.set_cons_zero, List.set_cons_succ]
  refine wpAnyH_take (i := 13) (v := .agg #[.bool true, .int .i64 t, .int .i64 (dk.next : Int), .int .i64 ((dk.passed : Int) + 64)]) rfl (by kernel_rfl) (by kernel_rfl) (by kernel_rfl) (fun _ _ _ h => h) (Or.inl ⟨by rfl, ?_⟩) (by first | assumption | exact trivial) ?_
  · intro W hSW; go_simp; try (with_reducible rfl)
  simp only [Act.put, List.getElem_toArray, List.getElem_cons_succ, List.getElem_cons_zero, List.setIfInBounds_toArray, List.set_cons_zero, List.set_cons_succ]
  refine wpAnyH_ready (rs := [14]) (by kernel_rfl) (by simp) ?_
  refine AllReadyH.cons rfl (fun K hK => ?_) AllReadyH.nil
  refine putW (.tmp 21) (.tmp 23) (.tmp 31) rfl mb m dk.kept j ⟨true, t, dk.next, (dk.passed : Int) + 64⟩ rfl (by rw [HJC.out]; rfl) rfl (HM2.out.same rfl) HMm.out HF.out ?_
  intro w7 hm7 hb7 hs7
  have hD7 := (hb7.same D (by show D < W2.heap.size; have := HLD.out; have := HS2.out; omega) HNE.out).trans HD2.out
  have hG7 := (hb7.same w.heap.size (by show _ < W2.heap.size; have := HS2.out; omega) (by have := HLM.out; omega)).trans HG2.out
  have hR7 := (hb7.same (w.heap.size + 1) (by show _ < W2.heap.size; have := HS2.out; omega) (by have := HLM.out; omega)).trans HR2.out
  have S7 : Sw w.heap.size D #[.int .i64 o, .int .i64 d, .int .i64 ee, .int .i64 cc, .slice A N c] #[.int .i64 dk.wait, .int .i64 dk.passed, .int .i64 nx, .map (some mb)] w7 := ⟨hG7, hD7⟩
  have hDq7 : Dq w7 D mb (if (dk.kept j).isSome = true then m else m + 1) (offK dk j t) := (HE.out w7).mp ⟨hD7, hm7⟩
  have HBT7 : Hid (But (fun k => k = mb ∨ k = D) w w7) := (HBT2.out.trans (But.of_below (S := fun k => k = mb ∨ k = D) (Below.refl _ W2).drew) fun _ _ e => e).trans hb7 fun _ _ e => .inl e
  have HDQ7 := Lib.hid hDq7
  have HS7 : Hid (w7.heap.size = w.heap.size + 1 + 1) := hs7.trans HS2.out
  have HR7 := Lib.hid hR7
  have HCl7 : Hid (∀ W, Below w7.heap.size w7 W → Calls Try.prog 89 #[.slice A N c] W fun e w' => ∃ v, e = .returned v ∧ Hid (Me.Own w' W.heap.size v l) ∧ Hid (Below W.heap.size W w')) := fun W hW => HCl.out W (HBT7.out.trans (But.of_below (S := fun k => k = mb ∨ k = D) hW) fun _ _ e => e)
  clear hm7 hb7 hs7 hD7 hG7 hR7 hDq7 HW1 HW2
  refine hK.out _ _ (S7) (fun hHeld => ?_)
  clear hK K
  refine wpAnyH_done (by kernel_rfl) ?_ _
  have HS7w := Lib.hid S7
  clear S0 S7 hHeld
  go_wp2
  have S8 : Below w7.heap.size w7 w7.drew := (Below.refl _ w7).drew
  have HSB : Hid (∀ W, Below w7.heap.size w7 W → Sw w.heap.size D #[.int .i64 o, .int .i64 d, .int .i64 ee, .int .i64 cc, .slice A N c] #[.int .i64 dk.wait, .int .i64 dk.passed, .int .i64 nx, .map (some mb)] W) := fun W hW => ⟨(hW.block _ (Array.getElem?_eq_some_iff.1 HS7w.out.1).1).trans HS7w.out.1, (hW.block _ (Array.getElem?_eq_some_iff.1 HS7w.out.2).1).trans HS7w.out.2⟩
  refine wp_region_held_drew (S := Sw w.heap.size D #[.int .i64 o, .int .i64 d, .int .i64 ee, .int .i64 cc, .slice A N c] #[.int .i64 dk.wait, .int .i64 dk.passed, .int .i64 nx, .map (some mb)]) (by kernel_rfl) (HSB.out _ S8) (fun hHeld => ?_)
  refine wpAnyH_take (i := 0) (v := .int .i64 t) rfl (by kernel_rfl) (by kernel_rfl) (by kernel_rfl) (fun _ _ _ h => h) (Or.inl ⟨by rfl, ?_⟩) (by first | assumption | exact trivial) ?_
  · intro W hSW; go_simp; try (with_reducible rfl)
  simp only [Act.put, List.getElem_toArray, List.getElem_cons_succ, List.getElem_cons_zero, List.setIfInBounds_toArray, List.set_cons_zero, List.set_cons_succ]
  refine wpAnyH_take (i := 1) (v := .int .i64 (dk.next : Int)) rfl (by kernel_rfl) (by kernel_rfl) (by kernel_rfl) (fun _ _ _ h => h) (Or.inl ⟨by rfl, ?_⟩) (by first | assumption | exact trivial) ?_
  · intro W hSW; go_simp; try (with_reducible rfl)
  simp only [Act.put, List.getElem_toArray, List.getElem_cons_succ, List.getElem_cons_zero, List.setIfInBounds_toArray, List.set_cons_zero, List.set_cons_succ]
  refine wpAnyH_take (i := 2) (v := .pointer (some ⟨w.heap.size, 0, none⟩)) rfl (by kernel_rfl) (by kernel_rfl) (by kernel_rfl) (fun _ _ _ h => h) (Or.inl ⟨by rfl, ?_⟩) (by first | assumption | exact trivial) ?_
  · intro W hSW; go_simp; try (with_reducible rfl)
  simp only [Act.put, List.getElem_toArray, List.getElem_cons_succ, List.getElem_cons_zero, List.setIfInBounds_toArray, List.set_cons_zero, List.set_cons_succ]
  refine wpAnyH_take (i := 3) (v := .agg #[.int .i64 o, .int .i64 d, .int .i64 ee, .int .i64 cc]) rfl (by kernel_rfl) (by kernel_rfl) (by kernel_rfl) (fun _ _ _ h => h) (Or.inl ⟨by rfl, ?_⟩) (by first | assumption | exact trivial) ?_
  · intro W hSW; obtain ⟨y0, y1, y2, y3, _⟩ := hSW.c1; go_simp; try (with_reducible rfl)
  simp only [Act.put, List.getElem_toArray, List.getElem_cons_succ, List.getElem_cons_zero, List.setIfInBounds_toArray, List.set_cons_zero, List.set_cons_succ]
  refine wpAnyH_take (i := 4) (v := .pointer (some ⟨w.heap.size, 4, none⟩)) rfl (by kernel_rfl) (by kernel_rfl) (by kernel_rfl) (fun _ _ _ h => h) (Or.inl ⟨by rfl, ?_⟩) (by first | assumption | exact trivial) ?_
  · intro W hSW; go_simp; try (with_reducible rfl)
  simp only [Act.put, List.getElem_toArray, List.getElem_cons_succ, List.getElem_cons_zero, List.setIfInBounds_toArray, List.set_cons_zero, List.set_cons_succ]
  refine wpAnyH_take (i := 5) (v := .slice A N c) rfl (by kernel_rfl) (by kernel_rfl) (by kernel_rfl) (fun _ _ _ h => h) (Or.inl ⟨by rfl, ?_⟩) (by first | assumption | exact trivial) ?_
  · intro W hSW; obtain ⟨_, _, _, _, y4⟩ := hSW.c1; go_simp; try (with_reducible rfl)
  simp only [Act.put, List.getElem_toArray, List.getElem_cons_succ, List.getElem_cons_zero, List.setIfInBounds_toArray, List.set_cons_zero, List.set_cons_succ]
  refine wpAnyH_ready (rs := [6]) (by kernel_rfl) (by simp) ?_
  refine AllReadyH.cons rfl (fun K hK => ?_) AllReadyH.nil
  go_simp
  go_wp2_with (go_at_call 89; refine (HCl7.out _ (Below.refl _ w7).drew).mono ?_; rintro e w8 ⟨v8, rfl, ho8, hb8⟩; obtain ⟨A8, c8, e8, _, _, _⟩ := ho8.out.held HLT.out; rw [HN.out] at e8; subst e8)
  have hb78 : Below w7.heap.size w7 w8 := S8.trans (hb8.out.mono S8.size)
  refine hK.out _ _ (HSB.out _ hb78) (fun hHeld => ?_)
  clear hK K
  refine wpAnyH_take (i := 7) (v := .agg #[.int .i64 o, .int .i64 d, .int .i64 ee, .int .i64 cc, .slice A8 N c8]) rfl (by kernel_rfl) (by kernel_rfl) (by kernel_rfl) (fun _ _ _ h => h) (Or.inl ⟨by rfl, ?_⟩) (by first | assumption | exact trivial) ?_
  · intro W hSW; go_simp; try (with_reducible rfl)
  simp only [Act.put, List.getElem_toArray, List.getElem_cons_succ, List.getElem_cons_zero, List.setIfInBounds_toArray, List.set_cons_zero, List.set_cons_succ]
  refine wpAnyH_take (i := 8) (v := .agg #[.int .i64 t, .int .i64 (dk.next : Int), .int .i64 o, .int .i64 d, .int .i64 ee, .int .i64 cc, .slice A8 N c8]) rfl (by kernel_rfl) (by kernel_rfl) (by kernel_rfl) (fun _ _ _ h => h) (Or.inl ⟨by rfl, ?_⟩) (by first | assumption | exact trivial) ?_
  · intro W hSW; go_simp; try (with_reducible rfl)
  simp only [Act.put, List.getElem_toArray, List.getElem_cons_succ, List.getElem_cons_zero, List.setIfInBounds_toArray, List.set_cons_zero, List.set_cons_succ]
  refine wpAnyH_ready (rs := [9]) (by kernel_rfl) (by simp) ?_
  refine AllReadyH.cons rfl (fun K hK => ?_) AllReadyH.nil
  have hR8 := (hb78.block _ (Array.getElem?_eq_some_iff.1 HR7.out).1).trans HR7.out
  rw [if_pos (by kernel_rfl)]
  refine wp_store_row 68 (.tmp 6) (.tmp 40) rfl (w.heap.size + 1) #[.int .i64 t, .int .i64 (dk.next : Int), .int .i64 o, .int .i64 d, .int .i64 ee, .int .i64 cc, .slice A8 N c8] rfl (by rfl) 68 _ hR8 (by kernel_rfl) rfl (of_one _ _ _ _ _ _ _ _ _) ?_
  simp only [Act.put, List.getElem_toArray, List.getElem_cons_succ, List.getElem_cons_zero, List.setIfInBounds_toArray, List.set_cons_zero, List.set_cons_succ]
  obtain ⟨V9, hV9⟩ : ∃ V, w8.setRow (w.heap.size + 1) #[.int .i64 t, .int .i64 (dk.next : Int), .int .i64 o, .int .i64 d, .int .i64 ee, .int .i64 cc, .slice A8 N c8] = V := ⟨_, rfl⟩
  have hR9 : V9.heap[w.heap.size + 1]? = some (.cells #[.int .i64 t, .int .i64 (dk.next : Int), .int .i64 o, .int .i64 d, .int .i64 ee, .int .i64 cc, .slice A8 N c8] 68 (0, 0)) := by rw [← hV9]; exact setRow_heap _ _ _ _ _ _ hR8
  have hoth : ∀ k, k ≠ w.heap.size + 1 → V9.heap[k]? = w8.heap[k]? := fun k hk => by rw [← hV9]; exact setRow_other _ _ k _ hk
  have hsz9 : V9.heap.size = w8.heap.size := by rw [← hV9]; simp [World.setRow]
  have hb79 : But (fun k => k = mb ∨ k = D) w V9 := by rw [← hV9]; exact (HBT7.out.trans (But.of_below (S := fun k => k = mb ∨ k = D) hb78) fun _ _ e => e).setRow (.inr (Nat.le_succ _)) _
  rw [hV9]
  clear hV9
  have S9 : Sw w.heap.size D #[.int .i64 o, .int .i64 d, .int .i64 ee, .int .i64 cc, .slice A N c] #[.int .i64 dk.wait, .int .i64 dk.passed, .int .i64 nx, .map (some mb)] V9 := ⟨(hoth _ (by omega)).trans (HSB.out _ hb78).1, (hoth D (by have := HLD.out; omega)).trans (HSB.out _ hb78).2⟩
  have ho9 : Me.Own V9 w.heap.size (.slice A8 N c8) l := by
    have h1 : Me.Own w8 w.heap.size (.slice A8 N c8) l := own_base ho8.out fun k e => Nat.le_trans (by have := HS7.out; show w.heap.size ≤ w7.heap.size; omega) (ho8.out.lt k e).1
    exact own_same h1 fun k e hk => hoth k (by have h2 := (ho8.out.lt k e).1; have h3 : w7.heap.size ≤ k := h2; have := HS7.out; omega)
  have hq9 : Dq V9 D mb (if (dk.kept j).isSome = true then m else m + 1) (offK dk j t) := HDQ7.out.keep ((hoth D (by have := HLD.out; omega)).trans (hb78.block D HDQ7.out.ltD)) ((hoth mb (by have := HLM.out; omega)).trans (hb78.block mb HDQ7.out.ltm))
  have HO9 := Lib.hid ho9
  have HQ9 := Lib.hid hq9
  have HB9 := Lib.hid hb79
  have HR9 := Lib.hid hR9
  clear ho9 hq9 hb79 hR9 hR8 hoth hsz9 S8 hb78 hb8 ho8
  refine hK.out _ _ (S9) (fun hHeld => ?_)
  clear hK K
  refine wpAnyH_done (by kernel_rfl) ?_ _
  go_wp2
  refine ret_arr rfl rfl HR9.out rfl Try.underlying68 (by kernel_rfl) rfl ⟨A8, c8, ?_, ?_, ?_, HB9.out⟩
  · rw [HN.out]
    unfold ofC
    rfl
  · rw [HN.out]
    exact HO9.out
  · rw [HJ.out]
    exact HQ9.out
end Go.Proofs.Ytohfoieibgmmdaa.Hp
/- Offers of the call's own in memory: a slice of rows, and bytes of one's own. -/
namespace Go.Proofs.Ytohfoieibgmmdaa.Hp
open Go.RowKit Go.Maps
open Go.Proofs.Ytohfoieibgmmdaa.Me Go.Proofs.Ytohfoieibgmmdaa.Sb
set_option linter.unusedVariables false
set_option linter.unusedSimpArgs false

theorem add_mk (g off n : Nat) : (⟨g, off, none⟩ : Addr).add n = ⟨g, off + n, none⟩ := by unfold Addr.add; split <;> simp_all
theorem ty_ne {w : World} {B B' T T' s s' n n' : Nat} {v v' : Value} {xs xs' : List Value} (h : w.ownsRow B T s v n xs) (h' : w.ownsRow B' T' s' v' n' xs') (hT : T ≠ T') : v.ownBlock = none ∨ v.ownBlock ≠ v'.ownBlock := by
  rcases h.2 with ⟨rfl, _⟩ | ⟨g, cap, cur, rfl, _, h3, _⟩
  · exact .inl rfl
  · right
    rcases h'.2 with ⟨rfl, _⟩ | ⟨g', cap', cur', rfl, _, h3', _⟩
    · simp [Value.ownBlock]
    · intro e
      obtain rfl : g = g' := by simpa [Value.ownBlock] using e
      rw [h3] at h3'
      simp at h3'
      exact hT h3'.2
/-- A message and where its data lies. -/
structure Fo where
  t : Int
  n : Nat
  i : Mg.Id4
  p : List Nat
  A : Option Addr
  c : Nat
def Fo.v (q : Fo) : Value := .slice q.A q.p.length q.c
def qV (q : Fo) : List Value := [.int .i64 q.t, .int .i64 (q.n : Int), .int .i64 q.i.o, .int .i64 q.i.d, .int .i64 q.i.e, .int .i64 q.i.c, q.v]
def qsV (P : List Fo) : List Value := P.flatMap qV
theorem qV_len (p : Fo) : (qV p).length = 7 := rfl
theorem qsV_len (P : List Fo) : (qsV P).length = P.length * 7 := by
  induction P with
  | nil => rfl
  | cons p r ih => unfold qsV at ih ⊢; rw [List.flatMap_cons, List.length_append, ih, qV_len, List.length_cons]; omega
theorem qsV_snoc (P : List Fo) (p : Fo) : qsV (P ++ [p]) = qsV P ++ qV p := by unfold qsV; rw [List.flatMap_append]; simp
theorem qsV_get {P : List Fo} {p : Fo} : ∀ {j : Nat}, P[j]? = some p → ∀ {i : Nat}, i < 7 → (qsV P)[j * 7 + i]? = (qV p)[i]? := by
  induction P with
  | nil => intro j h; simp at h
  | cons x r ih =>
    intro j h i hi
    have e : qsV (x :: r) = qV x ++ qsV r := by unfold qsV; rw [List.flatMap_cons]
    rw [e]
    cases j with
    | zero =>
      obtain rfl : x = p := by simpa using h
      rw [List.getElem?_append_left (by rw [qV_len]; omega)]; simp
    | succ j =>
      rw [List.getElem?_append_right (by rw [qV_len]; omega), qV_len]
      have h2 := ih (j := j) (by simpa using h) hi
      rw [show (j + 1) * 7 + i - 7 = j * 7 + i by omega, h2]
/-- Messages of the call's own, with bytes of the call's own. -/
structure Ow (w : World) (B : Nat) (v : Value) (P : List Fo) : Prop where
  own : w.ownsRow B 68 7 v P.length (qsV P)
  each : ∀ p ∈ P, Me.Own w B p.v p.p
theorem Ow.nil (w : World) (B : Nat) : Ow w B (.slice none 0 0) [] := ⟨⟨rfl, .inl ⟨rfl, rfl⟩⟩, fun p hp => by simp at hp⟩
theorem Ow.lit {B : Nat} {w : World} (hb : B ≤ w.heap.size) : Ow (w.alloc (.cells #[] 68)) B (.slice (some ⟨w.heap.size, 0, none⟩) 0 0) [] :=
  ⟨World.ownsRow_made w #[] 0 hb (by unfold maxLen; omega) rfl, fun p h => by simp at h⟩
theorem Ow.below {w w' : World} {B : Nat} {v : Value} {P : List Fo} (h : Ow w B v P) (hb : Below w.heap.size w w') : Ow w' B v P :=
  ⟨own_same h.own fun k _ hk => hb.block k hk, fun p hp => own_same (h.each p hp) fun k _ hk => hb.block k hk⟩
theorem Ow.base {w : World} {B B' : Nat} {v : Value} {P : List Fo} (h : Ow w B v P) (hB : B' ≤ B) : Ow w B' v P :=
  ⟨own_base h.own fun k hk => Nat.le_trans hB (h.own.lt k hk).1, fun p hp => own_base (h.each p hp) fun k hk => Nat.le_trans hB (World.ownsRow.lt (h.each p hp) k hk).1⟩
theorem Ow.form {w : World} {B : Nat} {v : Value} {P : List Fo} (h : Ow w B v P) : ∃ A c, v = .slice A P.length c ∧ P.length ≤ c ∧ c ≤ 9223372036854775807 := by
  rcases h.own.2 with ⟨h1, h2⟩ | ⟨g, cap, cur, h1, h2, h3, h4, h5, h6, h7⟩
  · have : P = [] := by simpa using h2
    subst this
    exact ⟨none, 0, h1, Nat.le_refl _, Nat.zero_le _⟩
  · exact ⟨_, cap, h1, h4, by unfold maxLen at h5; omega⟩
theorem Ow.butP {S : Nat → Prop} {w w' : World} {B : Nat} {v : Value} {P : List Fo} (h : Ow w B v P) (hb : But S w w') (hS : ∀ k, S k → k < B) : Ow w' B v P :=
  ⟨own_same h.own fun k e hk => hb.same k hk fun hs => by have := (h.own.lt k e).1; have := hS k hs; omega, fun p hp => own_same (h.each p hp) fun k e hk => hb.same k hk fun hs => by have := (World.ownsRow.lt (h.each p hp) k e).1; have := hS k hs; omega⟩
/-- The row of message j. -/
theorem Ow.at_ {w : World} {B : Nat} {A : Option Addr} {n c : Nat} {P : List Fo} (h : Ow w B (.slice A n c) P) {j : Nat} {p : Fo} (hj : P[j]? = some p) :
    ∃ g, A = some ⟨g, 0, none⟩ ∧ B ≤ g ∧ g < w.heap.size ∧ (∀ W : World, W.heap[g]? = w.heap[g]? → W.cell? ⟨g, j * 7, none⟩ = some (.int .i64 p.t) ∧ W.cell? ⟨g, j * 7 + 1, none⟩ = some (.int .i64 (p.n : Int)) ∧ W.cell? ⟨g, j * 7 + 2, none⟩ = some (.int .i64 p.i.o) ∧ W.cell? ⟨g, j * 7 + 3, none⟩ = some (.int .i64 p.i.d) ∧ W.cell? ⟨g, j * 7 + 4, none⟩ = some (.int .i64 p.i.e) ∧ W.cell? ⟨g, j * 7 + 5, none⟩ = some (.int .i64 p.i.c) ∧ W.cell? ⟨g, j * 7 + 6, none⟩ = some p.v ∧ ∀ i, W.frozen? ⟨g, i, none⟩ = false) := by
  have h0 := h.own
  have hlt := (List.getElem?_eq_some_iff.1 hj).1
  rcases h0.2 with ⟨h1, h2⟩ | ⟨g, cap, cur, h1, h2, h3, h4, h5, h6, h7⟩
  · have : P = [] := by simpa using h2
    subst this; simp at hlt
  · cases h1
    have hl := h0.lt g rfl
    refine ⟨g, rfl, h2, hl.2, fun W hW => ?_⟩
    have hx : ∀ i u, i < 7 → (qV p)[i]? = some u → W.cell? ⟨g, j * 7 + i, none⟩ = some u := fun i u hi hu => by
      have := h0.cells (g := g) rfl (j * 7 + i) u (by rw [qsV_get hj hi]; exact hu)
      rw [add_mk, Nat.zero_add] at this
      exact (World.cell?_of_block (w := w) (a := ⟨g, j * 7 + i, none⟩) hW).trans this
    exact ⟨hx 0 _ (by omega) rfl, hx 1 _ (by omega) rfl, hx 2 _ (by omega) rfl, hx 3 _ (by omega) rfl, hx 4 _ (by omega) rfl, hx 5 _ (by omega) rfl, hx 6 _ (by omega) rfl, fun i => frozen_of_row W g i _ _ (hW.trans h3)⟩
theorem infoOf : (Try.prog.info? 68).map (fun i => (i.zero, i.size, i.bytes)) = some (some (.agg #[.int .i64 0, .int .i64 0, .int .i64 0, .int .i64 0, .int .i64 0, .int .i64 0, .slice none 0 0]), 7, 72) := by kernel_rfl
theorem two_ty {w : World} {B B' T T' s s' n n' : Nat} {v v' : Value} {xs xs' : List Value} (h : w.ownsRow B T s v n xs) (h' : w.ownsRow B' T' s' v' n' xs') (hT : T ≠ T') : ∀ k, v.ownBlock = some k → v'.ownBlock ≠ some k := by
  intro k e e'
  rcases ty_ne h h' hT with h0 | h0
  · rw [h0] at e; cases e
  · rw [e, e'] at h0; exact h0 rfl
/-- One message appended, as one operation. -/
theorem appOf {w : World} {o : Oper} {a : Act} {K : Act → World → Prop} {Q : Exit → Act → World → Prop} (s x : Operand)
    (ho : o.op = .call { callee := .builtin .append, args := #[s, x], argTypes := #[65, 65] })
    (B : Nat) (v : Value) (P : List Fo) (p : Fo) (gx : Nat) (hs : a.eval s = v) (hown : Ow w B v P) (hp : Me.Own w B p.v p.p) (hx : a.eval x = .slice (some ⟨gx, 0, none⟩) 1 1) (hz : ∀ j u, (qV p)[j]? = some u → w.cell? ⟨gx, j, none⟩ = some u) (hlen : P.length ≤ 1000000000000) (hB : B ≤ w.heap.size)
    (h : ∀ v' w', Ow w' B v' (P ++ [p]) → w.grownBy w' v.ownBlock → (∀ k, v.ownBlock = some k → B ≤ k) → K (a.put o.dst v') w') : o.wp Try.prog a w K Q := by
  obtain ⟨i0, hi, hz0, hz1, hz2⟩ := info_parts infoOf
  have hnews : ∀ j u, (qV p)[j]? = some u → w.cell? ((⟨gx, 0, none⟩ : Addr).add j) = some u := by
    intro j u hj
    rw [add_mk, Nat.zero_add]
    exact hz j u hj
  obtain ⟨v', w', hr, h2, h3, h4⟩ := run_append_own_at (P := Try.prog) w B 65 o.type 68 i0 (.agg #[.int .i64 0, .int .i64 0, .int .i64 0, .int .i64 0, .int .i64 0, .int .i64 0, .slice none 0 0]) 7 72 Try.underlying65 hi hz0 hz1 hz2 rfl (by decide) v P.length (qsV P) hown.own ⟨gx, 0, none⟩ 1 1 (qV p) rfl hnews (by simp [qV, Fo.v, Value.oneCell']) (by unfold maxLen; omega) (by omega) hB
  unfold Oper.wp execOp
  simp only [ho, resolve, invoke, builtin, Sem.run_bind, Sem.run_pure, Result.andThen_ok, List.map_toArray, List.map_cons, List.map_nil, hs, hx, hr]
  have hk : ∀ q : Fo, Me.Own w B q.v q.p → Me.Own w' B q.v q.p := fun q hq => own_same hq fun k e hk => h3.block k hk fun e' => two_ty hq hown.own (by decide) k e e'.symm
  refine h v' w' ⟨?_, fun q hq => ?_⟩ h3 fun k hk => (hown.own.lt k hk).1
  · rw [List.length_append, qsV_snoc]; exact h2
  · rcases List.mem_append.1 hq with hq | hq
    · exact hk q (hown.each q hq)
    · obtain rfl : q = p := by simpa using hq
      exact hk q hp

end Go.Proofs.Ytohfoieibgmmdaa.Hp
/- Plan: what it answers; messages that are held. -/
namespace Go.Proofs.Ytohfoieibgmmdaa.Hp
open Go.RowKit Go.Maps
open Go.Proofs.Ytohfoieibgmmdaa.Me Go.Proofs.Ytohfoieibgmmdaa.Sb
set_option linter.unusedVariables false
set_option linter.unusedSimpArgs false

/-- A message. -/
structure Ms where
  i : Mg.Id4
  p : List Nat
/-- An offer. -/
structure Ofr where
  t : Int
  n : Nat
  i : Mg.Id4
  p : List Nat
def Fo.o (q : Fo) : Ofr := ⟨q.t, q.n, q.i, q.p⟩
/-- Is a message offered now? -/
def goB (d : Dk) (via up : List Int) (x : Ms) : Bool := isN x.i.d && (amB via up x.i.d.toNat && !(d.kept x.i).isSome)
def planStep (via up : List Int) (s : Dk × List Ofr) (x : Ms) : Dk × List Ofr :=
  if goB s.1 via up x = true then (offK s.1 x.i (Mi.at_ via x.i.d.toNat), s.2 ++ [⟨Mi.at_ via x.i.d.toNat, s.1.next, x.i, x.p⟩]) else s
def planF (d : Dk) (via up : List Int) (ls : List Ms) : Dk × List Ofr := ls.foldl (planStep via up) (d, [])
theorem planF_snoc (d : Dk) (via up : List Int) (ls : List Ms) (x : Ms) : planF d via up (ls ++ [x]) = planStep via up (planF d via up ls) x := by simp [planF]
theorem planF_inv (d : Dk) (via up : List Int) (hx : d.next < 65536) (ls : List Ms) : ∀ j, j ≤ ls.length → (planF d via up (ls.take j)).1.wait = d.wait ∧ (planF d via up (ls.take j)).1.passed = d.passed ∧ (planF d via up (ls.take j)).1.next < 65536 ∧ (planF d via up (ls.take j)).2.length ≤ j
  | 0, _ => ⟨rfl, rfl, hx, Nat.le_refl _⟩
  | j + 1, hj => by
    obtain ⟨h1, h2, h3, h4⟩ := planF_inv d via up hx ls j (by omega)
    rw [List.take_add_one, List.getElem?_eq_getElem (by omega)]
    show (planF d via up (ls.take j ++ [ls[j]])).1.wait = _ ∧ _
    simp only [Option.toList_some]
    rw [planF_snoc]
    unfold planStep
    split
    · refine ⟨h1, h2, Nat.mod_lt _ (by decide), ?_⟩
      simp only [List.length_append, List.length_cons, List.length_nil]
      omega
    · exact ⟨h1, h2, h3, by omega⟩
def msAt (ls : List Ms) (j : Nat) : Ms := ls.getD j ⟨⟨0, 0, 0, 0⟩, []⟩
theorem msAt_get {ls : List Ms} {j : Nat} (h : j < ls.length) : msAt ls j = ls[j] := by simp [msAt, h]
/-- A slice's address leads to these messages. -/
def Hl (w : World) (a : Option Addr) (ls : List Ms) : Prop :=
  ∀ j, j < ls.length → ∃ b off R cr, a = some ⟨b, off, none⟩ ∧ b < w.heap.size ∧ w.cell? ⟨b, off + j * 5, none⟩ = some (.int .i64 (msAt ls j).i.o) ∧ w.cell? ⟨b, off + j * 5 + 1, none⟩ = some (.int .i64 (msAt ls j).i.d) ∧ w.cell? ⟨b, off + j * 5 + 2, none⟩ = some (.int .i64 (msAt ls j).i.e) ∧ w.cell? ⟨b, off + j * 5 + 3, none⟩ = some (.int .i64 (msAt ls j).i.c) ∧
    w.cell? ⟨b, off + j * 5 + 4, none⟩ = some (.slice R (msAt ls j).p.length cr) ∧ Mg.MsIn w R (msAt ls j).p.length cr (msAt ls j).p ∧ Fit (msAt ls j).i
theorem desk_neS {w : World} {D mb m : Nat} {dk : Dk} (h : Dq w D mb m dk) {b off : Nat} {R : Option Addr} {n c : Nat} (hc : w.cell? ⟨b, off, none⟩ = some (.slice R n c)) : b ≠ mb ∧ b ≠ D := by
  constructor
  · rintro rfl
    obtain ⟨es, c, hm⟩ := h.map.isMap
    simp [World.cell?, hm] at hc
  · rintro rfl
    rw [cell_of_row w b off _ _ (0, 0) h.box] at hc
    unfold dkC at hc
    match off, hc with
    | 0, hc => simp at hc
    | 1, hc => simp at hc
    | 2, hc => simp at hc
    | 3, hc => simp at hc
    | n + 4, hc => simp at hc
theorem ms_desk {w W : World} {D mb m : Nat} {dk : Dk} {A : Option Addr} {n c : Nat} {l : List Nat} (h : Dq w D mb m dk) (hi : Mg.MsIn w A n c l) (hb : But (fun k => k = mb ∨ k = D) w W) : Mg.MsIn W A n c l :=
  ⟨⟨hi.1.1, hi.1.2.1, hi.1.2.2.1, (rd_desk h hi.1.2.2.2.1 (Nat.le_refl _) hb).more hb.size, hi.1.2.2.2.2⟩, hi.2⟩
theorem Hl.desk {w W : World} {D mb m : Nat} {dk : Dk} {a : Option Addr} {ls : List Ms} (h : Dq w D mb m dk) (hl : Hl w a ls) (hb : But (fun k => k = mb ∨ k = D) w W) : Hl W a ls := fun j hj => by
  obtain ⟨b, off, R, cr, e, h1, c0, c1, c2, c3, c4, hm, hf⟩ := hl j hj
  have hne := desk_neS h c4
  have hs := hb.same b h1 (fun e => e.elim hne.1 hne.2)
  have cc := fun k => World.cell?_of_block (w := w) (w' := W) (a := ⟨b, k, none⟩) hs
  exact ⟨b, off, R, cr, e, Nat.lt_of_lt_of_le h1 hb.size, (cc _).trans c0, (cc _).trans c1, (cc _).trans c2, (cc _).trans c3, (cc _).trans c4, ms_desk h hm hb, hf⟩
theorem rdi_desk {w W : World} {D mb m : Nat} {dk : Dk} {A : Option Addr} {l : List Int} (h : Mi.Rd w w.heap.size A l) (hn : ∀ b off, A = some ⟨b, off, none⟩ → 0 < l.length → b ≠ mb ∧ b ≠ D) (hb : But (fun k => k = mb ∨ k = D) w W) : Mi.Rd W W.heap.size A l := fun hl => by
  obtain ⟨b, off, e, h1, h2⟩ := h hl
  have hne := hn b off e hl
  exact ⟨b, off, e, Nat.lt_of_lt_of_le h1 hb.size, fun i hi => (World.cell?_of_block (w := w) (w' := W) (a := ⟨b, off + i, none⟩) (hb.same b h1 (fun e => e.elim hne.1 hne.2))).trans (h2 i hi)⟩
end Go.Proofs.Ytohfoieibgmmdaa.Hp
