/- The reference's New and Has; the set's Gaps. -/
import Derived.Test.YtjgdkpgkonnhnaaSeRFun
namespace Go.Proofs.Ytjgdkpgkonnhnaa.Se
open Go.RowKit
open Go.Proofs.Ytjgdkpgkonnhnaa.Me Go.Proofs.Ytjgdkpgkonnhnaa.Sb
set_option linter.unusedVariables false
set_option linter.unusedSimpArgs false

set_option maxRecDepth 100000 in
set_option maxHeartbeats 4000000 in
theorem Gaps_any (t : Bool) (D b n : Nat) (s : St) (w : World) (hS : Hid (Set w t D b n s)) : Calls Try.prog 21 #[.pointer (some ⟨D, 0, none⟩)] w fun e w' => e = .returned (.int .i64 s.gaps) ∧ w = w' := by
  obtain ⟨y0, y1, y2⟩ := set_cells hS.out.box
  obtain ⟨ro, ga, ke⟩ := s
  simp only at y0 y1 y2 ⊢
  clear hS
  go_enter Try.func21, Try.ntmps21
  go_wp2
  go_ret
  exact ⟨rfl, rfl⟩
set_option maxRecDepth 100000 in
set_option maxHeartbeats 4000000 in
theorem New_no (g : Int) (h : g < 0 ∨ 256 < g) (w : World) : Calls Try.prog 9 #[.int .i64 g] w fun e w' => e = .returned (.tuple #[.pointer none, .int .i64 1]) ∧ w = w' := by
  by_cases a0 : g < 0
  · clear h
    go_enter Try.func9, Try.ntmps9
    go_wp2
    go_ret2
    exact ⟨rfl, rfl⟩
  · have a1 : 256 < g := by omega
    clear h
    go_enter Try.func9, Try.ntmps9
    go_wp2
    go_ret2
    exact ⟨rfl, rfl⟩
def rsC (room : Int) (v : Value) : Array Value := #[.int .i64 room, v]
set_option maxRecDepth 100000 in
set_option maxHeartbeats 4000000 in
theorem RNew_ok (g : Int) (h0 : 0 ≤ g) (h1 : g ≤ 256) (w : World) : Calls Try.prog 10 #[.int .i64 g] w fun e w' => e = .returned (.tuple #[.agg #[.int .i64 g, .slice none 0 0], .int .i64 0]) ∧ Hid (Below w.heap.size w w') := by
  have a0 : ¬ g < 0 := by omega
  have a1 : ¬ (256 < g) := by omega
  have HR := Lib.hid (heap_alloc_new w (.cells #[.int .i64 g, .slice none 0 0] 29))
  have HB : Hid (Below w.heap.size w (w.alloc (.cells #[.int .i64 g, .slice none 0 0] 29))) := Me.below_alloc (Below.refl _ _)
  clear h0 h1
  go_enter Try.func10, Try.ntmps10
  go_wp2
  exact ret_box2 (g := w.heap.size) rfl (by rfl) HR.out rfl Try.underlying29 (by kernel_rfl) rfl ⟨rfl, HB.out⟩
set_option maxRecDepth 100000 in
set_option maxHeartbeats 4000000 in
theorem RNew_no (g : Int) (h : g < 0 ∨ 256 < g) (w : World) : Calls Try.prog 10 #[.int .i64 g] w fun e w' => e = .returned (.tuple #[.agg #[.int .i64 0, .slice none 0 0], .int .i64 1]) ∧ Hid (Below w.heap.size w w') := by
  have HR := Lib.hid (heap_alloc_new w (.cells #[.int .i64 0, .slice none 0 0] 29))
  have HB : Hid (Below w.heap.size w (w.alloc (.cells #[.int .i64 0, .slice none 0 0] 29))) := Me.below_alloc (Below.refl _ _)
  by_cases a0 : g < 0
  · clear h
    go_enter Try.func10, Try.ntmps10
    go_wp2
    exact ret_box2 (g := w.heap.size) rfl (by rfl) HR.out rfl Try.underlying29 (by kernel_rfl) rfl ⟨rfl, HB.out⟩
  · have a1 : 256 < g := by omega
    clear h
    go_enter Try.func10, Try.ntmps10
    go_wp2
    exact ret_box2 (g := w.heap.size) rfl (by rfl) HR.out rfl Try.underlying29 (by kernel_rfl) rfl ⟨rfl, HB.out⟩
/-- Is an id there? -/
def rhas (L : Ks) (i : Mg.Id4) : Bool := decide (Mg.chkN i = 0) && decide ((⟨i.o, i.e, i.c⟩ : Ky) ∈ L)
set_option maxRecDepth 100000 in
set_option maxHeartbeats 8000000 in
theorem RHas_any (Q : Nat → Prop) (room : Int) (v : Value) (L : Ks) (i : Mg.Id4) (w : World) (hv : Hid (Kv Q w v L)) (hL : L.length ≤ 1000000) : Calls Try.prog 24 #[.agg #[.int .i64 room, v], .agg (Mg.idC i)] w fun e w' => e = .returned (.bool (rhas L i)) ∧ Hid (Below w.heap.size w w') := by
  have HK := Lib.hid (fun W => Mg.RCheck_any i W)
  obtain ⟨A, cp, rfl, h1, h2⟩ := hv.out.form
  obtain ⟨W1, hW1⟩ : ∃ W, w.alloc (.cells #[.int .i64 room, .slice A L.length cp] 29) = W := ⟨_, rfl⟩
  obtain ⟨W2, hW2⟩ : ∃ W, W1.alloc (.cells (Mg.idC i) 39) = W := ⟨_, rfl⟩
  have b1 : Below w.heap.size w W1 := by rw [← hW1]; exact Me.below_alloc (Below.refl _ _)
  have z1 : W1.heap.size = w.heap.size + 1 := by rw [← hW1]; simp
  have b2 : Below w.heap.size w W2 := by rw [← hW2]; exact Me.below_alloc b1
  have z2 : W2.heap.size = w.heap.size + 1 + 1 := by rw [← hW2, World.size_alloc, z1]
  have r1 : W2.heap[w.heap.size]? = some (.cells #[.int .i64 room, .slice A L.length cp] 29 (0, 0)) := by
    rw [← hW2, Below.heap_alloc _ _ _ (by omega), ← hW1]
    exact heap_alloc_new w _
  have r2 : W2.heap[w.heap.size + 1]? = some (.cells (Mg.idC i) 39 (0, 0)) := by
    rw [← hW2, ← z1]
    exact heap_alloc_new W1 _
  have HW : Hid ((w.alloc (.cells #[.int .i64 room, .slice A L.length cp] 29)).alloc (.cells (Mg.idC i) 39) = W2) := by show _ = _; rw [hW1, hW2]
  have HC : Hid (∀ W, Below W2.heap.size W2 W → W.cell? ⟨w.heap.size, 0, none⟩ = some (.int .i64 room) ∧ W.cell? ⟨w.heap.size, 1, none⟩ = some (.slice A L.length cp) ∧ W.heap[w.heap.size + 1]? = some (.cells (Mg.idC i) 39 (0, 0))) := fun W hW => by
    have h := (hW.block w.heap.size (by omega)).trans r1
    exact ⟨cell_of_row W _ 0 _ _ (0, 0) h, cell_of_row W _ 1 _ _ (0, 0) h, (hW.block (w.heap.size + 1) (by omega)).trans r2⟩
  have HTh : Hid (∀ W, Below w.heap.size w W → Calls Try.prog 39 #[.agg #[.int .i64 room, .slice A L.length cp], .agg (kyC ⟨i.o, i.e, i.c⟩)] W fun e w' => e = .returned (.bool (decide ((⟨i.o, i.e, i.c⟩ : Ky) ∈ L))) ∧ Hid (Below W.heap.size W w')) := fun W hW => There_any Q room _ L _ W (hv.out.below hW) hL
  have HB2 := Lib.hid b2
  unfold rhas
  obtain ⟨B, hB⟩ : ∃ B, decide ((⟨i.o, i.e, i.c⟩ : Ky) ∈ L) = B := ⟨_, rfl⟩
  simp only [hB] at HTh ⊢
  clear hW1 hW2 b1 z1 b2 z2 r1 r2 hv hB
  by_cases h0 : Mg.chkN i = 0
  · rw [h0] at HK
    have hd : (decide (Mg.chkN i = 0) && B) = B := by rw [h0]; simp
    rw [hd]
    clear hd h0
    obtain ⟨o, d, ee, c⟩ := i
    simp only [Mg.idC, kyC, show ((0 : Nat) : Int) = 0 from rfl] at HK HW HC HTh ⊢
    go_enter Try.func24, Try.ntmps24
    go_wp2_with (first
      | (go_at_call 28; rw [HW.out]; refine (HK.out _).mono ?_; rintro e w3 ⟨rfl, b3⟩; obtain ⟨y0, y1, y2⟩ := HC.out w3 b3.out; obtain ⟨x0, x1, x2, x3⟩ := id_cells y2; have HB3 := Lib.hid (HB2.out.trans (b3.out.mono HB2.out.size)); clear y2)
      | (go_at_call 39; refine (HTh.out _ HB3.out).mono ?_; rintro e w4 ⟨rfl, b4⟩))
    go_ret
    exact ⟨rfl, go_on HB3.out b4.out⟩
  · have hne := Mg.nz h0
    have hd : (decide (Mg.chkN i = 0) && B) = false := by simp [h0]
    rw [hd]
    obtain ⟨k, hk⟩ : ∃ k, Mg.chkN i = k := ⟨_, rfl⟩
    rw [hk] at HK hne
    clear hd h0 hk HTh
    obtain ⟨o, d, ee, c⟩ := i
    simp only [Mg.idC] at HK HW HC ⊢
    go_enter Try.func24, Try.ntmps24
    go_wp2_with (go_at_call 28; rw [HW.out]; refine (HK.out _).mono ?_; rintro e w3 ⟨rfl, b3⟩; have HB3 := Lib.hid (HB2.out.trans (b3.out.mono HB2.out.size)))
    go_ret
    exact ⟨rfl, HB3.out⟩
end Go.Proofs.Ytjgdkpgkonnhnaa.Se
