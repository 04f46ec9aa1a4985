/- The reference's New, less, There, Has. -/
import Derived.Test.YtjgdkpgkonnhnaaSeRMem
import Derived.Test.YtjgdkpgkonnhnaaSeHasM
namespace Go.Proofs.Ytjgdkpgkonnhnaa.Se
open Go.RowKit
open Go.Proofs.Ytjgdkpgkonnhnaa.Me Go.Proofs.Ytjgdkpgkonnhnaa.Sb
set_option linter.unusedVariables false
set_option linter.unusedSimpArgs false

def kyC (p : Ky) : Array Value := #[.int .i64 p.o, .int .i64 p.e, .int .i64 p.c]
def ltK (a b : Ky) : Bool := if a.o = b.o then (if a.e = b.e then decide (a.c < b.c) else decide (a.e < b.e)) else decide (a.o < b.o)
theorem two_keys (w : World) (x y : Array Value) : Below w.heap.size w ((w.alloc (.cells x 68 (0, 0))).alloc (.cells y 68 (0, 0))) := Me.below_alloc (Me.below_alloc (Below.refl _ _))
set_option maxRecDepth 100000 in
set_option maxHeartbeats 4000000 in
theorem less_any (a b : Ky) (w : World) : Calls Try.prog 42 #[.agg (kyC a), .agg (kyC b)] w fun e w' => e = .returned (.bool (ltK a b)) ∧ Hid (Below w.heap.size w w') := by
  have HT := Lib.hid (two_keys w (kyC a) (kyC b))
  unfold ltK
  obtain ⟨o, e, c⟩ := a
  obtain ⟨p, q, r⟩ := b
  simp only [kyC] at HT ⊢
  by_cases h1 : o = p
  · subst h1
    rw [if_pos rfl]
    by_cases h2 : e = q
    · subst h2
      rw [if_pos rfl]
      go_enter Try.func42, Try.ntmps42
      go_wp2
      go_ret
      exact ⟨rfl, HT.out⟩
    · have g2 : (e == q) = false := by simpa using h2
      have g3 : (e != q) = true := by simp only [bne, g2, Bool.not_false]
      rw [if_neg h2]
      clear h2
      go_enter Try.func42, Try.ntmps42
      go_wp2
      go_ret
      exact ⟨rfl, HT.out⟩
  · have g2 : (o == p) = false := by simpa using h1
    have g3 : (o != p) = true := by simp only [bne, g2, Bool.not_false]
    rw [if_neg h1]
    clear h1
    go_enter Try.func42, Try.ntmps42
    go_wp2
    go_ret
    exact ⟨rfl, HT.out⟩
set_option maxRecDepth 100000 in
set_option maxHeartbeats 8000000 in
theorem There_any (Q : Nat → Prop) (room : Int) (v : Value) (L : Ks) (k : Ky) (w : World) (hv : Hid (Kv Q w v L)) (hL : L.length ≤ 1000000) : Calls Try.prog 39 #[.agg #[.int .i64 room, v], .agg (kyC k)] w fun e w' => e = .returned (.bool (decide (k ∈ L))) ∧ Hid (Below w.heap.size w w') := by
  obtain ⟨A, cp, rfl, h1, h2⟩ := hv.out.form
  obtain ⟨W1, hW1⟩ : ∃ W, w.alloc (.cells #[.int .i64 room, .slice A L.length cp] 29) = W := ⟨_, rfl⟩
  obtain ⟨W2, hW2⟩ : ∃ W, W1.alloc (.cells (kyC k) 68) = W := ⟨_, rfl⟩
  have b1 : Below w.heap.size w W1 := by rw [← hW1]; exact Me.below_alloc (Below.refl _ _)
  have z1 : W1.heap.size = w.heap.size + 1 := by rw [← hW1]; simp
  have b2 : Below w.heap.size w W2 := by rw [← hW2]; exact Me.below_alloc b1
  have z2 : W2.heap.size = w.heap.size + 1 + 1 := by rw [← hW2, World.size_alloc, z1]
  have r1 : W2.heap[w.heap.size]? = some (.cells #[.int .i64 room, .slice A L.length cp] 29 (0, 0)) := by
    rw [← hW2, Below.heap_alloc _ _ _ (by omega), ← hW1]
    exact heap_alloc_new w _
  have r2 : W2.heap[w.heap.size + 1]? = some (.cells (kyC k) 68 (0, 0)) := by
    rw [← hW2, ← z1]
    exact heap_alloc_new W1 _
  have HW : Hid ((w.alloc (.cells #[.int .i64 room, .slice A L.length cp] 29)).alloc (.cells (kyC k) 68) = W2) := by show _ = _; rw [hW1, hW2]
  have HC : Hid (∀ W, Below W2.heap.size W2 W → W.cell? ⟨w.heap.size, 1, none⟩ = some (.slice A L.length cp) ∧ W.cell? ⟨w.heap.size + 1, 0, none⟩ = some (.int .i64 k.o) ∧ W.cell? ⟨w.heap.size + 1, 1, none⟩ = some (.int .i64 k.e) ∧ W.cell? ⟨w.heap.size + 1, 2, none⟩ = some (.int .i64 k.c)) := fun W hW => by
    have h := (hW.block w.heap.size (by omega)).trans r1
    have h' := (hW.block (w.heap.size + 1) (by omega)).trans r2
    exact ⟨cell_of_row W _ 1 _ _ (0, 0) h, cell_of_row W _ 0 _ _ (0, 0) h', cell_of_row W _ 1 _ _ (0, 0) h', cell_of_row W _ 2 _ _ (0, 0) h'⟩
  have HA : Hid (∀ j, j < L.length → ∃ g, A = some ⟨g, 0, none⟩ ∧ ∀ W, Below W2.heap.size W2 W → W.cell? ⟨g, j * 3, none⟩ = some (.int .i64 (kyAt L j).o) ∧ W.cell? ⟨g, j * 3 + 1, none⟩ = some (.int .i64 (kyAt L j).e) ∧ W.cell? ⟨g, j * 3 + 2, none⟩ = some (.int .i64 (kyAt L j).c)) := fun j hj => by
    obtain ⟨g, e1, _, e3⟩ := hv.out.at_ hj
    exact ⟨g, e1, fun W hW => e3 W (b2.trans (hW.mono b2.size))⟩
  have HB2 := Lib.hid b2
  have HMem : Hid (∀ j, j ≤ L.length → (∀ i, i < j → kyAt L i ≠ k) → j = L.length → k ∉ L) := fun j _ h e hm => by
    obtain ⟨i, hi, hk⟩ := List.getElem_of_mem hm
    exact h i (by omega) (by rw [kyAt_get hi]; exact hk)
  have HIn : Hid (∀ j, j < L.length → kyAt L j = k → k ∈ L) := fun j hj h => by
    rw [← h, kyAt_get hj]; exact List.getElem_mem hj
  clear hW1 hW2 b1 z1 b2 z2 r1 r2 hv
  obtain ⟨o, e, c⟩ := k
  simp only [kyC] at HW HC ⊢
  obtain ⟨B, hB⟩ : ∃ B, decide ((⟨o, e, c⟩ : Ky) ∈ L) = B := ⟨_, rfl⟩
  have HBd := Lib.hid hB
  rw [hB]
  clear hB
  have HF : Hid (∀ j, j < L.length → kyAt L j = ⟨o, e, c⟩ → B = true) := fun j hj h => by rw [← HBd.out]; exact decide_eq_true (HIn.out j hj h)
  have HFn : Hid ((∀ i, i < L.length → kyAt L i ≠ ⟨o, e, c⟩) → B = false) := fun h => by rw [← HBd.out]; exact decide_eq_false (HMem.out L.length (Nat.le_refl _) h rfl)
  obtain ⟨N, hN⟩ : ∃ N, L.length = N := ⟨_, rfl⟩
  rw [hN] at HW HC HA HF HFn h1 hL ⊢
  clear hN HMem HIn HBd
  go_enter Try.func39, Try.ntmps39
  go_wp2
  rw [HW.out]
  go_loopw [5] (fun i wr => ∃ j : Nat, i = .int .i64 (j : Int) ∧ j ≤ N ∧ Hid (∀ i, i < j → kyAt L i ≠ ⟨o, e, c⟩) ∧ Hid (Below W2.heap.size W2 wr)) (fun i _ => N - (intOf i).toNat)
  case atStart => exact ⟨0, rfl, Nat.zero_le _, fun i hi => absurd hi (by omega), Below.refl _ _⟩
  case round =>
    obtain ⟨j, rfl, hj, HNo, HBr⟩ := hrel
    obtain ⟨y0, y1, y2, y3⟩ := HC.out wr HBr.out
    by_cases hlt : j < N
    · obtain ⟨g, rfl, hgc⟩ := HA.out j hlt
      obtain ⟨z0, z1, z2⟩ := hgc wr HBr.out
      have g1 : (j : Int) < (N : Int) := by omega
      have HFj := Lib.hid (HF.out j hlt)
      obtain ⟨x, hx⟩ : ∃ x, kyAt L j = x := ⟨_, rfl⟩
      rw [hx] at z0 z1 z2 HFj
      have HX := Lib.hid hx
      clear hgc hx
      by_cases hk : x = ⟨o, e, c⟩
      · have hBt := HFj.out hk
        subst hBt hk
        simp only at z0 z1 z2
        go_wp2
        go_quiet (fail)
        go_wp2
        go_ret
        exact ⟨rfl, HB2.out.trans ((Me.below_drewN HBr.out _).mono HB2.out.size)⟩
      · obtain ⟨p, q, r⟩ := x
        have HK : Hid (¬ (p = o ∧ q = e ∧ r = c)) := fun h => hk (by obtain ⟨h1, h2, h3⟩ := h; rw [h1, h2, h3])
        simp only at z0 z1 z2
        have HN2 : Hid (∀ i, i < j + 1 → kyAt L i ≠ ⟨o, e, c⟩) := fun i hi => by
          by_cases h : i = j
          · subst h; rw [HX.out]; exact hk
          · exact HNo.out i (by omega)
        clear hk
        have HCs : (p == o) = false ∨ (p = o ∧ (q == e) = false) ∨ (p = o ∧ q = e ∧ (r == c) = false) := by
          by_cases h1 : p = o
          · by_cases h2 : q = e
            · right; right
              exact ⟨h1, h2, by simpa using fun h3 : r = c => HK.out ⟨h1, h2, h3⟩⟩
            · right; left
              exact ⟨h1, by simpa using h2⟩
          · left; simpa using h1
        rcases HCs with g2 | ⟨rfl, g2⟩ | ⟨rfl, rfl, g2⟩
        all_goals
          go_wp2
          go_quiet (fail)
          go_wp2
          go_roundw
          case rel => exact ⟨j + 1, by go_num, by omega, HN2.out, Me.below_drewN HBr.out _⟩
          case measure => simp [intOf]; omega
    · have hBf := HFn.out fun i hi => HNo.out i (by omega)
      subst hBf
      have g1 : ¬ (j : Int) < (N : Int) := by omega
      go_wp2
      go_ret
      exact ⟨rfl, HB2.out.trans (HBr.out.mono HB2.out.size)⟩
end Go.Proofs.Ytjgdkpgkonnhnaa.Se
