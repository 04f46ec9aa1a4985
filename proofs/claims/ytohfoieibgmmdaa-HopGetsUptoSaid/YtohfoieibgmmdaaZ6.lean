/- An id's bytes: PutId. -/
import Derived.Test.YtohfoieibgmmdaaZ4
import Derived.Test.YtohfoieibgmmdaaZ5
import Derived.Test.YtohfoieibgmmdaaIKit
import Derived.Sort.Walk0
namespace Go.Proofs.Ytohfoieibgmmdaa.Mg
open Go.RowKit
open Go.Proofs.Ytohfoieibgmmdaa.Me Go.Proofs.Ytohfoieibgmmdaa.Ba Go.Proofs.Ytohfoieibgmmdaa.Ma Go.Proofs.Ytohfoieibgmmdaa.Bt
set_option linter.unusedVariables false
set_option linter.unusedSimpArgs false

def szk (k : Nat) : Nat := if k < 2 then 1 else 2
/-- The first k numbers' bytes. -/
def bytK (i : Id4) : Nat → List Nat
  | 0 => []
  | k + 1 => bytK i k ++ byts (ix i k).toNat (szk k)
def idL (i : Id4) : List Nat := bytK i 4
def lnK (k : Nat) : Nat := if k < 3 then k else if k < 4 then 4 else 6
theorem bytK_len (i : Id4) {k : Nat} (h : k ≤ 4) : (bytK i k).length = lnK k := by
  obtain rfl | rfl | rfl | rfl | rfl : k = 0 ∨ k = 1 ∨ k = 2 ∨ k = 3 ∨ k = 4 := by omega
  all_goals simp [bytK, szk, lnK, length_byts]
theorem idL_len (i : Id4) : (idL i).length = 6 := bytK_len i (by omega)
theorem bytK_lt (i : Id4) : ∀ k, ∀ z ∈ bytK i k, z < 256
  | 0, z, h => by simp [bytK] at h
  | k + 1, z, h => by
    rw [bytK, List.mem_append] at h
    exact h.elim (bytK_lt i k z) (byts_lt _ _ z)
theorem ix_fits {i : Id4} (h : Right i) {k : Nat} (hk : k < 4) : 0 ≤ ix i k ∧ (ix i k).toNat < 256 ^ szk k ∧ ix i k ≤ 65535 := by
  have := h.o0; have := h.o1; have := h.d0; have := h.d1; have := h.e0; have := h.e1; have := h.c0; have := h.c1
  obtain rfl | rfl | rfl | rfl : k = 0 ∨ k = 1 ∨ k = 2 ∨ k = 3 := by omega
  · show 0 ≤ i.o ∧ i.o.toNat < 256 ∧ i.o ≤ 65535
    omega
  · show 0 ≤ i.d ∧ i.d.toNat < 256 ∧ i.d ≤ 65535
    omega
  · show 0 ≤ i.e ∧ i.e.toNat < 65536 ∧ i.e ≤ 65535
    omega
  · show 0 ≤ i.c ∧ i.c.toNat < 65536 ∧ i.c ≤ 65535
    omega
theorem bput (l : List Nat) (n s ln : Nat) (A : Option Addr) (w : World) (hln : l.length = ln) (hl : ln ≤ 100) (hs : sizeB 8 s = true) (hn : n < 256 ^ s) (hr : Hid (Rd w w.heap.size A l)) :
    Calls Try.prog 38 #[.slice A ln ln, .int .u64 (n : Int), .int .i64 (s : Int)] w fun e w' => ∃ g, e = .returned (.tuple #[.slice (some ⟨g, 0, none⟩) ((ln + s : Nat) : Nat) ((ln + s : Nat) : Nat), .int .i64 0]) ∧ w.heap.size ≤ g ∧ Hid (Row w' g (l ++ byts n s)) ∧ Hid (Below w.heap.size w w') := by
  subst hln
  refine (Put_any l n s A l.length w.heap.size hs w hr (Nat.le_refl _) (by omega)).mono fun e w' h => ?_
  rcases h with ⟨_, he, hR, hB⟩ | ⟨h, _⟩
  · exact ⟨_, he, Nat.le_refl _, hR, hB⟩
  · omega
theorem bputL (l l2 : List Nat) (n s ln ln2 : Nat) (si : Int) (A : Option Addr) (S : World → Prop) (B : World) (hsi : si = s) (hln : l.length = ln) (h2 : ln2 = ln + s) (hl : ln ≤ 100) (hs : sizeB 8 s = true) (hn : n < 256 ^ s) (hl2 : l2 = l ++ byts n s)
    (hS : ∀ W, S W → Below B.heap.size B W ∧ Rd W W.heap.size A l) (hS2 : ∀ W, Below B.heap.size B W → S W) :
    Hid (∀ W, S W → Calls Try.prog 38 #[.slice A ln ln, .int .u64 (n : Int), .int .i64 si] W fun e w' => ∃ g, e = .returned (.tuple #[.slice (some ⟨g, 0, none⟩) ln2 ln2, .int .i64 0]) ∧ Hid (B.heap.size ≤ g ∧ Row w' g l2) ∧ S w') := by
  intro W hW
  subst hsi h2 hl2
  refine (bput l n s ln A W hln hl hs hn (hS W hW).2).mono fun e w' ⟨g, he, hg, hr, hb⟩ => ?_
  exact ⟨g, he, ⟨Nat.le_trans (hS W hW).1.size hg, hr.out⟩, hS2 _ ((hS W hW).1.trans (hb.out.mono (hS W hW).1.size))⟩
/-- What stands behind k numbers: a slice of their bytes. -/
def Wo (w : World) (L : Nat → List Nat) (k : Nat) (A : Option Addr) (W : World) : Prop := (k = 0 ∧ A = none) ∨ ∃ g, A = some ⟨g, 0, none⟩ ∧ w.heap.size ≤ g ∧ Row W g (L k)
theorem wo_rd {w wr : World} {L : Nat → List Nat} {k : Nat} {A : Option Addr} (hz : L 0 = []) (hb : ∀ k, ∀ z ∈ L k, z < 256) (h : Wo w L k A wr) (W : World) (hW : Below wr.heap.size wr W) : Rd W W.heap.size A (L k) := by
  rcases h with ⟨rfl, rfl⟩ | ⟨g, rfl, hg, hr⟩
  · rw [hz]
    exact ⟨by simp, by simp⟩
  · exact ((hr.rd hr.lt (hb k)).below hW).more hW.size
theorem ixf0 (W : World) : Sem.run Try.prog (Instr.index 113 formsV (.int .i64 0)) W = .ok (.agg #[.string ⟨#[]⟩, .int .i64 1]) W := by
  unfold formsV
  kernel_rfl
theorem ixf1 (W : World) : Sem.run Try.prog (Instr.index 113 formsV (.int .i64 1)) W = .ok (.agg #[.string ⟨#[62]⟩, .int .i64 1]) W := by
  unfold formsV
  kernel_rfl
theorem ixf2 (W : World) : Sem.run Try.prog (Instr.index 113 formsV (.int .i64 2)) W = .ok (.agg #[.string ⟨#[58]⟩, .int .i64 2]) W := by
  unfold formsV
  kernel_rfl
theorem ixf3 (W : World) : Sem.run Try.prog (Instr.index 113 formsV (.int .i64 3)) W = .ok (.agg #[.string ⟨#[46]⟩, .int .i64 2]) W := by
  unfold formsV
  kernel_rfl
theorem fm_new (wr : World) (v : Value) (s : Int) (W1 : World) (h : wr.alloc (.cells #[v, .int .i64 s] 112) = W1) : Below wr.heap.size wr W1 ∧ W1.heap.size = wr.heap.size + 1 ∧ ∀ W, Below W1.heap.size W1 W → W.cell? ⟨wr.heap.size, 1, none⟩ = some (.int .i64 s) := by
  subst h
  refine ⟨Me.below_alloc (Below.refl _ _), by simp, fun W hW => ?_⟩
  rw [hW.cell (by simp), cell_of_row _ _ _ _ _ (0, 0) (heap_alloc_new wr _)]
  rfl
theorem PutId_no (i : Id4) (h : Hid (chkN i ≠ 0)) (w : World) : Calls Try.prog 40 #[.agg (idC i)] w fun e w' => e = .returned (.tuple #[.slice none 0 0, .int .i64 (chkN i : Int)]) ∧ Hid (Below w.heap.size w w') := by
  have HC := Lib.hid (fun W => Check_any i W)
  obtain ⟨x, hx⟩ : ∃ x, chkN i = x := ⟨_, rfl⟩
  rw [hx] at HC h ⊢
  have h1 : ((x : Int) == 0) = false := nz h.out
  clear hx
  obtain ⟨o, d, ee, c⟩ := i
  simp only [idC] at HC ⊢
  go_enter Try.func40, Try.ntmps40
  go_wp2_with (go_at_call 65; refine (HC.out _).mono ?_; rintro e w1 ⟨rfl, b1⟩)
  go_ret2
  exact ⟨rfl, Below.trans (Me.below_alloc (Below.refl _ _)) (b1.out.mono (by simp))⟩
/-- The array of numbers, as it lies behind its store. -/
theorem ar_new (W : World) (i : Id4) (cs : Array Value) (W2 : World) (h : (W.alloc (.cells cs 109 (0, 0))).setRow W.heap.size (idC i) = W2) : Ar W2 W.heap.size i ∧ Below W.heap.size W W2 := by
  subst h
  have hb : Below W.heap.size W (W.alloc (.cells cs 109 (0, 0))) := Me.below_alloc (Below.refl _ _)
  exact ⟨setRow_heap _ _ _ _ _ _ (heap_alloc_new W _), hb.os, hb.tape, hb.output, by simp, fun b hb2 => (setRow_other _ _ b _ (by omega)).trans (hb.block b hb2)⟩
/-- The box of an id. -/
theorem box4 (o d e c : Int) (w : World) : ∀ W, Below (w.alloc (.cells #[.int .i64 o, .int .i64 d, .int .i64 e, .int .i64 c] 23 (0, 0))).heap.size (w.alloc (.cells #[.int .i64 o, .int .i64 d, .int .i64 e, .int .i64 c] 23 (0, 0))) W → W.cell? ⟨w.heap.size, 0, none⟩ = some (.int .i64 o) ∧ W.cell? ⟨w.heap.size, 1, none⟩ = some (.int .i64 d) ∧ W.cell? ⟨w.heap.size, 2, none⟩ = some (.int .i64 e) ∧ W.cell? ⟨w.heap.size, 3, none⟩ = some (.int .i64 c) := fun W h =>
  (four_new w ⟨o, d, e, c⟩ 23).below (by simp) h
set_option maxRecDepth 100000 in
set_option maxHeartbeats 16000000 in
theorem PutId_ok (i : Id4) (hR : Hid (Right i)) (w : World) : Calls Try.prog 40 #[.agg (idC i)] w fun e w' => ∃ g, e = .returned (.tuple #[.slice (some ⟨g, 0, none⟩) 6 6, .int .i64 0]) ∧ w.heap.size ≤ g ∧ Hid (Row w' g (idL i)) ∧ Hid (Below w.heap.size w w') := by
  have HC : Hid (∀ W, Calls Try.prog 65 #[.agg (idC i)] W fun e w' => e = .returned (.int .i64 0) ∧ Hid (Below W.heap.size W w')) := fun W => (Check_any i W).mono fun e w' h => by
    rw [right_iff.2 hR.out] at h
    exact h
  have HN := Lib.hid (fun W => numbers_any i W)
  have HF := Lib.hid (fun W => forms_any W)
  have HX : Hid (∀ k, k < 4 → 0 ≤ ix i k ∧ (ix i k).toNat < 256 ^ szk k ∧ ix i k ≤ 65535) := fun k hk => ix_fits hR.out hk
  have HL : Hid (∀ k, bytK i (k + 1) = bytK i k ++ byts (ix i k).toNat (szk k)) := fun k => rfl
  have HLl : Hid (∀ k, k ≤ 4 → (bytK i k).length = lnK k) := fun k hk => bytK_len i hk
  have HLz : Hid (bytK i 0 = []) := rfl
  have HLb : Hid (∀ k, ∀ z ∈ bytK i k, z < 256) := bytK_lt i
  obtain ⟨L, hL⟩ : ∃ L, bytK i = L := ⟨_, rfl⟩
  have hI : idL i = L 4 := by rw [← hL]; rfl
  rw [hI]
  rw [hL] at HL HLl HLz HLb
  clear hI hL hR
  obtain ⟨j, hj⟩ : ∃ j, i = j := ⟨_, rfl⟩
  have HJ := Lib.hid hj
  obtain ⟨o, d, ee, c⟩ := i
  simp only [idC] at HC HN ⊢
  rw [hj] at HX HL
  clear hj
  have HB4 := Lib.hid (box4 o d ee c w)
  go_enter Try.func40, Try.ntmps40
  go_wp2_with (first
    | (go_at_call 65; refine (HC.out _).mono ?_; rintro e w1 ⟨rfl, b1⟩; obtain ⟨q0, q1, q2, q3⟩ := HB4.out w1 b1.out)
    | (go_at_call 69; refine (HN.out _).mono ?_; rintro e w2 ⟨rfl, b2⟩)
    | (go_at_call 70; refine (HF.out _).mono ?_; rintro e w3 ⟨rfl, b3⟩))
  have hA : Ar w3 w2.heap.size ⟨o, d, ee, c⟩ := (b3.out.block _ (by simp)).trans (heap_alloc_new w2 _)
  rw [HJ.out] at hA
  have HB3 : Hid (Below w.heap.size w w3) := (Me.below_alloc (Below.refl _ _)).trans ((b1.out.mono (by simp)).trans ((b2.out.mono (by have := b1.out.size; simp at this; omega)).trans ((Me.below_alloc (Below.refl _ _)).trans (b3.out.mono (by simp)) |>.mono (by have := b1.out.size; have := b2.out.size; simp at *; omega))))
  have HG : Hid (w2.heap.size < w3.heap.size) := hA.lt
  obtain ⟨g, hg⟩ : ∃ g, w2.heap.size = g := ⟨_, rfl⟩
  rw [hg] at hA HG ⊢
  have HA := Lib.hid hA
  clear hA b1 b2 b3 q0 q1 q2 q3 hg HC HN HF HB4 HJ
  go_loopw [5, 17] (fun v5 v17 wr => ∃ k : Nat, k ≤ 4 ∧ v17 = .int .i64 k ∧ (∃ A, v5 = .slice A (lnK k) (lnK k) ∧ Hid (Wo w L k A wr)) ∧ Hid (Ar wr g j) ∧ Hid (Below w.heap.size w wr)) (fun _ v _ => 4 - (intOf v).toNat)
  case atStart => exact ⟨0, by omega, rfl, ⟨none, rfl, .inl ⟨rfl, rfl⟩⟩, HA.out, HB3.out⟩
  case round =>
    obtain ⟨k, hk, rfl, ⟨A, rfl, HWO⟩, HAr, HB⟩ := hrel
    by_cases hlt : k < 4
    · obtain ⟨W1, hW1⟩ : ∃ W1 : World, W1 = wr := ⟨_, rfl⟩
      have hx := HX.out k hlt
      have HCL : Hid (∀ W, Below wr.heap.size wr W → W.cell? ⟨g, k, none⟩ = some (.int .i64 (ix j k))) := fun W hW => (HAr.out.below hW).cell hlt
      have HR : Hid (∀ W, Below wr.heap.size wr W → Rd W W.heap.size A (L k)) := fun W hW => wo_rd HLz.out HLb.out HWO.out W hW
      have HL1 := Lib.hid (HL.out k)
      have HLn := Lib.hid (HLl.out k hk)
      obtain ⟨x, hxx⟩ : ∃ x, ix j k = x := ⟨_, rfl⟩
      rw [hxx] at hx HCL HL1
      obtain ⟨n, rfl⟩ := Int.eq_ofNat_of_zero_le hx.1
      simp only [Int.toNat_natCast] at hx HL1
      obtain ⟨_, hn, hn2⟩ := hx
      have hw : IntKind.u64.wrap (n : Int) = n := wrapU_nat (by have : U = 2 ^ 64 := rfl; omega)
      have HL1 : Hid (L (k + 1) = L k ++ byts n (szk k)) := HL1
      obtain ⟨l, hl⟩ : ∃ l, L k = l := ⟨_, rfl⟩
      obtain ⟨l2, hl2⟩ : ∃ l2, L (k + 1) = l2 := ⟨_, rfl⟩
      have HWN : Hid (∀ A W, Wo w L (k + 1) A W ↔ ∃ g, A = some ⟨g, 0, none⟩ ∧ w.heap.size ≤ g ∧ Row W g l2) := fun A W => by
        unfold Wo
        rw [hl2]
        simp
      rw [hl2, hl] at HL1
      rw [hl] at HR HLn
      have HBS := HB.out.size
      clear hW1 hxx hl hl2 HWO HX HL HLl HLz HLb HA HB3 HG
      obtain rfl | rfl | rfl | rfl : k = 0 ∨ k = 1 ∨ k = 2 ∨ k = 3 := by omega
      · simp only [lnK, Nat.reduceLT, if_true, if_false, show ((0 : Nat) : Int) = 0 from rfl]
        go_wp2_with (rw [ixf0])
        obtain ⟨W1, hW1⟩ : ∃ W1, wr.alloc (.cells #[.string ⟨#[]⟩, .int .i64 1] 112) = W1 := ⟨_, rfl⟩
        obtain ⟨hf1, hf2, hf3⟩ := fm_new wr _ _ W1 hW1
        rw [hW1]
        have HS2 : Hid (∀ W, Below W1.heap.size W1 W → W.cell? ⟨g, 0, none⟩ = some (.int .i64 (n : Int)) ∧ W.cell? ⟨wr.heap.size, 1, none⟩ = some (.int .i64 1) ∧ Below W1.heap.size W1 W) := fun W hW => ⟨HCL.out W (hf1.trans (hW.mono (by omega))), hf3 W hW, hW⟩
        have HP := bputL l l2 n 1 0 1 1 A (fun W => W.cell? ⟨g, 0, none⟩ = some (.int .i64 (n : Int)) ∧ W.cell? ⟨wr.heap.size, 1, none⟩ = some (.int .i64 1) ∧ Below W1.heap.size W1 W) W1 rfl HLn.out rfl (by omega) (by decide) hn HL1.out (fun W hW => ⟨hW.2.2, HR.out W (hf1.trans (hW.2.2.mono (by omega)))⟩) HS2.out
        have HF1 := Lib.hid hf1
        have HF2 := Lib.hid hf2
        have S0 := HS2.out W1.drew (Below.refl _ W1).drew
        clear hf1 hf2 hf3 hW1 HS2
        refine wp_region_held_drew (S := fun W => W.cell? ⟨g, 0, none⟩ = some (.int .i64 (n : Int)) ∧ W.cell? ⟨wr.heap.size, 1, none⟩ = some (.int .i64 1) ∧ Below W1.heap.size W1 W) (by kernel_rfl) S0 (fun hHeld => ?_)
        refine wpAnyH_take (i := 0) (v := .slice A 0 0) rfl (by kernel_rfl) (by kernel_rfl) (by kernel_rfl) (fun _ _ _ h => h) (Or.inl ⟨by rfl, ?_⟩) (by first | assumption | exact trivial) ?_
        · intro W hSW; go_simp; try (with_reducible rfl)
        simp only [Act.put, List.getElem_toArray, List.getElem_cons_succ, List.getElem_cons_zero, List.setIfInBounds_toArray, List.set_cons_zero, List.set_cons_succ]
        refine wpAnyH_take (i := 1) (v := .int .i64 0) rfl (by kernel_rfl) (by kernel_rfl) (by kernel_rfl) (fun _ _ _ h => h) (Or.inl ⟨by rfl, ?_⟩) (by first | assumption | exact trivial) ?_
        · intro W hSW; go_simp; try (with_reducible rfl)
        simp only [Act.put, List.getElem_toArray, List.getElem_cons_succ, List.getElem_cons_zero, List.setIfInBounds_toArray, List.set_cons_zero, List.set_cons_succ]
        refine wpAnyH_take (i := 2) (v := .pointer (some ⟨g, 0, none⟩)) rfl (by kernel_rfl) (by kernel_rfl) (by kernel_rfl) (fun _ _ _ h => h) (Or.inl ⟨by rfl, ?_⟩) (by first | assumption | exact trivial) ?_
        · intro W hSW; go_simp; try (with_reducible rfl)
        simp only [Act.put, List.getElem_toArray, List.getElem_cons_succ, List.getElem_cons_zero, List.setIfInBounds_toArray, List.set_cons_zero, List.set_cons_succ]
        refine wpAnyH_take (i := 3) (v := .int .i64 (n : Int)) rfl (by kernel_rfl) (by kernel_rfl) (by kernel_rfl) (fun _ _ _ h => h) (Or.inl ⟨by rfl, ?_⟩) (by first | assumption | exact trivial) ?_
        · intro W hSW; have q3 := hSW.1; go_simp; try (with_reducible rfl)
        simp only [Act.put, List.getElem_toArray, List.getElem_cons_succ, List.getElem_cons_zero, List.setIfInBounds_toArray, List.set_cons_zero, List.set_cons_succ]
        refine wpAnyH_take (i := 4) (v := .int .u64 (n : Int)) rfl (by kernel_rfl) (by kernel_rfl) (by kernel_rfl) (fun _ _ _ h => h) (Or.inl ⟨by rfl, ?_⟩) (by first | assumption | exact trivial) ?_
        · intro W hSW; go_simp; try (with_reducible rfl)
        simp only [Act.put, List.getElem_toArray, List.getElem_cons_succ, List.getElem_cons_zero, List.setIfInBounds_toArray, List.set_cons_zero, List.set_cons_succ]
        refine wpAnyH_take (i := 5) (v := .pointer (some ⟨wr.heap.size, 1, none⟩)) rfl (by kernel_rfl) (by kernel_rfl) (by kernel_rfl) (fun _ _ _ h => h) (Or.inl ⟨by rfl, ?_⟩) (by first | assumption | exact trivial) ?_
        · intro W hSW; go_simp; try (with_reducible rfl)
        simp only [Act.put, List.getElem_toArray, List.getElem_cons_succ, List.getElem_cons_zero, List.setIfInBounds_toArray, List.set_cons_zero, List.set_cons_succ]
        refine wpAnyH_take (i := 6) (v := .int .i64 1) rfl (by kernel_rfl) (by kernel_rfl) (by kernel_rfl) (fun _ _ _ h => h) (Or.inl ⟨by rfl, ?_⟩) (by first | assumption | exact trivial) ?_
        · intro W hSW; have q6 := hSW.2.1; go_simp; try (with_reducible rfl)
        simp only [Act.put, List.getElem_toArray, List.getElem_cons_succ, List.getElem_cons_zero, List.setIfInBounds_toArray, List.set_cons_zero, List.set_cons_succ]
        refine wpAnyH_ready (rs := [7]) (by kernel_rfl) (by simp) ?_
        refine AllReadyH.cons rfl (fun K hK => ?_) AllReadyH.nil
        go_simp
        go_wp2_with (go_at_call 38; refine (HP.out _ S0).mono ?_; rintro e w4 ⟨g2, rfl, hg2, hS4⟩)
        refine hK.out _ _ (hS4) (fun hHeld => ?_)
        clear hK K
        refine wpAnyH_take (i := 8) (v := .tuple #[.slice (some ⟨g2, 0, none⟩) 1 1, .int .i64 0]) rfl (by kernel_rfl) (by kernel_rfl) (by kernel_rfl) (fun _ _ _ h => h) (Or.inl ⟨by rfl, ?_⟩) (by first | assumption | exact trivial) ?_
        · intro W hSW; go_simp; try (with_reducible rfl)
        simp only [Act.put, List.getElem_toArray, List.getElem_cons_succ, List.getElem_cons_zero, List.setIfInBounds_toArray, List.set_cons_zero, List.set_cons_succ]
        refine wpAnyH_take (i := 9) (v := .slice (some ⟨g2, 0, none⟩) 1 1) rfl (by kernel_rfl) (by kernel_rfl) (by kernel_rfl) (fun _ _ _ h => h) (Or.inl ⟨by rfl, ?_⟩) (by first | assumption | exact trivial) ?_
        · intro W hSW; go_simp; try (with_reducible rfl)
        simp only [Act.put, List.getElem_toArray, List.getElem_cons_succ, List.getElem_cons_zero, List.setIfInBounds_toArray, List.set_cons_zero, List.set_cons_succ]
        refine wpAnyH_take (i := 10) (v := .int .i64 0) rfl (by kernel_rfl) (by kernel_rfl) (by kernel_rfl) (fun _ _ _ h => h) (Or.inl ⟨by rfl, ?_⟩) (by first | assumption | exact trivial) ?_
        · intro W hSW; go_simp; try (with_reducible rfl)
        simp only [Act.put, List.getElem_toArray, List.getElem_cons_succ, List.getElem_cons_zero, List.setIfInBounds_toArray, List.set_cons_zero, List.set_cons_succ]
        refine wpAnyH_take (i := 11) (v := .slice (some ⟨g2, 0, none⟩) 1 1) rfl (by kernel_rfl) (by kernel_rfl) (by kernel_rfl) (fun _ _ _ h => h) (Or.inl ⟨by rfl, ?_⟩) (by first | assumption | exact trivial) ?_
        · intro W hSW; go_simp; try (with_reducible rfl)
        simp only [Act.put, List.getElem_toArray, List.getElem_cons_succ, List.getElem_cons_zero, List.setIfInBounds_toArray, List.set_cons_zero, List.set_cons_succ]
        refine wpAnyH_done (by kernel_rfl) ?_ _
        have HB2 : Hid (Below wr.heap.size wr w4) := HF1.out.trans (hS4.2.2.mono HF1.out.size)
        clear S0 hS4
        go_wp2
        go_roundw
        case rel => exact ⟨1, by omega, by go_num, ⟨_, rfl, (HWN.out _ _).2 ⟨g2, rfl, Nat.le_trans HBS (Nat.le_trans HF1.out.size hg2.out.1), hg2.out.2⟩⟩, HAr.out.below HB2.out, HB.out.trans (HB2.out.mono HBS)⟩
        case measure => simp [intOf]
      · simp only [lnK, Nat.reduceLT, if_true, if_false, show ((1 : Nat) : Int) = 1 from rfl]
        go_wp2_with (rw [ixf1])
        obtain ⟨W1, hW1⟩ : ∃ W1, wr.alloc (.cells #[.string ⟨#[62]⟩, .int .i64 1] 112) = W1 := ⟨_, rfl⟩
        obtain ⟨hf1, hf2, hf3⟩ := fm_new wr _ _ W1 hW1
        rw [hW1]
        have HS2 : Hid (∀ W, Below W1.heap.size W1 W → W.cell? ⟨g, 1, none⟩ = some (.int .i64 (n : Int)) ∧ W.cell? ⟨wr.heap.size, 1, none⟩ = some (.int .i64 1) ∧ Below W1.heap.size W1 W) := fun W hW => ⟨HCL.out W (hf1.trans (hW.mono (by omega))), hf3 W hW, hW⟩
        have HP := bputL l l2 n 1 1 2 1 A (fun W => W.cell? ⟨g, 1, none⟩ = some (.int .i64 (n : Int)) ∧ W.cell? ⟨wr.heap.size, 1, none⟩ = some (.int .i64 1) ∧ Below W1.heap.size W1 W) W1 rfl HLn.out rfl (by omega) (by decide) hn HL1.out (fun W hW => ⟨hW.2.2, HR.out W (hf1.trans (hW.2.2.mono (by omega)))⟩) HS2.out
        have HF1 := Lib.hid hf1
        have HF2 := Lib.hid hf2
        have S0 := HS2.out W1.drew (Below.refl _ W1).drew
        clear hf1 hf2 hf3 hW1 HS2
        refine wp_region_held_drew (S := fun W => W.cell? ⟨g, 1, none⟩ = some (.int .i64 (n : Int)) ∧ W.cell? ⟨wr.heap.size, 1, none⟩ = some (.int .i64 1) ∧ Below W1.heap.size W1 W) (by kernel_rfl) S0 (fun hHeld => ?_)
        refine wpAnyH_take (i := 0) (v := .slice A 1 1) rfl (by kernel_rfl) (by kernel_rfl) (by kernel_rfl) (fun _ _ _ h => h) (Or.inl ⟨by rfl, ?_⟩) (by first | assumption | exact trivial) ?_
        · intro W hSW; go_simp; try (with_reducible rfl)
        simp only [Act.put, List.getElem_toArray, List.getElem_cons_succ, List.getElem_cons_zero, List.setIfInBounds_toArray, List.set_cons_zero, List.set_cons_succ]
        refine wpAnyH_take (i := 1) (v := .int .i64 1) rfl (by kernel_rfl) (by kernel_rfl) (by kernel_rfl) (fun _ _ _ h => h) (Or.inl ⟨by rfl, ?_⟩) (by first | assumption | exact trivial) ?_
        · intro W hSW; go_simp; try (with_reducible rfl)
        simp only [Act.put, List.getElem_toArray, List.getElem_cons_succ, List.getElem_cons_zero, List.setIfInBounds_toArray, List.set_cons_zero, List.set_cons_succ]
        refine wpAnyH_take (i := 2) (v := .pointer (some ⟨g, 1, none⟩)) rfl (by kernel_rfl) (by kernel_rfl) (by kernel_rfl) (fun _ _ _ h => h) (Or.inl ⟨by rfl, ?_⟩) (by first | assumption | exact trivial) ?_
        · intro W hSW; go_simp; try (with_reducible rfl)
        simp only [Act.put, List.getElem_toArray, List.getElem_cons_succ, List.getElem_cons_zero, List.setIfInBounds_toArray, List.set_cons_zero, List.set_cons_succ]
        refine wpAnyH_take (i := 3) (v := .int .i64 (n : Int)) rfl (by kernel_rfl) (by kernel_rfl) (by kernel_rfl) (fun _ _ _ h => h) (Or.inl ⟨by rfl, ?_⟩) (by first | assumption | exact trivial) ?_
        · intro W hSW; have q3 := hSW.1; go_simp; try (with_reducible rfl)
        simp only [Act.put, List.getElem_toArray, List.getElem_cons_succ, List.getElem_cons_zero, List.setIfInBounds_toArray, List.set_cons_zero, List.set_cons_succ]
        refine wpAnyH_take (i := 4) (v := .int .u64 (n : Int)) rfl (by kernel_rfl) (by kernel_rfl) (by kernel_rfl) (fun _ _ _ h => h) (Or.inl ⟨by rfl, ?_⟩) (by first | assumption | exact trivial) ?_
        · intro W hSW; go_simp; try (with_reducible rfl)
        simp only [Act.put, List.getElem_toArray, List.getElem_cons_succ, List.getElem_cons_zero, List.setIfInBounds_toArray, List.set_cons_zero, List.set_cons_succ]
        refine wpAnyH_take (i := 5) (v := .pointer (some ⟨wr.heap.size, 1, none⟩)) rfl (by kernel_rfl) (by kernel_rfl) (by kernel_rfl) (fun _ _ _ h => h) (Or.inl ⟨by rfl, ?_⟩) (by first | assumption | exact trivial) ?_
        · intro W hSW; go_simp; try (with_reducible rfl)
        simp only [Act.put, List.getElem_toArray, List.getElem_cons_succ, List.getElem_cons_zero, List.setIfInBounds_toArray, List.set_cons_zero, List.set_cons_succ]
        refine wpAnyH_take (i := 6) (v := .int .i64 1) rfl (by kernel_rfl) (by kernel_rfl) (by kernel_rfl) (fun _ _ _ h => h) (Or.inl ⟨by rfl, ?_⟩) (by first | assumption | exact trivial) ?_
        · intro W hSW; have q6 := hSW.2.1; go_simp; try (with_reducible rfl)
        simp only [Act.put, List.getElem_toArray, List.getElem_cons_succ, List.getElem_cons_zero, List.setIfInBounds_toArray, List.set_cons_zero, List.set_cons_succ]
        refine wpAnyH_ready (rs := [7]) (by kernel_rfl) (by simp) ?_
        refine AllReadyH.cons rfl (fun K hK => ?_) AllReadyH.nil
        go_simp
        go_wp2_with (go_at_call 38; refine (HP.out _ S0).mono ?_; rintro e w4 ⟨g2, rfl, hg2, hS4⟩)
        refine hK.out _ _ (hS4) (fun hHeld => ?_)
        clear hK K
        refine wpAnyH_take (i := 8) (v := .tuple #[.slice (some ⟨g2, 0, none⟩) 2 2, .int .i64 0]) rfl (by kernel_rfl) (by kernel_rfl) (by kernel_rfl) (fun _ _ _ h => h) (Or.inl ⟨by rfl, ?_⟩) (by first | assumption | exact trivial) ?_
        · intro W hSW; go_simp; try (with_reducible rfl)
        simp only [Act.put, List.getElem_toArray, List.getElem_cons_succ, List.getElem_cons_zero, List.setIfInBounds_toArray, List.set_cons_zero, List.set_cons_succ]
        refine wpAnyH_take (i := 9) (v := .slice (some ⟨g2, 0, none⟩) 2 2) rfl (by kernel_rfl) (by kernel_rfl) (by kernel_rfl) (fun _ _ _ h => h) (Or.inl ⟨by rfl, ?_⟩) (by first | assumption | exact trivial) ?_
        · intro W hSW; go_simp; try (with_reducible rfl)
        simp only [Act.put, List.getElem_toArray, List.getElem_cons_succ, List.getElem_cons_zero, List.setIfInBounds_toArray, List.set_cons_zero, List.set_cons_succ]
        refine wpAnyH_take (i := 10) (v := .int .i64 0) rfl (by kernel_rfl) (by kernel_rfl) (by kernel_rfl) (fun _ _ _ h => h) (Or.inl ⟨by rfl, ?_⟩) (by first | assumption | exact trivial) ?_
        · intro W hSW; go_simp; try (with_reducible rfl)
        simp only [Act.put, List.getElem_toArray, List.getElem_cons_succ, List.getElem_cons_zero, List.setIfInBounds_toArray, List.set_cons_zero, List.set_cons_succ]
        refine wpAnyH_take (i := 11) (v := .slice (some ⟨g2, 0, none⟩) 2 2) rfl (by kernel_rfl) (by kernel_rfl) (by kernel_rfl) (fun _ _ _ h => h) (Or.inl ⟨by rfl, ?_⟩) (by first | assumption | exact trivial) ?_
        · intro W hSW; go_simp; try (with_reducible rfl)
        simp only [Act.put, List.getElem_toArray, List.getElem_cons_succ, List.getElem_cons_zero, List.setIfInBounds_toArray, List.set_cons_zero, List.set_cons_succ]
        refine wpAnyH_done (by kernel_rfl) ?_ _
        have HB2 : Hid (Below wr.heap.size wr w4) := HF1.out.trans (hS4.2.2.mono HF1.out.size)
        clear S0 hS4
        go_wp2
        go_roundw
        case rel => exact ⟨2, by omega, by go_num, ⟨_, rfl, (HWN.out _ _).2 ⟨g2, rfl, Nat.le_trans HBS (Nat.le_trans HF1.out.size hg2.out.1), hg2.out.2⟩⟩, HAr.out.below HB2.out, HB.out.trans (HB2.out.mono HBS)⟩
        case measure => simp [intOf]
      · simp only [lnK, Nat.reduceLT, if_true, if_false, show ((2 : Nat) : Int) = 2 from rfl]
        go_wp2_with (rw [ixf2])
        obtain ⟨W1, hW1⟩ : ∃ W1, wr.alloc (.cells #[.string ⟨#[58]⟩, .int .i64 2] 112) = W1 := ⟨_, rfl⟩
        obtain ⟨hf1, hf2, hf3⟩ := fm_new wr _ _ W1 hW1
        rw [hW1]
        have HS2 : Hid (∀ W, Below W1.heap.size W1 W → W.cell? ⟨g, 2, none⟩ = some (.int .i64 (n : Int)) ∧ W.cell? ⟨wr.heap.size, 1, none⟩ = some (.int .i64 2) ∧ Below W1.heap.size W1 W) := fun W hW => ⟨HCL.out W (hf1.trans (hW.mono (by omega))), hf3 W hW, hW⟩
        have HP := bputL l l2 n 2 2 4 2 A (fun W => W.cell? ⟨g, 2, none⟩ = some (.int .i64 (n : Int)) ∧ W.cell? ⟨wr.heap.size, 1, none⟩ = some (.int .i64 2) ∧ Below W1.heap.size W1 W) W1 rfl HLn.out rfl (by omega) (by decide) hn HL1.out (fun W hW => ⟨hW.2.2, HR.out W (hf1.trans (hW.2.2.mono (by omega)))⟩) HS2.out
        have HF1 := Lib.hid hf1
        have HF2 := Lib.hid hf2
        have S0 := HS2.out W1.drew (Below.refl _ W1).drew
        clear hf1 hf2 hf3 hW1 HS2
        refine wp_region_held_drew (S := fun W => W.cell? ⟨g, 2, none⟩ = some (.int .i64 (n : Int)) ∧ W.cell? ⟨wr.heap.size, 1, none⟩ = some (.int .i64 2) ∧ Below W1.heap.size W1 W) (by kernel_rfl) S0 (fun hHeld => ?_)
        refine wpAnyH_take (i := 0) (v := .slice A 2 2) rfl (by kernel_rfl) (by kernel_rfl) (by kernel_rfl) (fun _ _ _ h => h) (Or.inl ⟨by rfl, ?_⟩) (by first | assumption | exact trivial) ?_
        · intro W hSW; go_simp; try (with_reducible rfl)
        simp only [Act.put, List.getElem_toArray, List.getElem_cons_succ, List.getElem_cons_zero, List.setIfInBounds_toArray, List.set_cons_zero, List.set_cons_succ]
        refine wpAnyH_take (i := 1) (v := .int .i64 2) rfl (by kernel_rfl) (by kernel_rfl) (by kernel_rfl) (fun _ _ _ h => h) (Or.inl ⟨by rfl, ?_⟩) (by first | assumption | exact trivial) ?_
        · intro W hSW; go_simp; try (with_reducible rfl)
        simp only [Act.put, List.getElem_toArray, List.getElem_cons_succ, List.getElem_cons_zero, List.setIfInBounds_toArray, List.set_cons_zero, List.set_cons_succ]
        refine wpAnyH_take (i := 2) (v := .pointer (some ⟨g, 2, none⟩)) rfl (by kernel_rfl) (by kernel_rfl) (by kernel_rfl) (fun _ _ _ h => h) (Or.inl ⟨by rfl, ?_⟩) (by first | assumption | exact trivial) ?_
        · intro W hSW; go_simp; try (with_reducible rfl)
        simp only [Act.put, List.getElem_toArray, List.getElem_cons_succ, List.getElem_cons_zero, List.setIfInBounds_toArray, List.set_cons_zero, List.set_cons_succ]
        refine wpAnyH_take (i := 3) (v := .int .i64 (n : Int)) rfl (by kernel_rfl) (by kernel_rfl) (by kernel_rfl) (fun _ _ _ h => h) (Or.inl ⟨by rfl, ?_⟩) (by first | assumption | exact trivial) ?_
        · intro W hSW; have q3 := hSW.1; go_simp; try (with_reducible rfl)
        simp only [Act.put, List.getElem_toArray, List.getElem_cons_succ, List.getElem_cons_zero, List.setIfInBounds_toArray, List.set_cons_zero, List.set_cons_succ]
        refine wpAnyH_take (i := 4) (v := .int .u64 (n : Int)) rfl (by kernel_rfl) (by kernel_rfl) (by kernel_rfl) (fun _ _ _ h => h) (Or.inl ⟨by rfl, ?_⟩) (by first | assumption | exact trivial) ?_
        · intro W hSW; go_simp; try (with_reducible rfl)
        simp only [Act.put, List.getElem_toArray, List.getElem_cons_succ, List.getElem_cons_zero, List.setIfInBounds_toArray, List.set_cons_zero, List.set_cons_succ]
        refine wpAnyH_take (i := 5) (v := .pointer (some ⟨wr.heap.size, 1, none⟩)) rfl (by kernel_rfl) (by kernel_rfl) (by kernel_rfl) (fun _ _ _ h => h) (Or.inl ⟨by rfl, ?_⟩) (by first | assumption | exact trivial) ?_
        · intro W hSW; go_simp; try (with_reducible rfl)
        simp only [Act.put, List.getElem_toArray, List.getElem_cons_succ, List.getElem_cons_zero, List.setIfInBounds_toArray, List.set_cons_zero, List.set_cons_succ]
        refine wpAnyH_take (i := 6) (v := .int .i64 2) rfl (by kernel_rfl) (by kernel_rfl) (by kernel_rfl) (fun _ _ _ h => h) (Or.inl ⟨by rfl, ?_⟩) (by first | assumption | exact trivial) ?_
        · intro W hSW; have q6 := hSW.2.1; go_simp; try (with_reducible rfl)
        simp only [Act.put, List.getElem_toArray, List.getElem_cons_succ, List.getElem_cons_zero, List.setIfInBounds_toArray, List.set_cons_zero, List.set_cons_succ]
        refine wpAnyH_ready (rs := [7]) (by kernel_rfl) (by simp) ?_
        refine AllReadyH.cons rfl (fun K hK => ?_) AllReadyH.nil
        go_simp
        go_wp2_with (go_at_call 38; refine (HP.out _ S0).mono ?_; rintro e w4 ⟨g2, rfl, hg2, hS4⟩)
        refine hK.out _ _ (hS4) (fun hHeld => ?_)
        clear hK K
        refine wpAnyH_take (i := 8) (v := .tuple #[.slice (some ⟨g2, 0, none⟩) 4 4, .int .i64 0]) rfl (by kernel_rfl) (by kernel_rfl) (by kernel_rfl) (fun _ _ _ h => h) (Or.inl ⟨by rfl, ?_⟩) (by first | assumption | exact trivial) ?_
        · intro W hSW; go_simp; try (with_reducible rfl)
        simp only [Act.put, List.getElem_toArray, List.getElem_cons_succ, List.getElem_cons_zero, List.setIfInBounds_toArray, List.set_cons_zero, List.set_cons_succ]
        refine wpAnyH_take (i := 9) (v := .slice (some ⟨g2, 0, none⟩) 4 4) rfl (by kernel_rfl) (by kernel_rfl) (by kernel_rfl) (fun _ _ _ h => h) (Or.inl ⟨by rfl, ?_⟩) (by first | assumption | exact trivial) ?_
        · intro W hSW; go_simp; try (with_reducible rfl)
        simp only [Act.put, List.getElem_toArray, List.getElem_cons_succ, List.getElem_cons_zero, List.setIfInBounds_toArray, List.set_cons_zero, List.set_cons_succ]
        refine wpAnyH_take (i := 10) (v := .int .i64 0) rfl (by kernel_rfl) (by kernel_rfl) (by kernel_rfl) (fun _ _ _ h => h) (Or.inl ⟨by rfl, ?_⟩) (by first | assumption | exact trivial) ?_
        · intro W hSW; go_simp; try (with_reducible rfl)
        simp only [Act.put, List.getElem_toArray, List.getElem_cons_succ, List.getElem_cons_zero, List.setIfInBounds_toArray, List.set_cons_zero, List.set_cons_succ]
        refine wpAnyH_take (i := 11) (v := .slice (some ⟨g2, 0, none⟩) 4 4) rfl (by kernel_rfl) (by kernel_rfl) (by kernel_rfl) (fun _ _ _ h => h) (Or.inl ⟨by rfl, ?_⟩) (by first | assumption | exact trivial) ?_
        · intro W hSW; go_simp; try (with_reducible rfl)
        simp only [Act.put, List.getElem_toArray, List.getElem_cons_succ, List.getElem_cons_zero, List.setIfInBounds_toArray, List.set_cons_zero, List.set_cons_succ]
        refine wpAnyH_done (by kernel_rfl) ?_ _
        have HB2 : Hid (Below wr.heap.size wr w4) := HF1.out.trans (hS4.2.2.mono HF1.out.size)
        clear S0 hS4
        go_wp2
        go_roundw
        case rel => exact ⟨3, by omega, by go_num, ⟨_, rfl, (HWN.out _ _).2 ⟨g2, rfl, Nat.le_trans HBS (Nat.le_trans HF1.out.size hg2.out.1), hg2.out.2⟩⟩, HAr.out.below HB2.out, HB.out.trans (HB2.out.mono HBS)⟩
        case measure => simp [intOf]
      · simp only [lnK, Nat.reduceLT, if_true, if_false, show ((3 : Nat) : Int) = 3 from rfl]
        go_wp2_with (rw [ixf3])
        obtain ⟨W1, hW1⟩ : ∃ W1, wr.alloc (.cells #[.string ⟨#[46]⟩, .int .i64 2] 112) = W1 := ⟨_, rfl⟩
        obtain ⟨hf1, hf2, hf3⟩ := fm_new wr _ _ W1 hW1
        rw [hW1]
        have HS2 : Hid (∀ W, Below W1.heap.size W1 W → W.cell? ⟨g, 3, none⟩ = some (.int .i64 (n : Int)) ∧ W.cell? ⟨wr.heap.size, 1, none⟩ = some (.int .i64 2) ∧ Below W1.heap.size W1 W) := fun W hW => ⟨HCL.out W (hf1.trans (hW.mono (by omega))), hf3 W hW, hW⟩
        have HP := bputL l l2 n 2 4 6 2 A (fun W => W.cell? ⟨g, 3, none⟩ = some (.int .i64 (n : Int)) ∧ W.cell? ⟨wr.heap.size, 1, none⟩ = some (.int .i64 2) ∧ Below W1.heap.size W1 W) W1 rfl HLn.out rfl (by omega) (by decide) hn HL1.out (fun W hW => ⟨hW.2.2, HR.out W (hf1.trans (hW.2.2.mono (by omega)))⟩) HS2.out
        have HF1 := Lib.hid hf1
        have HF2 := Lib.hid hf2
        have S0 := HS2.out W1.drew (Below.refl _ W1).drew
        clear hf1 hf2 hf3 hW1 HS2
        refine wp_region_held_drew (S := fun W => W.cell? ⟨g, 3, none⟩ = some (.int .i64 (n : Int)) ∧ W.cell? ⟨wr.heap.size, 1, none⟩ = some (.int .i64 2) ∧ Below W1.heap.size W1 W) (by kernel_rfl) S0 (fun hHeld => ?_)
        refine wpAnyH_take (i := 0) (v := .slice A 4 4) rfl (by kernel_rfl) (by kernel_rfl) (by kernel_rfl) (fun _ _ _ h => h) (Or.inl ⟨by rfl, ?_⟩) (by first | assumption | exact trivial) ?_
        · intro W hSW; go_simp; try (with_reducible rfl)
        simp only [Act.put, List.getElem_toArray, List.getElem_cons_succ, List.getElem_cons_zero, List.setIfInBounds_toArray, List.set_cons_zero, List.set_cons_succ]
        refine wpAnyH_take (i := 1) (v := .int .i64 3) rfl (by kernel_rfl) (by kernel_rfl) (by kernel_rfl) (fun _ _ _ h => h) (Or.inl ⟨by rfl, ?_⟩) (by first | assumption | exact trivial) ?_
        · intro W hSW; go_simp; try (with_reducible rfl)
        simp only [Act.put, List.getElem_toArray, List.getElem_cons_succ, List.getElem_cons_zero, List.setIfInBounds_toArray, List.set_cons_zero, List.set_cons_succ]
        refine wpAnyH_take (i := 2) (v := .pointer (some ⟨g, 3, none⟩)) rfl (by kernel_rfl) (by kernel_rfl) (by kernel_rfl) (fun _ _ _ h => h) (Or.inl ⟨by rfl, ?_⟩) (by first | assumption | exact trivial) ?_
        · intro W hSW; go_simp; try (with_reducible rfl)
        simp only [Act.put, List.getElem_toArray, List.getElem_cons_succ, List.getElem_cons_zero, List.setIfInBounds_toArray, List.set_cons_zero, List.set_cons_succ]
        refine wpAnyH_take (i := 3) (v := .int .i64 (n : Int)) rfl (by kernel_rfl) (by kernel_rfl) (by kernel_rfl) (fun _ _ _ h => h) (Or.inl ⟨by rfl, ?_⟩) (by first | assumption | exact trivial) ?_
        · intro W hSW; have q3 := hSW.1; go_simp; try (with_reducible rfl)
        simp only [Act.put, List.getElem_toArray, List.getElem_cons_succ, List.getElem_cons_zero, List.setIfInBounds_toArray, List.set_cons_zero, List.set_cons_succ]
        refine wpAnyH_take (i := 4) (v := .int .u64 (n : Int)) rfl (by kernel_rfl) (by kernel_rfl) (by kernel_rfl) (fun _ _ _ h => h) (Or.inl ⟨by rfl, ?_⟩) (by first | assumption | exact trivial) ?_
        · intro W hSW; go_simp; try (with_reducible rfl)
        simp only [Act.put, List.getElem_toArray, List.getElem_cons_succ, List.getElem_cons_zero, List.setIfInBounds_toArray, List.set_cons_zero, List.set_cons_succ]
        refine wpAnyH_take (i := 5) (v := .pointer (some ⟨wr.heap.size, 1, none⟩)) rfl (by kernel_rfl) (by kernel_rfl) (by kernel_rfl) (fun _ _ _ h => h) (Or.inl ⟨by rfl, ?_⟩) (by first | assumption | exact trivial) ?_
        · intro W hSW; go_simp; try (with_reducible rfl)
        simp only [Act.put, List.getElem_toArray, List.getElem_cons_succ, List.getElem_cons_zero, List.setIfInBounds_toArray, List.set_cons_zero, List.set_cons_succ]
        refine wpAnyH_take (i := 6) (v := .int .i64 2) rfl (by kernel_rfl) (by kernel_rfl) (by kernel_rfl) (fun _ _ _ h => h) (Or.inl ⟨by rfl, ?_⟩) (by first | assumption | exact trivial) ?_
        · intro W hSW; have q6 := hSW.2.1; go_simp; try (with_reducible rfl)
        simp only [Act.put, List.getElem_toArray, List.getElem_cons_succ, List.getElem_cons_zero, List.setIfInBounds_toArray, List.set_cons_zero, List.set_cons_succ]
        refine wpAnyH_ready (rs := [7]) (by kernel_rfl) (by simp) ?_
        refine AllReadyH.cons rfl (fun K hK => ?_) AllReadyH.nil
        go_simp
        go_wp2_with (go_at_call 38; refine (HP.out _ S0).mono ?_; rintro e w4 ⟨g2, rfl, hg2, hS4⟩)
        refine hK.out _ _ (hS4) (fun hHeld => ?_)
        clear hK K
        refine wpAnyH_take (i := 8) (v := .tuple #[.slice (some ⟨g2, 0, none⟩) 6 6, .int .i64 0]) rfl (by kernel_rfl) (by kernel_rfl) (by kernel_rfl) (fun _ _ _ h => h) (Or.inl ⟨by rfl, ?_⟩) (by first | assumption | exact trivial) ?_
        · intro W hSW; go_simp; try (with_reducible rfl)
        simp only [Act.put, List.getElem_toArray, List.getElem_cons_succ, List.getElem_cons_zero, List.setIfInBounds_toArray, List.set_cons_zero, List.set_cons_succ]
        refine wpAnyH_take (i := 9) (v := .slice (some ⟨g2, 0, none⟩) 6 6) rfl (by kernel_rfl) (by kernel_rfl) (by kernel_rfl) (fun _ _ _ h => h) (Or.inl ⟨by rfl, ?_⟩) (by first | assumption | exact trivial) ?_
        · intro W hSW; go_simp; try (with_reducible rfl)
        simp only [Act.put, List.getElem_toArray, List.getElem_cons_succ, List.getElem_cons_zero, List.setIfInBounds_toArray, List.set_cons_zero, List.set_cons_succ]
        refine wpAnyH_take (i := 10) (v := .int .i64 0) rfl (by kernel_rfl) (by kernel_rfl) (by kernel_rfl) (fun _ _ _ h => h) (Or.inl ⟨by rfl, ?_⟩) (by first | assumption | exact trivial) ?_
        · intro W hSW; go_simp; try (with_reducible rfl)
        simp only [Act.put, List.getElem_toArray, List.getElem_cons_succ, List.getElem_cons_zero, List.setIfInBounds_toArray, List.set_cons_zero, List.set_cons_succ]
        refine wpAnyH_take (i := 11) (v := .slice (some ⟨g2, 0, none⟩) 6 6) rfl (by kernel_rfl) (by kernel_rfl) (by kernel_rfl) (fun _ _ _ h => h) (Or.inl ⟨by rfl, ?_⟩) (by first | assumption | exact trivial) ?_
        · intro W hSW; go_simp; try (with_reducible rfl)
        simp only [Act.put, List.getElem_toArray, List.getElem_cons_succ, List.getElem_cons_zero, List.setIfInBounds_toArray, List.set_cons_zero, List.set_cons_succ]
        refine wpAnyH_done (by kernel_rfl) ?_ _
        have HB2 : Hid (Below wr.heap.size wr w4) := HF1.out.trans (hS4.2.2.mono HF1.out.size)
        clear S0 hS4
        go_wp2
        go_roundw
        case rel => exact ⟨4, by omega, by go_num, ⟨_, rfl, (HWN.out _ _).2 ⟨g2, rfl, Nat.le_trans HBS (Nat.le_trans HF1.out.size hg2.out.1), hg2.out.2⟩⟩, HAr.out.below HB2.out, HB.out.trans (HB2.out.mono HBS)⟩
        case measure => simp [intOf]
    · obtain rfl : k = 4 := by omega
      rcases HWO.out with ⟨h, _⟩ | ⟨g2, rfl, hg2, hr2⟩
      · cases h
      · have HR2 := Lib.hid hr2
        simp only [lnK, Nat.reduceLT, if_false]
        clear hr2 HWO
        go_wp2
        try rw [Exit.noGoto_ret]
        go_ret2
        exact ⟨_, rfl, hg2, HR2.out, HB.out⟩
end Go.Proofs.Ytohfoieibgmmdaa.Mg
/- The bytes of two right ids are in the order of the ids. -/
namespace Go.Proofs.Ytohfoieibgmmdaa.Mg
open Go.RowKit
open Go.Proofs.Ytohfoieibgmmdaa.Me Go.Proofs.Ytohfoieibgmmdaa.Ba Go.Proofs.Ytohfoieibgmmdaa.Ma
set_option linter.unusedVariables false
set_option linter.unusedSimpArgs false

theorem u8_lt {x y : Nat} (hx : x < 256) (hy : y < 256) : UInt8.ofNat x < UInt8.ofNat y ↔ x < y := by
  rw [UInt8.lt_iff_toNat_lt, UInt8.toNat_ofNat', UInt8.toNat_ofNat']
  omega
theorem u8_eq {x y : Nat} (hx : x < 256) (hy : y < 256) : UInt8.ofNat x = UInt8.ofNat y ↔ x = y := by
  rw [← UInt8.toNat_inj, UInt8.toNat_ofNat', UInt8.toNat_ofNat']
  omega
theorem idL_six (i : Id4) : idL i = [i.o.toNat % 256, i.d.toNat % 256, i.e.toNat / 256 % 256, i.e.toNat % 256, i.c.toNat / 256 % 256, i.c.toNat % 256] := by
  simp [idL, bytK, byts, szk, ix]
theorem ltB_iff (a b : Id4) : ltB a b = true ↔ a.o < b.o ∨ a.o = b.o ∧ (a.d < b.d ∨ a.d = b.d ∧ (a.e < b.e ∨ a.e = b.e ∧ a.c < b.c)) := by
  unfold ltB
  repeat' split
  all_goals simp only [decide_eq_true_eq]
  all_goals omega
theorem lex_str (a b : Id4) (ha : Right a) (hb : Right b) : Op.bytesLess (strOf (idL a)).toList (strOf (idL b)).toList = ltB a b := by
  have a0 := ha.o0; have a1 := ha.o1; have a2 := ha.d0; have a3 := ha.d1; have a4 := ha.e0; have a5 := ha.e1; have a6 := ha.c0; have a7 := ha.c1
  have b0 := hb.o0; have b1 := hb.o1; have b2 := hb.d0; have b3 := hb.d1; have b4 := hb.e0; have b5 := hb.e1; have b6 := hb.c0; have b7 := hb.c1
  rw [bytesLess_eq, Lib.toList_data, Lib.toList_data, idL_six, idL_six]
  apply Bool.eq_iff_iff.2
  rw [decide_eq_true_iff, ltB_iff]
  obtain ⟨o, d, e, c⟩ := a
  obtain ⟨p, q, f, g⟩ := b
  simp only at *
  obtain ⟨o, rfl⟩ := Int.eq_ofNat_of_zero_le a0
  obtain ⟨d, rfl⟩ := Int.eq_ofNat_of_zero_le a2
  obtain ⟨e, rfl⟩ := Int.eq_ofNat_of_zero_le (show 0 ≤ e by omega)
  obtain ⟨c, rfl⟩ := Int.eq_ofNat_of_zero_le (show 0 ≤ c by omega)
  obtain ⟨p, rfl⟩ := Int.eq_ofNat_of_zero_le b0
  obtain ⟨q, rfl⟩ := Int.eq_ofNat_of_zero_le b2
  obtain ⟨f, rfl⟩ := Int.eq_ofNat_of_zero_le (show 0 ≤ f by omega)
  obtain ⟨g, rfl⟩ := Int.eq_ofNat_of_zero_le (show 0 ≤ g by omega)
  simp only [Int.toNat_natCast, strOf, List.map_cons, List.map_nil, List.cons_lt_cons_iff, List.lt_irrefl, and_false, or_false]
  have m : ∀ x : Nat, x % 256 < 256 := fun x => Nat.mod_lt _ (by decide)
  simp only [u8_lt (m _) (m _), u8_eq (m _) (m _), Int.ofNat_lt, Int.natCast_inj]
  omega
theorem ltB_asymm {a b : Id4} (h : ltB a b = true) : ltB b a = false := by
  rw [Bool.eq_false_iff, Ne, ltB_iff]
  rw [ltB_iff] at h
  omega
theorem ltB_trans {a b c : Id4} (h : ltB a b = true) (h2 : ltB b c = true) : ltB a c = true := by
  rw [ltB_iff] at h h2 ⊢
  omega
theorem ltB_irrefl (a : Id4) : ltB a a = false := by
  rw [Bool.eq_false_iff, Ne, ltB_iff]
  omega
theorem ltB_total {a b : Id4} (h : ltB a b = false) (h2 : ltB b a = false) : a = b := by
  rw [Bool.eq_false_iff, Ne, ltB_iff] at h h2
  obtain ⟨o, d, e, c⟩ := a
  obtain ⟨p, q, r, s⟩ := b
  simp only at h h2
  obtain rfl : o = p := by omega
  obtain rfl : d = q := by omega
  obtain rfl : e = r := by omega
  obtain rfl : c = s := by omega
  rfl
end Go.Proofs.Ytohfoieibgmmdaa.Mg
/- The reference's bytes of an id. -/
namespace Go.Proofs.Ytohfoieibgmmdaa.Mg
open Go.RowKit
open Go.Proofs.Ytohfoieibgmmdaa.Me Go.Proofs.Ytohfoieibgmmdaa.Ba Go.Proofs.Ytohfoieibgmmdaa.Ma
set_option linter.unusedVariables false
set_option linter.unusedSimpArgs false

theorem RPutId_no (i : Id4) (h : Hid (chkN i ≠ 0)) (w : World) : Calls Try.prog 41 #[.agg (idC i)] w fun e w' => e = .returned (.tuple #[.slice none 0 0, .int .i64 (chkN i : Int)]) ∧ Hid (Below w.heap.size w w') := by
  have HC := Lib.hid (fun W => RCheck_any i W)
  obtain ⟨x, hx⟩ : ∃ x, chkN i = x := ⟨_, rfl⟩
  rw [hx] at HC h ⊢
  have h1 : ((x : Int) == 0) = false := nz h.out
  clear hx
  obtain ⟨o, d, ee, c⟩ := i
  have HB4 := Lib.hid (box4 o d ee c w)
  simp only [idC] at HC ⊢
  go_enter Try.func41, Try.ntmps41
  go_wp2_with (first
    | (go_at_call 43; refine (HC.out _).mono ?_; rintro e w1 ⟨rfl, b1⟩; first
        | (have hb2 := Lib.hid (hb1.out.trans (b1.out.mono hb1.out.size)))
        | (have hb1 := b1; obtain ⟨q0, q1, q2, q3⟩ := HB4.out w1 hb1.out)))
  go_ret2
  exact ⟨rfl, Below.trans (Me.below_alloc (Below.refl _ _)) (hb2.out.mono (by simp))⟩
set_option maxRecDepth 100000 in
theorem RPutId_ok (i : Id4) (hR : Hid (Right i)) (w : World) : Calls Try.prog 41 #[.agg (idC i)] w fun e w' => ∃ g, e = .returned (.tuple #[.slice (some ⟨g, 0, none⟩) 6 6, .int .i64 0]) ∧ w.heap.size ≤ g ∧ Hid (Row w' g (idL i)) ∧ Hid (Below w.heap.size w w') := by
  have HC : Hid (∀ W, Calls Try.prog 43 #[.agg (idC i)] W fun e w' => e = .returned (.int .i64 0) ∧ Hid (Below W.heap.size W w')) := fun W => (RCheck_any i W).mono fun e w' h => by
    rw [right_iff.2 hR.out] at h
    exact h
  have HL := idL_six i
  have a0 := hR.out.o0; have a1 := hR.out.o1; have a2 := hR.out.d0; have a3 := hR.out.d1; have a4 := hR.out.e0; have a5 := hR.out.e1; have a6 := hR.out.c0; have a7 := hR.out.c1
  clear hR
  obtain ⟨l, hl⟩ : ∃ l, idL i = l := ⟨_, rfl⟩
  rw [hl] at HL ⊢
  clear hl
  obtain ⟨o, d, ee, c⟩ := i
  simp only at *
  obtain ⟨o, rfl⟩ := Int.eq_ofNat_of_zero_le a0
  obtain ⟨d, rfl⟩ := Int.eq_ofNat_of_zero_le a2
  obtain ⟨ee, rfl⟩ := Int.eq_ofNat_of_zero_le (show 0 ≤ ee by omega)
  obtain ⟨c, rfl⟩ := Int.eq_ofNat_of_zero_le (show 0 ≤ c by omega)
  simp only [Int.toNat_natCast] at HL
  have HL := Lib.hid HL
  have HB4 := Lib.hid (box4 o d ee c w)
  have A1 := Lib.hid a1; have A3 := Lib.hid a3; have A5 := Lib.hid a5; have A7 := Lib.hid a7
  clear a0 a1 a2 a3 a4 a5 a6 a7
  simp only [idC] at HC ⊢
  go_enter Try.func41, Try.ntmps41
  go_wp2_with (go_at_call 43; refine (HC.out _).mono ?_; rintro e w1 ⟨rfl, b1⟩; obtain ⟨q0, q1, q2, q3⟩ := HB4.out w1 b1.out)
  go_ret2
  refine ⟨_, rfl, ?_, ?_, ?_⟩
  · have := b1.out.size
    rw [World.size_alloc] at this
    omega
  · have e1 : wrap64 ((ee : Int) / 256) = (ee : Int) / 256 := Mi.fits (Mi.small (by have := A5.out; omega) (by have := A5.out; omega))
    have e2 : wrap64 ((c : Int) / 256) = (c : Int) / 256 := Mi.fits (Mi.small (by have := A7.out; omega) (by have := A7.out; omega))
    rw [e1, e2, HL.out]
    exact heap_alloc_new w1 _
  · exact Me.below_alloc ((Me.below_alloc (Below.refl _ _)).trans (b1.out.mono (by simp)))
end Go.Proofs.Ytohfoieibgmmdaa.Mg
