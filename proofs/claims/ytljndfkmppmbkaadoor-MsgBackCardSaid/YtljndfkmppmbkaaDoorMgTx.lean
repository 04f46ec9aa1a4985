/- Texts of ids as plain data: what is read from them. -/
import Derived.Test.YtljndfkmppmbkaaDoorMgWoke
import Derived.Lib.AppendIntMem
namespace Go.Proofs.YtljndfkmppmbkaaDoor.Mg
open Go.RowKit
open Go.Proofs.YtljndfkmppmbkaaDoor.Me
set_option linter.unusedVariables false
set_option linter.unusedSimpArgs false

def isD (c : UInt8) : Bool := decide (48 ≤ c.toNat) && decide (c.toNat ≤ 57)
def dv (c : UInt8) : Nat := c.toNat - 48
/-- leadingNumber. -/
def ld : Nat → List UInt8 → Nat × List UInt8
  | n, [] => (n, [])
  | n, c :: r => if isD c = true ∧ n ≤ 65535 then ld (10 * n + dv c) r else (n, c :: r)
theorem isD_of {d : Nat} (h : d < 10) : isD (UInt8.ofNat (48 + d)) = true ∧ dv (UInt8.ofNat (48 + d)) = d := by
  have : (UInt8.ofNat (48 + d)).toNat = 48 + d := by simp; omega
  unfold isD dv
  rw [this]
  simp
  omega
theorem ld_dec : ∀ (m u : Nat), u ≤ m → u / 10 ≤ 65535 → ∀ r, ld 0 (Lib.decDigits u ++ r) = ld u r
  | 0, u, hm, h, r => by
    obtain rfl : u = 0 := by omega
    obtain ⟨h1, h2⟩ := isD_of (d := 0) (by omega)
    rw [Lib.decDigits_one (by omega)]
    show ld 0 (_ :: r) = _
    rw [ld, if_pos ⟨h1, by omega⟩, h2]
  | m + 1, u, hm, h, r => by
    by_cases hu : u < 10
    · obtain ⟨h1, h2⟩ := isD_of hu
      rw [Lib.decDigits_one hu]
      show ld 0 (_ :: r) = _
      rw [ld, if_pos ⟨h1, by omega⟩, h2]
      simp
    · obtain ⟨h1, h2⟩ := isD_of (d := u % 10) (by omega)
      rw [Lib.decDigits, dif_neg hu, List.append_assoc, ld_dec m (u / 10) (by omega) (by omega)]
      show ld (u / 10) (_ :: r) = _
      rw [ld, if_pos ⟨h1, h⟩, h2]
      congr 1
      omega
theorem ld_stop (u : Nat) (r : List UInt8) (h : ∀ c x, r = c :: x → isD c = false) : ld u r = (u, r) := by
  cases r with
  | nil => rfl
  | cons c x =>
    rw [ld, if_neg]
    intro e
    rw [h c x rfl] at e
    exact absurd e.1 (by simp)
/-- What is left ahead of number k, and number k. -/
def pst (s : List UInt8) : Nat → List UInt8
  | 0 => s
  | k + 1 => (ld 0 (Lib.trimPrefix (pst s k) (sg k))).2
def pnu (s : List UInt8) (k : Nat) : Nat := (ld 0 (Lib.trimPrefix (pst s k) (sg k))).1
def pId (s : List UInt8) : Id4 := ⟨pnu s 0, pnu s 1, pnu s 2, pnu s 3⟩
/-- The text from number k on. -/
def rtx (i : Id4) (k : Nat) : List UInt8 :=
  if k = 0 then sg 0 ++ (dK i 0 ++ (sg 1 ++ (dK i 1 ++ (sg 2 ++ (dK i 2 ++ (sg 3 ++ dK i 3))))))
  else if k = 1 then sg 1 ++ (dK i 1 ++ (sg 2 ++ (dK i 2 ++ (sg 3 ++ dK i 3))))
  else if k = 2 then sg 2 ++ (dK i 2 ++ (sg 3 ++ dK i 3))
  else if k = 3 then sg 3 ++ dK i 3 else []
theorem rtx_tx (i : Id4) : txK i 4 = rtx i 0 := by simp [txK, rtx, List.append_assoc]
theorem rtx_step (i : Id4) {k : Nat} (hk : k < 4) : rtx i k = sg k ++ (dK i k ++ rtx i (k + 1)) := by
  obtain rfl | rfl | rfl | rfl : k = 0 ∨ k = 1 ∨ k = 2 ∨ k = 3 := by omega
  all_goals simp [rtx]
theorem trim_app (p x : List UInt8) : Lib.trimPrefix (p ++ x) p = x := by
  unfold Lib.trimPrefix
  rw [if_pos]
  · simp
  · simp [Lib.hasPrefix]
theorem rtx_head (i : Id4) {k : Nat} (hk : k < 4) : ∀ c x, rtx i (k + 1) = c :: x → isD c = false := by
  intro c x h
  obtain rfl | rfl | rfl | rfl : k = 0 ∨ k = 1 ∨ k = 2 ∨ k = 3 := by omega
  · have : c = 62 := by simp [rtx, sg] at h; exact h.1.symm
    subst this; decide
  · have : c = 58 := by simp [rtx, sg] at h; exact h.1.symm
    subst this; decide
  · have : c = 46 := by simp [rtx, sg] at h; exact h.1.symm
    subst this; decide
  · simp [rtx] at h
theorem ix_nat {i : Id4} (h : Right i) {k : Nat} (hk : k < 4) : ix i k = ((ix i k).toNat : Int) ∧ (ix i k).toNat ≤ 65535 := by
  obtain ⟨h0, _, h1⟩ := ix_fits h hk
  omega
theorem read_k {i : Id4} (h : Right i) {k : Nat} (hk : k < 4) : ld 0 (Lib.trimPrefix (rtx i k) (sg k)) = ((ix i k).toNat, rtx i (k + 1)) := by
  have h1 := (ix_nat h hk).2
  rw [rtx_step i hk, trim_app]
  unfold dK
  rw [ld_dec _ _ (Nat.le_refl _) (by omega), ld_stop _ _ (rtx_head i hk)]
theorem pst_tx {i : Id4} (h : Right i) : ∀ k, k ≤ 4 → pst (txK i 4) k = rtx i k
  | 0, _ => rtx_tx i
  | k + 1, hk => by
    show (ld 0 (Lib.trimPrefix (pst (txK i 4) k) (sg k))).2 = _
    rw [pst_tx h k (by omega), read_k h (by omega)]
theorem pnu_tx {i : Id4} (h : Right i) {k : Nat} (hk : k < 4) : (pnu (txK i 4) k : Int) = ix i k := by
  unfold pnu
  rw [pst_tx h k (by omega), read_k h hk]
  exact (ix_nat h hk).1.symm
theorem pId_tx {i : Id4} (h : Right i) : pId (txK i 4) = i := by
  have h0 := pnu_tx h (k := 0) (by omega)
  have h1 := pnu_tx h (k := 1) (by omega)
  have h2 := pnu_tx h (k := 2) (by omega)
  have h3 := pnu_tx h (k := 3) (by omega)
  unfold pId
  rw [h0, h1, h2, h3]
  rfl
/-- What Parse answers. -/
def psO (s : List UInt8) : Prop := chkN (pId s) = 0 ∧ txK (pId s) 4 = s
instance (s : List UInt8) : Decidable (psO s) := by unfold psO; infer_instance
def psI (s : List UInt8) : Id4 := if psO s then pId s else ⟨0, 0, 0, 0⟩
def psZ (s : List UInt8) : Nat := if psO s then 0 else 2
theorem ps_of {i : Id4} (h : Right i) : psI (txK i 4) = i ∧ psZ (txK i 4) = 0 := by
  have : psO (txK i 4) := ⟨by rw [pId_tx h]; exact right_iff.2 h, by rw [pId_tx h]⟩
  unfold psI psZ
  rw [if_pos this, if_pos this]
  exact ⟨pId_tx h, rfl⟩
theorem ps_ok {s : List UInt8} (h : psO s) : Right (psI s) ∧ txK (psI s) 4 = s ∧ psZ s = 0 := by
  unfold psI psZ
  rw [if_pos h, if_pos h]
  exact ⟨right_iff.1 h.1, h.2, rfl⟩
theorem ps_no {s : List UInt8} (h : ∀ i, Right i → txK i 4 ≠ s) : psI s = ⟨0, 0, 0, 0⟩ ∧ psZ s = 2 := by
  have : ¬ psO s := fun e => h _ (right_iff.1 e.1) e.2
  unfold psI psZ
  rw [if_neg this, if_neg this]
  exact ⟨rfl, rfl⟩
/-- numbers, the reference's. -/
def nm : Nat → List UInt8 → List Nat
  | n, [] => [n]
  | n, c :: r => if isD c = true then nm (min (10 * n + dv c) 65536) r else n :: nm 0 r
theorem nm_dec : ∀ (m u : Nat), u ≤ m → u ≤ 65535 → ∀ r, nm 0 (Lib.decDigits u ++ r) = nm u r
  | 0, u, hm, h, r => by
    obtain rfl : u = 0 := by omega
    obtain ⟨h1, h2⟩ := isD_of (d := 0) (by omega)
    rw [Lib.decDigits_one (by omega)]
    show nm 0 (_ :: r) = _
    rw [nm, if_pos h1, h2]
    rfl
  | m + 1, u, hm, h, r => by
    by_cases hu : u < 10
    · obtain ⟨h1, h2⟩ := isD_of hu
      rw [Lib.decDigits_one hu]
      show nm 0 (_ :: r) = _
      rw [nm, if_pos h1, h2]
      congr 1
      omega
    · obtain ⟨h1, h2⟩ := isD_of (d := u % 10) (by omega)
      rw [Lib.decDigits, dif_neg hu, List.append_assoc, nm_dec m (u / 10) (by omega) (by omega)]
      show nm (u / 10) (_ :: r) = _
      rw [nm, if_pos h1, h2]
      congr 1
      omega
theorem nm_stop {u : Nat} {r : List UInt8} {c : UInt8} (h : isD c = false) : nm u (c :: r) = u :: nm 0 r := by
  rw [nm, if_neg (by simp [h])]
theorem nm_tx {i : Id4} (h : Right i) : nm 0 (txK i 4) = [(ix i 0).toNat, (ix i 1).toNat, (ix i 2).toNat, (ix i 3).toNat] := by
  have hb := fun k (hk : k < 4) => (ix_nat h hk).2
  rw [rtx_tx, rtx_step i (by omega), show sg 0 = [] from rfl, List.nil_append]
  unfold dK
  rw [nm_dec _ _ (Nat.le_refl _) (hb 0 (by omega)), rtx_step i (by omega), show sg 1 = [62] from rfl, List.singleton_append, nm_stop (by decide)]
  unfold dK
  rw [nm_dec _ _ (Nat.le_refl _) (hb 1 (by omega)), rtx_step i (by omega), show sg 2 = [58] from rfl, List.singleton_append, nm_stop (by decide)]
  unfold dK
  rw [nm_dec _ _ (Nat.le_refl _) (hb 2 (by omega)), rtx_step i (by omega), show sg 3 = [46] from rfl, List.singleton_append, nm_stop (by decide)]
  unfold dK
  rw [nm_dec _ _ (Nat.le_refl _) (hb 3 (by omega))]
  rfl
/-- strconv.Itoa's table. -/
def Tab (w : World) : Prop := Lib.TabBelow Tryd.prog w.heap.size w "internal/strconv.uint64pow10" .u64 Lib.pow10Tab
theorem Tab.on {w w' : World} (h : Tab w) (hb : Below w.heap.size w w') : Tab w' := fun w'' h' => h w'' (hb.trans (h'.mono hb.size))
theorem it_tab {i : Id4} {w : World} (h : Tab w) (hr : Right i) : ItH i w := fun k hk W hW => by
  obtain ⟨e, hb⟩ := ix_nat hr hk
  refine (Tryd.ItoaM (ix i k) (by omega) (by omega) W (h W hW)).mono fun e' w' ⟨h1, k', os, h2⟩ => ⟨?_, ?_⟩
  · rw [h1]
    unfold dK Lib.itoa
    rw [if_neg (by omega)]
    rfl
  · rw [h2]
    exact Lib.below_grow _ _ (Nat.le_refl _) _ _
end Go.Proofs.YtljndfkmppmbkaaDoor.Mg
