/- The id of bytes: the closure that reads, GetId. -/
import Derived.Test.YtljndfkmppmbkaaDoorMgGath
import Derived.Test.YtljndfkmppmbkaaDoorBtGet
import Derived.Test.YtljndfkmppmbkaaDoorMgPuts0
namespace Go.Proofs.YtljndfkmppmbkaaDoor.Mg
open Go.RowKit
open Go.Proofs.YtljndfkmppmbkaaDoor.Me Go.Proofs.YtljndfkmppmbkaaDoor.Ba Go.Proofs.YtljndfkmppmbkaaDoor.Ma Go.Proofs.YtljndfkmppmbkaaDoor.Bt Go.Proofs.YtljndfkmppmbkaaDoor.Hd
set_option linter.unusedVariables false
set_option linter.unusedSimpArgs false

set_option maxRecDepth 100000 in
set_option maxHeartbeats 4000000 in
theorem getc (fb : ByteArray) (s a : Nat) (A : Option Addr) (cap : Nat) (l : List Nat) (P Q : Nat) (W : World) (hs : sizeB 8 s = true) (ha : a + s ≤ l.length) (hl : l.length ≤ 100) (hlc : l.length ≤ cap) (hcm : cap ≤ 9223372036854775807)
    (hP : Hid (W.heap[P]? = some (.cells #[.slice A l.length cap] 24 (0, 0)))) (hQ : Hid (W.heap[Q]? = some (.cells #[.int .i64 (a : Int)] 3 (0, 0)))) (hr : Hid (Rd W W.heap.size A l)) (hPQ : P ≠ Q) (hs2 : s ≤ 2) :
    Calls Tryd.prog 41 #[.agg #[.string fb, .int .i64 (s : Int)], .pointer (some ⟨P, 0, none⟩), .pointer (some ⟨Q, 0, none⟩)] W fun e w' => e = .returned (.int .i64 (numP l a s : Int)) ∧ Hid (w'.heap[Q]? = some (.cells #[.int .i64 ((a + s : Nat) : Int)] 3 (0, 0))) ∧ Hid (But (fun b => b = Q) W w') := by
  have hPl := (Array.getElem?_eq_some_iff.1 hP.out).1
  have hQl := (Array.getElem?_eq_some_iff.1 hQ.out).1
  obtain ⟨W1, hW1⟩ : ∃ W1, W.alloc (.cells #[.string fb, .int .i64 (s : Int)] 56) = W1 := ⟨_, rfl⟩
  have hb : Below W.heap.size W W1 := by rw [← hW1]; exact Me.below_alloc (Below.refl _ _)
  have hs1 : W1.heap.size = W.heap.size + 1 := by rw [← hW1]; simp
  have hP1 : W1.cell? ⟨P, 0, none⟩ = some (.slice A l.length cap) := cell_of_row W1 P 0 _ _ (0, 0) ((hb.block P hPl).trans hP.out)
  have hQ1h := (hb.block Q hQl).trans hQ.out
  have hQ1 : W1.cell? ⟨Q, 0, none⟩ = some (.int .i64 (a : Int)) := cell_of_row W1 Q 0 _ _ (0, 0) hQ1h
  have hQf : W1.frozen? ⟨Q, 0, none⟩ = false := frozen_of_row W1 Q 0 _ _ hQ1h
  have hF1 : W1.cell? ⟨W.heap.size, 1, none⟩ = some (.int .i64 (s : Int)) := by
    rw [← hW1, cell_of_row _ _ _ _ _ (0, 0) (heap_alloc_new W _)]
    rfl
  have hsb : 1 ≤ s ∧ s ≤ 8 := by have := of_decide_eq_true hs; omega
  have HG : Hid (Calls Tryd.prog 42 #[.slice A l.length cap, .int .i64 (a : Int), .int .i64 (s : Int)] W1 fun e w' => e = .returned (.tuple #[.int .u64 (numP l a s : Int), .int .i64 0]) ∧ W1 = w') := by
    have := Get_any l a s A cap W1.heap.size hlc hcm W1 ((hr.out.below hb).more hb.size) (by omega)
    rw [getE_ok hs (by omega)] at this
    exact this
  have HN : Hid (numP l a s < U) := numP_lt hr.out.1 a hsb.2
  have HQ9 : Hid ((W1.setCell ⟨Q, 0, none⟩ (.int .i64 ((a + s : Nat) : Int))).heap[Q]? = some (.cells #[.int .i64 ((a + s : Nat) : Int)] 3 (0, 0))) := by
    show _ = _
    rw [heap_setCell_same W1 Q 0 _ _ _ hQ1h]
    rfl
  have HB9 : Hid (But (fun b => b = Q) W (W1.setCell ⟨Q, 0, none⟩ (.int .i64 ((a + s : Nat) : Int)))) := But.set (S := fun b => b = Q) (X := W1) (But.of_below hb) (p := ⟨Q, 0, none⟩) (.inl rfl) _
  have hw : wrap64 ((a : Int) + (s : Int)) = ((a + s : Nat) : Int) := (Mi.fits (Mi.small (by omega) (by omega))).trans (by omega)
  have hn : numP l a s < 65536 := by
    refine Nat.lt_of_lt_of_le (num_part_lt hr.out.1 a s) ?_
    obtain rfl | rfl : s = 1 ∨ s = 2 := by omega
    · decide
    · decide
  obtain ⟨N, hN⟩ : ∃ N, numP l a s = N := ⟨_, rfl⟩
  rw [hN] at HG hn ⊢
  have hw2 : wrap64 (N : Int) = N := Mi.fits (Mi.small (by omega) (by omega))
  obtain ⟨z, hz⟩ : ∃ z : Nat, a + s = z := ⟨_, rfl⟩
  rw [hz] at hw HQ9 HB9 ⊢
  clear hP hQ hr hb hs1 hQ1h hPl hQl HN hN hz ha hl hlc hcm hs hs2 hsb hPQ
  go_enter Tryd.func41, Tryd.ntmps41
  go_wp2_with (first
    | (rw [hW1])
    | (go_at_call 42; refine HG.out.mono ?_; rintro e w' ⟨rfl, rfl⟩))
  go_ret
  exact ⟨rfl, HQ9.out, HB9.out⟩
/-- The id that bytes tell, and what is answered beside it. -/
def idOf (l : List Nat) : Id4 := ⟨numP l 0 1, numP l 1 1, numP l 2 2, numP l 4 2⟩
def getI (l : List Nat) : Id4 := if l.length = 6 ∧ chkN (idOf l) = 0 then idOf l else ⟨0, 0, 0, 0⟩
def getZ (l : List Nat) : Nat := if l.length = 6 ∧ chkN (idOf l) = 0 then 0 else 2
end Go.Proofs.YtljndfkmppmbkaaDoor.Mg
