/- Bytes of one's own appended in a drawn region; a message's box beside them. -/
import Derived.Test.YtpofdimagfldnaaZ10
import Derived.Test.YtpofdimagfldnaaZ9
import Derived.Test.YtpofdimagfldnaaZ11
import Derived.Test.YtpofdimagfldnaaSoEvGetB
import Derived.Test.YtpofdimagfldnaaZ12
namespace Go.Proofs.Ytpofdimagfldnaa.Mg
open Go.RowKit
open Go.Proofs.Ytpofdimagfldnaa.Me Go.Proofs.Ytpofdimagfldnaa.Ba Go.Proofs.Ytpofdimagfldnaa.Ma Go.Proofs.Ytpofdimagfldnaa.Hd
set_option linter.unusedVariables false
set_option linter.unusedSimpArgs false

/-- Bytes appended to bytes of the call's own, as one operation; nothing but new memory is made. -/
theorem app8b {w0 w : World} {o : Oper} {a : Act} {K : Act → World → Prop} {Q : Exit → Act → World → Prop} (s x : Operand)
    (ho : o.op = .call { callee := .builtin .append, args := #[s, x], argTypes := #[44, 44] })
    (B Bx : Nat) (v : Value) (l r : List Nat) (hs : a.eval s = v) (hown : Me.Own w B v l) (hb : Below B w0 w) (hB : B ≤ w.heap.size)
    (A : Option Addr) (c : Nat) (hx : a.eval x = .slice A r.length c) (hr : Rd w Bx A r) (hA : A = none → r.length = 0 ∧ c = 0) (hlen : l.length + r.length ≤ 140737488355328)
    (h : ∀ v' w', Me.Own w' B v' (l ++ r) → Below B w0 w' → w.grownBy w' v.ownBlock → K (a.put o.dst v') w') : o.wp Try.prog a w K Q := by
  obtain ⟨i0, hi, hz0, hz1, hz2⟩ := info_parts info8
  rcases A with _ | ad
  · obtain ⟨h1, rfl⟩ := hA rfl
    obtain rfl : r = [] := List.eq_nil_of_length_eq_zero h1
    have hrun := run_append_owned_none (P := Try.prog) (w := w) B 44 o.type 5 i0 1 Try.underlying44 hi v l.length (l.map byV) hown
    have hh := h v w (by rw [List.append_nil]; exact hown) hb ⟨rfl, rfl, rfl, Nat.le_refl _, fun _ _ _ => rfl⟩
    unfold Oper.wp
    simp [execOp, ho, resolve, invoke, builtin, hs, hx, hrun, Result.andThen]
    exact hh
  · refine wp_append_own w s x 44 ho B 5 i0 (.int .u8 0) 1 1 Try.underlying44 hi hz0 hz1 hz2 rfl (by decide) v l.length (l.map byV) hs hown ad r.length c (r.map byV) hx (len_map r) (rd_cells hr (Below.refl _ _)) (one_cells _) (by unfold maxLen; omega) (by omega) hB ?_
    intro v' w' h1 h2 _
    refine h v' w' ?_ (hb.grown h2 hB fun k hk => (hown.lt k hk).1) h2
    unfold Me.Own
    rw [List.length_append, List.map_append]; exact h1
/-- Bytes of one's own lie in no box of a message. -/
theorem own_ne {V : World} {B D : Nat} {v : Value} {l : List Nat} {old : Array Value} {f : Nat × Nat} (h : Own V B v l) (hD : V.heap[D]? = some (.cells old 46 f)) : v.ownBlock ≠ some D := by
  rcases h.2 with ⟨h1, _⟩ | ⟨g, cap, cur, h1, h2, h3, _⟩
  · rw [h1]; intro e; cases e
  · rw [h1]
    intro e
    have e : g = D := by simpa [Value.ownBlock] using e
    subst e
    rw [h3] at hD
    injection hD with hD
    injection hD with _ hT _
    exact absurd hT (by decide)
theorem box_put {V W0 V2 : World} {B D : Nat} {v : Value} {l : List Nat} {old cs : Array Value} (h : Own V B v l) (hD : V.heap[D]? = some (.cells old 46 (0, 0))) (hb : Below W0.heap.size W0 V) (hd : W0.heap.size ≤ D) (hV2 : V.setRow D cs = V2) :
    V2.heap[D]? = some (.cells cs 46 (0, 0)) ∧ Own V2 B v l ∧ Below W0.heap.size W0 V2 := by
  subst hV2
  have hne := own_ne h hD
  refine ⟨setRow_heap _ _ _ _ _ _ hD, own_same h fun k hk _ => setRow_other _ _ k _ (fun e => hne (by rw [hk, e])), hb.os, hb.tape, hb.output, by simpa using hb.size, fun b hb2 => (setRow_other _ _ b _ (by omega)).trans (hb.block b hb2)⟩
theorem bx_row {W : World} {D : Nat} {o d e c : Int} {A : Option Addr} {n k : Nat} (h : W.heap[D]? = some (.cells #[.int .i64 o, .int .i64 d, .int .i64 e, .int .i64 c, .slice A n k] 46 (0, 0))) : W.cell? ⟨D, 0, none⟩ = some (.int .i64 o) ∧ W.cell? ⟨D, 1, none⟩ = some (.int .i64 d) ∧ W.cell? ⟨D, 2, none⟩ = some (.int .i64 e) ∧ W.cell? ⟨D, 3, none⟩ = some (.int .i64 c) ∧ W.cell? ⟨D, 4, none⟩ = some (.slice A n k) := by
  refine ⟨?_, ?_, ?_, ?_, ?_⟩
  all_goals
    rw [cell_of_row _ D _ _ _ (0, 0) h]
    rfl
/-- The law's own copy: n bytes, whatever they are. -/
def Giv (w : World) (v : Value) (n : Nat) : Prop := ∃ ys : List Nat, ys.length = n ∧ (∀ y ∈ ys, y < 256) ∧ Me.Own w 0 v ys
theorem Giv.cell {w : World} {A : Option Addr} {n c k : Nat} (h : Giv w (.slice A n c) n) (hk : k < n) : ∃ g y : Nat, A = some ⟨g, 0, none⟩ ∧ y ≤ 255 ∧ w.cell? ⟨g, k, none⟩ = some (.int .u8 (y : Int)) ∧ w.frozen? ⟨g, k, none⟩ = false ∧ (Value.slice A n c).ownBlock = some g := by
  obtain ⟨ys, h1, h2, h3⟩ := h
  obtain ⟨g, c', e, _, _⟩ := h3.form (by omega)
  simp only [Value.slice.injEq] at e
  obtain ⟨rfl, _, rfl⟩ := e
  obtain ⟨a, b⟩ := h3.cell (i := k) (by omega)
  have := h2 (by_ ys k) (by rw [by_get (by omega)]; exact List.getElem_mem _)
  exact ⟨g, by_ ys k, rfl, by omega, a, b, rfl⟩
theorem Giv.put {w : World} {g n c k y : Nat} (h : Giv w (.slice (some ⟨g, 0, none⟩) n c) n) (hy : y < 256) : Giv (w.setCell ⟨g, k, none⟩ (.int .u8 (y : Int))) (.slice (some ⟨g, 0, none⟩) n c) n := by
  obtain ⟨ys, h1, h2, h3⟩ := h
  refine ⟨ys.set k y, by simpa using h1, ?_, h3.store k y⟩
  intro z hz
  rcases List.mem_or_eq_of_mem_set hz with h | h
  · exact h2 z h
  · omega
theorem turn8 {y : Nat} (h : y ≤ 255) : IntKind.u8.wrap (255 - (y : Int)) = ((255 - y : Nat) : Int) := by
  have e : (255 : Int) - (y : Int) = ((255 - y : Nat) : Int) := by omega
  rw [e]; exact wrap8 (by unfold U8; omega)
theorem conv_own {W W2 : World} {B c : Nat} {A : Option Addr} {L : List Nat} (h : Own W B (.slice A L.length c) L) (hl : ∀ z ∈ L, z < 256) (hb : Below W.heap.size W W2) : (convert 44 9 (.slice A L.length c)).run Try.prog W2 = .ok (.string (strOf L)) W2 := by
  obtain ⟨r1, r2, _, _⟩ := own_rd (own_same h fun k _ hk => hb.block k hk) hl
  exact conv_rd W2 _ A L c r1 r2
theorem msg_one (o d e c : Int) (A : Option Addr) (n k : Nat) : (#[.int .i64 o, .int .i64 d, .int .i64 e, .int .i64 c, .slice A n k] : Array Value).all (·.oneCell') = true := by simp [Value.oneCell']
theorem grown_msg {W V : World} {D : Nat} {v : Value} {x : Obj} (hD : W.heap[D]? = some x) (hg : W.grownBy V v.ownBlock) (hne : v.ownBlock ≠ some D) : V.heap[D]? = some x := by
  obtain ⟨_, _, _, _, h⟩ := hg
  exact (h D (Array.getElem?_eq_some_iff.1 hD).1 (fun e => hne e.symm)).trans hD
end Go.Proofs.Ytpofdimagfldnaa.Mg
/- The message of bytes: the reference's Get. -/
namespace Go.Proofs.Ytpofdimagfldnaa.Mg
open Go.RowKit
open Go.Proofs.Ytpofdimagfldnaa.Me Go.Proofs.Ytpofdimagfldnaa.Ba Go.Proofs.Ytpofdimagfldnaa.Ma Go.Proofs.Ytpofdimagfldnaa.Bt Go.Proofs.Ytpofdimagfldnaa.Hd
set_option linter.unusedVariables false
set_option linter.unusedSimpArgs false

theorem own_lit {W : World} {B : Nat} (h : B ≤ W.heap.size) : Own (W.alloc (.cells #[] 5)).drew B (.slice (some ⟨W.heap.size, 0, none⟩) 0 0) [] := by
  refine own_base (B := W.heap.size) (Own.lit (Below.refl W.heap.size W)) ?_
  intro k e
  obtain rfl : W.heap.size = k := by simpa [Value.ownBlock] using e
  exact h
set_option maxRecDepth 100000 in
set_option maxHeartbeats 8000000 in
theorem RGet_msg (A : Option Addr) (n cap : Nat) (l : List Nat) (w : World) (hi : Hid (BySlice w A n cap l)) :
    Calls Try.prog 55 #[.slice A n cap] w (GetM l w) := by
  obtain rfl : n = l.length := hi.out.1
  obtain ⟨W1, hW1⟩ : ∃ W, w.alloc (.cells #[.int .i64 0, .int .i64 0, .int .i64 0, .int .i64 0, .slice none 0 0] 46) = W := ⟨_, rfl⟩
  have b1 : Below w.heap.size w W1 := by rw [← hW1]; exact Me.below_alloc (Below.refl _ _)
  have z1 : W1.heap.size = w.heap.size + 1 := by rw [← hW1]; simp
  have r1 : W1.heap[w.heap.size]? = some (.cells #[.int .i64 0, .int .i64 0, .int .i64 0, .int .i64 0, .slice none 0 0] 46 (0, 0)) := by
    rw [← hW1]
    exact heap_alloc_new w _
  have hi1 : BySlice W1 A l.length cap l := by_below hi.out b1
  have HW := Lib.hid hW1; have B1 := Lib.hid b1; have Z1 := Lib.hid z1; have R1 := Lib.hid r1
  have hlc := hi.out.2.1
  have hcm := hi.out.2.2.1
  have HBE : Hid (∀ w2 w3 x, Below W1.heap.size W1 w2 → Below (w2.alloc x).heap.size (w2.alloc x) w3 → w3.heap[w.heap.size]? = some (.cells #[.int .i64 0, .int .i64 0, .int .i64 0, .int .i64 0, .slice none 0 0] 46 (0, 0)) ∧ ∀ cs, Below w.heap.size w (w3.setRow w.heap.size cs)) := fun w2 w3 x h2 h3 => by
    have e2 := Me.below_alloc (o := x) h2
    have e3 := e2.trans (h3.mono e2.size)
    exact ⟨(e3.block _ (by omega)).trans r1, fun cs => below_setRow cs (b1.trans (e3.mono b1.size)) (Nat.le_refl _)⟩
  have HBS : Hid (∀ cs, Below w.heap.size w (W1.setRow w.heap.size cs)) := fun cs => below_setRow cs b1 (Nat.le_refl _)
  clear hW1 z1 r1
  by_cases h7 : 7 ≤ l.length
  · by_cases h54 : l.length ≤ 54
    · obtain ⟨b, off, rfl, hbl, hc⟩ := hi.out.2.2.2.1.2 (by omega)
      have h6 : 6 ≤ l.length := by omega
      have hG := RGetId_any (some ⟨b, off, none⟩) 6 cap (l.take 6) W1 (by_take hi1 h6)
      have hl6 : (l.take 6).length = 6 := by simp; omega
      by_cases hk : chkN (idOf (l.take 6)) = 0
      · have hI : getI (l.take 6) = idOf (l.take 6) := by unfold getI; rw [if_pos ⟨hl6, hk⟩]
        have hZ : getZ (l.take 6) = 0 := by unfold getZ; rw [if_pos ⟨hl6, hk⟩]
        rw [hI, hZ] at hG
        have hmg : mgO l := ⟨h7, h54, hk⟩
        obtain ⟨j, hj⟩ : ∃ j, idOf (l.take 6) = j := ⟨_, rfl⟩
        rw [hj] at hG hk
        obtain ⟨m, hm⟩ : ∃ m, l.drop 6 = m := ⟨_, rfl⟩
        have hr : l.length = 6 + m.length := by rw [← hm]; simp; omega
        obtain ⟨R, hR⟩ : ∃ R, cap = 6 + R := ⟨cap - 6, by omega⟩
        obtain ⟨A', hA'⟩ : ∃ A', (if R = 0 then (some ⟨b, off, none⟩ : Option Addr) else some ⟨b, off + 6, none⟩) = A' := ⟨_, rfl⟩
        have HRD : Hid (∀ W, Below w.heap.size w W → Rd W w.heap.size A' m) := fun W hW => by
          have := (hi.out.2.2.2.1.below hW).drop 6
          rw [← hA', ← hm]
          split
          · exact ⟨fun z hz => this.1 z hz, fun h => by simp at h; omega⟩
          · exact this
        have HAN : Hid (A' = none → m.length = 0 ∧ R = 0) := fun e => by rw [← hA'] at e; split at e <;> cases e
        have HA' := Lib.hid hA'
        have HOK : Hid (∀ g c w', Own w' w.heap.size (.slice (some ⟨g, 0, none⟩) m.length c) m → Below w.heap.size w w' → GetM l w (.returned (.tuple #[.agg (msgC j (some ⟨g, 0, none⟩) m.length c), .int .i64 ((0 : Nat) : Int)])) w') := fun g c w' h1 h2 => GetM.ok (A := some ⟨g, 0, none⟩) (c := c) hmg hj (by rw [hm]) rfl (by rw [hm]; exact h1) h2
        clear hA'
        obtain ⟨o, dd, ee, cc⟩ := j
        simp only [idC, msgC, show ((0 : Nat) : Int) = 0 from rfl] at hG HOK
        have HG := Lib.hid hG
        obtain ⟨L, hL⟩ : ∃ L, l.length = L := ⟨_, rfl⟩
        rw [hL] at h6 h7 h54 hr hlc hi hi1 ⊢
        subst hr hR
        have HLp : Hid (0 < m.length) := by show _ < _; omega
        have HLb : Hid (([] : List Nat).length + m.length ≤ 140737488355328) := by show 0 + _ ≤ _; omega
        have m1 : ¬ (6 + (m.length : Int) < 7) := by omega
        have m2 : ¬ (54 < 6 + (m.length : Int)) := by omega
        have m3 : 6 ≤ 6 + R := by omega
        have m4 : 6 ≤ 6 + (R : Int) := by omega
        have m5 : 6 ≤ 6 + m.length := by omega
        have m7 : 6 ≤ 6 + (m.length : Int) := by omega
        clear hi hi1 hc hG hl6 hk hI hZ b1 hmg h7 h54 hm hj hL h6
        go_enter Try.func55, Try.ntmps55
        go_wp2_with (first
          | (go_at_call 56; rw [HW.out]; with_reducible refine HG.out.mono ?_; rintro e w2 ⟨rfl, hb2⟩))
        obtain ⟨W4, hW4⟩ : ∃ W4, w2.alloc (.cells #[.int .i64 o, .int .i64 dd, .int .i64 ee, .int .i64 cc] 28) = W4 := ⟨_, rfl⟩
        have g4 : Below W1.heap.size W1 W4 := by rw [← hW4]; exact Me.below_alloc hb2.out
        have r4 : W4.heap[w2.heap.size]? = some (.cells #[.int .i64 o, .int .i64 dd, .int .i64 ee, .int .i64 cc] 28 (0, 0)) := by
          rw [← hW4]
          exact heap_alloc_new w2 _
        rw [hW4]
        obtain ⟨E, hE⟩ : ∃ E, w2.heap.size = E := ⟨_, rfl⟩
        have hEw : w.heap.size ≠ E := by have := hb2.out.size; have := Z1.out; omega
        rw [hE] at r4 ⊢
        have q4 : W4.heap[w.heap.size]? = some (.cells #[.int .i64 0, .int .i64 0, .int .i64 0, .int .i64 0, .slice none 0 0] 46 (0, 0)) := (g4.block _ (by have := Z1.out; omega)).trans R1.out
        have g5 : Below w.heap.size w W4 := B1.out.trans (g4.mono B1.out.size)
        have HC : Hid (∀ W : World, W.heap[E]? = some (.cells #[.int .i64 o, .int .i64 dd, .int .i64 ee, .int .i64 cc] 28 (0, 0)) → W.cell? ⟨E, 0, none⟩ = some (.int .i64 o) ∧ W.cell? ⟨E, 1, none⟩ = some (.int .i64 dd) ∧ W.cell? ⟨E, 2, none⟩ = some (.int .i64 ee) ∧ W.cell? ⟨E, 3, none⟩ = some (.int .i64 cc)) := fun W h =>
          ⟨cell_of_row W _ 0 _ _ (0, 0) h, cell_of_row W _ 1 _ _ (0, 0) h, cell_of_row W _ 2 _ _ (0, 0) h, cell_of_row W _ 3 _ _ (0, 0) h⟩
        have S0 : Below w.heap.size w W4.drew ∧ W4.drew.heap[E]? = some (.cells #[.int .i64 o, .int .i64 dd, .int .i64 ee, .int .i64 cc] 28 (0, 0)) := ⟨g5.drew, r4⟩
        clear hW4 g4 hb2 HG HBE hE
        refine wp_region_held_drew (S := fun W : World => Below w.heap.size w W ∧ W.heap[E]? = some (.cells #[.int .i64 o, .int .i64 dd, .int .i64 ee, .int .i64 cc] 28 (0, 0))) (by kernel_rfl) S0 (fun hHeld => ?_)
        refine wpAnyH_take (i := 0) (v := .agg #[.int .i64 o, .int .i64 dd, .int .i64 ee, .int .i64 cc]) rfl (by kernel_rfl) (by kernel_rfl) (by kernel_rfl) (fun _ _ _ h => h) (Or.inl ⟨by rfl, ?_⟩) (by first | assumption | exact trivial) ?_
        · intro W hSW; obtain ⟨y0, y1, y2, y3⟩ := HC.out W hSW.2; go_simp; try (with_reducible rfl)
        simp only [Act.put, List.getElem_toArray, List.getElem_cons_succ, List.getElem_cons_zero, List.setIfInBounds_toArray, List.set_cons_zero, List.set_cons_succ]
        refine wpAnyH_take (i := 2) (v := .slice (some ⟨b, off, none⟩) (6 + m.length) (6 + R)) rfl (by kernel_rfl) (by kernel_rfl) (by kernel_rfl) (fun _ _ _ h => h) (Or.inl ⟨by rfl, ?_⟩) (by first | assumption | exact trivial) ?_
        · intro W hSW; go_simp; try (with_reducible rfl)
        simp only [Act.put, List.getElem_toArray, List.getElem_cons_succ, List.getElem_cons_zero, List.setIfInBounds_toArray, List.set_cons_zero, List.set_cons_succ]
        refine wpAnyH_take (i := 3) (v := .slice A' m.length R) rfl (by kernel_rfl) (by kernel_rfl) (by kernel_rfl) (fun _ _ _ h => h) (Or.inl ⟨by rfl, ?_⟩) (by first | assumption | exact trivial) ?_
        · intro W hSW; rw [← HA'.out]; go_simp; try (with_reducible rfl)
        simp only [Act.put, List.getElem_toArray, List.getElem_cons_succ, List.getElem_cons_zero, List.setIfInBounds_toArray, List.set_cons_zero, List.set_cons_succ]
        refine wpAnyH_ready (rs := [1]) (by kernel_rfl) (by simp) ?_
        refine AllReadyH.cons rfl (fun K hK => ?_) AllReadyH.nil
        go_simp
        obtain ⟨V1, hV1⟩ : ∃ V, (W4.alloc (.cells #[] 5)).drew = V := ⟨_, rfl⟩
        have ho1 : Own V1 w.heap.size (.slice (some ⟨W4.heap.size, 0, none⟩) 0 0) [] := by rw [← hV1]; exact own_lit g5.size
        have hb1 : Below w.heap.size w V1 := by rw [← hV1]; exact (Me.below_alloc g5).drew
        have he1 : V1.heap[E]? = some (.cells #[.int .i64 o, .int .i64 dd, .int .i64 ee, .int .i64 cc] 28 (0, 0)) := by rw [← hV1]; exact (Below.heap_alloc _ _ _ (Array.getElem?_eq_some_iff.1 r4).1).trans r4
        have hq1 : V1.heap[w.heap.size]? = some (.cells #[.int .i64 0, .int .i64 0, .int .i64 0, .int .i64 0, .slice none 0 0] 46 (0, 0)) := by rw [← hV1]; exact (Below.heap_alloc _ _ _ (Array.getElem?_eq_some_iff.1 q4).1).trans q4
        rw [hV1]
        clear hV1 q4 r4 g5
        obtain ⟨g0, hg0⟩ : ∃ g, W4.heap.size = g := ⟨_, rfl⟩
        rw [hg0] at ho1 ⊢
        clear hg0
        refine hK.out _ _ (⟨hb1, he1⟩) (fun hHeld => ?_)
        clear hK K
        refine wpAnyH_ready (rs := [4]) (by kernel_rfl) (by simp) ?_
        refine AllReadyH.cons rfl (fun K hK => ?_) AllReadyH.nil
        rw [if_pos (by kernel_rfl)]
        refine app8b (.tmp 25) (.tmp 27) rfl w.heap.size w.heap.size _ [] m rfl ho1 hb1 hb1.size A' R rfl (HRD.out _ hb1) HAN.out HLb.out ?_
        intro v5 w5 ho5 hb5 hg5
        have hne1 := own_ty ho1 he1 (by decide)
        have hne2 := own_ty ho1 hq1 (by decide)
        have he5 := grown_msg he1 hg5 hne1
        have hq5 := grown_msg hq1 hg5 hne2
        obtain ⟨g, c, rfl, _, _⟩ := ho5.form (by rw [List.nil_append]; exact HLp.out)
        simp only [List.nil_append] at ho5 ⊢
        simp only [Act.put, List.getElem_toArray, List.getElem_cons_succ, List.getElem_cons_zero, List.setIfInBounds_toArray, List.set_cons_zero, List.set_cons_succ]
        refine hK.out _ _ (⟨hb5, he5⟩) (fun hHeld => ?_)
        clear hK K
        refine wpAnyH_take (i := 5) (v := .agg #[.int .i64 o, .int .i64 dd, .int .i64 ee, .int .i64 cc, .slice (some ⟨g, 0, none⟩) m.length c]) rfl (by kernel_rfl) (by kernel_rfl) (by kernel_rfl) (fun _ _ _ h => h) (Or.inl ⟨by rfl, ?_⟩) (by first | assumption | exact trivial) ?_
        · intro W hSW; go_simp; try (with_reducible rfl)
        simp only [Act.put, List.getElem_toArray, List.getElem_cons_succ, List.getElem_cons_zero, List.setIfInBounds_toArray, List.set_cons_zero, List.set_cons_succ]
        refine wpAnyH_ready (rs := [6]) (by kernel_rfl) (by simp) ?_
        refine AllReadyH.cons rfl (fun K hK => ?_) AllReadyH.nil
        rw [if_pos (by kernel_rfl)]
        refine wp_store_row 46 (.tmp 2) (.tmp 29) rfl w.heap.size #[.int .i64 o, .int .i64 dd, .int .i64 ee, .int .i64 cc, .slice (some ⟨g, 0, none⟩) m.length c] rfl (by rfl) 46 _ hq5 (by kernel_rfl) rfl (msg_one5 _ _ _ _ _ _ _) ?_
        simp only [Act.put, List.getElem_toArray, List.getElem_cons_succ, List.getElem_cons_zero, List.setIfInBounds_toArray, List.set_cons_zero, List.set_cons_succ]
        have hb9 := below_setRow #[.int .i64 o, .int .i64 dd, .int .i64 ee, .int .i64 cc, .slice (some ⟨g, 0, none⟩) m.length c] hb5 (Nat.le_refl _)
        have he9 := (setRow_other w5 w.heap.size E #[.int .i64 o, .int .i64 dd, .int .i64 ee, .int .i64 cc, .slice (some ⟨g, 0, none⟩) m.length c] (fun e => hEw e.symm)).trans he5
        have hq9 := setRow_heap w5 w.heap.size _ #[.int .i64 o, .int .i64 dd, .int .i64 ee, .int .i64 cc, .slice (some ⟨g, 0, none⟩) m.length c] _ _ hq5
        have ho9 := own_setRow #[.int .i64 o, .int .i64 dd, .int .i64 ee, .int .i64 cc, .slice (some ⟨g, 0, none⟩) m.length c] ho5 (own_ty ho5 hq5 (by decide))
        refine hK.out _ _ (⟨hb9, he9⟩) (fun hHeld => ?_)
        clear hK K
        refine wpAnyH_take (i := 7) (v := .int .i64 0) rfl (by kernel_rfl) (by kernel_rfl) (by kernel_rfl) (fun _ _ _ h => h) (Or.inl ⟨by rfl, ?_⟩) (by first | assumption | exact trivial) ?_
        · intro W hSW; go_simp; try (with_reducible rfl)
        simp only [Act.put, List.getElem_toArray, List.getElem_cons_succ, List.getElem_cons_zero, List.setIfInBounds_toArray, List.set_cons_zero, List.set_cons_succ]
        refine wpAnyH_done (by kernel_rfl) ?_ _
        go_wp2
        exact ret_box2 (g := w.heap.size) rfl (by rfl) hq9 rfl Try.underlying46 (by kernel_rfl) rfl (HOK.out g c _ ho9 hb9)
      · have hI : getI (l.take 6) = ⟨0, 0, 0, 0⟩ := by unfold getI; rw [if_neg (by simp [hk])]
        have hZ : getZ (l.take 6) = 2 := by unfold getZ; rw [if_neg (by simp [hk])]
        rw [hI, hZ] at hG
        have HN : Hid (¬ mgO l) := fun h => hk h.2.2
        simp only [idC, show ((2 : Nat) : Int) = 2 from rfl] at hG
        have HG := Lib.hid hG
        have m1 : ¬ ((l.length : Int) < 7) := by omega
        have m2 : ¬ (54 < (l.length : Int)) := by omega
        have m3 : 6 ≤ cap := by omega
        have m4 : (6 : Int) ≤ (cap : Int) := by omega
        have m5 : (6 : Int) ≤ (l.length : Int) := by omega
        clear hi hi1 hc hG hl6 hk hI hZ b1 h7 h54
        go_enter Try.func55, Try.ntmps55
        go_wp2_with (first
          | (go_at_call 56; rw [HW.out]; with_reducible refine HG.out.mono ?_; rintro e w2 ⟨rfl, hb2⟩)
          | (obtain ⟨q1, q2⟩ := HBE.out _ _ (.cells #[.int .i64 0, .int .i64 0, .int .i64 0, .int .i64 0] 28) hb2.out (Below.refl _ _); refine wpList_store_row rfl 46 (.tmp 2) (.tmp 23) rfl w.heap.size msg0 rfl rfl 46 _ q1 (by kernel_rfl) rfl (msg_one5 _ _ _ _ _ _ _) ?_))
        exact ret_box2 (g := w.heap.size) rfl (by rfl) (setRow_heap _ _ _ _ _ _ q1) rfl Try.underlying46 (by kernel_rfl) rfl (GetM.no HN.out rfl (q2 _))
    · have HN : Hid (¬ mgO l) := fun h => h54 h.2.1
      have m1 : ¬ ((l.length : Int) < 7) := by omega
      have m2 : 54 < (l.length : Int) := by omega
      clear hi hi1 b1 h7 h54
      go_enter Try.func55, Try.ntmps55
      go_wp2_with (rw [HW.out]; refine wpList_store_row rfl 46 (.tmp 2) (.tmp 14) rfl w.heap.size msg0 rfl rfl 46 _ R1.out (by kernel_rfl) rfl (msg_one5 _ _ _ _ _ _ _) ?_)
      exact ret_box2 (g := w.heap.size) rfl (by rfl) (setRow_heap _ _ _ _ _ _ R1.out) rfl Try.underlying46 (by kernel_rfl) rfl (GetM.no HN.out rfl (HBS.out _))
  · have HN : Hid (¬ mgO l) := fun h => h7 h.1
    have m1 : (l.length : Int) < 7 := by omega
    clear hi hi1 b1 h7
    go_enter Try.func55, Try.ntmps55
    go_wp2_with (rw [HW.out]; refine wpList_store_row rfl 46 (.tmp 2) (.tmp 14) rfl w.heap.size msg0 rfl rfl 46 _ R1.out (by kernel_rfl) rfl (msg_one5 _ _ _ _ _ _ _) ?_)
    exact ret_box2 (g := w.heap.size) rfl (by rfl) (setRow_heap _ _ _ _ _ _ R1.out) rfl Try.underlying46 (by kernel_rfl) rfl (GetM.no HN.out rfl (HBS.out _))
end Go.Proofs.Ytpofdimagfldnaa.Mg
/- The event of bytes: the document's GetEv. -/
namespace Go.Proofs.Ytpofdimagfldnaa.So
open Go.RowKit
open Go.Proofs.Ytpofdimagfldnaa.Me Go.Proofs.Ytpofdimagfldnaa.Sb
open Go.Proofs.Ytpofdimagfldnaa.Mg (by_below own_setRow own_ty msg_one5 getI getZ mI mD mZ mgO OwP conv_own)
set_option linter.unusedVariables false
set_option linter.unusedSimpArgs false

theorem own_by {w : World} {B n c : Nat} {A : Option Addr} {l : List Nat} (h : Me.Own w B (.slice A n c) l) (hl : ∀ z ∈ l, z < 256) : BySlice w A n c l := by
  obtain ⟨A', c', e, h1, h2, h3⟩ := h.held hl
  simp only [Value.slice.injEq] at e
  obtain ⟨rfl, rfl, rfl⟩ := e
  exact ⟨rfl, h1, h2, h3.rd, h3.2.2⟩
theorem mD_lt {r : List Nat} (h : ∀ z ∈ r, z < 256) : ∀ z ∈ mD r, z < 256 := by
  unfold mD
  split
  · exact fun z hz => h z (List.mem_of_mem_drop hz)
  · intro z hz; cases hz
theorem geI_ref {k : Int} {r : List Nat} (ho : geO k r = true) (h2 : ¬ k = 2) : geI k r = getI r ∧ geD k r = [] := by
  have eD : geD k r = [] := by unfold geD; rw [if_neg (fun e => h2 e.2)]
  refine ⟨?_, eD⟩
  unfold geI
  rw [if_pos ho, if_neg h2]
  by_cases h1 : k = 1
  · rw [if_pos h1]
    unfold geO at ho
    rw [if_pos h1] at ho
    have : r = [] := by simpa using ho
    subst this
    decide
  · rw [if_neg h1]
theorem set_mid5 {w : World} {g T : Nat} {k a0 a1 a2 a3 a4 : Value} (x0 x1 x2 x3 x4 : Value) (h : w.heap[g]? = some (.cells #[k, a0, a1, a2, a3, a4] T (0, 0))) : (w.setCells g 1 [x0, x1, x2, x3, x4]).heap[g]? = some (.cells #[k, x0, x1, x2, x3, x4] T (0, 0)) ∧ But (fun q => q = g) w (w.setCells g 1 [x0, x1, x2, x3, x4]) := by
  refine ⟨?_, (but_setCells w g 1 _).1⟩
  obtain ⟨cur', q1, q2, q3, q4⟩ := heap_setCells g T [x0, x1, x2, x3, x4] 1 w _ h
  have e : cur' = #[k, x0, x1, x2, x3, x4] := by
    apply Array.ext_getElem?
    intro j
    have hj : j = 0 ∨ j = 1 ∨ j = 2 ∨ j = 3 ∨ j = 4 ∨ j = 5 ∨ 6 ≤ j := by omega
    rcases hj with rfl | rfl | rfl | rfl | rfl | rfl | hj
    · rw [q3 0 (by simp)]; rfl
    · rw [show (1 : Nat) = 1 + 0 from rfl, q4 0 (by simp) (by simp)]; rfl
    · rw [show (2 : Nat) = 1 + 1 from rfl, q4 1 (by simp) (by simp)]; rfl
    · rw [show (3 : Nat) = 1 + 2 from rfl, q4 2 (by simp) (by simp)]; rfl
    · rw [show (4 : Nat) = 1 + 3 from rfl, q4 3 (by simp) (by simp)]; rfl
    · rw [show (5 : Nat) = 1 + 4 from rfl, q4 4 (by simp) (by simp)]; rfl
    · rw [Array.getElem?_eq_none (by rw [q2]; simp; omega), Array.getElem?_eq_none (by simp; omega)]
  rw [e] at q1
  exact q1
theorem set_mid4 {w : World} {g T : Nat} {k a0 a1 a2 a3 a4 : Value} (x0 x1 x2 x3 : Value) (h : w.heap[g]? = some (.cells #[k, a0, a1, a2, a3, a4] T (0, 0))) : (w.setCells g 1 [x0, x1, x2, x3]).heap[g]? = some (.cells #[k, x0, x1, x2, x3, a4] T (0, 0)) ∧ But (fun q => q = g) w (w.setCells g 1 [x0, x1, x2, x3]) := by
  refine ⟨?_, (but_setCells w g 1 _).1⟩
  obtain ⟨cur', q1, q2, q3, q4⟩ := heap_setCells g T [x0, x1, x2, x3] 1 w _ h
  have e : cur' = #[k, x0, x1, x2, x3, a4] := by
    apply Array.ext_getElem?
    intro j
    have hj : j = 0 ∨ j = 1 ∨ j = 2 ∨ j = 3 ∨ j = 4 ∨ j = 5 ∨ 6 ≤ j := by omega
    rcases hj with rfl | rfl | rfl | rfl | rfl | rfl | hj
    · rw [q3 0 (by simp)]; rfl
    · rw [show (1 : Nat) = 1 + 0 from rfl, q4 0 (by simp) (by simp)]; rfl
    · rw [show (2 : Nat) = 1 + 1 from rfl, q4 1 (by simp) (by simp)]; rfl
    · rw [show (3 : Nat) = 1 + 2 from rfl, q4 2 (by simp) (by simp)]; rfl
    · rw [show (4 : Nat) = 1 + 3 from rfl, q4 3 (by simp) (by simp)]; rfl
    · rw [q3 5 (by simp)]; rfl
    · rw [Array.getElem?_eq_none (by rw [q2]; simp; omega), Array.getElem?_eq_none (by simp; omega)]
  rw [e] at q1
  exact q1
theorem there6 {w : World} {g T n : Nat} {k a0 a1 a2 a3 a4 : Value} (h : w.heap[g]? = some (.cells #[k, a0, a1, a2, a3, a4] T (0, 0))) (hn : n ≤ 5) : w.there g 1 n := fun j hj => ⟨by
  have hj' : j = 0 ∨ j = 1 ∨ j = 2 ∨ j = 3 ∨ j = 4 := by omega
  rw [cell_of_row _ g _ _ _ (0, 0) h]
  rcases hj' with rfl | rfl | rfl | rfl | rfl <;> rfl, frozen_of_row w g _ _ _ h⟩
theorem str_list (l : List Nat) : (strOf l).toList = l.map fun b => UInt8.ofNat b := by
  simp [strOf]
theorem str_beq {l r : List Nat} (hl : ∀ z ∈ l, z < 256) (hr : ∀ z ∈ r, z < 256) : ((strOf l).toList == (strOf r).toList) = decide (l = r) := by
  rw [Bool.eq_iff_iff]
  simp only [beq_iff_eq, decide_eq_true_eq]
  constructor
  · intro h
    refine strOf_inj hl hr ?_
    rw [str_list, str_list] at h
    unfold strOf; rw [h]
  · rintro rfl; rfl
theorem str_ne {a b : List Nat} (ha : ∀ z ∈ a, z < 256) (hb : ∀ z ∈ b, z < 256) (h : ¬ a = b) : ((strOf a).toList == (strOf b).toList) = false := by rw [str_beq ha hb]; exact decide_eq_false h
set_option maxRecDepth 100000 in
set_option maxHeartbeats 16000000 in
theorem rge_two (w V : World) (b off m R nD zz : Nat) (o d ee cc : Int) (A' : Option Addr) (r D : List Nat)
    (HX : Hid (V.heap[w.heap.size]? = some (.cells #[.int .i64 0, .int .i64 0, .int .i64 0, .int .i64 0, .int .i64 0, .slice none 0 0] 60 (0, 0)))) (HBL : Hid (b < w.heap.size)) (HB : Hid (Below w.heap.size w V)) (HV : Hid (w.alloc (.cells #[.int .i64 0, .int .i64 0, .int .i64 0, .int .i64 0, .int .i64 0, .slice none 0 0] 60) = V)) (HXl : Hid (w.heap.size < V.heap.size))
    (HC0 : Hid (∀ W, Below w.heap.size w W → W.cell? ⟨b, off, none⟩ = some (.int .u8 2))) (HA' : Hid ((if R = 0 then (some ⟨b, off, none⟩ : Option Addr) else some ⟨b, off + 1, none⟩) = A'))
    (HG : Hid (∀ W, Below w.heap.size w W → Calls Try.prog 55 #[.slice A' m R] W fun e w' => ∃ A2 c2, e = .returned (.tuple #[.agg #[.int .i64 o, .int .i64 d, .int .i64 ee, .int .i64 cc, .slice A2 nD c2], .int .i64 (zz : Int)]) ∧ Hid (Me.Own w' W.heap.size (.slice A2 nD c2) D) ∧ Hid (Below W.heap.size W w')))
    (HDl : Hid (∀ z ∈ D, z < 256)) (HnD : Hid (D.length = nD)) 
    (HCv : Hid (∀ W, Below w.heap.size w W → (convert 44 9 (.slice (some ⟨b, off, none⟩) (1 + m) (1 + R))).run Try.prog W = .ok (.string (strOf (2 :: r))) W)) (Hlt : Hid (∀ z ∈ 2 :: r, z < 256))
    (hcase : ¬ chkE 2 ⟨o, d, ee, cc⟩ D.length = 0 ∨ (chkE 2 ⟨o, d, ee, cc⟩ D.length = 0 ∧ ¬ evB 2 ⟨o, d, ee, cc⟩ D = 2 :: r) ∨ (chkE 2 ⟨o, d, ee, cc⟩ D.length = 0 ∧ evB 2 ⟨o, d, ee, cc⟩ D = 2 :: r))
    (HGE : Hid (∀ e w', (¬ (chkE 2 ⟨o, d, ee, cc⟩ D.length = 0 ∧ evB 2 ⟨o, d, ee, cc⟩ D = 2 :: r) → e = .returned (.tuple #[.agg #[.int .i64 0, .int .i64 0, .int .i64 0, .int .i64 0, .int .i64 0, .slice none 0 0], .int .i64 2]) → Below w.heap.size w w' → GeE (2 :: r) w e w') ∧
        ((chkE 2 ⟨o, d, ee, cc⟩ D.length = 0 ∧ evB 2 ⟨o, d, ee, cc⟩ D = 2 :: r) → ∀ A c, e = .returned (.tuple #[.agg #[.int .i64 2, .int .i64 o, .int .i64 d, .int .i64 ee, .int .i64 cc, .slice A nD c], .int .i64 0]) → Me.Own w' w.heap.size (.slice A nD c) D → Below w.heap.size w w' → GeE (2 :: r) w e w')))
    (m1 : ((1 + (m : Int)) == 0) = false) (m3 : 1 ≤ 1 + R) (m4 : 1 ≤ 1 + (R : Int)) (m5 : 1 ≤ 1 + m) (m7 : 1 ≤ 1 + (m : Int)) (m8 : ¬ (1 + (m : Int) ≤ 0)) (HWK : Hid (IntKind.i64.wrap 2 = 2)) (k0 : 0 ≤ 2) (k1 : 2 ≤ 255) :
    Calls Try.prog 27 #[.slice (some ⟨b, off, none⟩) (1 + m) (1 + R)] w (GeE (2 :: r) w) := by
  have q0 : (w.alloc (.cells #[.int .i64 0, .int .i64 0, .int .i64 0, .int .i64 0, .int .i64 0, .slice none 0 0] 60)).cell? ⟨b, off, none⟩ = some (.int .u8 2) := by rw [HV.out]; exact HC0.out V HB.out
  have HPE : Hid (∀ W A c, BySlice W A nD c D → Calls Try.prog 25 #[.agg #[.int .i64 2, .int .i64 o, .int .i64 d, .int .i64 ee, .int .i64 cc, .slice A nD c]] W (OwP (evL 2 ⟨o, d, ee, cc⟩ D) (chkE 2 ⟨o, d, ee, cc⟩ D.length) W)) := fun W A c h => by
    have h2 := RPutEv_any 2 ⟨o, d, ee, cc⟩ A c D W (by rw [HnD.out]; exact h) HDl
    rw [HnD.out] at h2 ⊢
    exact h2
  unfold OwP at HPE
  have HLl : Hid (∀ z ∈ evL 2 ⟨o, d, ee, cc⟩ D, z < 256) := evL_lt HDl.out
  have HLe : Hid (chkE 2 ⟨o, d, ee, cc⟩ D.length = 0 → evL 2 ⟨o, d, ee, cc⟩ D = evB 2 ⟨o, d, ee, cc⟩ D) := evL_ok
  obtain ⟨L, hL⟩ : ∃ L, evL 2 ⟨o, d, ee, cc⟩ D = L := ⟨_, rfl⟩
  obtain ⟨cz, hcz⟩ : ∃ z, chkE 2 ⟨o, d, ee, cc⟩ D.length = z := ⟨_, rfl⟩
  obtain ⟨eB, heB⟩ : ∃ z, evB 2 ⟨o, d, ee, cc⟩ D = z := ⟨_, rfl⟩
  rw [hL, hcz] at HPE
  rw [hL, hcz, heB] at HLe
  rw [hL] at HLl
  rw [hcz, heB] at hcase HGE
  clear hL hcz heB
  have HVs : Hid (V.heap.size = w.heap.size + 1) := by show _ = _; rw [← HV.out, World.size_alloc]
  have HXX : Hid ((V.alloc (.cells #[.int .i64 2, .int .i64 0, .int .i64 0, .int .i64 0, .int .i64 0, .slice none 0 0] 60)).heap[w.heap.size + 1]? = some (.cells #[.int .i64 2, .int .i64 0, .int .i64 0, .int .i64 0, .int .i64 0, .slice none 0 0] 60 (0, 0))) := by rw [← HVs.out]; exact heap_alloc_new V _
  have HBX : Hid (Below V.heap.size V (V.alloc (.cells #[.int .i64 2, .int .i64 0, .int .i64 0, .int .i64 0, .int .i64 0, .slice none 0 0] 60))) := Me.below_alloc (Below.refl _ _)
  have hq := HWK.out
  have hA2 := HA'.out
  
  go_enter Try.func27, Try.ntmps27
  go_wp2_with (first
    | (go_at_call 55
       rw [HV.out]
       refine (HG.out _ (go_on HB.out HBX.out)).mono ?_
       rintro e w2 ⟨A2, c2, rfl, ho2, hb2⟩
       have HX2 := Lib.hid ((hb2.out.block _ (Array.getElem?_eq_some_iff.1 HXX.out).1).trans HXX.out)
       have HB2 := Lib.hid (go_on HBX.out hb2.out); have HO2 := Lib.hid ho2.out; clear ho2)
    | (refine wpList_store_mid rfl 46 (.tmp 25) (.tmp 23) rfl (w.heap.size + 1) 1 #[.int .i64 o, .int .i64 d, .int .i64 ee, .int .i64 cc, .slice A2 nD c2] rfl rfl (there6 (n := 5) HX2.out (by decide)) (by kernel_rfl) (msg_one5 _ _ _ _ _ _ _) ?_
       obtain ⟨V3, hV3⟩ : ∃ Y, w2.setCells (w.heap.size + 1) 1 (#[.int .i64 o, .int .i64 d, .int .i64 ee, .int .i64 cc, .slice A2 nD c2] : Array Value).toList = Y := ⟨_, rfl⟩
       have hs := set_mid5 (.int .i64 o) (.int .i64 d) (.int .i64 ee) (.int .i64 cc) (.slice A2 nD c2) HX2.out
       rw [show [Value.int .i64 o, .int .i64 d, .int .i64 ee, .int .i64 cc, .slice A2 nD c2] = (#[.int .i64 o, .int .i64 d, .int .i64 ee, .int .i64 cc, .slice A2 nD c2] : Array Value).toList from rfl, hV3] at hs
       rw [hV3]
       have HB3 : Hid (Below V.heap.size V V3) := HB2.out.trans (hs.2.below HB2.out.size fun q e => by have := HVs.out; omega)
       have HX3 := Lib.hid hs.1
       have hO3 : Me.Own V3 0 (.slice A2 nD c2) D := own_base (own_same HO2.out fun q e hq => hs.2.same q hq fun e2 => own_ty HO2.out HX2.out (by decide) (by rw [e, e2])) fun _ _ => Nat.zero_le _
       have HO3 := Lib.hid hO3; have HOb : Hid (∀ q, (Value.slice A2 nD c2).ownBlock = some q → w.heap.size ≤ q) := fun q e => Nat.le_trans (go_on HB.out HBX.out).size (World.ownsRow.lt HO2.out q e).1
       obtain ⟨x0, x1, x2, x3, x4, x5⟩ := ev_cells hs.1
       clear hV3 hs hO3))
  go_at_call 25
  refine (HPE.out V3 A2 c2 (own_by HO3.out HDl.out)).mono ?_
  rintro e w4 ⟨A4, c4, rfl, ho4, hb4⟩
  have HX4 := Lib.hid ((hb4.out.block _ (Array.getElem?_eq_some_iff.1 HX3.out).1).trans HX3.out)
  have HB4 := Lib.hid (go_on HB3.out hb4.out)
  have cv1 := conv_own ho4.out HLl.out (Below.refl _ _)
  have cv2 := HCv.out w4 (go_on HB.out HB4.out)
  have HE4 : Hid (w4.heap[w.heap.size]? = some (.cells #[.int .i64 0, .int .i64 0, .int .i64 0, .int .i64 0, .int .i64 0, .slice none 0 0] 60 (0, 0))) := (HB4.out.block _ HXl.out).trans HX.out
  have HBW := Lib.hid (go_on HB.out HB4.out)
  have hO4 : Me.Own w4 w.heap.size (.slice A2 nD c2) D := own_base (own_same HO3.out fun q _ hq => hb4.out.block q hq) fun q e => HOb.out q e
  have HO4 := Lib.hid hO4
  rcases hcase with h | ⟨h1, h2⟩ | ⟨h1, h2⟩
  · have hz0 : (((cz : Nat) : Int) != 0) = true := by simpa using h
    have HR := Lib.hid (fun e w' => (HGE.out e w').1 fun q => h q.1)
    clear HGE h cv1 cv2
    go_wp2_with (refine wpList_store_row rfl 60 (.tmp 2) (.tmp 48) rfl w.heap.size #[.int .i64 0, .int .i64 0, .int .i64 0, .int .i64 0, .int .i64 0, .slice none 0 0] rfl rfl 60 _ HE4.out (by kernel_rfl) rfl (by kernel_rfl) ?_)
    exact Sb.ret_box2 (g := w.heap.size) rfl (by rfl) (setRow_heap _ _ _ _ _ _ HE4.out) rfl Try.underlying60 (by kernel_rfl) rfl (HR.out _ _ rfl (Sb.below_setRow _ HBW.out (Nat.le_refl _)))
  · have HR := Lib.hid (fun e w' => (HGE.out e w').1 fun q => h2 q.2)
    have hLe := HLe.out h1
    have hne : ((strOf L).toList == (strOf (2 :: r)).toList) = false := str_ne HLl.out Hlt.out (by rw [hLe]; exact h2)
    subst h1
    clear HGE h2 hLe
    go_wp2_with (refine wpList_store_row rfl 60 (.tmp 2) (.tmp 48) rfl w.heap.size #[.int .i64 0, .int .i64 0, .int .i64 0, .int .i64 0, .int .i64 0, .slice none 0 0] rfl rfl 60 _ HE4.out (by kernel_rfl) rfl (by kernel_rfl) ?_)
    exact Sb.ret_box2 (g := w.heap.size) rfl (by rfl) (setRow_heap _ _ _ _ _ _ HE4.out) rfl Try.underlying60 (by kernel_rfl) rfl (HR.out _ _ rfl (Sb.below_setRow _ HBW.out (Nat.le_refl _)))
  · have HR := Lib.hid (fun e w' => (HGE.out e w').2 ⟨h1, h2⟩)
    have hLe := (HLe.out h1).trans h2
    have heq : ((strOf L).toList == (strOf (2 :: r)).toList) = true := by rw [hLe]; simp
    obtain ⟨y0, y1, y2, y3, y4, y5⟩ := ev_cells HX4.out
    subst h1
    clear HGE h2 hLe
    go_wp2_with (refine wpList_store_row rfl 60 (.tmp 2) (.tmp 49) rfl w.heap.size #[.int .i64 2, .int .i64 o, .int .i64 d, .int .i64 ee, .int .i64 cc, .slice A2 nD c2] rfl rfl 60 _ HE4.out (by kernel_rfl) rfl (ev_one _ _ _ _ _ _ _ _) ?_)
    exact Sb.ret_box2 (g := w.heap.size) rfl (by rfl) (setRow_heap _ _ _ _ _ _ HE4.out) rfl Try.underlying60 (by kernel_rfl) rfl (HR.out _ _ A2 c2 rfl (own_setRow _ HO4.out (own_ty HO4.out HE4.out (by decide))) (Sb.below_setRow _ HBW.out (Nat.le_refl _)))
set_option maxRecDepth 100000 in
set_option maxHeartbeats 16000000 in
theorem rge_id (w V : World) (b off m R k zz : Nat) (o d ee cc : Int) (A' : Option Addr) (r : List Nat)
    (HX : Hid (V.heap[w.heap.size]? = some (.cells #[.int .i64 0, .int .i64 0, .int .i64 0, .int .i64 0, .int .i64 0, .slice none 0 0] 60 (0, 0)))) (HBL : Hid (b < w.heap.size)) (HB : Hid (Below w.heap.size w V)) (HV : Hid (w.alloc (.cells #[.int .i64 0, .int .i64 0, .int .i64 0, .int .i64 0, .int .i64 0, .slice none 0 0] 60) = V)) (HXl : Hid (w.heap.size < V.heap.size))
    (HC0 : Hid (∀ W, Below w.heap.size w W → W.cell? ⟨b, off, none⟩ = some (.int .u8 (k : Int)))) (HA' : Hid ((if R = 0 then (some ⟨b, off, none⟩ : Option Addr) else some ⟨b, off + 1, none⟩) = A'))
    (HG : Hid (∀ W, Below w.heap.size w W → Calls Try.prog 56 #[.slice A' m R] W fun e w' => e = .returned (.tuple #[.agg #[.int .i64 o, .int .i64 d, .int .i64 ee, .int .i64 cc], .int .i64 (zz : Int)]) ∧ Hid (Below W.heap.size W w')))
    (hk2 : ((k : Int) == 2) = false)
    (HCv : Hid (∀ W, Below w.heap.size w W → (convert 44 9 (.slice (some ⟨b, off, none⟩) (1 + m) (1 + R))).run Try.prog W = .ok (.string (strOf (k :: r))) W)) (Hlt : Hid (∀ z ∈ k :: r, z < 256))
    (hcase : ¬ chkE (k : Int) ⟨o, d, ee, cc⟩ ([] : List Nat).length = 0 ∨ (chkE (k : Int) ⟨o, d, ee, cc⟩ ([] : List Nat).length = 0 ∧ ¬ evB (k : Int) ⟨o, d, ee, cc⟩ ([] : List Nat) = k :: r) ∨ (chkE (k : Int) ⟨o, d, ee, cc⟩ ([] : List Nat).length = 0 ∧ evB (k : Int) ⟨o, d, ee, cc⟩ ([] : List Nat) = k :: r))
    (HGE : Hid (∀ e w', (¬ (chkE (k : Int) ⟨o, d, ee, cc⟩ ([] : List Nat).length = 0 ∧ evB (k : Int) ⟨o, d, ee, cc⟩ ([] : List Nat) = k :: r) → e = .returned (.tuple #[.agg #[.int .i64 0, .int .i64 0, .int .i64 0, .int .i64 0, .int .i64 0, .slice none 0 0], .int .i64 2]) → Below w.heap.size w w' → GeE (k :: r) w e w') ∧
        ((chkE (k : Int) ⟨o, d, ee, cc⟩ ([] : List Nat).length = 0 ∧ evB (k : Int) ⟨o, d, ee, cc⟩ ([] : List Nat) = k :: r) → ∀ A c, e = .returned (.tuple #[.agg #[.int .i64 (k : Int), .int .i64 o, .int .i64 d, .int .i64 ee, .int .i64 cc, .slice A 0 c], .int .i64 0]) → Me.Own w' w.heap.size (.slice A 0 c) ([] : List Nat) → Below w.heap.size w w' → GeE (k :: r) w e w')))
    (m1 : ((1 + (m : Int)) == 0) = false) (m3 : 1 ≤ 1 + R) (m4 : 1 ≤ 1 + (R : Int)) (m5 : 1 ≤ 1 + m) (m7 : 1 ≤ 1 + (m : Int)) (m8 : ¬ (1 + (m : Int) ≤ 0)) (HWK : Hid (IntKind.i64.wrap (k : Int) = (k : Int))) (k0 : 0 ≤ (k : Int)) (k1 : (k : Int) ≤ 255) :
    Calls Try.prog 27 #[.slice (some ⟨b, off, none⟩) (1 + m) (1 + R)] w (GeE (k :: r) w) := by
  have q0 : (w.alloc (.cells #[.int .i64 0, .int .i64 0, .int .i64 0, .int .i64 0, .int .i64 0, .slice none 0 0] 60)).cell? ⟨b, off, none⟩ = some (.int .u8 (k : Int)) := by rw [HV.out]; exact HC0.out V HB.out
  have HPE : Hid (∀ W A c, BySlice W A 0 c ([] : List Nat) → Calls Try.prog 25 #[.agg #[.int .i64 (k : Int), .int .i64 o, .int .i64 d, .int .i64 ee, .int .i64 cc, .slice A 0 c]] W (OwP (evL (k : Int) ⟨o, d, ee, cc⟩ ([] : List Nat)) (chkE (k : Int) ⟨o, d, ee, cc⟩ ([] : List Nat).length) W)) := fun W A c h => by
    have h2 := RPutEv_any (k : Int) ⟨o, d, ee, cc⟩ A c ([] : List Nat) W (by exact h) (fun z hz => by cases hz)
    
    exact h2
  unfold OwP at HPE
  have HLl : Hid (∀ z ∈ evL (k : Int) ⟨o, d, ee, cc⟩ ([] : List Nat), z < 256) := evL_lt (fun z hz => by cases hz)
  have HLe : Hid (chkE (k : Int) ⟨o, d, ee, cc⟩ ([] : List Nat).length = 0 → evL (k : Int) ⟨o, d, ee, cc⟩ ([] : List Nat) = evB (k : Int) ⟨o, d, ee, cc⟩ ([] : List Nat)) := evL_ok
  obtain ⟨L, hL⟩ : ∃ L, evL (k : Int) ⟨o, d, ee, cc⟩ ([] : List Nat) = L := ⟨_, rfl⟩
  obtain ⟨cz, hcz⟩ : ∃ z, chkE (k : Int) ⟨o, d, ee, cc⟩ ([] : List Nat).length = z := ⟨_, rfl⟩
  obtain ⟨eB, heB⟩ : ∃ z, evB (k : Int) ⟨o, d, ee, cc⟩ ([] : List Nat) = z := ⟨_, rfl⟩
  rw [hL, hcz] at HPE
  rw [hL, hcz, heB] at HLe
  rw [hL] at HLl
  rw [hcz, heB] at hcase HGE
  clear hL hcz heB
  have HVs : Hid (V.heap.size = w.heap.size + 1) := by show _ = _; rw [← HV.out, World.size_alloc]
  have HXX : Hid ((V.alloc (.cells #[.int .i64 (k : Int), .int .i64 0, .int .i64 0, .int .i64 0, .int .i64 0, .slice none 0 0] 60)).heap[w.heap.size + 1]? = some (.cells #[.int .i64 (k : Int), .int .i64 0, .int .i64 0, .int .i64 0, .int .i64 0, .slice none 0 0] 60 (0, 0))) := by rw [← HVs.out]; exact heap_alloc_new V _
  have HBX : Hid (Below V.heap.size V (V.alloc (.cells #[.int .i64 (k : Int), .int .i64 0, .int .i64 0, .int .i64 0, .int .i64 0, .slice none 0 0] 60))) := Me.below_alloc (Below.refl _ _)
  have hq := HWK.out
  have hA2 := HA'.out
  
  go_enter Try.func27, Try.ntmps27
  go_wp2_with (first
    | (go_at_call 56
       rw [HV.out]
       refine (HG.out _ (go_on HB.out HBX.out)).mono ?_
       rintro e w2 ⟨rfl, hb2⟩
       have HX2 := Lib.hid ((hb2.out.block _ (Array.getElem?_eq_some_iff.1 HXX.out).1).trans HXX.out)
       have HB2 := Lib.hid (go_on HBX.out hb2.out))
    | (refine wpList_store_mid rfl 28 (.tmp 33) (.tmp 30) rfl (w.heap.size + 1) 1 #[.int .i64 o, .int .i64 d, .int .i64 ee, .int .i64 cc] rfl rfl (there6 (n := 4) HX2.out (by decide)) (by kernel_rfl) (Mg.id_one _ _ _ _) ?_
       obtain ⟨V3, hV3⟩ : ∃ Y, w2.setCells (w.heap.size + 1) 1 (#[.int .i64 o, .int .i64 d, .int .i64 ee, .int .i64 cc] : Array Value).toList = Y := ⟨_, rfl⟩
       have hs := set_mid4 (.int .i64 o) (.int .i64 d) (.int .i64 ee) (.int .i64 cc) HX2.out
       rw [show [Value.int .i64 o, .int .i64 d, .int .i64 ee, .int .i64 cc] = (#[.int .i64 o, .int .i64 d, .int .i64 ee, .int .i64 cc] : Array Value).toList from rfl, hV3] at hs
       rw [hV3]
       have HB3 : Hid (Below V.heap.size V V3) := HB2.out.trans (hs.2.below HB2.out.size fun q e => by have := HVs.out; omega)
       have HX3 := Lib.hid hs.1
       
       
       obtain ⟨x0, x1, x2, x3, x4, x5⟩ := ev_cells hs.1
       clear hV3 hs))
  go_at_call 25
  refine (HPE.out V3 none 0 (⟨rfl, Nat.le_refl _, Nat.zero_le _, ⟨by simp, by simp⟩, fun _ => ⟨rfl, rfl⟩⟩)).mono ?_
  rintro e w4 ⟨A4, c4, rfl, ho4, hb4⟩
  have HX4 := Lib.hid ((hb4.out.block _ (Array.getElem?_eq_some_iff.1 HX3.out).1).trans HX3.out)
  have HB4 := Lib.hid (go_on HB3.out hb4.out)
  have cv1 := conv_own ho4.out HLl.out (Below.refl _ _)
  have cv2 := HCv.out w4 (go_on HB.out HB4.out)
  have HE4 : Hid (w4.heap[w.heap.size]? = some (.cells #[.int .i64 0, .int .i64 0, .int .i64 0, .int .i64 0, .int .i64 0, .slice none 0 0] 60 (0, 0))) := (HB4.out.block _ HXl.out).trans HX.out
  have HBW := Lib.hid (go_on HB.out HB4.out)
  
  
  rcases hcase with h | ⟨h1, h2⟩ | ⟨h1, h2⟩
  · have hz0 : (((cz : Nat) : Int) != 0) = true := by simpa using h
    have HR := Lib.hid (fun e w' => (HGE.out e w').1 fun q => h q.1)
    clear HGE h cv1 cv2
    go_wp2_with (refine wpList_store_row rfl 60 (.tmp 2) (.tmp 48) rfl w.heap.size #[.int .i64 0, .int .i64 0, .int .i64 0, .int .i64 0, .int .i64 0, .slice none 0 0] rfl rfl 60 _ HE4.out (by kernel_rfl) rfl (by kernel_rfl) ?_)
    exact Sb.ret_box2 (g := w.heap.size) rfl (by rfl) (setRow_heap _ _ _ _ _ _ HE4.out) rfl Try.underlying60 (by kernel_rfl) rfl (HR.out _ _ rfl (Sb.below_setRow _ HBW.out (Nat.le_refl _)))
  · have HR := Lib.hid (fun e w' => (HGE.out e w').1 fun q => h2 q.2)
    have hLe := HLe.out h1
    have hne : ((strOf L).toList == (strOf (k :: r)).toList) = false := str_ne HLl.out Hlt.out (by rw [hLe]; exact h2)
    subst h1
    clear HGE h2 hLe
    go_wp2_with (refine wpList_store_row rfl 60 (.tmp 2) (.tmp 48) rfl w.heap.size #[.int .i64 0, .int .i64 0, .int .i64 0, .int .i64 0, .int .i64 0, .slice none 0 0] rfl rfl 60 _ HE4.out (by kernel_rfl) rfl (by kernel_rfl) ?_)
    exact Sb.ret_box2 (g := w.heap.size) rfl (by rfl) (setRow_heap _ _ _ _ _ _ HE4.out) rfl Try.underlying60 (by kernel_rfl) rfl (HR.out _ _ rfl (Sb.below_setRow _ HBW.out (Nat.le_refl _)))
  · have HR := Lib.hid (fun e w' => (HGE.out e w').2 ⟨h1, h2⟩)
    have hLe := (HLe.out h1).trans h2
    have heq : ((strOf L).toList == (strOf (k :: r)).toList) = true := by rw [hLe]; simp
    obtain ⟨y0, y1, y2, y3, y4, y5⟩ := ev_cells HX4.out
    subst h1
    clear HGE h2 hLe
    go_wp2_with (refine wpList_store_row rfl 60 (.tmp 2) (.tmp 49) rfl w.heap.size #[.int .i64 (k : Int), .int .i64 o, .int .i64 d, .int .i64 ee, .int .i64 cc, .slice none 0 0] rfl rfl 60 _ HE4.out (by kernel_rfl) rfl (ev_one _ _ _ _ _ _ _ _) ?_)
    exact Sb.ret_box2 (g := w.heap.size) rfl (by rfl) (setRow_heap _ _ _ _ _ _ HE4.out) rfl Try.underlying60 (by kernel_rfl) rfl (HR.out _ _ none 0 rfl (Me.Own.nil _ _) (Sb.below_setRow _ HBW.out (Nat.le_refl _)))
end Go.Proofs.Ytpofdimagfldnaa.So
