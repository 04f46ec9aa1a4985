/- The law of bytes: its walk. -/
import Derived.Test.YtljndfkmppmbkaaDoorMgPuts0
import Derived.Test.YtljndfkmppmbkaaDoorMgWoke
import Derived.Test.YtljndfkmppmbkaaDoorMemB
namespace Go.Proofs.YtljndfkmppmbkaaDoor.Mg
open Go.RowKit
open Go.Proofs.YtljndfkmppmbkaaDoor.Me Go.Proofs.YtljndfkmppmbkaaDoor.Ba Go.Proofs.YtljndfkmppmbkaaDoor.Ma Go.Proofs.YtljndfkmppmbkaaDoor.Hd
set_option linter.unusedVariables false
set_option linter.unusedSimpArgs false

/-- Bytes appended to bytes of the call's own, as one operation; nothing but new memory is made. -/
theorem app8b {w0 w : World} {o : Oper} {a : Act} {K : Act → World → Prop} {Q : Exit → Act → World → Prop} (s x : Operand)
    (ho : o.op = .call { callee := .builtin .append, args := #[s, x], argTypes := #[24, 24] })
    (B Bx : Nat) (v : Value) (l r : List Nat) (hs : a.eval s = v) (hown : Me.Own w B v l) (hb : Below B w0 w) (hB : B ≤ w.heap.size)
    (A : Option Addr) (c : Nat) (hx : a.eval x = .slice A r.length c) (hr : Rd w Bx A r) (hA : A = none → r.length = 0 ∧ c = 0) (hlen : l.length + r.length ≤ 140737488355328)
    (h : ∀ v' w', Me.Own w' B v' (l ++ r) → Below B w0 w' → w.grownBy w' v.ownBlock → K (a.put o.dst v') w') : o.wp Tryd.prog a w K Q := by
  obtain ⟨i0, hi, hz0, hz1, hz2⟩ := info_parts info8
  rcases A with _ | ad
  · obtain ⟨h1, rfl⟩ := hA rfl
    obtain rfl : r = [] := List.eq_nil_of_length_eq_zero h1
    have hrun := run_append_owned_none (P := Tryd.prog) (w := w) B 24 o.type 5 i0 1 Tryd.underlying24 hi v l.length (l.map byV) hown
    have hh := h v w (by rw [List.append_nil]; exact hown) hb ⟨rfl, rfl, rfl, Nat.le_refl _, fun _ _ _ => rfl⟩
    unfold Oper.wp
    simp [execOp, ho, resolve, invoke, builtin, hs, hx, hrun, Result.andThen]
    exact hh
  · refine wp_append_own w s x 24 ho B 5 i0 (.int .u8 0) 1 1 Tryd.underlying24 hi hz0 hz1 hz2 rfl (by decide) v l.length (l.map byV) hs hown ad r.length c (r.map byV) hx (len_map r) (rd_cells hr (Below.refl _ _)) (one_cells _) (by unfold maxLen; omega) (by omega) hB ?_
    intro v' w' h1 h2 _
    refine h v' w' ?_ (hb.grown h2 hB fun k hk => (hown.lt k hk).1) h2
    unfold Me.Own
    rw [List.length_append, List.map_append]; exact h1
/-- Bytes of one's own lie in no box of a message. -/
theorem own_ne {V : World} {B D : Nat} {v : Value} {l : List Nat} {old : Array Value} {f : Nat × Nat} (h : Own V B v l) (hD : V.heap[D]? = some (.cells old 26 f)) : v.ownBlock ≠ some D := by
  rcases h.2 with ⟨h1, _⟩ | ⟨g, cap, cur, h1, h2, h3, _⟩
  · rw [h1]; intro e; cases e
  · rw [h1]
    intro e
    have e : g = D := by simpa [Value.ownBlock] using e
    subst e
    rw [h3] at hD
    injection hD with hD
    injection hD with _ hT _
    exact absurd hT (by decide)
theorem box_put {V W0 V2 : World} {B D : Nat} {v : Value} {l : List Nat} {old cs : Array Value} (h : Own V B v l) (hD : V.heap[D]? = some (.cells old 26 (0, 0))) (hb : Below W0.heap.size W0 V) (hd : W0.heap.size ≤ D) (hV2 : V.setRow D cs = V2) :
    V2.heap[D]? = some (.cells cs 26 (0, 0)) ∧ Own V2 B v l ∧ Below W0.heap.size W0 V2 := by
  subst hV2
  have hne := own_ne h hD
  refine ⟨setRow_heap _ _ _ _ _ _ hD, own_same h fun k hk _ => setRow_other _ _ k _ (fun e => hne (by rw [hk, e])), hb.os, hb.tape, hb.output, by simpa using hb.size, fun b hb2 => (setRow_other _ _ b _ (by omega)).trans (hb.block b hb2)⟩
theorem bx_row {W : World} {D : Nat} {o d e c : Int} {A : Option Addr} {n k : Nat} (h : W.heap[D]? = some (.cells #[.int .i64 o, .int .i64 d, .int .i64 e, .int .i64 c, .slice A n k] 26 (0, 0))) : W.cell? ⟨D, 0, none⟩ = some (.int .i64 o) ∧ W.cell? ⟨D, 1, none⟩ = some (.int .i64 d) ∧ W.cell? ⟨D, 2, none⟩ = some (.int .i64 e) ∧ W.cell? ⟨D, 3, none⟩ = some (.int .i64 c) ∧ W.cell? ⟨D, 4, none⟩ = some (.slice A n k) := by
  refine ⟨?_, ?_, ?_, ?_, ?_⟩
  all_goals
    rw [cell_of_row _ D _ _ _ (0, 0) h]
    rfl
/-- The law's own copy: n bytes, whatever they are. -/
def Giv (w : World) (v : Value) (n : Nat) : Prop := ∃ ys : List Nat, ys.length = n ∧ (∀ y ∈ ys, y < 256) ∧ Me.Own w 0 v ys
theorem Giv.cell {w : World} {A : Option Addr} {n c k : Nat} (h : Giv w (.slice A n c) n) (hk : k < n) : ∃ g y : Nat, A = some ⟨g, 0, none⟩ ∧ y ≤ 255 ∧ w.cell? ⟨g, k, none⟩ = some (.int .u8 (y : Int)) ∧ w.frozen? ⟨g, k, none⟩ = false ∧ (Value.slice A n c).ownBlock = some g := by
  obtain ⟨ys, h1, h2, h3⟩ := h
  obtain ⟨g, c', e, _, _⟩ := h3.form (by omega)
  simp only [Value.slice.injEq] at e
  obtain ⟨rfl, _, rfl⟩ := e
  obtain ⟨a, b⟩ := h3.cell (i := k) (by omega)
  have := h2 (by_ ys k) (by rw [by_get (by omega)]; exact List.getElem_mem _)
  exact ⟨g, by_ ys k, rfl, by omega, a, b, rfl⟩
theorem Giv.put {w : World} {g n c k y : Nat} (h : Giv w (.slice (some ⟨g, 0, none⟩) n c) n) (hy : y < 256) : Giv (w.setCell ⟨g, k, none⟩ (.int .u8 (y : Int))) (.slice (some ⟨g, 0, none⟩) n c) n := by
  obtain ⟨ys, h1, h2, h3⟩ := h
  refine ⟨ys.set k y, by simpa using h1, ?_, h3.store k y⟩
  intro z hz
  rcases List.mem_or_eq_of_mem_set hz with h | h
  · exact h2 z h
  · omega
theorem turn8 {y : Nat} (h : y ≤ 255) : IntKind.u8.wrap (255 - (y : Int)) = ((255 - y : Nat) : Int) := by
  have e : (255 : Int) - (y : Int) = ((255 - y : Nat) : Int) := by omega
  rw [e]; exact wrap8 (by unfold U8; omega)
theorem conv_own {W W2 : World} {B c : Nat} {A : Option Addr} {L : List Nat} (h : Own W B (.slice A L.length c) L) (hl : ∀ z ∈ L, z < 256) (hb : Below W.heap.size W W2) : (convert 24 9 (.slice A L.length c)).run Tryd.prog W2 = .ok (.string (strOf L)) W2 := by
  obtain ⟨r1, r2, _, _⟩ := own_rd (own_same h fun k _ hk => hb.block k hk) hl
  exact conv_rd W2 _ A L c r1 r2
theorem msg_one (o d e c : Int) (A : Option Addr) (n k : Nat) : (#[.int .i64 o, .int .i64 d, .int .i64 e, .int .i64 c, .slice A n k] : Array Value).all (·.oneCell') = true := by simp [Value.oneCell']
theorem grown_msg {W V : World} {D : Nat} {v : Value} {x : Obj} (hD : W.heap[D]? = some x) (hg : W.grownBy V v.ownBlock) (hne : v.ownBlock ≠ some D) : V.heap[D]? = some x := by
  obtain ⟨_, _, _, _, h⟩ := hg
  exact (h D (Array.getElem?_eq_some_iff.1 hD).1 (fun e => hne e.symm)).trans hD
set_option maxRecDepth 100000 in
set_option maxHeartbeats 8000000 in
theorem puts (i : Id4) (A : Option Addr) (n c : Nat) (l : List Nat) (w : World) (hi : MsIn w A n c l) : Calls Tryd.prog 5 #[.agg (msgC i A n c)] w fun e w' => e = .returned (.bool true) ∧ Below w.heap.size w w' := by
  obtain rfl : n = l.length := hi.1.1
  have HI := Lib.hid hi
  have HX := Lib.hid (box5 i A l.length c w)
  have HP := Lib.hid (fun (A1 : Option Addr) (c1 : Nat) W (h : Hid (BySlice W A1 l.length c1 l)) => (Put_any i A1 l.length c1 l W h).mono fun _ _ h => h.ow)
  have HRP := Lib.hid (fun W (h : Hid (BySlice W A l.length c l)) => (RPut_any i A l.length c l W h).mono fun _ _ h => h.ow)
  have HD := Lib.hid (fun W => Pid_any i W)
  have HRD := Lib.hid (fun W => RPid_any i W)
  have HLp : Hid (∀ z ∈ putL i l.length l, z < 256) := putL_lt hi.1.2.2.2.1.1
  have HLd := Lib.hid (pidL_lt i)
  obtain ⟨lp, hlp⟩ : ∃ x, putL i l.length l = x := ⟨_, rfl⟩
  obtain ⟨zp, hzp⟩ : ∃ x, msgN i l.length = x := ⟨_, rfl⟩
  obtain ⟨ld, hld⟩ : ∃ x, pidL i = x := ⟨_, rfl⟩
  obtain ⟨zd, hzd⟩ : ∃ x, chkN i = x := ⟨_, rfl⟩
  simp only [hlp, hzp] at HP HRP HLp
  simp only [hld, hzd] at HD HRD HLd
  clear hi hlp hzp hld hzd
  obtain ⟨o, dd, ee, cc⟩ := i
  simp only [msgC, idC] at HX HP HRP HD HRD ⊢
  obtain ⟨W0, hW0⟩ : ∃ W0, w.alloc (.cells #[.int .i64 o, .int .i64 dd, .int .i64 ee, .int .i64 cc, .slice A l.length c] 26 (0, 0)) = W0 := ⟨_, rfl⟩
  rw [hW0] at HX
  have HW0 := Lib.hid hW0
  have hbw : Below w.heap.size w W0 := by rw [← hW0]; exact Me.below_alloc (Below.refl _ _)
  have HRl : Hid (∀ W, Below W0.heap.size W0 W → Rd W W.heap.size A l) := fun W hW => (HI.out.below (hbw.trans (hW.mono hbw.size))).1.2.2.2.1
  have HA : Hid (A = none → l.length = 0 ∧ c = 0) := HI.out.1.2.2.2.2
  have HLb : Hid (∀ z ∈ l, z < 256) := HI.out.1.2.2.2.1.1
  have HLN : Hid (([] : List Nat).length + l.length ≤ 140737488355328) := by
    have h1 := HI.out.1.2.1
    have h2 := HI.out.2
    show 0 + _ ≤ _
    omega
  have HBW := Lib.hid hbw
  clear hbw
  have S0 := (Below.refl W0.heap.size W0).drew
  go_enter Tryd.func5, Tryd.ntmps5
  go_wp2
  try rw [hW0]
  clear hW0
  rename_i Q0 K0 hA0
  refine wp_region_held_drew (S := fun W => Below W0.heap.size W0 W) (by kernel_rfl) S0 (fun hHeld => ?_)
  refine wpAnyH_take (i := 0) (v := .pointer (some ⟨w.heap.size, 0, none⟩)) rfl (by kernel_rfl) (by kernel_rfl) (by kernel_rfl) (fun _ _ _ h => h) (Or.inl ⟨by rfl, ?_⟩) (by first | assumption | exact trivial) ?_
  · intro W hSW; go_simp; try (with_reducible rfl)
  simp only [Act.put, List.getElem_toArray, List.getElem_cons_succ, List.getElem_cons_zero, List.setIfInBounds_toArray, List.set_cons_zero, List.set_cons_succ]
  refine wpAnyH_take (i := 1) (v := .agg #[.int .i64 o, .int .i64 dd, .int .i64 ee, .int .i64 cc]) rfl (by kernel_rfl) (by kernel_rfl) (by kernel_rfl) (fun _ _ _ h => h) (Or.inl ⟨by rfl, ?_⟩) (by first | assumption | exact trivial) ?_
  · intro W hSW; obtain ⟨x0, x1, x2, x3, x4, bw⟩ := HX.out W hSW; go_simp; try (with_reducible rfl)
  simp only [Act.put, List.getElem_toArray, List.getElem_cons_succ, List.getElem_cons_zero, List.setIfInBounds_toArray, List.set_cons_zero, List.set_cons_succ]
  refine wpAnyH_take (i := 3) (v := .pointer (some ⟨w.heap.size, 4, none⟩)) rfl (by kernel_rfl) (by kernel_rfl) (by kernel_rfl) (fun _ _ _ h => h) (Or.inl ⟨by rfl, ?_⟩) (by first | assumption | exact trivial) ?_
  · intro W hSW; go_simp; try (with_reducible rfl)
  simp only [Act.put, List.getElem_toArray, List.getElem_cons_succ, List.getElem_cons_zero, List.setIfInBounds_toArray, List.set_cons_zero, List.set_cons_succ]
  refine wpAnyH_take (i := 4) (v := .slice A l.length c) rfl (by kernel_rfl) (by kernel_rfl) (by kernel_rfl) (fun _ _ _ h => h) (Or.inl ⟨by rfl, ?_⟩) (by first | assumption | exact trivial) ?_
  · intro W hSW; obtain ⟨x0, x1, x2, x3, x4, bw⟩ := HX.out W hSW; go_simp; try (with_reducible rfl)
  simp only [Act.put, List.getElem_toArray, List.getElem_cons_succ, List.getElem_cons_zero, List.setIfInBounds_toArray, List.set_cons_zero, List.set_cons_succ]
  suffices HC : ∀ (D g2 : Nat) (A1 : Option Addr) (c1 : Nat) (V9 : World), V9.heap[D]? = some (.cells #[.int .i64 o, .int .i64 dd, .int .i64 ee, .int .i64 cc, .slice A1 l.length c1] 26 (0, 0)) → Own V9 W0.heap.size (.slice A1 l.length c1) l → l.length ≤ c1 → c1 ≤ 9223372036854775807 → Below W0.heap.size W0 V9 → W0.heap.size ≤ D → Exit.then K0 Q0 Exit.normal ⟨#[.agg #[.int .i64 o, .int .i64 dd, .int .i64 ee, .int .i64 cc, .slice A l.length c], .pointer (some ⟨w.heap.size, 0, none⟩), .bool false, .pointer (some ⟨D, 0, none⟩), undef, undef, undef, undef, undef, undef, undef, undef, undef, .pointer (some ⟨w.heap.size, 0, none⟩), .agg #[.int .i64 o, .int .i64 dd, .int .i64 ee, .int .i64 cc], .slice (some ⟨g2, 0, none⟩) 0 0, .pointer (some ⟨w.heap.size, 4, none⟩), .slice A l.length c, .slice A1 l.length c1, .agg #[.int .i64 o, .int .i64 dd, .int .i64 ee, .int .i64 cc, .slice A1 l.length c1], undef, undef, undef, undef, undef, undef, undef, undef, undef, undef, undef, undef, undef, undef, undef, undef, undef, undef, undef, undef, undef, undef, undef, undef, undef, undef, undef, undef, undef, undef, undef, undef, undef, undef, undef, undef, undef, undef, undef, undef, undef, undef, undef, undef, undef, undef, undef, undef, undef, undef, undef, undef, undef, undef, undef, undef, undef, undef, undef, undef, undef, undef, undef, undef], []⟩ V9 by
    refine wpAnyH_ready (rs := [2, 7]) (by kernel_rfl) (by simp) ?_
    refine AllReadyH.cons rfl (fun K hK => ?pa) (AllReadyH.cons rfl (fun K hK => ?pb) AllReadyH.nil)
    case pa =>
      go_simp
      have hb1 : Below W0.heap.size W0 (W0.alloc (.cells #[] 5)).drew := (Me.below_alloc (Below.refl _ _)).drew
      have ho1 : Own (W0.alloc (.cells #[] 5)).drew W0.heap.size (.slice (some ⟨W0.heap.size, 0, none⟩) 0 0) [] := Own.lit (Below.refl _ _)
      obtain ⟨V1, hV1⟩ : ∃ V, (W0.alloc (.cells #[] 5)).drew = V := ⟨_, rfl⟩
      rw [hV1] at hb1 ho1 ⊢
      clear hV1
      refine hK.out _ _ (hb1) (fun hHeld => ?_)
      clear hK K
      refine wpAnyH_ready (rs := [5, 7]) (by kernel_rfl) (by simp) ?_
      refine AllReadyH.cons rfl (fun K hK => ?paa) (AllReadyH.cons rfl (fun K hK => ?pab) AllReadyH.nil)
      case paa =>
        rw [if_pos (by kernel_rfl)]
        refine app8b (.tmp 15) (.tmp 17) rfl W0.heap.size _ _ [] l rfl ho1 hb1 hb1.size A c rfl (HRl.out _ hb1) HA.out HLN.out ?_
        intro v5 w5 ho5 hb5 _
        rw [List.nil_append] at ho5
        obtain ⟨A1, c1, rfl, p1, p2, _⟩ := ho5.held HLb.out
        simp only [Act.put, List.getElem_toArray, List.getElem_cons_succ, List.getElem_cons_zero, List.setIfInBounds_toArray, List.set_cons_zero, List.set_cons_succ]
        refine hK.out _ _ (hb5) (fun hHeld => ?_)
        clear hK K
        refine wpAnyH_take (i := 6) (v := .agg #[.int .i64 o, .int .i64 dd, .int .i64 ee, .int .i64 cc, .slice A1 l.length c1]) rfl (by kernel_rfl) (by kernel_rfl) (by kernel_rfl) (fun _ _ _ h => h) (Or.inl ⟨by rfl, ?_⟩) (by first | assumption | exact trivial) ?_
        · intro W hSW; go_simp; try (with_reducible rfl)
        simp only [Act.put, List.getElem_toArray, List.getElem_cons_succ, List.getElem_cons_zero, List.setIfInBounds_toArray, List.set_cons_zero, List.set_cons_succ]
        refine wpAnyH_ready (rs := [7]) (by kernel_rfl) (by simp) ?_
        refine AllReadyH.cons rfl (fun K hK => ?_) AllReadyH.nil
        go_simp
        obtain ⟨V6, hV6⟩ : ∃ V, w5.alloc (.cells #[.int .i64 0, .int .i64 0, .int .i64 0, .int .i64 0, .slice none 0 0] 26) = V := ⟨_, rfl⟩
        have hb6 : Below W0.heap.size W0 V6 := by rw [← hV6]; exact Me.below_alloc hb5
        have hD6 : V6.heap[w5.heap.size]? = some (.cells #[.int .i64 0, .int .i64 0, .int .i64 0, .int .i64 0, .slice none 0 0] 26 (0, 0)) := by rw [← hV6]; exact heap_alloc_new w5 _
        have ho6 : Own V6 W0.heap.size (.slice A1 l.length c1) l := by rw [← hV6]; exact ho5.alloc _
        have hd6 : W0.heap.size ≤ w5.heap.size := hb5.size
        obtain ⟨D, hDD⟩ : ∃ D, w5.heap.size = D := ⟨_, rfl⟩
        rw [hV6]
        rw [hDD] at hD6 hd6 ⊢
        clear hV6 hDD
        refine hK.out _ _ (hb6) (fun hHeld => ?_)
        clear hK K
        refine wpAnyH_ready (rs := [8]) (by kernel_rfl) (by simp) ?_
        refine AllReadyH.cons rfl (fun K hK => ?_) AllReadyH.nil
        rw [if_pos (by kernel_rfl)]
        refine wp_store_row 26 (.tmp 3) (.tmp 19) rfl D #[.int .i64 o, .int .i64 dd, .int .i64 ee, .int .i64 cc, .slice A1 l.length c1] rfl (by rfl) 26 _ hD6 (by kernel_rfl) rfl (msg_one _ _ _ _ _ _ _) ?_
        simp only [Act.put, List.getElem_toArray, List.getElem_cons_succ, List.getElem_cons_zero, List.setIfInBounds_toArray, List.set_cons_zero, List.set_cons_succ]
        obtain ⟨V9, hV9⟩ : ∃ V, V6.setRow D #[.int .i64 o, .int .i64 dd, .int .i64 ee, .int .i64 cc, .slice A1 l.length c1] = V := ⟨_, rfl⟩
        obtain ⟨hD9, ho9, hb9⟩ := box_put ho6 hD6 hb6 hd6 hV9
        rw [hV9]
        clear hV9
        refine hK.out _ _ (hb9) (fun hHeld => ?_)
        clear hK K
        refine wpAnyH_done (by kernel_rfl) ?_ _
        exact HC _ _ _ _ _ hD9 ho9 p1 p2 hb9 hd6
      case pab =>
        go_simp
        obtain ⟨V6, hV6⟩ : ∃ V, V1.alloc (.cells #[.int .i64 0, .int .i64 0, .int .i64 0, .int .i64 0, .slice none 0 0] 26) = V := ⟨_, rfl⟩
        have hb6 : Below W0.heap.size W0 V6 := by rw [← hV6]; exact Me.below_alloc hb1
        have hD6 : V6.heap[V1.heap.size]? = some (.cells #[.int .i64 0, .int .i64 0, .int .i64 0, .int .i64 0, .slice none 0 0] 26 (0, 0)) := by rw [← hV6]; exact heap_alloc_new V1 _
        have ho6 : Own V6 W0.heap.size (.slice (some ⟨W0.heap.size, 0, none⟩) 0 0) [] := by rw [← hV6]; exact ho1.alloc _
        have hd6 : W0.heap.size ≤ V1.heap.size := hb1.size
        obtain ⟨D, hDD⟩ : ∃ D, V1.heap.size = D := ⟨_, rfl⟩
        rw [hV6]
        rw [hDD] at hD6 hd6 ⊢
        clear hV6 hDD
        refine hK.out _ _ (hb6) (fun hHeld => ?_)
        clear hK K
        refine wpAnyH_ready (rs := [5]) (by kernel_rfl) (by simp) ?_
        refine AllReadyH.cons rfl (fun K hK => ?_) AllReadyH.nil
        rw [if_pos (by kernel_rfl)]
        refine app8b (.tmp 15) (.tmp 17) rfl W0.heap.size _ _ [] l rfl ho6 hb6 hb6.size A c rfl (HRl.out _ hb6) HA.out HLN.out ?_
        intro v5 w5 ho5 hb5 hg5
        have hD5 := grown_msg hD6 hg5 (own_ne ho6 hD6); rw [List.nil_append] at ho5
        obtain ⟨A1, c1, rfl, p1, p2, _⟩ := ho5.held HLb.out
        simp only [Act.put, List.getElem_toArray, List.getElem_cons_succ, List.getElem_cons_zero, List.setIfInBounds_toArray, List.set_cons_zero, List.set_cons_succ]
        refine hK.out _ _ (hb5) (fun hHeld => ?_)
        clear hK K
        refine wpAnyH_take (i := 6) (v := .agg #[.int .i64 o, .int .i64 dd, .int .i64 ee, .int .i64 cc, .slice A1 l.length c1]) rfl (by kernel_rfl) (by kernel_rfl) (by kernel_rfl) (fun _ _ _ h => h) (Or.inl ⟨by rfl, ?_⟩) (by first | assumption | exact trivial) ?_
        · intro W hSW; go_simp; try (with_reducible rfl)
        simp only [Act.put, List.getElem_toArray, List.getElem_cons_succ, List.getElem_cons_zero, List.setIfInBounds_toArray, List.set_cons_zero, List.set_cons_succ]
        refine wpAnyH_ready (rs := [8]) (by kernel_rfl) (by simp) ?_
        refine AllReadyH.cons rfl (fun K hK => ?_) AllReadyH.nil
        rw [if_pos (by kernel_rfl)]
        refine wp_store_row 26 (.tmp 3) (.tmp 19) rfl D #[.int .i64 o, .int .i64 dd, .int .i64 ee, .int .i64 cc, .slice A1 l.length c1] rfl (by rfl) 26 _ hD5 (by kernel_rfl) rfl (msg_one _ _ _ _ _ _ _) ?_
        simp only [Act.put, List.getElem_toArray, List.getElem_cons_succ, List.getElem_cons_zero, List.setIfInBounds_toArray, List.set_cons_zero, List.set_cons_succ]
        obtain ⟨V9, hV9⟩ : ∃ V, w5.setRow D #[.int .i64 o, .int .i64 dd, .int .i64 ee, .int .i64 cc, .slice A1 l.length c1] = V := ⟨_, rfl⟩
        obtain ⟨hD9, ho9, hb9⟩ := box_put ho5 hD5 hb5 hd6 hV9
        rw [hV9]
        clear hV9
        refine hK.out _ _ (hb9) (fun hHeld => ?_)
        clear hK K
        refine wpAnyH_done (by kernel_rfl) ?_ _
        exact HC _ _ _ _ _ hD9 ho9 p1 p2 hb9 hd6
    case pb =>
      go_simp
      obtain ⟨V6, hV6⟩ : ∃ V, (W0.alloc (.cells #[.int .i64 0, .int .i64 0, .int .i64 0, .int .i64 0, .slice none 0 0] 26)).drew = V := ⟨_, rfl⟩
      have hb6 : Below W0.heap.size W0 V6 := by rw [← hV6]; exact (Me.below_alloc (Below.refl _ _)).drew
      have hD6 : V6.heap[W0.heap.size]? = some (.cells #[.int .i64 0, .int .i64 0, .int .i64 0, .int .i64 0, .slice none 0 0] 26 (0, 0)) := by rw [← hV6]; exact heap_alloc_new W0 _
      have hd6 : W0.heap.size ≤ W0.heap.size := Nat.le_refl _
      obtain ⟨D, hDD⟩ : ∃ D, D = W0.heap.size := ⟨_, rfl⟩
      rw [hV6]
      rw [← hDD] at hD6 ⊢
      have hd6 : W0.heap.size ≤ D := by omega
      clear hV6 hDD
      refine hK.out _ _ (hb6) (fun hHeld => ?_)
      clear hK K
      refine wpAnyH_ready (rs := [2]) (by kernel_rfl) (by simp) ?_
      refine AllReadyH.cons rfl (fun K hK => ?_) AllReadyH.nil
      go_simp
      have hb1 : Below W0.heap.size W0 (V6.alloc (.cells #[] 5)) := Me.below_alloc hb6
      have ho1 : Own (V6.alloc (.cells #[] 5)) W0.heap.size (.slice (some ⟨V6.heap.size, 0, none⟩) 0 0) [] := Own.lit hb6
      have hD1 : (V6.alloc (.cells #[] 5)).heap[D]? = some (.cells #[.int .i64 0, .int .i64 0, .int .i64 0, .int .i64 0, .slice none 0 0] 26 (0, 0)) := (Below.heap_alloc _ _ _ (Array.getElem?_eq_some_iff.1 hD6).1).trans hD6
      obtain ⟨V1, hV1⟩ : ∃ V, V6.alloc (.cells #[] 5) = V := ⟨_, rfl⟩
      rw [hV1] at hb1 ho1 hD1 ⊢
      clear hV1
      refine hK.out _ _ (hb1) (fun hHeld => ?_)
      clear hK K
      refine wpAnyH_ready (rs := [5]) (by kernel_rfl) (by simp) ?_
      refine AllReadyH.cons rfl (fun K hK => ?_) AllReadyH.nil
      rw [if_pos (by kernel_rfl)]
      refine app8b (.tmp 15) (.tmp 17) rfl W0.heap.size _ _ [] l rfl ho1 hb1 hb1.size A c rfl (HRl.out _ hb1) HA.out HLN.out ?_
      intro v5 w5 ho5 hb5 hg5
      have hD5 := grown_msg hD1 hg5 (own_ne ho1 hD1); rw [List.nil_append] at ho5
      obtain ⟨A1, c1, rfl, p1, p2, _⟩ := ho5.held HLb.out
      simp only [Act.put, List.getElem_toArray, List.getElem_cons_succ, List.getElem_cons_zero, List.setIfInBounds_toArray, List.set_cons_zero, List.set_cons_succ]
      refine hK.out _ _ (hb5) (fun hHeld => ?_)
      clear hK K
      refine wpAnyH_take (i := 6) (v := .agg #[.int .i64 o, .int .i64 dd, .int .i64 ee, .int .i64 cc, .slice A1 l.length c1]) rfl (by kernel_rfl) (by kernel_rfl) (by kernel_rfl) (fun _ _ _ h => h) (Or.inl ⟨by rfl, ?_⟩) (by first | assumption | exact trivial) ?_
      · intro W hSW; go_simp; try (with_reducible rfl)
      simp only [Act.put, List.getElem_toArray, List.getElem_cons_succ, List.getElem_cons_zero, List.setIfInBounds_toArray, List.set_cons_zero, List.set_cons_succ]
      refine wpAnyH_ready (rs := [8]) (by kernel_rfl) (by simp) ?_
      refine AllReadyH.cons rfl (fun K hK => ?_) AllReadyH.nil
      rw [if_pos (by kernel_rfl)]
      refine wp_store_row 26 (.tmp 3) (.tmp 19) rfl D #[.int .i64 o, .int .i64 dd, .int .i64 ee, .int .i64 cc, .slice A1 l.length c1] rfl (by rfl) 26 _ hD5 (by kernel_rfl) rfl (msg_one _ _ _ _ _ _ _) ?_
      simp only [Act.put, List.getElem_toArray, List.getElem_cons_succ, List.getElem_cons_zero, List.setIfInBounds_toArray, List.set_cons_zero, List.set_cons_succ]
      obtain ⟨V9, hV9⟩ : ∃ V, w5.setRow D #[.int .i64 o, .int .i64 dd, .int .i64 ee, .int .i64 cc, .slice A1 l.length c1] = V := ⟨_, rfl⟩
      obtain ⟨hD9, ho9, hb9⟩ := box_put ho5 hD5 hb5 hd6 hV9
      rw [hV9]
      clear hV9
      refine hK.out _ _ (hb9) (fun hHeld => ?_)
      clear hK K
      refine wpAnyH_done (by kernel_rfl) ?_ _
      exact HC _ _ _ _ _ hD9 ho9 p1 p2 hb9 hd6

  intro D g2 A1 c1 V9 hD hO p1 p2 hB hd
  have hneD : (Value.slice A1 l.length c1).ownBlock ≠ some D := own_ne hO hD
  have hbs : Hid (BySlice V9 A1 l.length c1 l) := by
    obtain ⟨r1, r2, _, _⟩ := own_rd hO HLb.out
    exact ⟨rfl, p1, p2, r1, r2⟩
  have HDl := Lib.hid ((Array.getElem?_eq_some_iff.1 hD).1)
  obtain ⟨z0, z1, z2, z3, z4⟩ := bx_row hD
  clear hHeld
  go_wp2_with (go_at_call 19; refine (HP.out A1 c1 _ hbs).mono ?_; rintro e w2 ⟨A2, c2, rfl, HO2, HB2⟩)
  have hD2 : w2.heap[D]? = _ := (HB2.out.block D HDl.out).trans hD
  have hO1 : Own w2 W0.heap.size (.slice A1 l.length c1) l := own_same hO fun k _ hk => HB2.out.block k hk
  have hB2 : Below W0.heap.size W0 w2 := hB.trans (HB2.out.mono hB.size)
  have hlt1 : ∀ k, (Value.slice A1 l.length c1).ownBlock = some k → W0.heap.size ≤ k ∧ k < V9.heap.size := fun k e => hO.lt k e
  have HG : Hid (Giv w2 (.slice A1 l.length c1) l.length) := ⟨l, rfl, HLb.out, own_base (B' := 0) hO1 fun _ _ => Nat.zero_le _⟩
  have HDC : Hid (∀ W, But (fun k => (Value.slice A1 l.length c1).ownBlock = some k) w2 W → W.cell? ⟨D, 4, none⟩ = some (.slice A1 l.length c1)) := fun W hW => (bx_row (hW.at_ hD2 hneD)).2.2.2.2
  have HBB : Hid (∀ W, But (fun k => (Value.slice A1 l.length c1).ownBlock = some k) w2 W → Below W0.heap.size W0 W) := fun W hW => hB2.trans (hW.below hB2.size fun k e => (hlt1 k e).1)
  have C2 : Hid (∀ W, But (fun k => (Value.slice A1 l.length c1).ownBlock = some k) w2 W → (convert 24 9 (.slice A2 lp.length c2)).run Tryd.prog W = .ok (.string (strOf lp)) W) := fun W hW => by
    have o2 := own_same HO2.out fun k e hk => hW.same k hk fun e' => by have := (hlt1 k e').2; have := (HO2.out.lt k e).1; omega
    obtain ⟨r1, r2, _, _⟩ := own_rd o2 HLp.out
    exact conv_rd W _ A2 lp c2 r1 r2
  have HND := Lib.hid hneD
  clear hD hO hneD hbs z0 z1 z2 z3 z4 hB hd HO2 HB2 hD2 hO1 hB2 hlt1 p1 p2 HDl HP
  go_loopw [6] (fun i wr => ∃ k : Nat, k ≤ l.length ∧ i = .int .i64 k ∧ Hid (Giv wr (.slice A1 l.length c1) l.length) ∧ Hid (But (fun k => (Value.slice A1 l.length c1).ownBlock = some k) w2 wr)) (fun i _ => l.length - (intOf i).toNat)
  case atStart => exact ⟨0, Nat.zero_le _, rfl, HG.out, But.refl _ _⟩
  case round =>
    obtain ⟨k, hk, rfl, HGV, HBT⟩ := hrel
    have z4 := HDC.out wr HBT.out
    by_cases hlt : k < l.length
    · obtain ⟨g, y, rfl, hy, hc1, hf1, hob⟩ := HGV.out.cell hlt
      have HOB := Lib.hid hob
      have ht := turn8 hy
      have HT := Lib.hid ht
      have HY : Hid (255 - y < 256) := by show _ < _; omega
      have hDg : ¬ D = g := fun e => HND.out (by rw [hob, e])
      have HDg := Lib.hid hDg
      have ht2 : (255 - (y : Int)) % 256 = ((255 - y : Nat) : Int) := by omega
      have hL2 : l.length ≤ 140737488355328 := by have h := HLN.out; simpa using h
      have hkL : (k : Int) < (l.length : Int) := by omega
      clear hob hDg
      go_wp2
      have S0 : wr.drew.cell? ⟨D, 4, none⟩ = some (.slice (some ⟨g, 0, none⟩) l.length c1) := z4
      have hc2 : wr.drew.cell? ⟨g, k, none⟩ = some (.int .u8 (y : Int)) := hc1
      have hf2 : wr.drew.frozen? ⟨g, k, none⟩ = false := hf1
      refine wp_region_held_drew (S := fun W => W.cell? ⟨D, 4, none⟩ = some (.slice (some ⟨g, 0, none⟩) l.length c1)) (by kernel_rfl) S0 (fun hHeld => ?_)
      refine wpAnyH_take (i := 0) (v := .pointer (some ⟨D, 4, none⟩)) rfl (by kernel_rfl) (by kernel_rfl) (by kernel_rfl) (fun _ _ _ h => h) (Or.inl ⟨by rfl, ?_⟩) (by first | assumption | exact trivial) ?_
      · intro W hSW; go_simp; try (with_reducible rfl)
      simp only [Act.put, List.getElem_toArray, List.getElem_cons_succ, List.getElem_cons_zero, List.setIfInBounds_toArray, List.set_cons_zero, List.set_cons_succ]
      refine wpAnyH_take (i := 1) (v := .slice (some ⟨g, 0, none⟩) l.length c1) rfl (by kernel_rfl) (by kernel_rfl) (by kernel_rfl) (fun _ _ _ h => h) (Or.inl ⟨by rfl, ?_⟩) (by first | assumption | exact trivial) ?_
      · intro W hSW; have q := hSW; go_simp; try (with_reducible rfl)
      simp only [Act.put, List.getElem_toArray, List.getElem_cons_succ, List.getElem_cons_zero, List.setIfInBounds_toArray, List.set_cons_zero, List.set_cons_succ]
      refine wpAnyH_take (i := 2) (v := .int .i64 (k : Int)) rfl (by kernel_rfl) (by kernel_rfl) (by kernel_rfl) (fun _ _ _ h => h) (Or.inl ⟨by rfl, ?_⟩) (by first | assumption | exact trivial) ?_
      · intro W hSW; go_simp; try (with_reducible rfl)
      simp only [Act.put, List.getElem_toArray, List.getElem_cons_succ, List.getElem_cons_zero, List.setIfInBounds_toArray, List.set_cons_zero, List.set_cons_succ]
      refine wpAnyH_take (i := 3) (v := .pointer (some ⟨D, 4, none⟩)) rfl (by kernel_rfl) (by kernel_rfl) (by kernel_rfl) (fun _ _ _ h => h) (Or.inl ⟨by rfl, ?_⟩) (by first | assumption | exact trivial) ?_
      · intro W hSW; go_simp; try (with_reducible rfl)
      simp only [Act.put, List.getElem_toArray, List.getElem_cons_succ, List.getElem_cons_zero, List.setIfInBounds_toArray, List.set_cons_zero, List.set_cons_succ]
      refine wpAnyH_take (i := 4) (v := .slice (some ⟨g, 0, none⟩) l.length c1) rfl (by kernel_rfl) (by kernel_rfl) (by kernel_rfl) (fun _ _ _ h => h) (Or.inl ⟨by rfl, ?_⟩) (by first | assumption | exact trivial) ?_
      · intro W hSW; have q := hSW; go_simp; try (with_reducible rfl)
      simp only [Act.put, List.getElem_toArray, List.getElem_cons_succ, List.getElem_cons_zero, List.setIfInBounds_toArray, List.set_cons_zero, List.set_cons_succ]
      refine wpAnyH_take (i := 5) (v := .int .i64 (k : Int)) rfl (by kernel_rfl) (by kernel_rfl) (by kernel_rfl) (fun _ _ _ h => h) (Or.inl ⟨by rfl, ?_⟩) (by first | assumption | exact trivial) ?_
      · intro W hSW; go_simp; try (with_reducible rfl)
      simp only [Act.put, List.getElem_toArray, List.getElem_cons_succ, List.getElem_cons_zero, List.setIfInBounds_toArray, List.set_cons_zero, List.set_cons_succ]
      refine wpAnyH_take (i := 6) (v := .pointer (some ⟨g, k, none⟩)) rfl (by kernel_rfl) (by kernel_rfl) (by kernel_rfl) (fun _ _ _ h => h) (Or.inl ⟨by rfl, ?_⟩) (by first | assumption | exact trivial) ?_
      · intro W hSW; go_simp; try (with_reducible rfl)
      simp only [Act.put, List.getElem_toArray, List.getElem_cons_succ, List.getElem_cons_zero, List.setIfInBounds_toArray, List.set_cons_zero, List.set_cons_succ]
      refine wpAnyH_ready (rs := [7]) (by kernel_rfl) (by simp) ?_
      refine AllReadyH.cons rfl (fun K hK => ?_) AllReadyH.nil
      go_simp
      refine hK.out _ _ (S0) (fun hHeld => ?_)
      clear hK K
      refine wpAnyH_take (i := 8) (v := .int .u8 ((255 - y : Nat) : Int)) rfl (by kernel_rfl) (by kernel_rfl) (by kernel_rfl) (fun _ _ _ h => h) (Or.inl ⟨by rfl, ?_⟩) (by first | assumption | exact trivial) ?_
      · intro W hSW; go_simp; try (with_reducible rfl)
      simp only [Act.put, List.getElem_toArray, List.getElem_cons_succ, List.getElem_cons_zero, List.setIfInBounds_toArray, List.set_cons_zero, List.set_cons_succ]
      refine wpAnyH_take (i := 9) (v := .pointer (some ⟨g, k, none⟩)) rfl (by kernel_rfl) (by kernel_rfl) (by kernel_rfl) (fun _ _ _ h => h) (Or.inl ⟨by rfl, ?_⟩) (by first | assumption | exact trivial) ?_
      · intro W hSW; go_simp; try (with_reducible rfl)
      simp only [Act.put, List.getElem_toArray, List.getElem_cons_succ, List.getElem_cons_zero, List.setIfInBounds_toArray, List.set_cons_zero, List.set_cons_succ]
      refine wpAnyH_ready (rs := [10]) (by kernel_rfl) (by simp) ?_
      refine AllReadyH.cons rfl (fun K hK => ?_) AllReadyH.nil
      go_simp
      refine hK.out _ _ (((World.cell?_of_block (w := wr.drew) (Below.heap_setCell wr.drew ⟨g, k, none⟩ _ D HDg.out)).trans S0)) (fun hHeld => ?_)
      clear hK K
      refine wpAnyH_done (by kernel_rfl) ?_ _
      have HN : Hid (Giv (wr.setCell ⟨g, k, none⟩ (.int .u8 ((255 - y : Nat) : Int))).drew (.slice (some ⟨g, 0, none⟩) l.length c1) l.length) := Giv.put (w := wr.drew) HGV.out HY.out
      have HT2 : Hid (But (fun k => (Value.slice (some ⟨g, 0, none⟩) l.length c1).ownBlock = some k) w2 (wr.setCell ⟨g, k, none⟩ (.int .u8 ((255 - y : Nat) : Int))).drew) := But.set (X := wr.drew) ⟨HBT.out.os, HBT.out.tape, HBT.out.output, HBT.out.size, HBT.out.same⟩ (.inl HOB.out) _
      obtain ⟨W9, hW9⟩ : ∃ W, (wr.setCell ⟨g, k, none⟩ (.int .u8 ((255 - y : Nat) : Int))).drew = W := ⟨_, rfl⟩
      rw [hW9] at HN HT2
      try rw [hW9]
      clear hW9 S0 hc2 hf2 hc1 hf1 z4
      go_wp2
      go_roundw
      case rel => exact ⟨k + 1, by omega, by go_num, HN.out, HT2.out⟩
      case measure => simp [intOf]; omega
    · obtain rfl : k = l.length := by omega
      have hbw0 := HBB.out wr HBT.out
      have HB0 := Lib.hid hbw0
      have hms : Hid (BySlice wr A l.length c l) := by_below HI.out.1 (HBW.out.trans (hbw0.mono HBW.out.size))
      obtain ⟨x0, x1, x2, x3, x4, bw⟩ := HX.out wr hbw0
      clear hbw0 bw hlt hk
      go_wp2_with (first
        | (go_at_call 20; refine (HRP.out _ hms).mono ?_; rintro e w4 ⟨A4, c4, rfl, HO4, HB4⟩; have hb4 := Lib.hid (HB0.out.trans (HB4.out.mono HB0.out.size)); obtain ⟨x0, x1, x2, x3, x4, bw⟩ := HX.out w4 hb4.out)
        | (go_at_call 21; refine (HD.out _).mono ?_; rintro e w5 ⟨A5, c5, rfl, HO5, HB5⟩; have hb5 := Lib.hid (hb4.out.trans (HB5.out.mono hb4.out.size)); obtain ⟨x0, x1, x2, x3, x4, bw⟩ := HX.out w5 hb5.out)
        | (go_at_call 22; refine (HRD.out _).mono ?_; rintro e w6 ⟨A6, c6, rfl, HO6, HB6⟩; have hb6 := Lib.hid (hb5.out.trans (HB6.out.mono hb5.out.size)); have h56 := HB5.out.trans (HB6.out.mono HB5.out.size); have h46 := HB4.out.trans (h56.mono HB4.out.size); have k2 := C2.out w6 (HBT.out.trans (But.of_below (S := fun _ => False) h46) fun _ _ e => e.elim); have k4 := conv_own HO4.out HLp.out h56; have k5 := conv_own HO5.out HLd.out HB6.out; have k6 := conv_own HO6.out HLd.out (Below.refl _ _))
        | (go_at_call 14; refine (awake_any _).mono ?_; rintro e w7 ⟨rfl, HB7⟩))
      go_ret
      exact ⟨rfl, HBW.out.trans ((hb6.out.trans (HB7.out.mono hb6.out.size)).mono HBW.out.size)⟩
end Go.Proofs.YtljndfkmppmbkaaDoor.Mg
