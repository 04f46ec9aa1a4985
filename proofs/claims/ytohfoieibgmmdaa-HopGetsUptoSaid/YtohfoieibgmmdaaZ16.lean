/- guess: the word of a kind that bytes can be. -/
import Derived.Test.YtohfoieibgmmdaaZ15
import Derived.Test.YtohfoieibgmmdaaZ11
import Derived.Test.YtohfoieibgmmdaaZ9
namespace Go.Proofs.Ytohfoieibgmmdaa.Hp
open Go.RowKit Go.Shelf
open Go.Proofs.Ytohfoieibgmmdaa.Me Go.Proofs.Ytohfoieibgmmdaa.Sb Go.Proofs.Ytohfoieibgmmdaa.Mg Go.Proofs.Ytohfoieibgmmdaa.Ba Go.Proofs.Ytohfoieibgmmdaa.Ma Go.Proofs.Ytohfoieibgmmdaa.Bt
set_option linter.unusedVariables false
set_option linter.unusedSimpArgs false

/-- What guess answers. -/
def gsW (l : List Nat) (k : Nat) : Wd :=
  if k = 4 then ⟨4, 0, zI, [], intL (l.drop 1), 0⟩ else
  if 9 ≤ l.length then ⟨k, numP l 1 2, getI ((l.drop 3).take 6), l.drop 9, [], 0⟩ else ⟨k, 0, zI, [], [], 0⟩
/-- An answer without an error. -/
def AnsW (x : Wd) (w : World) (e : Ending) (w' : World) : Prop := ∃ A c B d, e = .returned (.agg (hopC x.k x.n x.i A x.p.length c B x.cs.length d)) ∧ Hid (Me.Own w' w.heap.size (.slice A x.p.length c) x.p) ∧ Hid (Mi.Own w' w.heap.size (.slice B x.cs.length d) x.cs) ∧ Hid (Below w.heap.size w w')
theorem wd_eta {x : Wd} (h : x.e = 0) : (⟨x.k, x.n, x.i, x.p, x.cs, 0⟩ : Wd) = x := by
  obtain ⟨a, b, c, d, e, f⟩ := x
  simp only at h
  subst h
  rfl
theorem gs_hit {l : List Nat} {k : Nat} (hl : ∀ z ∈ l, z < 256) (h : hopN (gsW l k).k (gsW l k).n (gsW l k).i (gsW l k).p.length (gsW l k).cs = 0) (hp : putH (gsW l k).k (gsW l k).n (gsW l k).i (gsW l k).p (gsW l k).cs = l) : gtW l = gsW l k := by
  have hpl : ∀ z ∈ (gsW l k).p, z < 256 := by
    unfold gsW
    split
    · simp
    · split
      · exact fun z hz => hl z (List.mem_of_mem_drop hz)
      · simp
  have h1 := (put_gt h hpl).1
  rw [hp] at h1
  rw [h1]
  simp only [Int.toNat_natCast]
  have he : (gsW l k).e = 0 := by
    unfold gsW
    split
    · rfl
    · split <;> rfl
  exact wd_eta he
theorem gs_of {l : List Nat} (hl : ∀ z ∈ l, z < 256) (h : (gtW l).e = 0) : gsW l (gtW l).k = gtW l := by
  obtain ⟨h1, h2, h3⟩ := get_pt hl h
  have hz := hop_zero h1
  have hh := h
  rw [h3] at h1 hz hh ⊢
  unfold rdW at h1 hz hh ⊢
  by_cases c1 : l.length < 1
  · rw [if_pos c1] at hh
    cases hh
  · rw [if_neg c1] at h1 hz hh ⊢
    by_cases c4 : by_ l 0 = 4
    · rw [if_pos c4]
      rfl
    · rw [if_neg c4] at h1 hz hh ⊢
      by_cases c3 : l.length < 3
      · rw [if_pos c3] at hh
        cases hh
      · rw [if_neg c3] at h1 hz hh ⊢
        by_cases ck : by_ l 0 = 1
        · rw [if_pos ck] at h1 hz hh ⊢
          simp only at hh ⊢
          have q3 : mgO (l.drop 3) := by
            unfold mZ at hh
            split at hh
            · assumption
            · cases hh
          have h7 := q3.1
          rw [List.length_drop] at h7
          have hc := q3.2.2
          unfold gsW mI mD mZ
          rw [if_neg (by decide), if_pos (by omega), if_pos q3, if_pos q3, if_pos q3]
          unfold getI
          rw [if_pos ⟨by simp; omega, hc⟩, List.drop_drop]
        · rw [if_neg ck] at h1 hz hh ⊢
          simp only at hh ⊢
          have q0 : (l.drop 3).length = 6 ∧ chkN (idOf (l.drop 3)) = 0 := by
            unfold getZ at hh
            split at hh
            · assumption
            · cases hh
          have h6 := q0.1
          rw [List.length_drop] at h6
          unfold gsW
          have e9 : l.drop 9 = [] := List.drop_of_length_le (by omega)
          have e6 : (l.drop 3).take 6 = l.drop 3 := List.take_of_length_le (by rw [List.length_drop]; omega)
          rw [if_neg c4, if_pos (by omega), e9, e6]
          unfold getZ
          rw [if_pos q0]
theorem app1b {w : World} {o : Oper} {a : Act} {K : Act → World → Prop} {Q : Exit → Act → World → Prop} (s x : Operand)
    (ho : o.op = .call { callee := .builtin .append, args := #[s, x], argTypes := #[27, 27] })
    (B : Nat) (v : Value) (l : List Int) (z : Int) (hs : a.eval s = v) (hown : Mi.Own w B v l) (hB : B ≤ w.heap.size)
    (g : Nat) (hx : a.eval x = .slice (some ⟨g, 0, none⟩) 1 1) (hz : w.cell? ⟨g, 0, none⟩ = some (.int .i64 z)) (hlen : (l.length + 1) * 8 ≤ 140737488355328)
    (h : ∀ v' w', Mi.Own w' B v' (l ++ [z]) → w.grownBy w' v.ownBlock → K (a.put o.dst v') w') : o.wp Try.prog a w K Q := by
  obtain ⟨i0, hi, hz0, hz1, hz2⟩ := info_parts Mi.infoI
  obtain ⟨v', w', hr, h2, h3, _⟩ := run_append_own (P := Try.prog) w B 27 o.type 3 i0 (.int .i64 0) 1 8 Try.underlying27 hi hz0 hz1 hz2 rfl (by decide) v l.length (l.map Mi.iV) hown ⟨g, 0, none⟩ 1 1 ([z].map Mi.iV) (by simp) (fun j u hj => by
    obtain rfl : j = 0 := by have := (List.getElem?_eq_some_iff.1 hj).1; simp at this; omega
    simp [Mi.iV] at hj
    subst hj
    rw [Addr.add]
    exact hz) (Mi.one_cells [z]) (by unfold maxLen; omega) hlen hB
  unfold Oper.wp execOp
  simp only [ho, resolve, invoke, builtin, Sem.run_bind, Sem.run_pure, Result.andThen_ok, List.map_toArray, List.map_cons, List.map_nil, hs, hx, hr]
  refine h v' w' ?_ h3
  unfold Mi.Own
  rw [List.length_append, List.map_append]
  exact h2
set_option maxRecDepth 100000 in
set_option maxHeartbeats 1000000 in
theorem guess_routes (A : Option Addr) (n cap : Nat) (l : List Nat) (w : World) (hi : Hid (BySlice w A n cap l)) (hm : l.length ≤ 1048576) :
    Calls Try.prog 46 #[.slice A n cap, .int .i64 4] w (AnsW (gsW l 4) w) := by
  obtain rfl : n = l.length := hi.out.1
  have HE : Hid (gsW l 4 = ⟨4, 0, zI, [], intL (l.drop 1), 0⟩) := rfl
  rw [HE.out]
  have HRD : Hid (∀ W, Below w.heap.size w W → Rd W w.heap.size A l) := fun W hW => hi.out.2.2.2.1.below hW
  have hb0 : Below w.heap.size w (w.alloc (.cells #[.int .i64 0, .int .i64 0, .int .i64 0, .int .i64 0, .int .i64 0, .int .i64 0, .slice none 0 0, .slice none 0 0] 29 (0, 0))) := Me.below_alloc (Below.refl _ _)
  obtain ⟨W0, hW0⟩ : ∃ W, (w.alloc (.cells #[.int .i64 0, .int .i64 0, .int .i64 0, .int .i64 0, .int .i64 0, .int .i64 0, .slice none 0 0, .slice none 0 0] 29 (0, 0))).alloc (.cells #[.int .i64 4, .int .i64 0, .int .i64 0, .int .i64 0, .int .i64 0, .int .i64 0, .slice none 0 0, .slice none 0 0] 29 (0, 0)) = W := ⟨_, rfl⟩
  have HW0 := Lib.hid hW0
  have HB0 : Hid (Below w.heap.size w W0) := by show Below _ _ _; rw [← hW0]; exact Me.below_alloc hb0
  have HZ0 : Hid (W0.heap[w.heap.size]? = some (.cells #[.int .i64 0, .int .i64 0, .int .i64 0, .int .i64 0, .int .i64 0, .int .i64 0, .slice none 0 0, .slice none 0 0] 29 (0, 0))) := by show _ = _; rw [← hW0]; exact (Below.heap_alloc _ _ _ (by simp)).trans (heap_alloc_new w _)
  have HR0 : Hid (W0.heap[w.heap.size + 1]? = some (.cells #[.int .i64 4, .int .i64 0, .int .i64 0, .int .i64 0, .int .i64 0, .int .i64 0, .slice none 0 0, .slice none 0 0] 29 (0, 0))) := by
    show _ = _
    rw [← hW0]
    have := heap_alloc_new (w.alloc (.cells #[.int .i64 0, .int .i64 0, .int .i64 0, .int .i64 0, .int .i64 0, .int .i64 0, .slice none 0 0, .slice none 0 0] 29 (0, 0))) (.cells #[.int .i64 4, .int .i64 0, .int .i64 0, .int .i64 0, .int .i64 0, .int .i64 0, .slice none 0 0, .slice none 0 0] 29 (0, 0))
    rw [World.size_alloc] at this
    exact this
  obtain ⟨L, hL⟩ : ∃ L, l.length = L := ⟨_, rfl⟩
  have HL := Lib.hid hL
  rw [hL] at hm ⊢
  clear hi hW0 hb0 hL HE
  go_enter Try.func46, Try.ntmps46
  go_wp2_with (rw [HW0.out])
  have HOi : Hid (Mi.Own W0 (w.heap.size + 2) (.slice none 0 0) (intL ((l.drop 1).take 0))) := Mi.Own.nil _ _
  go_loopw [6] (fun v wr => ∃ (j : Nat) (B : Option Addr) (d : Nat), 1 ≤ j ∧ j ≤ L + 1 ∧ (1 ≤ L → j ≤ L) ∧ v = .int .i64 j ∧ Hid (wr.heap[w.heap.size]? = some (.cells #[.int .i64 0, .int .i64 0, .int .i64 0, .int .i64 0, .int .i64 0, .int .i64 0, .slice none 0 0, .slice none 0 0] 29 (0, 0))) ∧ Hid (wr.heap[w.heap.size + 1]? = some (.cells #[.int .i64 4, .int .i64 0, .int .i64 0, .int .i64 0, .int .i64 0, .int .i64 0, .slice none 0 0, .slice B (j - 1) d] 29 (0, 0))) ∧ Hid (Mi.Own wr (w.heap.size + 2) (.slice B (j - 1) d) (intL ((l.drop 1).take (j - 1)))) ∧ Hid (Below w.heap.size w wr)) (fun v _ => L - (intOf v).toNat)
  case atStart => exact ⟨1, none, 0, Nat.le_refl _, by omega, fun h => h, rfl, HZ0.out, HR0.out, HOi, HB0⟩
  case round =>
    obtain ⟨j, B, d, h1j, hjL, hjm, rfl, HZw, HRw, HO, HB⟩ := hrel
    clear HZ0 HR0 HB0 HOi
    obtain ⟨j, rfl⟩ : ∃ m, j = m + 1 := ⟨j - 1, by omega⟩
    simp only [Nat.add_sub_cancel] at HRw HO
    have ej : (((j + 1 : Nat) : Int)) = (j : Int) + 1 := by omega
    rw [ej]
    by_cases hlt : j + 1 < L
    · obtain ⟨b', off', rfl, hb', hc'⟩ := (HRD.out wr HB.out).2 (by rw [HL.out]; omega)
      have u0 := hc' (j + 1) (by rw [HL.out]; exact hlt)
      have hx256 : by_ l (j + 1) < 256 := (HRD.out wr HB.out).lt (by rw [HL.out]; exact hlt)
      have HSN : Hid (intL ((l.drop 1).take (j + 1)) = intL ((l.drop 1).take j) ++ [((by_ l (j + 1) : Nat) : Int)]) := by
        show _ = _
        have hlj : j < (l.drop 1).length := by rw [List.length_drop, HL.out]; omega
        rw [List.take_add_one, List.getElem?_eq_getElem hlj, List.getElem_drop, by_get (by rw [HL.out]; exact hlt)]
        unfold intL
        rw [List.map_append]
        simp only [Nat.add_comm 1 j]
        rfl
      have HJl : Hid ((intL ((l.drop 1).take j)).length = j) := by show _ = _; have := HL.out; simp [intL]; omega
      obtain ⟨x, hx⟩ : ∃ x, by_ l (j + 1) = x := ⟨_, rfl⟩
      rw [hx] at u0 hx256 HSN
      have HXX := Lib.hid hx
      have HC1 : Hid (∀ W, Below wr.heap.size wr W → W.cell? ⟨w.heap.size + 1, 7, none⟩ = some (.slice B j d) ∧ W.cell? ⟨b', off' + (j + 1), none⟩ = some (.int .u8 (x : Int))) := fun W hW => by
        have c1 := fun (p : Addr) (v : Value) (h : wr.cell? p = some v) => (hW.cell (p := p) (World.block_lt_of_cell? wr _ h)).trans h
        exact ⟨c1 _ _ (hx_row (i := zI) HRw.out).2.2.2.2.2.2.2, c1 _ _ u0⟩
      have HX2 := Lib.hid hx256
      have hg1 : (j : Int) + 1 < (L : Int) := by omega
      have HWL : Hid (w.heap.size + 2 ≤ wr.heap.size) := (Array.getElem?_eq_some_iff.1 HRw.out).1
      have HLT := Lib.hid hlt
      clear hx hc' u0
      go_wp2
      have S0 : wr.drew.cell? ⟨b', off' + (j + 1), none⟩ = some (.int .u8 (x : Int)) := (HC1.out wr (Below.refl _ _)).2
      have c70 := (HC1.out _ (Below.refl wr.heap.size wr).drew).1
      have HM := Lib.hid hm
      have HRD9 : Hid (∀ W, Below w.heap.size w W → W.cell? ⟨b', off' + (j + 1), none⟩ = some (.int .u8 (x : Int))) := fun W hW => by
        have h := (HRD.out W hW).2 (by rw [HL.out]; have := HLT.out; omega)
        obtain ⟨b2, off2, e2, _, hc2⟩ := h
        cases e2
        rw [hc2 (j + 1) (by rw [HL.out]; exact HLT.out), HXX.out]
      refine wp_region_held_drew (S := fun W => W.cell? ⟨b', off' + (j + 1), none⟩ = some (.int .u8 (x : Int))) (by kernel_rfl) S0 (fun hHeld => ?_)
      refine wpAnyH_take (i := 0) (v := .pointer (some ⟨w.heap.size + 1, 7, none⟩)) rfl (by kernel_rfl) (by kernel_rfl) (by kernel_rfl) (fun _ _ _ h => h) (Or.inl ⟨by rfl, ?_⟩) (by first | assumption | exact trivial) ?_
      · intro W hSW; go_simp; try (with_reducible rfl)
      simp only [Act.put, List.getElem_toArray, List.getElem_cons_succ, List.getElem_cons_zero, List.setIfInBounds_toArray, List.set_cons_zero, List.set_cons_succ]
      refine wpAnyH_take (i := 2) (v := .slice (some ⟨b', off', none⟩) L cap) rfl (by kernel_rfl) (by kernel_rfl) (by kernel_rfl) (fun _ _ _ h => h) (Or.inl ⟨by rfl, ?_⟩) (by first | assumption | exact trivial) ?_
      · intro W hSW; go_simp; try (with_reducible rfl)
      simp only [Act.put, List.getElem_toArray, List.getElem_cons_succ, List.getElem_cons_zero, List.setIfInBounds_toArray, List.set_cons_zero, List.set_cons_succ]
      refine wpAnyH_take (i := 3) (v := .int .i64 ((j : Int) + 1)) rfl (by kernel_rfl) (by kernel_rfl) (by kernel_rfl) (fun _ _ _ h => h) (Or.inl ⟨by rfl, ?_⟩) (by first | assumption | exact trivial) ?_
      · intro W hSW; go_simp; try (with_reducible rfl)
      simp only [Act.put, List.getElem_toArray, List.getElem_cons_succ, List.getElem_cons_zero, List.setIfInBounds_toArray, List.set_cons_zero, List.set_cons_succ]
      refine wpAnyH_take (i := 4) (v := .pointer (some ⟨b', off' + (j + 1), none⟩)) rfl (by kernel_rfl) (by kernel_rfl) (by kernel_rfl) (fun _ _ _ h => h) (Or.inl ⟨by rfl, ?_⟩) (by first | assumption | exact trivial) ?_
      · intro W hSW; have z : ¬ (j : Int) + 1 < 0 := (by omega); have q := hg1; go_simp; try (with_reducible rfl)
      simp only [Act.put, List.getElem_toArray, List.getElem_cons_succ, List.getElem_cons_zero, List.setIfInBounds_toArray, List.set_cons_zero, List.set_cons_succ]
      refine wpAnyH_take (i := 5) (v := .int .u8 (x : Int)) rfl (by kernel_rfl) (by kernel_rfl) (by kernel_rfl) (fun _ _ _ h => h) (Or.inl ⟨by rfl, ?_⟩) (by first | assumption | exact trivial) ?_
      · intro W hSW; have q := hSW; go_simp; try (with_reducible rfl)
      simp only [Act.put, List.getElem_toArray, List.getElem_cons_succ, List.getElem_cons_zero, List.setIfInBounds_toArray, List.set_cons_zero, List.set_cons_succ]
      refine wpAnyH_take (i := 6) (v := .int .i64 (x : Int)) rfl (by kernel_rfl) (by kernel_rfl) (by kernel_rfl) (fun _ _ _ h => h) (Or.inl ⟨by rfl, ?_⟩) (by first | assumption | exact trivial) ?_
      · intro W hSW; have q : IntKind.i64.wrap (x : Int) = (x : Int) := (by have := HX2.out; exact u64_i64 (by omega)); go_simp; try (with_reducible rfl)
      simp only [Act.put, List.getElem_toArray, List.getElem_cons_succ, List.getElem_cons_zero, List.setIfInBounds_toArray, List.set_cons_zero, List.set_cons_succ]
      refine wpAnyH_ready (rs := [1, 7]) (by kernel_rfl) (by simp) ?_
      refine AllReadyH.cons rfl (fun K hK => ?pa) (AllReadyH.cons rfl (fun K hK => ?pb) AllReadyH.nil)
      case' pa =>
        go_simp
        refine hK.out _ _ (S0) (fun hHeld => ?_)
        clear hK K
        refine wpAnyH_ready (rs := [7]) (by kernel_rfl) (by simp) ?_
        refine AllReadyH.cons rfl (fun K hK => ?_) AllReadyH.nil
        go_simp
        obtain ⟨V7, hV7⟩ : ∃ V, (wr.alloc (.cells #[.int .i64 (x : Int)] 3)).drew = V := ⟨_, rfl⟩
        have HB7 : Below wr.heap.size wr V7 := by rw [← hV7]; exact (Me.below_alloc (Below.refl wr.heap.size wr)).drew
        have hlit : V7.cell? ⟨wr.heap.size, 0, none⟩ = some (.int .i64 (x : Int)) := by rw [← hV7]; show (wr.alloc _).cell? _ = _; rw [cell_of_row _ _ 0 _ _ (0, 0) (heap_alloc_new wr _)]; rfl
        rw [hV7]
        clear hV7
        refine hK.out _ _ ((HRD9.out V7 (HB.out.trans (HB7.mono HB.out.size)))) (fun hHeld => ?_)
        clear hK K
      case' pb =>
        go_simp
        obtain ⟨V7, hV7⟩ : ∃ V, (wr.alloc (.cells #[.int .i64 (x : Int)] 3)).drew = V := ⟨_, rfl⟩
        have HB7 : Below wr.heap.size wr V7 := by rw [← hV7]; exact (Me.below_alloc (Below.refl wr.heap.size wr)).drew
        have hlit : V7.cell? ⟨wr.heap.size, 0, none⟩ = some (.int .i64 (x : Int)) := by rw [← hV7]; show (wr.alloc _).cell? _ = _; rw [cell_of_row _ _ 0 _ _ (0, 0) (heap_alloc_new wr _)]; rfl
        rw [hV7]
        clear hV7
        refine hK.out _ _ ((HRD9.out V7 (HB.out.trans (HB7.mono HB.out.size)))) (fun hHeld => ?_)
        clear hK K
        refine wpAnyH_ready (rs := [1]) (by kernel_rfl) (by simp) ?_
        refine AllReadyH.cons rfl (fun K hK => ?_) AllReadyH.nil
        have c7 := (HC1.out V7 HB7).1
        go_simp
        refine hK.out _ _ ((HRD9.out V7 (HB.out.trans (HB7.mono HB.out.size)))) (fun hHeld => ?_)
        clear hK K
      all_goals
        have hO7 := HO.out.below HB7
        have hR7 : V7.heap[w.heap.size + 1]? = some (.cells #[.int .i64 4, .int .i64 0, .int .i64 0, .int .i64 0, .int .i64 0, .int .i64 0, .slice none 0 0, .slice B j d] 29 (0, 0)) := (HB7.block _ HWL.out).trans HRw.out
        refine wpAnyH_ready (rs := [8]) (by kernel_rfl) (by simp) ?_
        refine AllReadyH.cons rfl (fun K hK => ?_) AllReadyH.nil
        rw [if_pos (by kernel_rfl)]
        refine app1b (.tmp 20) (.tmp 26) rfl (w.heap.size + 2) (.slice B j d) (intL ((l.drop 1).take j)) (x : Int) rfl hO7 (Nat.le_trans HWL.out HB7.size) wr.heap.size rfl hlit (by rw [HJl.out]; have := HM.out; have := HLT.out; omega) ?_
        intro v9 w9 ho9 hg9
        rw [← HSN.out] at ho9
        obtain ⟨B9, d9, e9, _, _, _⟩ := ho9.form
        rw [show (intL ((l.drop 1).take (j + 1))).length = j + 1 by have := HL.out; have := HLT.out; simp [intL]; omega] at e9
        subst e9
        have hb9 : ∀ y, y < V7.heap.size → y < w.heap.size + 2 → w9.heap[y]? = V7.heap[y]? := fun y h1 h2 => hg9.block y h1 (by
          intro e
          have := (World.ownsRow.lt hO7 y e.symm).1
          omega)
        have hR9 := (hb9 _ (Nat.lt_of_lt_of_le HWL.out HB7.size) (by omega)).trans hR7
        have f9 := frozen_of_row w9 (w.heap.size + 1) 7 _ _ hR9
        have c9 := (hx_row (i := zI) hR9).2.2.2.2.2.2.2
        have hZ9 : w9.heap[w.heap.size]? = some (.cells #[.int .i64 0, .int .i64 0, .int .i64 0, .int .i64 0, .int .i64 0, .int .i64 0, .slice none 0 0, .slice none 0 0] 29 (0, 0)) := (hb9 _ (by have := HWL.out; have := HB7.size; omega) (by omega)).trans ((HB7.block _ (by have := HWL.out; omega)).trans HZw.out)
        have hB9 : Below w.heap.size w w9 := (HB.out.trans (HB7.mono HB.out.size)).grown hg9 (Nat.le_trans HB.out.size HB7.size) (fun y e => by have := (World.ownsRow.lt hO7 y e).1; omega)
        have S9 : w9.cell? ⟨b', off' + (j + 1), none⟩ = some (.int .u8 (x : Int)) := (HRD9.out w9 hB9)
        simp only [Act.put, List.getElem_toArray, List.getElem_cons_succ, List.getElem_cons_zero, List.setIfInBounds_toArray, List.set_cons_zero, List.set_cons_succ]
        refine hK.out _ _ (S9) (fun hHeld => ?_)
        clear hK K
        refine wpAnyH_take (i := 9) (v := .pointer (some ⟨w.heap.size + 1, 7, none⟩)) rfl (by kernel_rfl) (by kernel_rfl) (by kernel_rfl) (fun _ _ _ h => h) (Or.inl ⟨by rfl, ?_⟩) (by first | assumption | exact trivial) ?_
        · intro W hSW; go_simp; try (with_reducible rfl)
        simp only [Act.put, List.getElem_toArray, List.getElem_cons_succ, List.getElem_cons_zero, List.setIfInBounds_toArray, List.set_cons_zero, List.set_cons_succ]
        refine wpAnyH_ready (rs := [10]) (by kernel_rfl) (by simp) ?_
        refine AllReadyH.cons rfl (fun K hK => ?_) AllReadyH.nil
        go_simp
        obtain ⟨V10, hV10⟩ : ∃ W, w9.setCell ⟨w.heap.size + 1, 7, none⟩ (.slice B9 (j + 1) d9) = W := ⟨_, rfl⟩
        have hR10 : V10.heap[w.heap.size + 1]? = some (.cells #[.int .i64 4, .int .i64 0, .int .i64 0, .int .i64 0, .int .i64 0, .int .i64 0, .slice none 0 0, .slice B9 (j + 1) d9] 29 (0, 0)) := by rw [← hV10, heap_setCell_same w9 _ 7 _ _ _ hR9]; rfl
        have hB10 : Below w.heap.size w V10 := by rw [← hV10]; exact hB9.setCell (p := ⟨w.heap.size + 1, 7, none⟩) (Nat.le_succ _) _
        have hZ10 : V10.heap[w.heap.size]? = some (.cells #[.int .i64 0, .int .i64 0, .int .i64 0, .int .i64 0, .int .i64 0, .int .i64 0, .slice none 0 0, .slice none 0 0] 29 (0, 0)) := by rw [← hV10]; exact (Below.heap_setCell w9 _ _ _ (by show w.heap.size ≠ w.heap.size + 1; omega)).trans hZ9
        have hO10 : Mi.Own V10 (w.heap.size + 2) (.slice B9 (j + 1) d9) (intL ((l.drop 1).take (j + 1))) := by
          rw [← hV10]
          refine ho9.same fun y e hy => Below.heap_setCell w9 _ _ y ?_
          have := (World.ownsRow.lt ho9 y e).1
          show y ≠ w.heap.size + 1
          omega
        rw [hV10]
        clear hV10
        refine hK.out _ _ ((HRD9.out V10 hB10)) (fun hHeld => ?_)
        clear hK K
        refine wpAnyH_done (by kernel_rfl) ?_ _
        have HR10 := Lib.hid hR10
        have HZ10 := Lib.hid hZ10
        have HB10 := Lib.hid hB10
        have HO10 := Lib.hid hO10
        clear hR10 hZ10 hB10 hO10 S9 hB9 hZ9 c9 f9 hR9 hb9 hg9 ho9 hR7 hO7 hlit HB7 S0 c70 hHeld
        go_wp2
        go_roundw
        case rel => exact ⟨j + 1 + 1, B9, d9, by omega, by have := HLT.out; omega, fun _ => by have := HLT.out; omega, by go_num, HZ10.out, HR10.out, HO10.out, HB10.out⟩
        case measure => simp [intOf]; omega
    · have HJ : Hid (L ≤ j + 1) := by show _ ≤ _; omega
      have HJ2 : Hid (1 ≤ L → j + 1 ≤ L) := hjm
      have HJ3 : Hid (j + 1 ≤ L + 1) := hjL
      have c77 := (hx_row (i := zI) HRw.out)
      have hg1 : ¬ (j : Int) + 1 < (L : Int) := by omega
      have hg2 : (L : Int) ≤ (j : Int) + 1 := by omega
      go_wp2_with (first
        | (refine wpList_load_row rfl 29 (.tmp 5) rfl (w.heap.size + 1) rfl 29 _ (0, 0) _ HRw.out Try.underlying29 rfl (by kernel_rfl) ?_)
        | (refine wpList_store_row rfl 29 (.tmp 4) (.tmp 29) rfl w.heap.size #[.int .i64 4, .int .i64 0, .int .i64 0, .int .i64 0, .int .i64 0, .int .i64 0, .slice none 0 0, .slice B j d] rfl rfl 29 _ HZw.out (by kernel_rfl) rfl (hop_one _ _ _ _ _ _ _ _ _ _ _ _) ?_))
      have hql : (intL (l.drop 1)).length = j := by
        have h1 := HL.out
        have h2 := HJ.out
        have h3 := HJ2.out
        have h4 := HJ3.out
        have h5 : (intL ((l.drop 1).take j)).length = j := by
          obtain ⟨B6, d6, e6, _, _, _⟩ := HO.out.form
          injection e6 with _ e7 _
          exact e7.symm
        simp only [intL, List.length_map, List.length_drop, List.length_take] at h5 ⊢
        omega
      have hqt : (l.drop 1).take j = l.drop 1 := List.take_of_length_le (by rw [← hql]; simp [intL])
      have ho := HO.out
      rw [hqt] at ho
      rw [List.drop_one] at ho hql
      refine ret_arr rfl rfl (setRow_heap _ _ _ _ _ _ HZw.out) rfl Try.underlying29 (by kernel_rfl) rfl ⟨none, 0, B, d, by simp only [hql]; rfl, Me.Own.nil _ _, ?_, Sb.below_setRow _ HB.out (Nat.le_refl _)⟩
      show Mi.Own _ _ (.slice B (intL l.tail).length d) _
      rw [hql]
      refine (ho.base fun y e => by have := (World.ownsRow.lt ho y e).1; omega).same fun y e hy => setRow_other _ _ y _ ?_
      have := (World.ownsRow.lt ho y e).1
      omega
end Go.Proofs.Ytohfoieibgmmdaa.Hp
/- guess: the word of a kind that bytes can be. -/
namespace Go.Proofs.Ytohfoieibgmmdaa.Hp
open Go.RowKit Go.Shelf
open Go.Proofs.Ytohfoieibgmmdaa.Me Go.Proofs.Ytohfoieibgmmdaa.Sb Go.Proofs.Ytohfoieibgmmdaa.Mg Go.Proofs.Ytohfoieibgmmdaa.Ba Go.Proofs.Ytohfoieibgmmdaa.Ma Go.Proofs.Ytohfoieibgmmdaa.Bt
set_option linter.unusedVariables false
set_option linter.unusedSimpArgs false

set_option maxRecDepth 100000 in
theorem guess_no (A : Option Addr) (n cap : Nat) (l : List Nat) (k : Nat) (w : World) (hi : Hid (BySlice w A n cap l)) (hk : k ≠ 4) (h9 : l.length < 9) :
    Calls Try.prog 46 #[.slice A n cap, .int .i64 (k : Int)] w (AnsW (gsW l k) w) := by
  obtain rfl : n = l.length := hi.out.1
  have HE : Hid (gsW l k = ⟨k, 0, zI, [], [], 0⟩) := by show _ = _; unfold gsW; rw [if_neg hk, if_neg (by omega)]
  rw [HE.out]
  have hb0 : Below w.heap.size w (w.alloc (.cells #[.int .i64 0, .int .i64 0, .int .i64 0, .int .i64 0, .int .i64 0, .int .i64 0, .slice none 0 0, .slice none 0 0] 29 (0, 0))) := Me.below_alloc (Below.refl _ _)
  obtain ⟨W0, hW0⟩ : ∃ W, (w.alloc (.cells #[.int .i64 0, .int .i64 0, .int .i64 0, .int .i64 0, .int .i64 0, .int .i64 0, .slice none 0 0, .slice none 0 0] 29 (0, 0))).alloc (.cells #[.int .i64 (k : Int), .int .i64 0, .int .i64 0, .int .i64 0, .int .i64 0, .int .i64 0, .slice none 0 0, .slice none 0 0] 29 (0, 0)) = W := ⟨_, rfl⟩
  have HW0 := Lib.hid hW0
  have HB0 : Hid (Below w.heap.size w W0) := by show Below _ _ _; rw [← hW0]; exact Me.below_alloc hb0
  have HZ0 : Hid (W0.heap[w.heap.size]? = some (.cells #[.int .i64 0, .int .i64 0, .int .i64 0, .int .i64 0, .int .i64 0, .int .i64 0, .slice none 0 0, .slice none 0 0] 29 (0, 0))) := by show _ = _; rw [← hW0]; exact (Below.heap_alloc _ _ _ (by simp)).trans (heap_alloc_new w _)
  have HR0 : Hid (W0.heap[w.heap.size + 1]? = some (.cells #[.int .i64 (k : Int), .int .i64 0, .int .i64 0, .int .i64 0, .int .i64 0, .int .i64 0, .slice none 0 0, .slice none 0 0] 29 (0, 0))) := by
    show _ = _
    rw [← hW0]
    have := heap_alloc_new (w.alloc (.cells #[.int .i64 0, .int .i64 0, .int .i64 0, .int .i64 0, .int .i64 0, .int .i64 0, .slice none 0 0, .slice none 0 0] 29 (0, 0))) (.cells #[.int .i64 (k : Int), .int .i64 0, .int .i64 0, .int .i64 0, .int .i64 0, .int .i64 0, .slice none 0 0, .slice none 0 0] 29 (0, 0))
    rw [World.size_alloc] at this
    exact this
  obtain ⟨L, hL⟩ : ∃ L, l.length = L := ⟨_, rfl⟩
  rw [hL] at h9 ⊢
  have hk4 : ((k : Int) == 4) = false := beq_eq_false_iff_ne.mpr (by omega)
  have h9i : ¬ (9 : Int) ≤ (L : Int) := by omega
  have h9j : (L : Int) < 9 := by omega
  clear hi hW0 hb0 hL HE hk h9
  go_enter Try.func46, Try.ntmps46
  go_wp2_with (first
    | (rw [HW0.out])
    | (refine wpList_load_row rfl 29 (.tmp 5) rfl (w.heap.size + 1) rfl 29 _ (0, 0) _ HR0.out Try.underlying29 rfl (by kernel_rfl) ?_)
    | (refine wpList_store_row rfl 29 (.tmp 4) (.tmp 55) rfl w.heap.size #[.int .i64 (k : Int), .int .i64 0, .int .i64 0, .int .i64 0, .int .i64 0, .int .i64 0, .slice none 0 0, .slice none 0 0] rfl rfl 29 _ HZ0.out (by kernel_rfl) rfl (hop_one _ _ _ _ _ _ _ _ _ _ _ _) ?_))
  exact ret_arr rfl rfl (setRow_heap _ _ _ _ _ _ HZ0.out) rfl Try.underlying29 (by kernel_rfl) rfl ⟨none, 0, none, 0, rfl, Me.Own.nil _ _, Mi.Own.nil _ _, Sb.below_setRow _ HB0.out (Nat.le_refl _)⟩
set_option maxRecDepth 100000 in
set_option maxHeartbeats 1000000 in
theorem guess_named (A : Option Addr) (n cap : Nat) (l : List Nat) (k : Nat) (w : World) (hi : Hid (BySlice w A n cap l)) (hk : k ≠ 4) (h9 : 9 ≤ l.length) (hm : l.length ≤ 1048576) :
    Calls Try.prog 46 #[.slice A n cap, .int .i64 (k : Int)] w (AnsW (gsW l k) w) := by
  obtain rfl : n = l.length := hi.out.1
  have HE : Hid (gsW l k = ⟨k, numP l 1 2, getI ((l.drop 3).take 6), l.drop 9, [], 0⟩) := by show _ = _; unfold gsW; rw [if_neg hk, if_pos h9]
  rw [HE.out]
  have hn2 : numP l 1 2 < 65536 := numP_two_lt hi.out.2.2.2.1.1 1
  have HG2 : Hid (∀ W, Below w.heap.size w W → Calls Try.prog 75 #[.slice A l.length cap, .int .i64 1, .int .i64 2] W fun e w' => e = .returned (.tuple #[.int .u64 (numP l 1 2 : Int), .int .i64 0]) ∧ W = w') := fun W hW => by
    have := Bt.RGet_any l (1 : Nat) (2 : Nat) A cap w.heap.size hi.out.2.1 hi.out.2.2.1 W (hi.out.2.2.2.1.below hW) (by omega)
    rw [getE_ok (by decide) (by omega)] at this
    exact this
  have hcap : l.length ≤ cap := hi.out.2.1
  have hcm := hi.out.2.2.1
  obtain ⟨r, hr⟩ : ∃ r, l.length = 9 + r := ⟨l.length - 9, by omega⟩
  obtain ⟨R, rfl⟩ : ∃ R, cap = R + 9 := ⟨cap - 9, by omega⟩
  obtain ⟨b, off, rfl, hbl, hcc⟩ := hi.out.2.2.2.1.2 (by omega)
  obtain ⟨A', hA'⟩ : ∃ A', (if R = 0 then (some ⟨b, off, none⟩ : Option Addr) else some ⟨b, off + 9, none⟩) = A' := ⟨_, rfl⟩
  have HRD : Hid (∀ W, Below w.heap.size w W → Rd W w.heap.size A' (l.drop 9)) := fun W hW => by
    have h3 := (hi.out.2.2.2.1.below hW).drop 9
    rw [← hA']
    split
    · exact ⟨fun z hz => h3.1 z hz, fun h => by simp at h; omega⟩
    · exact h3
  have HAN : Hid (A' = none → (l.drop 9).length = 0 ∧ R = 0) := fun e => by rw [← hA'] at e; split at e <;> cases e
  have hby : ∀ W, Below w.heap.size w W → Hid (BySlice W (some ⟨b, off + 3, none⟩) 6 (R + 6) ((l.drop 3).take 6)) := fun W hW => by
    have h3 := ((hi.out.2.2.2.1.below hW).drop 3).more hW.size
    have h6 : BySlice W (some ⟨b, off + 3, none⟩) (6 + r) (R + 6) (l.drop 3) := ⟨by simp; omega, by simp; omega, by omega, h3, fun e => by cases e⟩
    exact by_take h6 (by simp; omega)
  have HGM : Hid (∀ W, Below w.heap.size w W → Calls Try.prog 76 #[.slice (some ⟨b, off + 3, none⟩) 6 (R + 6)] W (fun e w' => e = .returned (.tuple #[.agg (idC (getI ((l.drop 3).take 6))), .int .i64 (getZ ((l.drop 3).take 6) : Int)]) ∧ Hid (Below W.heap.size W w'))) := fun W hW => RGetId_any _ 6 (R + 6) _ W (hby W hW)
  have HA' := Lib.hid hA'
  have hk4 : ((k : Int) == 4) = false := beq_eq_false_iff_ne.mpr (by omega)
  obtain ⟨m, hm⟩ : ∃ m, numP l 1 2 = m := ⟨_, rfl⟩
  rw [hm] at HG2 hn2 ⊢
  rw [hr] at HG2 ⊢
  obtain ⟨q, hq⟩ : ∃ q, l.drop 9 = q := ⟨_, rfl⟩
  have hql : q.length = r := by rw [← hq]; simp; omega
  rw [hq] at HRD HAN ⊢
  have h9i : (9 : Int) ≤ 9 + (r : Int) := by omega
  have h9j : ¬ 9 + (r : Int) < 9 := by omega
  have m3 : 9 ≤ R + 9 := by omega
  have m4 : (9 : Int) ≤ (R : Int) + 9 := by omega
  have m5 : 9 ≤ 9 + r := by omega
  have m6 : ¬ R + 9 = 3 := by omega
  have HCR : Hid (r ≤ R) := by show _ ≤ _; omega
  have HLb : Hid (([] : List Nat).length + q.length ≤ 140737488355328) := by show 0 + _ ≤ _; omega
  subst hql
  have HQ : Hid (∀ z ∈ q, z < 256) := by show ∀ z ∈ q, _; rw [← hq]; exact fun z hz => hi.out.2.2.2.1.1 z (List.mem_of_mem_drop hz)
  obtain ⟨i2, hi2⟩ : ∃ x, getI ((l.drop 3).take 6) = x := ⟨_, rfl⟩
  obtain ⟨z2, hz2⟩ : ∃ x, getZ ((l.drop 3).take 6) = x := ⟨_, rfl⟩
  rw [hi2, hz2] at HGM
  rw [hi2]
  clear hi2 hz2
  clear hi hk h9 HE hm hr hby hbl hcc hcap hA' hq
  obtain ⟨o, d, ee, c⟩ := i2
  simp only [idC] at HGM
  have hb0 : Below w.heap.size w (w.alloc (.cells #[.int .i64 0, .int .i64 0, .int .i64 0, .int .i64 0, .int .i64 0, .int .i64 0, .slice none 0 0, .slice none 0 0] 29 (0, 0))) := Me.below_alloc (Below.refl _ _)
  obtain ⟨W0, hW0⟩ : ∃ W, (w.alloc (.cells #[.int .i64 0, .int .i64 0, .int .i64 0, .int .i64 0, .int .i64 0, .int .i64 0, .slice none 0 0, .slice none 0 0] 29 (0, 0))).alloc (.cells #[.int .i64 (k : Int), .int .i64 0, .int .i64 0, .int .i64 0, .int .i64 0, .int .i64 0, .slice none 0 0, .slice none 0 0] 29 (0, 0)) = W := ⟨_, rfl⟩
  have HW0 := Lib.hid hW0
  have HB0 : Hid (Below w.heap.size w W0) := by show Below _ _ _; rw [← hW0]; exact Me.below_alloc hb0
  have HZ0 : Hid (W0.heap[w.heap.size]? = some (.cells #[.int .i64 0, .int .i64 0, .int .i64 0, .int .i64 0, .int .i64 0, .int .i64 0, .slice none 0 0, .slice none 0 0] 29 (0, 0))) := by show _ = _; rw [← hW0]; exact (Below.heap_alloc _ _ _ (by simp)).trans (heap_alloc_new w _)
  have HR0 : Hid (W0.heap[w.heap.size + 1]? = some (.cells #[.int .i64 (k : Int), .int .i64 0, .int .i64 0, .int .i64 0, .int .i64 0, .int .i64 0, .slice none 0 0, .slice none 0 0] 29 (0, 0))) := by
    show _ = _
    rw [← hW0]
    have := heap_alloc_new (w.alloc (.cells #[.int .i64 0, .int .i64 0, .int .i64 0, .int .i64 0, .int .i64 0, .int .i64 0, .slice none 0 0, .slice none 0 0] 29 (0, 0))) (.cells #[.int .i64 (k : Int), .int .i64 0, .int .i64 0, .int .i64 0, .int .i64 0, .int .i64 0, .slice none 0 0, .slice none 0 0] 29 (0, 0))
    rw [World.size_alloc] at this
    exact this
  clear hW0 hb0
  have y1 := (hx_row (i := zI) HR0.out).2.1
  have f1 := frozen_of_row W0 (w.heap.size + 1) 1 _ _ HR0.out
  obtain ⟨W2, hW2⟩ : ∃ W, W0.setCell ⟨w.heap.size + 1, 1, none⟩ (.int .i64 (m : Int)) = W := ⟨_, rfl⟩
  have HW2 := Lib.hid hW2
  have HR2 : Hid (W2.heap[w.heap.size + 1]? = some (.cells #[.int .i64 (k : Int), .int .i64 (m : Int), .int .i64 0, .int .i64 0, .int .i64 0, .int .i64 0, .slice none 0 0, .slice none 0 0] 29 (0, 0))) := by show _ = _; rw [← hW2, heap_setCell_same W0 (w.heap.size + 1) 1 _ _ _ HR0.out]; rfl
  have HZ2 : Hid (W2.heap[w.heap.size]? = some (.cells #[.int .i64 0, .int .i64 0, .int .i64 0, .int .i64 0, .int .i64 0, .int .i64 0, .slice none 0 0, .slice none 0 0] 29 (0, 0))) := by show _ = _; rw [← hW2]; exact (Below.heap_setCell W0 ⟨w.heap.size + 1, 1, none⟩ _ _ (by show w.heap.size ≠ w.heap.size + 1; omega)).trans HZ0.out
  have HB2 : Hid (Below w.heap.size w W2) := by show Below _ _ _; rw [← hW2]; exact HB0.out.setCell (p := ⟨w.heap.size + 1, 1, none⟩) (Nat.le_succ _) _
  clear hW2
  have hAA := HA'.out
  have hmi := u64_i64 hn2
  go_enter Try.func46, Try.ntmps46
  go_wp2_with (first
    | (rw [HW0.out])
    | (rw [HW2.out])
    | (go_at_call 75; (with_reducible refine (HG2.out _ HB0.out).mono ?_); rintro e w2 ⟨rfl, rfl⟩)
    | (go_at_call 76; refine (HGM.out _ HB2.out).mono ?_; rintro e w5 ⟨rfl, hb5⟩; have HR5 : Hid (w5.heap[w.heap.size + 1]? = some (.cells #[.int .i64 (k : Int), .int .i64 (m : Int), .int .i64 0, .int .i64 0, .int .i64 0, .int .i64 0, .slice none 0 0, .slice none 0 0] 29 (0, 0))) := (hb5.out.block _ (Array.getElem?_eq_some_iff.1 HR2.out).1).trans HR2.out; have HZ5 : Hid (w5.heap[w.heap.size]? = some (.cells #[.int .i64 0, .int .i64 0, .int .i64 0, .int .i64 0, .int .i64 0, .int .i64 0, .slice none 0 0, .slice none 0 0] 29 (0, 0))) := (hb5.out.block _ (Array.getElem?_eq_some_iff.1 HZ2.out).1).trans HZ2.out)
    | (refine wpList_store_mid rfl 23 (.tmp 48) (.tmp 45) rfl (w.heap.size + 1) 2 #[.int .i64 o, .int .i64 d, .int .i64 ee, .int .i64 c] rfl rfl (there8 (n := 4) HR5.out (by decide)) (by kernel_rfl) (Mg.id_one _ _ _ _) ?_
       obtain ⟨V3, hV3⟩ : ∃ Y, w5.setCells (w.heap.size + 1) 2 (#[.int .i64 o, .int .i64 d, .int .i64 ee, .int .i64 c] : Array Value).toList = Y := ⟨_, rfl⟩
       have hs := set8_4 (.int .i64 o) (.int .i64 d) (.int .i64 ee) (.int .i64 c) HR5.out
       rw [show ([.int .i64 o, .int .i64 d, .int .i64 ee, .int .i64 c] : List Value) = (#[.int .i64 o, .int .i64 d, .int .i64 ee, .int .i64 c] : Array Value).toList from rfl, hV3] at hs
       rw [hV3]
       have HRV := Lib.hid hs.1
       have HZV : Hid (V3.heap[w.heap.size]? = some (.cells #[.int .i64 0, .int .i64 0, .int .i64 0, .int .i64 0, .int .i64 0, .int .i64 0, .slice none 0 0, .slice none 0 0] 29 (0, 0))) := (hs.2.same _ (Array.getElem?_eq_some_iff.1 HZ5.out).1 (by omega)).trans HZ5.out
       have HBV : Hid (Below w.heap.size w V3) := (HB2.out.trans (hb5.out.mono HB2.out.size)).trans (hs.2.below (HB2.out.trans (hb5.out.mono HB2.out.size)).size fun q e => by omega)
       have HOL : Hid (Me.Own (V3.alloc (.cells #[] 5)) w.heap.size (.slice (some ⟨V3.heap.size, 0, none⟩) 0 0) []) := Sb.own_base (own_lit V3 [] (by simp)) (fun x e => by cases e; exact HBV.out.size)
       have HBL : Hid (Below w.heap.size w (V3.alloc (.cells #[] 5))) := Me.below_alloc HBV.out
       have HRL : Hid ((V3.alloc (.cells #[] 5)).heap[w.heap.size + 1]? = some (.cells #[.int .i64 (k : Int), .int .i64 (m : Int), .int .i64 o, .int .i64 d, .int .i64 ee, .int .i64 c, .slice none 0 0, .slice none 0 0] 29 (0, 0))) := (Below.heap_alloc _ _ _ (Array.getElem?_eq_some_iff.1 HRV.out).1).trans HRV.out
       have HZL : Hid ((V3.alloc (.cells #[] 5)).heap[w.heap.size]? = some (.cells #[.int .i64 0, .int .i64 0, .int .i64 0, .int .i64 0, .int .i64 0, .int .i64 0, .slice none 0 0, .slice none 0 0] 29 (0, 0))) := (Below.heap_alloc _ _ _ (Array.getElem?_eq_some_iff.1 HZV.out).1).trans HZV.out
       clear hV3 hs)
    | (at_builtin
       refine app8 rfl (.tmp 49) (.tmp 51) rfl w.heap.size w.heap.size _ [] q rfl HOL.out HBL.out HBL.out.size A' R rfl (HRD.out _ HBL.out) HAN.out HLb.out ?_
       intro v6 w6 ho6 hb6 hg6
       rw [List.nil_append] at ho6
       have hr6 := grown_msg HRL.out hg6 (own_ty HOL.out HRL.out (by decide))
       have hz6 := grown_msg HZL.out hg6 (own_ty HOL.out HZL.out (by decide))
       obtain ⟨A6, c6, rfl, _, _, _⟩ := ho6.held HQ.out
       have x6 := (hx_row (i := ⟨o, d, ee, c⟩) hr6).2.2.2.2.2.2.1
       have f6 := frozen_of_row w6 (w.heap.size + 1) 6 _ _ hr6
       obtain ⟨W7, hW7⟩ : ∃ W, w6.setCell ⟨w.heap.size + 1, 6, none⟩ (.slice A6 q.length c6) = W := ⟨_, rfl⟩
       have HW7 := Lib.hid hW7
       have HR7 : Hid (W7.heap[w.heap.size + 1]? = some (.cells #[.int .i64 (k : Int), .int .i64 (m : Int), .int .i64 o, .int .i64 d, .int .i64 ee, .int .i64 c, .slice A6 q.length c6, .slice none 0 0] 29 (0, 0))) := by (show _ = _; rw [← hW7, heap_setCell_same w6 (w.heap.size + 1) 6 _ _ _ hr6]; rfl)
       have HZ7 : Hid (W7.heap[w.heap.size]? = some (.cells #[.int .i64 0, .int .i64 0, .int .i64 0, .int .i64 0, .int .i64 0, .int .i64 0, .slice none 0 0, .slice none 0 0] 29 (0, 0))) := by (show _ = _; rw [← hW7]; exact (Below.heap_setCell w6 ⟨w.heap.size + 1, 6, none⟩ _ _ (by show w.heap.size ≠ w.heap.size + 1; omega)).trans hz6)
       have HB7 : Hid (Below w.heap.size w W7) := by (show Below _ _ _; rw [← hW7]; exact hb6.setCell (p := ⟨w.heap.size + 1, 6, none⟩) (Nat.le_succ _) _)
       have HO7 : Hid (Me.Own W7 w.heap.size (.slice A6 q.length c6) q) := by
         show Me.Own _ _ _ _
         rw [← hW7]
         exact Sb.own_same ho6 fun x e _ => Below.heap_setCell w6 ⟨w.heap.size + 1, 6, none⟩ _ x (fun e2 => own_ty ho6 hr6 (by decide) (by rw [e]; exact congrArg some e2))
       clear hW7 hr6 hz6 ho6 hb6 hg6)
    | (rw [HW7.out])
    | (refine wpList_load_row rfl 29 (.tmp 5) rfl (w.heap.size + 1) rfl 29 _ (0, 0) _ HR7.out Try.underlying29 rfl (by kernel_rfl) ?_)
    | (refine wpList_store_row rfl 29 (.tmp 4) (.tmp 55) rfl w.heap.size #[.int .i64 (k : Int), .int .i64 (m : Int), .int .i64 o, .int .i64 d, .int .i64 ee, .int .i64 c, .slice A6 q.length c6, .slice none 0 0] rfl rfl 29 _ HZ7.out (by kernel_rfl) rfl (hop_one _ _ _ _ _ _ _ _ _ _ _ _) ?_))
  exact ret_arr rfl rfl (setRow_heap _ _ _ _ _ _ HZ7.out) rfl Try.underlying29 (by kernel_rfl) rfl ⟨A6, c6, none, 0, rfl, own_setRow _ HO7.out (own_ty HO7.out HZ7.out (by decide)), Mi.Own.nil _ _, Sb.below_setRow _ HB7.out (Nat.le_refl _)⟩
end Go.Proofs.Ytohfoieibgmmdaa.Hp
