/- Hear: the costs of a neighbour. -/
import Derived.Test.YtkanebolfmpnfaaRtWaysW
import Derived.Laws.CopyOwn
namespace Go.Proofs.Ytkanebolfmpnfaa.Rt
open Go.RowKit Go.Maps
open Go.Proofs.Ytkanebolfmpnfaa.Sb
set_option linter.unusedVariables false
set_option linter.unusedSimpArgs false

/-- A number that is no cost. -/
def badC (x : Int) : Bool := decide (x < 0) || decide (16 < x)
theorem isNoCost_any (x : Int) (w : World) : Calls Try.prog 45 #[.int .i64 x] w fun e w' => e = .returned (.bool (badC x)) ∧ w = w' := by
  unfold badC
  by_cases h1 : x < 0
  · have h3 : decide (x < 0) = true := decide_eq_true h1
    go_enter Try.func45, Try.ntmps45
    go_wp2
    go_ret
    simp [h3]
  · have h3 : decide (x < 0) = false := decide_eq_false h1
    go_enter Try.func45, Try.ntmps45
    go_wp2
    go_ret
    simp [h3]
set_option maxRecDepth 100000 in
theorem IndexF_any (A : Option Addr) (c : Nat) (l : List Int) (w : World) (B : Nat) (hr : Hid (Mi.Rd w B A l)) (hc : l.length ≤ 9223372036854775806) :
    Calls Try.prog 51 #[.slice A l.length c, .func (.func 45) #[] #[]] w fun e w' => ∃ r : Int, e = .returned (.int .i64 r) ∧ decide (0 ≤ r) = l.any badC ∧ w = w' := by
  have HF := Lib.hid isNoCost_any
  have eg : ∀ args w, (callFunc 45 args).run Try.prog w = .ok (.enter 45 args) w := enters_of Try.func45 (by kernel_rfl) rfl
  obtain ⟨N, hN⟩ : ∃ N, l.length = N := ⟨_, rfl⟩
  have HN : Hid (l.length = N) := hN
  rw [hN] at hc ⊢
  clear hN
  go_enter Try.func51, Try.ntmps51
  go_wp2
  go_loopw [8] (fun i wr => ∃ k : Nat, k ≤ N ∧ i = .int .i64 k ∧ Hid (∀ j, j < k → badC (Mi.at_ l j) = false) ∧ Hid (w = wr)) (fun i _ => N - (intOf i).toNat)
  case atStart => exact ⟨0, Nat.zero_le _, rfl, fun j hj => absurd hj (by omega), rfl⟩
  case round =>
    obtain ⟨k, hk, rfl, hok, HW⟩ := hrel
    by_cases hlt : k < N
    · obtain ⟨b, off, rfl, _, hcell⟩ := hr.out (by rw [HN.out]; omega)
      have y0 := hcell k (by rw [HN.out]; exact hlt)
      rw [HW.out] at y0
      obtain ⟨x, hx⟩ : ∃ x, Mi.at_ l k = x := ⟨_, rfl⟩
      rw [hx] at y0
      have HX := Lib.hid (fun W => HF.out x W)
      have g1 : (k : Int) < (N : Int) := by omega
      have g2 : ¬ (N : Int) ≤ (k : Int) := by omega
      cases hb : badC x with
      | false =>
        rw [hb] at HX
        have HOK : Hid (∀ j, j < k + 1 → badC (Mi.at_ l j) = false) := fun j hj => by
          by_cases e : j = k
          · subst e; rw [hx]; exact hb
          · exact hok.out j (by omega)
        clear hb hx hok hcell
        go_wp2_with (go_at_call 45; refine (HX.out _).mono ?_; rintro e w2 ⟨rfl, rfl⟩)
        go_roundw
        case rel => exact ⟨k + 1, by omega, by go_num, HOK, HW⟩
        case measure => simp [intOf]; omega
      | true =>
        rw [hb] at HX
        have HA : Hid (l.any badC = true) := by
          show _ = _
          refine List.any_eq_true.2 ⟨x, ?_, hb⟩
          rw [← hx, Mi.at_get (by rw [HN.out]; exact hlt)]
          exact List.getElem_mem _
        clear hb hx hok hcell
        go_wp2_with (go_at_call 45; refine (HX.out _).mono ?_; rintro e w2 ⟨rfl, rfl⟩)
        go_ret
        refine ⟨_, rfl, ?_, HW.out⟩
        rw [HA.out]
        simp
    · obtain rfl : k = N := by omega
      have HA : Hid (l.any badC = false) := by
        show _ = _
        refine List.any_eq_false.2 fun m hm => ?_
        obtain ⟨j, hj, rfl⟩ := List.mem_iff_getElem.1 hm
        have := hok.out j (by rw [← HN.out]; exact hj)
        rw [Mi.at_get hj] at this
        simp [this]
      clear hok
      go_wp2
      go_ret
      refine ⟨_, rfl, ?_, HW.out⟩
      rw [HA.out]
      simp
theorem ContainsF_any (A : Option Addr) (c : Nat) (l : List Int) (w : World) (B : Nat) (hr : Hid (Mi.Rd w B A l)) (hc : l.length ≤ 9223372036854775806) :
    Calls Try.prog 44 #[.slice A l.length c, .func (.func 45) #[] #[]] w fun e w' => e = .returned (.bool (l.any badC)) ∧ w = w' := by
  have HI := Lib.hid (IndexF_any A c l w B hr hc)
  obtain ⟨q, hq⟩ : ∃ q, l.any badC = q := ⟨_, rfl⟩
  obtain ⟨N, hN⟩ : ∃ N, l.length = N := ⟨_, rfl⟩
  rw [hN, hq] at HI
  rw [hN, hq]
  clear hN hq hc
  go_enter Try.func44, Try.ntmps44
  go_wp2_with (go_at_call 51; refine HI.out.mono ?_; rintro e w2 ⟨r, rfl, hr2, rfl⟩)
  go_ret
  exact ⟨rfl, rfl⟩
/-- Costs that were heard. -/
def nwOf (l : List Int) : Nw := ⟨fun i => Mi.at_ l i, 0⟩
def csOf (l : List Int) : List Value := (List.range 64).map fun i => Value.int .i64 (Mi.at_ l i)
theorem cs_len (l : List Int) : (csOf l).length = 64 := by simp [csOf]
theorem cs_at (l : List Int) {j : Nat} {v : Value} (h : (csOf l)[j]? = some v) : j < 64 ∧ v = .int .i64 (Mi.at_ l j) := by
  have hj : j < 64 := by
    have := (List.getElem?_eq_some_iff.1 h).1
    rwa [cs_len] at this
  refine ⟨hj, ?_⟩
  simp [csOf, hj] at h
  exact h.symm
theorem news_copied (l : List Int) : ((ncs n0).toList.take 0 ++ (csOf l ++ (ncs n0).toList.drop (0 + (csOf l).length))).toArray = ncs (nwOf l) := by
  rw [cs_len]
  have : (ncs n0).toList.drop (0 + 64) = [.int .i64 0] := by
    simp [ncs, n0]
  rw [this]
  rfl
theorem yieldsIf_load_news {ops : Array Oper} {S : World → Prop} {op : Oper} {a : Act} (hw : Region.wanted op (yielded ops a.tmps) = true) (x : Operand) (ho : op.op = .load 91 x)
    (g : Nat) (hx : a.eval x = .pointer (some ⟨g, 0, none⟩)) (n : Nw) (hS : ∀ W, S W → Nb W g n) : YieldsIf Try.prog ops S op (.agg (ncs n)) a := by
  have := yieldsIf_load_mid (P := Try.prog) (ops := ops) (S := S) (op := op) (a := a) hw 91 x ho g 0 hx (ncs n).toList _ (fun W hW => by
    have h := World.rangeAt_of_block (hS W hW) 0 65
    have e : (ncs n).extract 0 (0 + 65) = ncs n := by
      have := ncs_size n
      rw [← this]
      simp
    rw [e] at h
    exact h) Try.underlying91 rfl (by rw [Array.length_toList]; exact size65 n)
  simpa using this
theorem Hear_nil (n : Int) (v : Value) (w : World) : Calls Try.prog 23 #[.pointer none, .int .i64 n, v] w fun e w' => e = .returned (.int .i64 7) ∧ w = w' := by
  go_enter Try.func23, Try.ntmps23
  go_wp2_with (fail)
  go_ret
  exact ⟨rfl, rfl⟩
/-- What Hear answers. -/
def hearE (t : Tb) (n : Int) (l : List Int) : Nat := if t.nbs.contains n = false then 4 else if l.length ≠ 64 ∨ l.any badC = true then 2 else 0
set_option maxRecDepth 100000 in
theorem Hear_no (w : World) (D mb : Nat) (v : Value) (t : Tb) (h : Hid (Tq w D mb v t)) (hl : t.nbs.length ≤ 64) (n : Int) (A : Option Addr) (c : Nat) (l : List Int) (B : Nat) (hr : Hid (Mi.Rd w B A l)) (hc : l.length ≤ 9223372036854775806) (hE : hearE t n l ≠ 0) :
    Calls Try.prog 23 #[.pointer (some ⟨D, 0, none⟩), .int .i64 n, .slice A l.length c] w fun e w' => e = .returned (.int .i64 (hearE t n l : Int)) ∧ w = w' := by
  have HI := Lib.hid (isNeighbour_any w D mb v t h n hl)
  have HC := Lib.hid (ContainsF_any A c l w B hr hc)
  unfold hearE at hE ⊢
  cases h1 : t.nbs.contains n with
  | false =>
    rw [h1] at HI
    go_enter Try.func23, Try.ntmps23
    go_wp2_with (go_at_call 43; refine HI.out.mono ?_; rintro e w' ⟨rfl, rfl⟩)
    go_ret
    exact ⟨rfl, rfl⟩
  | true =>
    rw [h1] at HI hE
    rw [if_neg (by decide)] at hE ⊢
    obtain ⟨N, hN⟩ : ∃ N, l.length = N := ⟨_, rfl⟩
    rw [hN] at HC hE ⊢
    by_cases h2 : N = 64
    · have h3 : l.any badC = true := by
        cases hb : l.any badC with
        | true => rfl
        | false => rw [if_neg (by simp [h2, hb])] at hE; exact absurd rfl hE
      rw [h3] at HC
      rw [if_pos (Or.inr h3)]
      have g1 : ((N : Int) != 64) = false := by subst h2; rfl
      clear hN h2 h3 hE h1
      go_enter Try.func23, Try.ntmps23
      go_wp2_with (first
        | (go_at_call 43; refine HI.out.mono ?_; rintro e w' ⟨rfl, rfl⟩)
        | (go_at_call 44; refine HC.out.mono ?_; rintro e w' ⟨rfl, rfl⟩))
      go_ret
      exact ⟨rfl, rfl⟩
    · rw [if_pos (Or.inl h2)]
      have g1 : ((N : Int) != 64) = true := bne_iff_ne.mpr (by omega)
      clear hN h2 hE h1
      go_enter Try.func23, Try.ntmps23
      go_wp2_with (first
        | (go_at_call 43; refine HI.out.mono ?_; rintro e w' ⟨rfl, rfl⟩)
        | (go_at_call 44; refine HC.out.mono ?_; rintro e w' ⟨rfl, rfl⟩))
      go_ret
      exact ⟨rfl, rfl⟩
set_option maxRecDepth 100000 in
theorem Hear_ok (w : World) (D mb : Nat) (v : Value) (t : Tb) (h : Hid (Tq w D mb v t)) (hl : t.nbs.length ≤ 64) (n : Nat) (hn : n < 64) (A : Option Addr) (c : Nat) (l : List Int) (B : Nat) (hr : Hid (Mi.Rd w B A l)) (hBw : B ≤ w.heap.size) (hE : hearE t (n : Int) l = 0) :
    Calls Try.prog 23 #[.pointer (some ⟨D, 0, none⟩), .int .i64 (n : Int), .slice A l.length c] w fun e w' => e = .returned (.int .i64 0) ∧ Hid (Tq w' D mb v ⟨t.self, t.nbs, t.age, t.set, putK t.heard n (nwOf l)⟩) ∧ Hid (But (fun k => k = mb) w w') := by
  have HI := Lib.hid (isNeighbour_any w D mb v t h n hl)
  unfold hearE at hE
  cases h1 : t.nbs.contains (n : Int) with
  | false => rw [if_pos h1] at hE; cases hE
  | true =>
    rw [h1] at HI hE
    rw [if_neg (by decide)] at hE
    have h2 : l.length = 64 := by
      apply Classical.byContradiction
      intro hc
      rw [if_pos (Or.inl hc)] at hE
      cases hE
    have h3 : l.any badC = false := by
      cases hb : l.any badC with
      | false => rfl
      | true => rw [if_pos (Or.inr hb)] at hE; cases hE
    have HC := Lib.hid (ContainsF_any A c l w B hr (by omega))
    rw [h3, h2] at HC
    rw [h2]
    obtain ⟨b, off, rfl, hb, hcell⟩ := hr.out (by omega)
    have HN : Hid (Nb (w.alloc (.cells (ncs n0) 91)) w.heap.size n0) := heap_alloc_new w _
    have hba : Hid (Below w.heap.size w (w.alloc (.cells (ncs n0) 91))) := Mi.below_alloc (Below.refl _ _)
    have HS : Hid (∀ j u, (csOf l)[j]? = some u → (w.alloc (.cells (ncs n0) 91)).cell? ((⟨b, off, none⟩ : Addr).add j) = some u) := fun j u hj => by
      obtain ⟨hj1, rfl⟩ := cs_at l hj
      have e : (⟨b, off, none⟩ : Addr).add j = ⟨b, off + j, none⟩ := by simp [Addr.add]
      rw [e]
      exact (hba.out.cell (p := ⟨b, off + j, none⟩) (Nat.lt_of_lt_of_le hb hBw)).trans (hcell j (by omega))
    have HN2 : Hid (Nb ((w.alloc (.cells (ncs n0) 91)).setRow w.heap.size (ncs (nwOf l))) w.heap.size (nwOf l)) := setRow_heap _ _ _ _ _ _ HN.out
    have HB2 : Hid (Below w.heap.size w ((w.alloc (.cells (ncs n0) 91)).setRow w.heap.size (ncs (nwOf l)))) := Sb.below_setRow _ hba.out (Nat.le_refl _)
    have HCW : Hid (((ncs n0).toList.take 0 ++ (csOf l ++ (ncs n0).toList.drop (0 + (csOf l).length))).toArray = ncs (nwOf l)) := news_copied l
    have HCL : Hid ((csOf l).length = 64) := cs_len l
    have HC1 : Hid (∀ u ∈ csOf l, u.oneCell' = true) := fun u hu => by
      obtain ⟨i, _, rfl⟩ := List.mem_map.1 hu
      rfl
    obtain ⟨nw, hnw⟩ : ∃ nw, nwOf l = nw := ⟨_, rfl⟩
    rw [hnw] at HN2 HB2 HCW ⊢
    obtain ⟨cl, hcl⟩ : ∃ cl, csOf l = cl := ⟨_, rfl⟩
    rw [hcl] at HS HCW HCL HC1
    have hD := h.out.lt
    have hM := h.out.ltm
    clear h1 h2 h3 hE hcell hnw hcl hr
    go_enter Try.func23, Try.ntmps23
    go_wp2_with (first
      | (go_at_call 43; refine HI.out.mono ?_; rintro e w' ⟨rfl, rfl⟩)
      | (go_at_call 44; refine HC.out.mono ?_; rintro e w' ⟨rfl, rfl⟩)
      | (refine Mi.allocTo rfl (.pointer (some ⟨_, 0, none⟩)) (.cells (ncs n0) 91 (0, 0)) (alloc_news _ _ rfl _) ?_)
      | (refine wpList_copy_own rfl (.tmp 25) (.tmp 26) 22 22 rfl 3 Try.underlying22 (by kernel_rfl) w.heap.size 0 64 64 ⟨b, off, none⟩ 64 c rfl rfl (ncs n0) 91 HN.out cl (HCL.out.trans rfl) HS.out (by (have := HCL.out; rw [ncs_size]; omega)) HC1.out ?_; rw [HCW.out]))
    have c67 := (h.out.below HB2.out).c67
    refine wp_region_held_drew (S := fun W => W.cell? ⟨D, 67, none⟩ = some (.map (some mb)) ∧ Nb W w.heap.size nw) (by kernel_rfl) ⟨(h.out.below HB2.out.drew).c67, HN2.out⟩ (fun hHeld => ?_)
    refine wpAnyH_take (i := 0) (v := .pointer (some ⟨D, 0, none⟩)) rfl (by kernel_rfl) (by kernel_rfl) (by kernel_rfl) (fun _ _ _ h => h) (Or.inl ⟨by rfl, ?_⟩) (by first | assumption | exact trivial) ?_
    · intro W hSW; go_simp; try (with_reducible rfl)
    simp only [Act.put, List.getElem_toArray, List.getElem_cons_succ, List.getElem_cons_zero, List.setIfInBounds_toArray, List.set_cons_zero, List.set_cons_succ]
    refine wpAnyH_take (i := 1) (v := .pointer (some ⟨D, 0, none⟩)) rfl (by kernel_rfl) (by kernel_rfl) (by kernel_rfl) (fun _ _ _ h => h) (Or.inl ⟨by rfl, ?_⟩) (by first | assumption | exact trivial) ?_
    · intro W hSW; go_simp; try (with_reducible rfl)
    simp only [Act.put, List.getElem_toArray, List.getElem_cons_succ, List.getElem_cons_zero, List.setIfInBounds_toArray, List.set_cons_zero, List.set_cons_succ]
    refine wpAnyH_take (i := 2) (v := .pointer (some ⟨D, 67, none⟩)) rfl (by kernel_rfl) (by kernel_rfl) (by kernel_rfl) (fun _ _ _ h => h) (Or.inl ⟨by rfl, ?_⟩) (by first | assumption | exact trivial) ?_
    · intro W hSW; go_simp; try (with_reducible rfl)
    simp only [Act.put, List.getElem_toArray, List.getElem_cons_succ, List.getElem_cons_zero, List.setIfInBounds_toArray, List.set_cons_zero, List.set_cons_succ]
    refine wpAnyH_take (i := 3) (v := .map (some mb)) rfl (by kernel_rfl) (by kernel_rfl) (by kernel_rfl) (fun _ _ _ h => h) (Or.inl ⟨by rfl, ?_⟩) (by first | assumption | exact trivial) ?_
    · intro W hSW; have q := hSW.1; go_simp; try (with_reducible rfl)
    simp only [Act.put, List.getElem_toArray, List.getElem_cons_succ, List.getElem_cons_zero, List.setIfInBounds_toArray, List.set_cons_zero, List.set_cons_succ]
    refine wpAnyH_take (i := 4) (v := .int .i64 (n : Int)) rfl (by kernel_rfl) (by kernel_rfl) (by kernel_rfl) (fun _ _ _ h => h) (Or.inl ⟨by rfl, ?_⟩) (by first | assumption | exact trivial) ?_
    · intro W hSW; go_simp; try (with_reducible rfl)
    simp only [Act.put, List.getElem_toArray, List.getElem_cons_succ, List.getElem_cons_zero, List.setIfInBounds_toArray, List.set_cons_zero, List.set_cons_succ]
    refine wpAnyH_take (i := 5) (v := .agg (ncs nw)) rfl (by kernel_rfl) (by kernel_rfl) (by kernel_rfl) (fun _ _ _ h => h) (yieldsIf_load_news (by rfl) (.tmp 7) rfl w.heap.size rfl nw (fun W hW => hW.2)) (by first | assumption | exact trivial) ?_
    simp only [Act.put, List.getElem_toArray, List.getElem_cons_succ, List.getElem_cons_zero, List.setIfInBounds_toArray, List.set_cons_zero, List.set_cons_succ]
    refine wpAnyH_ready (rs := [6]) (by kernel_rfl) (by simp) ?_
    refine AllReadyH.cons rfl (fun K hK => ?_) AllReadyH.nil
    refine putW (.tmp 31) (.tmp 32) (.tmp 33) rfl mb t.heard n nw rfl rfl rfl ((h.out.below HB2.out.drew).mp) hn ?_
    intro w7 hm7 hb7 hs7
    have HT7 : Hid (Tq w7 D mb v ⟨t.self, t.nbs, t.age, t.set, putK t.heard n nw⟩) := (h.out.below HB2.out.drew).map hm7 hb7
    have HB7 : Hid (But (fun k => k = mb) w w7) := (But.of_below (S := fun k => k = mb) HB2.out.drew).trans hb7 fun _ _ e => e
    have hsz : w.heap.size < ((w.alloc (.cells (ncs n0) 91)).setRow w.heap.size (ncs nw)).drew.heap.size := by simp
    have hN7 : Nb w7 w.heap.size nw := (hb7.same _ hsz (by omega)).trans HN2.out
    clear hm7 hb7 hs7 hsz
    refine hK.out _ _ (⟨HT7.out.c67, hN7⟩) (fun hHeld => ?_)
    clear hK K
    refine wpAnyH_done (by kernel_rfl) ?_ _
    go_wp2
    go_ret
    exact ⟨rfl, HT7, HB7⟩
end Go.Proofs.Ytkanebolfmpnfaa.Rt
