/- A counter put into a mark: cut, with. -/
import Derived.Test.YtpofdimagfldnaaSeHas
import Derived.Deep.RegionHeld
namespace Go.Proofs.Ytpofdimagfldnaa.Se
open Go.RowKit
open Go.Proofs.Ytpofdimagfldnaa.Me Go.Proofs.Ytpofdimagfldnaa.Sb
set_option linter.unusedVariables false
set_option linter.unusedSimpArgs false

def cutA (g n N : Nat) : Option Addr := if n = N then none else some ⟨g, n, none⟩
set_option maxRecDepth 100000 in
set_option maxHeartbeats 4000000 in
theorem cut_any (g N cap n : Nat) (hn : n ≤ N) (hc : N ≤ cap) (W : World) : Calls Try.prog 99 #[.slice (some ⟨g, 0, none⟩) N cap, .int .i64 (n : Int)] W fun e w' => e = .returned (.slice (cutA g n N) (N - n) (N - n)) ∧ W = w' := by
  by_cases h : n = N
  · subst h
    have e : ((n : Int) == (n : Int)) = true := by simp
    have hv : cutA g n n = none := by simp [cutA]
    rw [hv, Nat.sub_self]
    go_enter Try.func99, Try.ntmps99
    go_wp2
    go_ret
    exact ⟨rfl, rfl⟩
  · have e : ((n : Int) == (N : Int)) = false := by simpa using fun h' : (n : Int) = N => h (by omega)
    have hv : cutA g n N = some ⟨g, n, none⟩ := by simp [cutA, h]
    rw [hv]
    have h1 : ¬ N - n = 0 := by omega
    have h2 : (n : Int) ≤ (N : Int) := by omega
    have h3 : (N : Int) ≤ (cap : Int) := by omega
    have h4 : n < N := by omega
    go_enter Try.func99, Try.ntmps99
    go_wp2
    go_ret
    exact ⟨by simp, rfl⟩
/-- What a with that is handed the Insert's contract does. -/
def InsAt (W : World) (A : Option Addr) (l : List Int) (c : Int) : Prop := ∀ W' gx, Below W.heap.size W W' → W'.cell? ⟨gx, 0, none⟩ = some (.int .i64 c) →
  Calls Try.prog 98 #[.slice A l.length l.length, .int .i64 ((lb l c : Nat) : Int), .slice (some ⟨gx, 0, none⟩) 1 1] W' fun e w' => ∃ v, e = .returned v ∧ Hid (Mi.Own w' W'.heap.size v (ins l c)) ∧ Hid (Below W'.heap.size W' w')
theorem insAt_end {W : World} {A : Option Addr} {l : List Int} {c : Int} (hS : Sl W A l.length l) (hl : l.length ≤ 1000000) (he : lb l c = l.length) : InsAt W A l c := fun W' gx hb hz => by
  have := Ins_end A l gx c W' (hS.keep (Ints.below hb)) hz hl
  rw [he]
  have e : ins l c = l ++ [c] := by unfold ins; rw [he]; simp
  rw [e]
  exact this
theorem own_cell {w : World} {B g cp : Nat} {l : List Int} (h : Mi.Own w B (.slice (some ⟨g, 0, none⟩) l.length cp) l) {i : Nat} (hi : i < l.length) : w.cell? ⟨g, i, none⟩ = some (.int .i64 (l.getD i 0)) := by
  have := World.ownsRow.cellAt h i (by simpa using hi)
  rw [this]
  simp [hi, Mi.iV]
theorem own_form {w : World} {B : Nat} {v : Value} {l : List Int} (h : Mi.Own w B v l) (hp : 0 < l.length) : ∃ g cp, v = .slice (some ⟨g, 0, none⟩) l.length cp ∧ l.length ≤ cp ∧ cp ≤ 9223372036854775807 ∧ B ≤ g ∧ g < w.heap.size ∧ ∃ cur, w.heap[g]? = some (.cells cur 3 (0, 0)) := by
  rcases h.2 with ⟨_, h2⟩ | ⟨g, cap, cur, h1, h2, h3, h4, h5, h6, h7⟩
  · have : l = [] := by simpa using h2
    subst this; simp at hp
  · exact ⟨g, cap, h1, h4, by unfold maxLen at h5; omega, h2, (Array.getElem?_eq_some_iff.1 h3).1, cur, h3⟩
theorem cut_sl {W : World} {g N R : Nat} {L : List Int} {cur : Array Value} (hl : L.length = N) (hN : N ≤ 65537) (hR : R ≤ N) (hb : W.heap[g]? = some (.cells cur 3 (0, 0))) (hc : ∀ i, i < N → W.cell? ⟨g, i, none⟩ = some (.int .i64 (L.getD i 0))) : Sl W (cutA g R N) (N - R) (L.drop R) := by
  refine ⟨by simp [hl], ?_, ?_, ?_⟩
  · omega
  · intro h
    unfold cutA at h
    split at h
    · rename_i e
      exact ⟨List.drop_eq_nil_of_le (by omega), by omega⟩
    · cases h
  · intro a h
    unfold cutA at h
    split at h
    · cases h
    · cases h
      refine ⟨g, R, rfl, ⟨cur, hb⟩, fun i hi => ?_⟩
      rw [List.length_drop] at hi
      rw [hc (R + i) (by omega)]
      simp
theorem mk_el {W : World} {u : Int} {l L : List Int} {c : Int} {g N R : Nat} (hw : wth ⟨u, l⟩ c = ⟨u + (R : Nat), L.drop R⟩) (hl : L.length = N) (hs : Sl W (cutA g R N) (N - R) (L.drop R)) : El W true (.agg #[.int .i64 (u + (R : Int)), .slice (cutA g R N) (N - R) (N - R)]) (wth ⟨u, l⟩ c) := by
  rw [hw]
  have e : (L.drop R).length = N - R := by simp [hl]
  exact ⟨cutA g R N, N - R, by simp only [e], fun _ => e.symm, hs⟩
theorem mk_one (u : Int) (A : Option Addr) (n c : Nat) : (#[.int .i64 u, .slice A n c] : Array Value).all (·.oneCell') = true := by simp [Value.oneCell']
set_option maxRecDepth 100000 in
set_option maxHeartbeats 8000000 in
theorem with_any (m : Mk) (v : Value) (c : Int) (w : World) (hv : Hid (El w true v m)) (ho : Ok m) (hh : has m c = false) (hc : c ≤ 65535) (hn : m.more.length ≤ 65536) (HI : Hid (∀ A, Sl w A m.more.length m.more → InsAt w A m.more c)) :
    Calls Try.prog 75 #[v, .int .i64 c] w fun e w' => ∃ v', e = .returned v' ∧ Hid (El w' true v' (wth m c)) ∧ Hid (Below w.heap.size w w') := by
  obtain ⟨A, cp, rfl, ht, hS⟩ := hv.out
  obtain rfl : cp = m.more.length := ht rfl
  obtain ⟨u, l⟩ := m
  simp only at hS hn ht HI ⊢
  have hA := HI.out A hS
  obtain ⟨W1, hW1⟩ : ∃ W, w.alloc (.cells #[.int .i64 u, .slice A l.length l.length] 121) = W := ⟨_, rfl⟩
  obtain ⟨W2, hW2⟩ : ∃ W, W1.alloc (.cells #[.int .i64 0, .slice none 0 0] 121) = W := ⟨_, rfl⟩
  have b1 : Below w.heap.size w W1 := by rw [← hW1]; exact Me.below_alloc (Below.refl _ _)
  have z1 : W1.heap.size = w.heap.size + 1 := by rw [← hW1]; simp
  have b2 : Below w.heap.size w W2 := by rw [← hW2]; exact Me.below_alloc b1
  have z2 : W2.heap.size = w.heap.size + 1 + 1 := by rw [← hW2, World.size_alloc, z1]
  have r1 : W2.heap[w.heap.size]? = some (.cells #[.int .i64 u, .slice A l.length l.length] 121 (0, 0)) := by
    rw [← hW2, Below.heap_alloc _ _ _ (by omega), ← hW1]
    exact heap_alloc_new w _
  have r2 : W2.heap[w.heap.size + 1]? = some (.cells #[.int .i64 0, .slice none 0 0] 121 (0, 0)) := by
    rw [← hW2, ← z1]
    exact heap_alloc_new W1 _
  have HW : Hid ((w.alloc (.cells #[.int .i64 u, .slice A l.length l.length] 121)).alloc (.cells #[.int .i64 0, .slice none 0 0] 121) = W2) := by show _ = _; rw [hW1, hW2]
  have HBs := Lib.hid (Search_any A l.length l c W2 (hS.keep (Ints.below b2)) ho.lt (by omega))
  have HC : Hid (∀ W, Below W2.heap.size W2 W → W.cell? ⟨w.heap.size, 0, none⟩ = some (.int .i64 u) ∧ W.cell? ⟨w.heap.size, 1, none⟩ = some (.slice A l.length l.length) ∧ W.heap[w.heap.size + 1]? = some (.cells #[.int .i64 0, .slice none 0 0] 121 (0, 0)) ∧ Below w.heap.size w W) := fun W hW => by
    have h := (hW.block w.heap.size (by omega)).trans r1
    exact ⟨cell_of_row W _ 0 _ _ (0, 0) h, cell_of_row W _ 1 _ _ (0, 0) h, (hW.block _ (by omega)).trans r2, b2.trans (hW.mono b2.size)⟩
  have HIn : Hid (∀ W gx, Below W2.heap.size W2 W → W.cell? ⟨gx, 0, none⟩ = some (.int .i64 c) → Calls Try.prog 98 #[.slice A l.length l.length, .int .i64 ((lb l c : Nat) : Int), .slice (some ⟨gx, 0, none⟩) 1 1] W fun e w' => ∃ v, e = .returned v ∧ Hid (Mi.Own w' W.heap.size v (ins l c)) ∧ Hid (Below W.heap.size W w')) := fun W gx hb hz => hA W gx (b2.trans (hb.mono b2.size)) hz
  have hlen : (ins l c).length = l.length + 1 := ins_len l c
  have hu0 : 0 ≤ u := ho.u0
  have hu1 : u ≤ 65535 := ho.u1
  have hrun : run u (ins l c) ≤ (ins l c).length := run_le _ _
  have hat := run_at (ins l c) u
  have hval : ∀ i, i < (ins l c).length → (ins l c).getD i 0 ≤ 65535 ∧ 0 ≤ (ins l c).getD i 0 := fun i hi => by
    have hm : (ins l c).getD i 0 ∈ ins l c := by
      have : (ins l c).getD i 0 = (ins l c)[i] := by simp [hi]
      rw [this]; exact List.getElem_mem hi
    unfold has at hh
    rw [Bool.or_eq_false_iff] at hh
    have hcu : ¬ c ≤ u := by simpa using hh.2
    rcases mem_ins.1 hm with e | e
    · rw [e]; omega
    · have hg : u + 2 ≤ (ins l c).getD i 0 ∧ (ins l c).getD i 0 ≤ 65535 := ho.gap _ e; omega
  have HWT : Hid (wth ⟨u, l⟩ c = ⟨u + (run u (ins l c) : Nat), (ins l c).drop (run u (ins l c))⟩) := rfl
  obtain ⟨q, hq⟩ : ∃ q, lb l c = q := ⟨_, rfl⟩
  obtain ⟨L, hL⟩ : ∃ L, ins l c = L := ⟨_, rfl⟩
  rw [hq] at HBs HIn
  rw [hL] at HIn hlen hrun hat hval HWT
  obtain ⟨R, hR⟩ : ∃ R, run u L = R := ⟨_, rfl⟩
  simp only [hR] at hrun hat HWT
  have HL : Hid (∃ p, l.contains c = p) := ⟨_, rfl⟩
  obtain ⟨p, hp⟩ := HL.out
  rw [hp] at HBs
  clear hv ht hS HI hA hW1 hW2 b1 z1 b2 r1 r2 hh hc hp HL hq hL hR ho
  go_enter Try.func75, Try.ntmps75
  go_wp2_with (first
    | (go_at_call 96; rw [HW.out]; refine HBs.out.mono ?_; rintro e w3 ⟨rfl, hb3⟩; obtain ⟨x0, x1, x2, x3⟩ := HC.out w3 hb3.out; clear x2 x3)
    | (go_at_call 98; refine (HIn.out _ _ (Me.below_alloc hb3.out) (cell_of_row _ _ 0 _ _ (0, 0) (heap_alloc_new w3 _))).mono ?_; rintro e w4 ⟨v4, rfl, HO4, HB4⟩))
  obtain ⟨g, cp, rfl, p1, p2, p3, p4, cur, p5⟩ := own_form HO4.out (by omega)
  obtain ⟨N, hN⟩ : ∃ N, L.length = N := ⟨_, rfl⟩
  have HLN := Lib.hid hN
  have hNb : N ≤ 65537 := by omega
  have hB4 : Below W2.heap.size W2 w4 := (Me.below_alloc hb3.out).trans (HB4.out.mono (Me.below_alloc (o := .cells #[.int .i64 c] 3) hb3.out).size)
  have HV : Hid (∀ W, Below w4.heap.size w4 W → W.cell? ⟨w.heap.size, 0, none⟩ = some (.int .i64 u) ∧ W.heap[w.heap.size + 1]? = some (.cells #[.int .i64 0, .slice none 0 0] 121 (0, 0)) ∧ Below w.heap.size w W ∧ (∀ i, i < N → W.cell? ⟨g, i, none⟩ = some (.int .i64 (L.getD i 0))) ∧ W.heap[g]? = some (.cells cur 3 (0, 0))) := fun W hW => by
    obtain ⟨x0, _, x2, x3⟩ := HC.out W (hB4.trans (hW.mono hB4.size))
    exact ⟨x0, x2, x3, fun i hi => (hW.cell (p := ⟨g, i, none⟩) p4).trans (own_cell HO4.out (by omega)), (hW.block g p4).trans p5⟩
  have HG : Hid (w.heap.size + 2 ≤ g) := by show _ ≤ _; have := hb3.out.size; simp at p3; omega
  have hp1 : N ≤ cp := by omega
  have HCut := Lib.hid (fun W => cut_any g N cp R (by omega) hp1 W)
  have hRb : (R : Int) ≤ 65537 := by omega
  have HWr : Hid (IntKind.i64.wrap (u + (R : Int)) = u + (R : Int)) := Mi.fits' (Mi.small (by omega) (by omega))
  simp only [hN] at hat hval hrun p1 ⊢
  clear x0 x1 hB4 p3 p4 p5 HO4 HB4 hb3 HBs HIn HC HW z2 hlen hN
  go_loopw [8] (fun i wr => ∃ k : Nat, i = .int .i64 (k : Int) ∧ k ≤ R ∧ Hid (Below w4.heap.size w4 wr)) (fun i _ => N - (intOf i).toNat)
  case atStart => exact ⟨0, rfl, Nat.zero_le _, Below.refl _ _⟩
  case round =>
    obtain ⟨k, rfl, hk, HBr⟩ := hrel
    obtain ⟨y0, y1, y2, y3, y4⟩ := HV.out wr HBr.out
    by_cases hlt : k < N
    · have yk := y3 k hlt
      obtain ⟨e1, e2⟩ := hval k hlt
      have ha := hat k (by omega) hlt
      obtain ⟨x, hx⟩ : ∃ x, L.getD k 0 = x := ⟨_, rfl⟩
      rw [hx] at yk e1 e2 ha
      have g1 : (k : Int) < (N : Int) := by omega
      by_cases hkR : k < R
      · have hx2 := ha.1 hkR
        have g2 : (x == u + 1 + (k : Int)) = true := by simp; omega
        clear y1 y2 y3 y4 hx ha hat hval HV
        go_wp2
        go_quiet (fail)
        go_wp2
        go_roundw
        case rel => exact ⟨k + 1, by go_num, by omega, Me.below_drewN HBr.out _⟩
        case measure => simp [intOf]; omega
      · have hx2 : ¬ x = u + 1 + (k : Int) := fun h => hkR (ha.2 h)
        have g2 : (x == u + 1 + (k : Int)) = false := by simpa using hx2
        obtain rfl : R = k := by omega
        clear y1 y2 y3 y4 hx ha hat hval hkR hx2
        go_wp2
        go_quiet (fail)
        go_wp2
        obtain ⟨V, hVe⟩ : ∃ V, wr.drewN nq = V := ⟨_, rfl⟩
        have hVB : Below w4.heap.size w4 V := by rw [← hVe]; exact Me.below_drewN HBr.out _
        rw [hVe]
        obtain ⟨y0, y2, y3, y4, y5⟩ := HV.out V hVB
        have S0 : V.drew.cell? ⟨w.heap.size, 0, none⟩ = some (.int .i64 u) := y0
        clear hVe y0
        refine wp_region_held_drew (S := fun W : World => W.cell? ⟨w.heap.size, 0, none⟩ = some (.int .i64 u)) (by kernel_rfl) S0 (fun hHeld => ?_)
        refine wpAnyH_take (i := 0) (v := .pointer (some ⟨w.heap.size, 0, none⟩)) rfl (by kernel_rfl) (by kernel_rfl) (by kernel_rfl) (fun _ _ _ h => h) (Or.inl ⟨by rfl, ?_⟩) (by first | assumption | exact trivial) ?_
        · intro W hSW; go_simp; try (with_reducible rfl)
        simp only [Act.put, List.getElem_toArray, List.getElem_cons_succ, List.getElem_cons_zero, List.setIfInBounds_toArray, List.set_cons_zero, List.set_cons_succ]
        refine wpAnyH_take (i := 1) (v := .int .i64 u) rfl (by kernel_rfl) (by kernel_rfl) (by kernel_rfl) (fun _ _ _ h => h) (Or.inl ⟨by rfl, ?_⟩) (by first | assumption | exact trivial) ?_
        · intro W hSW; have y0 := hSW; go_simp; try (with_reducible rfl)
        simp only [Act.put, List.getElem_toArray, List.getElem_cons_succ, List.getElem_cons_zero, List.setIfInBounds_toArray, List.set_cons_zero, List.set_cons_succ]
        refine wpAnyH_take (i := 2) (v := .int .i64 (R : Int)) rfl (by kernel_rfl) (by kernel_rfl) (by kernel_rfl) (fun _ _ _ h => h) (Or.inl ⟨by rfl, ?_⟩) (by first | assumption | exact trivial) ?_
        · intro W hSW; go_simp; try (with_reducible rfl)
        simp only [Act.put, List.getElem_toArray, List.getElem_cons_succ, List.getElem_cons_zero, List.setIfInBounds_toArray, List.set_cons_zero, List.set_cons_succ]
        refine wpAnyH_take (i := 3) (v := .int .i64 (u + (R : Int))) rfl (by kernel_rfl) (by kernel_rfl) (by kernel_rfl) (fun _ _ _ h => h) (Or.inl ⟨by rfl, ?_⟩) (by first | assumption | exact trivial) ?_
        · intro W hSW; have hwr := HWr.out; go_simp; try (with_reducible rfl)
        simp only [Act.put, List.getElem_toArray, List.getElem_cons_succ, List.getElem_cons_zero, List.setIfInBounds_toArray, List.set_cons_zero, List.set_cons_succ]
        refine wpAnyH_take (i := 4) (v := .slice (some ⟨g, 0, none⟩) N cp) rfl (by kernel_rfl) (by kernel_rfl) (by kernel_rfl) (fun _ _ _ h => h) (Or.inl ⟨by rfl, ?_⟩) (by first | assumption | exact trivial) ?_
        · intro W hSW; go_simp; try (with_reducible rfl)
        simp only [Act.put, List.getElem_toArray, List.getElem_cons_succ, List.getElem_cons_zero, List.setIfInBounds_toArray, List.set_cons_zero, List.set_cons_succ]
        refine wpAnyH_take (i := 5) (v := .int .i64 (R : Int)) rfl (by kernel_rfl) (by kernel_rfl) (by kernel_rfl) (fun _ _ _ h => h) (Or.inl ⟨by rfl, ?_⟩) (by first | assumption | exact trivial) ?_
        · intro W hSW; go_simp; try (with_reducible rfl)
        simp only [Act.put, List.getElem_toArray, List.getElem_cons_succ, List.getElem_cons_zero, List.setIfInBounds_toArray, List.set_cons_zero, List.set_cons_succ]
        refine wpAnyH_ready (rs := [6]) (by kernel_rfl) (by simp) ?_
        refine AllReadyH.cons rfl (fun K hK => ?_) AllReadyH.nil
        go_simp
        go_wp2_with (go_at_call 99; refine (HCut.out _).mono ?_; rintro e w' ⟨rfl, rfl⟩)
        refine hK.out _ _ (S0) (fun hHeld => ?_)
        clear hK K
        refine wpAnyH_take (i := 7) (v := .agg #[.int .i64 (u + (R : Int)), .slice (cutA g R N) (N - R) (N - R)]) rfl (by kernel_rfl) (by kernel_rfl) (by kernel_rfl) (fun _ _ _ h => h) (Or.inl ⟨by rfl, ?_⟩) (by first | assumption | exact trivial) ?_
        · intro W hSW; go_simp; try (with_reducible rfl)
        simp only [Act.put, List.getElem_toArray, List.getElem_cons_succ, List.getElem_cons_zero, List.setIfInBounds_toArray, List.set_cons_zero, List.set_cons_succ]
        refine wpAnyH_ready (rs := [8]) (by kernel_rfl) (by simp) ?_
        refine AllReadyH.cons rfl (fun K hK => ?_) AllReadyH.nil
        rw [if_pos (by kernel_rfl)]
        refine wp_store_row 121 (.tmp 4) (.tmp 47) rfl (w.heap.size + 1) #[.int .i64 (u + (R : Int)), .slice (cutA g R N) (N - R) (N - R)] rfl (by rfl) 121 _ y2 (by kernel_rfl) rfl (mk_one _ _ _ _) ?_
        simp only [Act.put, List.getElem_toArray, List.getElem_cons_succ, List.getElem_cons_zero, List.setIfInBounds_toArray, List.set_cons_zero, List.set_cons_succ]
        obtain ⟨V9, hV9⟩ : ∃ X, V.drew.setRow (w.heap.size + 1) #[.int .i64 (u + (R : Int)), .slice (cutA g R N) (N - R) (N - R)] = X := ⟨_, rfl⟩
        have q0 : V9.heap[w.heap.size + 1]? = some (.cells #[.int .i64 (u + (R : Int)), .slice (cutA g R N) (N - R) (N - R)] 121 (0, 0)) := by rw [← hV9]; exact setRow_heap _ _ _ _ _ _ y2
        have q1 : ∀ k, k ≠ w.heap.size + 1 → V9.heap[k]? = V.heap[k]? := fun k hk => by rw [← hV9]; exact setRow_other _ _ k _ hk
        have q2 : Below w.heap.size w V9 := by rw [← hV9]; exact Sb.below_setRow _ y3.drew (by omega)
        rw [hV9]
        refine hK.out _ _ (((World.cell?_of_block (w := V) (a := ⟨w.heap.size, 0, none⟩) (q1 w.heap.size (by omega))).trans S0)) (fun hHeld => ?_)
        clear hK K
        refine wpAnyH_done (by kernel_rfl) ?_ _
        have q3 : V9.heap[g]? = V.heap[g]? := q1 g (by have := HG.out; omega)
        have q4 := cut_sl (W := V9) HLN.out hNb hrun (q3.trans y5) (fun i hi => (World.cell?_of_block (w := V) (a := ⟨g, i, none⟩) q3).trans (y4 i hi))
        go_wp2
        exact ret_box (g := w.heap.size + 1) rfl (by rfl) q0 rfl Try.underlying121 (by kernel_rfl) rfl ⟨_, rfl, mk_el HWT.out HLN.out q4, q2⟩
    · have g1 : ¬ (k : Int) < (N : Int) := by omega
      obtain rfl : R = k := by omega
      clear y1 y2 y3 y4 hat hval
      go_wp2
      go_quiet (fail)
      go_wp2
      obtain ⟨V, hVe⟩ : ∃ V, wr.drewN nq = V := ⟨_, rfl⟩
      have hVB : Below w4.heap.size w4 V := by rw [← hVe]; exact Me.below_drewN HBr.out _
      rw [hVe]
      obtain ⟨y0, y2, y3, y4, y5⟩ := HV.out V hVB
      have S0 : V.drew.cell? ⟨w.heap.size, 0, none⟩ = some (.int .i64 u) := y0
      clear hVe y0
      refine wp_region_held_drew (S := fun W : World => W.cell? ⟨w.heap.size, 0, none⟩ = some (.int .i64 u)) (by kernel_rfl) S0 (fun hHeld => ?_)
      refine wpAnyH_take (i := 0) (v := .pointer (some ⟨w.heap.size, 0, none⟩)) rfl (by kernel_rfl) (by kernel_rfl) (by kernel_rfl) (fun _ _ _ h => h) (Or.inl ⟨by rfl, ?_⟩) (by first | assumption | exact trivial) ?_
      · intro W hSW; go_simp; try (with_reducible rfl)
      simp only [Act.put, List.getElem_toArray, List.getElem_cons_succ, List.getElem_cons_zero, List.setIfInBounds_toArray, List.set_cons_zero, List.set_cons_succ]
      refine wpAnyH_take (i := 1) (v := .int .i64 u) rfl (by kernel_rfl) (by kernel_rfl) (by kernel_rfl) (fun _ _ _ h => h) (Or.inl ⟨by rfl, ?_⟩) (by first | assumption | exact trivial) ?_
      · intro W hSW; have y0 := hSW; go_simp; try (with_reducible rfl)
      simp only [Act.put, List.getElem_toArray, List.getElem_cons_succ, List.getElem_cons_zero, List.setIfInBounds_toArray, List.set_cons_zero, List.set_cons_succ]
      refine wpAnyH_take (i := 2) (v := .int .i64 (R : Int)) rfl (by kernel_rfl) (by kernel_rfl) (by kernel_rfl) (fun _ _ _ h => h) (Or.inl ⟨by rfl, ?_⟩) (by first | assumption | exact trivial) ?_
      · intro W hSW; go_simp; try (with_reducible rfl)
      simp only [Act.put, List.getElem_toArray, List.getElem_cons_succ, List.getElem_cons_zero, List.setIfInBounds_toArray, List.set_cons_zero, List.set_cons_succ]
      refine wpAnyH_take (i := 3) (v := .int .i64 (u + (R : Int))) rfl (by kernel_rfl) (by kernel_rfl) (by kernel_rfl) (fun _ _ _ h => h) (Or.inl ⟨by rfl, ?_⟩) (by first | assumption | exact trivial) ?_
      · intro W hSW; have hwr := HWr.out; go_simp; try (with_reducible rfl)
      simp only [Act.put, List.getElem_toArray, List.getElem_cons_succ, List.getElem_cons_zero, List.setIfInBounds_toArray, List.set_cons_zero, List.set_cons_succ]
      refine wpAnyH_take (i := 4) (v := .slice (some ⟨g, 0, none⟩) N cp) rfl (by kernel_rfl) (by kernel_rfl) (by kernel_rfl) (fun _ _ _ h => h) (Or.inl ⟨by rfl, ?_⟩) (by first | assumption | exact trivial) ?_
      · intro W hSW; go_simp; try (with_reducible rfl)
      simp only [Act.put, List.getElem_toArray, List.getElem_cons_succ, List.getElem_cons_zero, List.setIfInBounds_toArray, List.set_cons_zero, List.set_cons_succ]
      refine wpAnyH_take (i := 5) (v := .int .i64 (R : Int)) rfl (by kernel_rfl) (by kernel_rfl) (by kernel_rfl) (fun _ _ _ h => h) (Or.inl ⟨by rfl, ?_⟩) (by first | assumption | exact trivial) ?_
      · intro W hSW; go_simp; try (with_reducible rfl)
      simp only [Act.put, List.getElem_toArray, List.getElem_cons_succ, List.getElem_cons_zero, List.setIfInBounds_toArray, List.set_cons_zero, List.set_cons_succ]
      refine wpAnyH_ready (rs := [6]) (by kernel_rfl) (by simp) ?_
      refine AllReadyH.cons rfl (fun K hK => ?_) AllReadyH.nil
      go_simp
      go_wp2_with (go_at_call 99; refine (HCut.out _).mono ?_; rintro e w' ⟨rfl, rfl⟩)
      refine hK.out _ _ (S0) (fun hHeld => ?_)
      clear hK K
      refine wpAnyH_take (i := 7) (v := .agg #[.int .i64 (u + (R : Int)), .slice (cutA g R N) (N - R) (N - R)]) rfl (by kernel_rfl) (by kernel_rfl) (by kernel_rfl) (fun _ _ _ h => h) (Or.inl ⟨by rfl, ?_⟩) (by first | assumption | exact trivial) ?_
      · intro W hSW; go_simp; try (with_reducible rfl)
      simp only [Act.put, List.getElem_toArray, List.getElem_cons_succ, List.getElem_cons_zero, List.setIfInBounds_toArray, List.set_cons_zero, List.set_cons_succ]
      refine wpAnyH_ready (rs := [8]) (by kernel_rfl) (by simp) ?_
      refine AllReadyH.cons rfl (fun K hK => ?_) AllReadyH.nil
      rw [if_pos (by kernel_rfl)]
      refine wp_store_row 121 (.tmp 4) (.tmp 47) rfl (w.heap.size + 1) #[.int .i64 (u + (R : Int)), .slice (cutA g R N) (N - R) (N - R)] rfl (by rfl) 121 _ y2 (by kernel_rfl) rfl (mk_one _ _ _ _) ?_
      simp only [Act.put, List.getElem_toArray, List.getElem_cons_succ, List.getElem_cons_zero, List.setIfInBounds_toArray, List.set_cons_zero, List.set_cons_succ]
      obtain ⟨V9, hV9⟩ : ∃ X, V.drew.setRow (w.heap.size + 1) #[.int .i64 (u + (R : Int)), .slice (cutA g R N) (N - R) (N - R)] = X := ⟨_, rfl⟩
      have q0 : V9.heap[w.heap.size + 1]? = some (.cells #[.int .i64 (u + (R : Int)), .slice (cutA g R N) (N - R) (N - R)] 121 (0, 0)) := by rw [← hV9]; exact setRow_heap _ _ _ _ _ _ y2
      have q1 : ∀ k, k ≠ w.heap.size + 1 → V9.heap[k]? = V.heap[k]? := fun k hk => by rw [← hV9]; exact setRow_other _ _ k _ hk
      have q2 : Below w.heap.size w V9 := by rw [← hV9]; exact Sb.below_setRow _ y3.drew (by omega)
      rw [hV9]
      refine hK.out _ _ (((World.cell?_of_block (w := V) (a := ⟨w.heap.size, 0, none⟩) (q1 w.heap.size (by omega))).trans S0)) (fun hHeld => ?_)
      clear hK K
      refine wpAnyH_done (by kernel_rfl) ?_ _
      have q3 : V9.heap[g]? = V.heap[g]? := q1 g (by have := HG.out; omega)
      have q4 := cut_sl (W := V9) HLN.out hNb hrun (q3.trans y5) (fun i hi => (World.cell?_of_block (w := V) (a := ⟨g, i, none⟩) q3).trans (y4 i hi))
      go_wp2
      exact ret_box (g := w.heap.size + 1) rfl (by rfl) q0 rfl Try.underlying121 (by kernel_rfl) rfl ⟨_, rfl, mk_el HWT.out HLN.out q4, q2⟩
end Go.Proofs.Ytpofdimagfldnaa.Se
