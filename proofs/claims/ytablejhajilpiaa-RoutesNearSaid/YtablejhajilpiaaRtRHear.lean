/- The reference's Hear. -/
import Derived.Test.YtablejhajilpiaaRtRTick
import Derived.Deep.RegionHeld
namespace Go.Proofs.Ytablejhajilpiaa.Rt
open Go.RowKit Go.Maps
open Go.Proofs.Ytablejhajilpiaa.Sb
set_option linter.unusedVariables false
set_option linter.unusedSimpArgs false

def hStep (h : He) (s : List He × Bool) (e : He) : List He × Bool := if (e.f == h.f) = true then s else if s.2 = false ∧ h.f < e.f then (s.1 ++ [h] ++ [e], true) else (s.1 ++ [e], s.2)
def hFold (l : List He) (h : He) : List He × Bool := l.foldl (hStep h) ([], false)
def hearL (l : List He) (h : He) : List He := if (hFold l h).2 = true then (hFold l h).1 else (hFold l h).1 ++ [h]
theorem hFold_snoc (l : List He) (h : He) {k : Nat} {r : He} (hk : l[k]? = some r) : hFold (l.take (k + 1)) h = hStep h (hFold (l.take k) h) r := by
  rw [List.take_add_one, hk]
  simp [hFold]
theorem hStep_len (h : He) (s : List He × Bool) (e : He) : (hStep h s e).1.length + (if (hStep h s e).2 = true then 0 else 1) ≤ s.1.length + (if s.2 = true then 0 else 1) + 1 := by
  obtain ⟨a, b⟩ := s
  unfold hStep
  cases he : (e.f == h.f) with
  | true => rw [if_pos rfl]; omega
  | false =>
    rw [if_neg (by decide)]
    cases b with
    | true => rw [if_neg (by simp)]; simp
    | false =>
      by_cases h2 : h.f < e.f
      · rw [if_pos ⟨rfl, h2⟩]; simp
      · rw [if_neg (by simp [h2])]; simp
theorem hFold_len (h : He) : ∀ (l : List He) (s : List He × Bool), (l.foldl (hStep h) s).1.length + (if (l.foldl (hStep h) s).2 = true then 0 else 1) ≤ s.1.length + (if s.2 = true then 0 else 1) + l.length
  | [], s => by rw [List.foldl_nil, List.length_nil, Nat.add_zero]; exact Nat.le_refl _
  | e :: l, s => by
    have h1 := hFold_len h l (hStep h s e)
    have h2 := hStep_len h s e
    rw [List.foldl_cons, List.length_cons]
    omega
theorem hFold_le (l : List He) (h : He) : (hFold l h).1.length ≤ l.length + 1 := by
  have := hFold_len h l ([], false)
  unfold hFold
  simp at this
  omega
theorem hearL_len (l : List He) (h : He) : (hearL l h).length ≤ l.length + 1 := by
  have := hFold_len h l ([], false)
  unfold hearL hFold
  split
  · rename_i hb
    rw [hb] at this
    simp at this
    omega
  · rename_i hb
    simp only [hb, if_false, Bool.false_eq_true, List.length_nil, Nat.zero_add] at this
    rw [List.length_append, List.length_singleton]
    omega
theorem hFold_mem (h : He) : ∀ (l : List He) (s : List He × Bool) (x : He), x ∈ (l.foldl (hStep h) s).1 → x ∈ s.1 ∨ x ∈ l ∨ x = h
  | [], s, x, hx => .inl hx
  | e :: l, s, x, hx => by
    rw [List.foldl_cons] at hx
    rcases hFold_mem h l _ x hx with h1 | h1 | h1
    · unfold hStep at h1
      split at h1
      · exact .inl h1
      · split at h1
        · simp only [List.mem_append, List.mem_singleton] at h1
          rcases h1 with (h1 | h1) | h1
          · exact .inl h1
          · exact .inr (.inr h1)
          · exact .inr (.inl (by rw [h1]; simp))
        · simp only [List.mem_append, List.mem_singleton] at h1
          rcases h1 with h1 | h1
          · exact .inl h1
          · exact .inr (.inl (by rw [h1]; simp))
    · exact .inr (.inl (List.mem_cons_of_mem _ h1))
    · exact .inr (.inr h1)
theorem hearL_mem {l : List He} {h x : He} (hx : x ∈ hearL l h) : x ∈ l ∨ x = h := by
  unfold hearL at hx
  split at hx
  · rcases hFold_mem h l _ x hx with h1 | h1 | h1
    · cases h1
    · exact .inl h1
    · exact .inr h1
  · rcases List.mem_append.1 hx with hx | hx
    · rcases hFold_mem h l _ x hx with h1 | h1 | h1
      · cases h1
      · exact .inl h1
      · exact .inr h1
    · exact .inr (by simpa using hx)
/-- What the reference's Hear answers. -/
def hearQE (q : RQ) (n : Int) (l : List Int) : Nat := if q.nbs.contains n = false then 4 else if rightB l = false then 2 else 0
def hearQ (q : RQ) (n : Int) (l : List Int) (R : Option Addr) (cr : Nat) : RQ := ⟨q.self, q.age, q.nbs, q.set, hearL q.l ⟨n, l, q.age, R, cr⟩⟩
theorem own_RI2 {w : World} {B : Nat} {v : Value} {l : List Int} (h : Mi.Own w B v l) : ∃ A c, v = .slice A l.length c ∧ RI (fun b => B ≤ b ∧ ∃ cur, w.heap[b]? = some (.cells cur 3 (0, 0))) w A l := by
  obtain ⟨A, c, e, hr⟩ := own_RI (M := fun b => B ≤ b) h fun _ h => h
  refine ⟨A, c, e, fun j a hj => ?_⟩
  obtain ⟨b, off, e1, h1, h2, h3⟩ := hr j a hj
  subst e
  refine ⟨b, off, e1, ⟨h1, ?_⟩, h2, h3⟩
  subst e1
  rcases h.2 with ⟨h4, _⟩ | ⟨g, cap, cur, h4, _, h5, _⟩
  · cases h4
  · injection h4 with h4
    cases h4
    exact ⟨cur, h5⟩
theorem appIw {w : World} {o : Oper} {a : Act} {K : Act → World → Prop} {Q : Exit → Act → World → Prop} (s x : Operand)
    (ho : o.op = .call { callee := .builtin .append, args := #[s, x], argTypes := #[22, 22] })
    (B Bx : Nat) (v : Value) (l r : List Int) (hs : a.eval s = v) (hown : Mi.Own w B v l) (hB : B ≤ w.heap.size)
    (ad : Addr) (n c : Nat) (hn : n = r.length) (hx : a.eval x = .slice (some ad) n c) (hr : Mi.Rd w Bx (some ad) r) (hlen : (l.length + r.length) * 8 ≤ 140737488355328)
    (h : ∀ v' w', Mi.Own w' B v' (l ++ r) → w.grownBy w' v.ownBlock → K (a.put o.dst v') w') : o.wp Try.prog a w K Q := by
  obtain ⟨i0, hi, hz0, hz1, hz2⟩ := info_parts Mi.infoI
  subst hn
  obtain ⟨v', w', hrn, h1, h2, _⟩ := run_append_own (P := Try.prog) w B 22 o.type 3 i0 (.int .i64 0) 1 8 Try.underlying22 hi hz0 hz1 hz2 rfl (by decide) v l.length (l.map Mi.iV) hown ad r.length c (r.map Mi.iV) (by simp) (Mi.rd_cells hr) (Mi.one_cells r) (by unfold maxLen; omega) hlen hB
  unfold Oper.wp execOp
  simp only [ho, resolve, invoke, builtin, Sem.run_bind, Sem.run_pure, Result.andThen_ok, List.map_toArray, List.map_cons, List.map_nil, hs, hx, hrn]
  refine h v' w' ?_ h2
  unfold Mi.Own
  rw [List.length_append, List.map_append]
  exact h1
set_option maxRecDepth 100000 in
set_option maxHeartbeats 4000000 in
theorem RHear_no {M : Nat → Prop} (q : RQ) (p : Pl) (n : Int) (A : Option Addr) (c B : Nat) (l : List Int) (w : World) (hr : Hid (Rf M w q p)) (hn : q.nbs.length ≤ 64) (hl : Hid (Mi.Rd w B A l)) (hBw : B ≤ w.heap.size) (hlc : l.length ≤ 9223372036854775806) (hE : hearQE q n l ≠ 0) :
    Calls Try.prog 37 #[.agg (rqV q p), .int .i64 n, .slice A l.length c] w fun e w' => e = .returned (.tuple #[.agg (rqV q p), .int .i64 (hearQE q n l : Int)]) ∧ Hid (Below w.heap.size w w') := by
  have HT := Lib.hid (two_boxes hr.out)
  have HH := Lib.hid (RHas_any p.A p.cA q.nbs n _ HT.out.rf.nbs (Nat.le_trans hn (by decide)))
  have HRt := Lib.hid (RRight_any A c B l ((w.alloc (.cells (rqV q p) 33)).alloc (.cells (rqV q0 p0) 33)) (hl.out.below (HT.out.bel.mono hBw)) hlc)
  have HRD : Hid (Mi.Rd ((w.alloc (.cells (rqV q p) 33)).alloc (.cells (rqV q0 p0) 33)) B A l) := hl.out.below (HT.out.bel.mono hBw)
  obtain ⟨w1, hw1⟩ : ∃ w1, (w.alloc (.cells (rqV q p) 33)).alloc (.cells (rqV q0 p0) 33) = w1 := ⟨_, rfl⟩
  have HW1 : Hid ((w.alloc (.cells (rqV q p) 33)).alloc (.cells (rqV q0 p0) 33) = w1) := hw1
  rw [hw1] at HT HH HRt HRD
  obtain ⟨b0, b1, b2, b3, b4⟩ := HT.out.b.cells
  obtain ⟨Ln, hLn⟩ : ∃ Ln, l.length = Ln := ⟨_, rfl⟩
  have HLN : Hid (l.length = Ln) := hLn
  rw [hLn] at HRt hlc ⊢
  clear hw1 hLn
  unfold hearQE at hE ⊢
  cases h1 : q.nbs.contains n with
  | false =>
    rw [h1] at HH
    rw [if_pos rfl]
    go_enter Try.func37, Try.ntmps37
    go_wp2_with (first
      | (refine Mi.allocTo rfl (.pointer (some ⟨_, 0, none⟩)) (.cells (rqV q p) 33 (0, 0)) (exec_boxq _ _ q p (.tmp 0) rfl rfl _) ?_)
      | (refine allocAt rfl (w.heap.size + 1) (.cells (rqV q0 p0) 33 (0, 0)) (alloc_rq _ _ rfl _) (World.size_alloc _ _) ?_; rw [HW1.out])
      | (go_at_call 25; refine HH.out.mono ?_; rintro e w' ⟨rfl, rfl⟩)
      | (go_at_call 46; refine HRt.out.mono ?_; rintro e w' ⟨rfl, rfl⟩)
      | (refine wpList_load_row rfl 33 (.tmp 3) rfl w.heap.size rfl 33 _ (0, 0) _ HT.out.b Try.underlying33 rfl (rq_size _ _) ?_)
      | (refine wpList_store_row rfl 33 (.tmp 6) (.tmp 17) rfl (w.heap.size + 1) (rqV q p) rfl rfl 33 _ HT.out.z (rq_size _ _) rfl (rq_one _ _) ?_))
    refine ret_box2 rfl rfl (setRow_heap _ _ _ _ _ _ HT.out.z) rfl Try.underlying33 (rq_size _ _) rfl ⟨rfl, ?_⟩
    exact Sb.below_setRow _ HT.out.bel (Nat.le_succ _)
  | true =>
    rw [h1] at HH hE
    rw [if_neg (by decide)] at hE ⊢
    have h2 : rightB l = false := by
      cases hb : rightB l with
      | false => rfl
      | true => rw [hb] at hE; exact absurd rfl hE
    rw [h2] at HRt
    rw [if_pos h2]
    clear h2 hE h1
    go_enter Try.func37, Try.ntmps37
    go_wp2_with (first
      | (refine Mi.allocTo rfl (.pointer (some ⟨_, 0, none⟩)) (.cells (rqV q p) 33 (0, 0)) (exec_boxq _ _ q p (.tmp 0) rfl rfl _) ?_)
      | (refine allocAt rfl (w.heap.size + 1) (.cells (rqV q0 p0) 33 (0, 0)) (alloc_rq _ _ rfl _) (World.size_alloc _ _) ?_; rw [HW1.out])
      | (go_at_call 25; refine HH.out.mono ?_; rintro e w' ⟨rfl, rfl⟩)
      | (go_at_call 46; refine HRt.out.mono ?_; rintro e w' ⟨rfl, rfl⟩)
      | (refine wpList_load_row rfl 33 (.tmp 3) rfl w.heap.size rfl 33 _ (0, 0) _ HT.out.b Try.underlying33 rfl (rq_size _ _) ?_)
      | (refine wpList_store_row rfl 33 (.tmp 6) (.tmp 21) rfl (w.heap.size + 1) (rqV q p) rfl rfl 33 _ HT.out.z (rq_size _ _) rfl (rq_one _ _) ?_))
    refine ret_box2 rfl rfl (setRow_heap _ _ _ _ _ _ HT.out.z) rfl Try.underlying33 (rq_size _ _) rfl ⟨rfl, ?_⟩
    exact Sb.below_setRow _ HT.out.bel (Nat.le_succ _)
theorem enc64 {n g : Int} {l : List Int} (A : Option Addr) (c : Nat) (h : l.length = 64) : (encH ⟨n, l, g, A, c⟩).toArray = #[.int .i64 n, .slice A 64 c, .int .i64 g] := by simp [encH, h]
theorem encR_ {r : He} {rf : Int} (h : r.f = rf) : (encH r).toArray = #[.int .i64 rf, .slice r.R r.c.length r.cr, .int .i64 r.left] := by rw [← h]; rfl
theorem cells64 {w : World} {g : Nat} {n a : Int} {l : List Int} {A : Option Addr} {c : Nat} (h : l.length = 64) (hb : Bh w g ⟨n, l, a, A, c⟩) : w.cell? ⟨g, 0, none⟩ = some (.int .i64 n) ∧ w.cell? ⟨g, 1, none⟩ = some (.slice A 64 c) ∧ w.cell? ⟨g, 2, none⟩ = some (.int .i64 a) := by
  obtain ⟨h1, h2, h3⟩ := hb.cells
  refine ⟨h1, ?_, h3⟩
  rw [h2]
  show some (Value.slice A l.length c) = _
  rw [h]
/-- What the call has behind its first part: the box of what was heard, the copy of the costs. -/
structure Got8 (M : Nat → Prop) (w w1 V : World) (g : Nat) (A : Option Addr) (l : List Int) : Prop where
  box : Bh V g h0
  cp : RI (fun b => (M b ∧ b ≠ w.heap.size + 1) ∧ b ≠ g) V A l
  bel : Below w1.heap.size w1 V
  g : w1.heap.size ≤ g
set_option maxRecDepth 100000 in
set_option maxHeartbeats 8000000 in
theorem RHear_ok {M : Nat → Prop} (q : RQ) (p : Pl) (n : Int) (A : Option Addr) (c B : Nat) (l : List Int) (w : World) (hr : Hid (Rf M w q p)) (hn : q.nbs.length ≤ 64) (hs : q.l.length ≤ 1000) (hM : ∀ b, w.heap.size ≤ b → M b) (hl : Hid (Mi.Rd w B A l)) (hBw : B ≤ w.heap.size) (hlc : l.length ≤ 9223372036854775806) (hE : hearQE q n l = 0) :
    Calls Try.prog 37 #[.agg (rqV q p), .int .i64 n, .slice A l.length c] w fun e w' => ∃ R cr p', e = .returned (.tuple #[.agg (rqV (hearQ q n l R cr) p'), .int .i64 0]) ∧ Hid (Rf M w' (hearQ q n l R cr) p') ∧ Hid (Below w.heap.size w w') := by
  have HT := Lib.hid (two_boxes hr.out)
  have HH := Lib.hid (RHas_any p.A p.cA q.nbs n _ HT.out.rf.nbs (Nat.le_trans hn (by decide)))
  have HRt := Lib.hid (RRight_any A c B l ((w.alloc (.cells (rqV q p) 33)).alloc (.cells (rqV q0 p0) 33)) (hl.out.below (HT.out.bel.mono hBw)) hlc)
  have HRD : Hid (Mi.Rd ((w.alloc (.cells (rqV q p) 33)).alloc (.cells (rqV q0 p0) 33)) B A l) := hl.out.below (HT.out.bel.mono hBw)
  obtain ⟨w1, hw1⟩ : ∃ w1, (w.alloc (.cells (rqV q p) 33)).alloc (.cells (rqV q0 p0) 33) = w1 := ⟨_, rfl⟩
  have HW1 : Hid ((w.alloc (.cells (rqV q p) 33)).alloc (.cells (rqV q0 p0) 33) = w1) := hw1
  rw [hw1] at HT HH HRt HRD
  obtain ⟨b0, b1, b2, b3, b4⟩ := HT.out.b.cells
  obtain ⟨Ln, hLn⟩ : ∃ Ln, l.length = Ln := ⟨_, rfl⟩
  have HLN : Hid (l.length = Ln) := hLn
  rw [hLn] at HRt hlc ⊢
  clear hw1 hLn
  unfold hearQE at hE
  have h1 : q.nbs.contains n = true := by
    cases hb : q.nbs.contains n with
    | true => rfl
    | false => rw [if_pos hb] at hE; cases hE
  rw [h1] at HH hE
  rw [if_neg (by decide)] at hE
  have h2 : rightB l = true := by
    cases hb : rightB l with
    | true => rfl
    | false => rw [if_pos hb] at hE; cases hE
  rw [h2] at HRt
  have hl64 : Ln = 64 := by
    unfold rightB at h2
    rw [Bool.and_eq_true, decide_eq_true_eq] at h2
    rw [← HLN.out]
    exact h2.2
  subst hl64
  obtain ⟨ab, aoff, rfl, _, _⟩ := hl.out (by rw [HLN.out]; omega)
  obtain ⟨N, hN⟩ : ∃ N, q.l.length = N := ⟨_, rfl⟩
  have HN : Hid (q.l.length = N) := hN
  rw [hN] at hs b4
  have HMM : Hid (∀ b, w1.heap.size ≤ b → M b ∧ b ≠ w.heap.size + 1) := fun b hb => ⟨hM b (by have := HT.out.sz; omega), by have := HT.out.sz; omega⟩
  have HBw1 : Hid (B ≤ w1.heap.size) := Nat.le_trans hBw HT.out.bel.size
  have hfin : Hid (∀ (V : World) (A8 : Option Addr) (c8 : Nat), RI (fun b => M b ∧ b ≠ w.heap.size + 1) V A8 l → Below w1.heap.size w1 V → ∀ (w5 : World) (u : Value), Below V.heap.size V w5 → OH w5 V.heap.size u (hearL q.l ⟨n, l, q.age, A8, c8⟩) → ∃ A c, u = .slice A (hearL q.l ⟨n, l, q.age, A8, c8⟩).length c ∧ Bq w5 (w.heap.size + 1) q0 p0 ∧ Rf M (w5.setRow (w.heap.size + 1) (rqV (hearQ q n l A8 c8) ⟨p.A, p.cA, p.S, p.cS, A, c⟩)) (hearQ q n l A8 c8) ⟨p.A, p.cA, p.S, p.cS, A, c⟩ ∧ Below w.heap.size w (w5.setRow (w.heap.size + 1) (rqV (hearQ q n l A8 c8) ⟨p.A, p.cA, p.S, p.cS, A, c⟩))) := by
    intro V A8 c8 hGc hGb w5 u hb5 ho
    have hsz := HT.out.sz
    have hVs := hGb.size
    obtain ⟨A, c, e, _, hrr⟩ := Og.form (enc := encH) (k := 3) (M := fun b => M b ∧ b ≠ w.heap.size + 1) (fun _ => rfl) ho (fun b hb => HMM.out b (by omega))
    have hb15 : Below w1.heap.size w1 w5 := hGb.trans (hb5.mono hVs)
    have hbw : Below w.heap.size w (w5.setRow (w.heap.size + 1) (rqV (hearQ q n l A8 c8) ⟨p.A, p.cA, p.S, p.cS, A, c⟩)) := Sb.below_setRow _ (HT.out.bel.trans (hb15.mono (by omega))) (Nat.le_succ _)
    have hR := hr.out.below hbw
    have hBU : But (fun k => k = w.heap.size + 1) w5 (w5.setRow (w.heap.size + 1) (rqV (hearQ q n l A8 c8) ⟨p.A, p.cA, p.S, p.cS, A, c⟩)) := (But.refl (fun k => k = w.heap.size + 1) w5).setRow (D := w.heap.size + 1) (.inl rfl) _
    exact ⟨A, c, e, HT.out.z.at_ hb15 (by omega), ⟨hR.nbs, hR.set, (hrr.but hBU fun b hb e => hb.2 e).mono fun b _ hb => hb.1, fun e he => by
      rcases hearL_mem he with h1 | rfl
      · exact hR.c e h1
      · exact ⟨((hGc.below hb5).but hBU fun b hb e => hb.2 e).mono fun b _ hb => hb.1, HLN.out⟩⟩, hbw⟩
  clear hN h1 h2 hE hl
  go_enter Try.func37, Try.ntmps37
  go_wp2_with (first
    | (refine Mi.allocTo rfl (.pointer (some ⟨_, 0, none⟩)) (.cells (rqV q p) 33 (0, 0)) (exec_boxq _ _ q p (.tmp 0) rfl rfl _) ?_)
    | (refine allocAt rfl (w.heap.size + 1) (.cells (rqV q0 p0) 33 (0, 0)) (alloc_rq _ _ rfl _) (World.size_alloc _ _) ?_; rw [HW1.out])
    | (go_at_call 25; refine HH.out.mono ?_; rintro e w' ⟨rfl, rfl⟩)
    | (go_at_call 46; refine HRt.out.mono ?_; rintro e w' ⟨rfl, rfl⟩))
  refine wp_region_held_drew (S := fun W => Below w1.heap.size w1 W) (by kernel_rfl) (Below.refl _ _).drew (fun hHeld => ?_)
  refine wpAnyH_take (i := 0) (v := .int .i64 n) rfl (by kernel_rfl) (by kernel_rfl) (by kernel_rfl) (fun _ _ _ h => h) (Or.inl ⟨by rfl, ?_⟩) (by first | assumption | exact trivial) ?_
  · intro W hSW; go_simp; try (with_reducible rfl)
  simp only [Act.put, List.getElem_toArray, List.getElem_cons_succ, List.getElem_cons_zero, List.setIfInBounds_toArray, List.set_cons_zero, List.set_cons_succ]
  refine wpAnyH_take (i := 2) (v := .slice (some ⟨ab, aoff, none⟩) 64 c) rfl (by kernel_rfl) (by kernel_rfl) (by kernel_rfl) (fun _ _ _ h => h) (Or.inl ⟨by rfl, ?_⟩) (by first | assumption | exact trivial) ?_
  · intro W hSW; go_simp; try (with_reducible rfl)
  simp only [Act.put, List.getElem_toArray, List.getElem_cons_succ, List.getElem_cons_zero, List.setIfInBounds_toArray, List.set_cons_zero, List.set_cons_succ]
  refine wpAnyH_take (i := 4) (v := .pointer (some ⟨w.heap.size, 1, none⟩)) rfl (by kernel_rfl) (by kernel_rfl) (by kernel_rfl) (fun _ _ _ h => h) (Or.inl ⟨by rfl, ?_⟩) (by first | assumption | exact trivial) ?_
  · intro W hSW; go_simp; try (with_reducible rfl)
  simp only [Act.put, List.getElem_toArray, List.getElem_cons_succ, List.getElem_cons_zero, List.setIfInBounds_toArray, List.set_cons_zero, List.set_cons_succ]
  refine wpAnyH_take (i := 5) (v := .int .i64 q.age) rfl (by kernel_rfl) (by kernel_rfl) (by kernel_rfl) (fun _ _ _ h => h) (Or.inl ⟨by rfl, ?_⟩) (by first | assumption | exact trivial) ?_
  · intro W hSW; have q5 := (HT.out.b.at_ hSW (by (have := HT.out.sz; omega))).cells.2.1; go_simp; try (with_reducible rfl)
  simp only [Act.put, List.getElem_toArray, List.getElem_cons_succ, List.getElem_cons_zero, List.setIfInBounds_toArray, List.set_cons_zero, List.set_cons_succ]
  refine wpAnyH_ready (rs := [1, 7]) (by kernel_rfl) (by simp) ?_
  refine AllReadyH.cons rfl (fun K hK => ?pa) (AllReadyH.cons rfl (fun K hK => ?pb) AllReadyH.nil)
  case' pa =>
    go_simp
    have hb5 : Below w1.heap.size w1 (w1.alloc (.cells #[] 3)).drew := (Mi.below_alloc (Below.refl _ _)).drew
    have ho5 : Mi.Own (w1.alloc (.cells #[] 3)).drew w1.heap.size (.slice (some ⟨w1.heap.size, 0, none⟩) 0 0) [] := Mi.Own.lit (Below.refl _ _)
    obtain ⟨V5, hV5⟩ : ∃ X, (w1.alloc (.cells #[] 3)).drew = X := ⟨_, rfl⟩
    rw [hV5] at hb5 ho5 ⊢
    clear hV5
    refine hK.out _ _ (hb5) (fun hHeld => ?_)
    clear hK K
    refine wpAnyH_ready (rs := [3, 7]) (by kernel_rfl) (by simp) ?_
    refine AllReadyH.cons rfl (fun K hK => ?qa) (AllReadyH.cons rfl (fun K hK => ?qb) AllReadyH.nil)
  case' qa =>
    rw [if_pos (by kernel_rfl)]
    refine appIw (.tmp 23) (.tmp 24) rfl w1.heap.size B _ [] l rfl ho5 hb5.size ⟨ab, aoff, none⟩ 64 c HLN.out.symm rfl (HRD.out.below (hb5.mono HBw1.out)) (by simp [HLN.out]) ?_
    intro v6 V7 ho7 hg7
    rw [List.nil_append] at ho7
    obtain ⟨A8, c8, rfl, hri7⟩ := own_RI2 ho7
    rw [HLN.out] at ho7 ⊢
    have hb7 : Below w1.heap.size w1 V7 := hb5.grown hg7 hb5.size (fun j e => by cases e; exact Nat.le_refl _)
    simp only [Act.put, List.getElem_toArray, List.getElem_cons_succ, List.getElem_cons_zero, List.setIfInBounds_toArray, List.set_cons_zero, List.set_cons_succ]
    refine hK.out _ _ (hb7) (fun hHeld => ?_)
    clear hK K
    refine wpAnyH_take (i := 6) (v := .agg #[.int .i64 n, .slice A8 64 c8, .int .i64 q.age]) rfl (by kernel_rfl) (by kernel_rfl) (by kernel_rfl) (fun _ _ _ h => h) (Or.inl ⟨by rfl, ?_⟩) (by first | assumption | exact trivial) ?_
    · intro W hSW; go_simp; try (with_reducible rfl)
    simp only [Act.put, List.getElem_toArray, List.getElem_cons_succ, List.getElem_cons_zero, List.setIfInBounds_toArray, List.set_cons_zero, List.set_cons_succ]
    refine wpAnyH_ready (rs := [7]) (by kernel_rfl) (by simp) ?_
    refine AllReadyH.cons rfl (fun K hK => ?_) AllReadyH.nil
    go_simp
    have hG8 : Got8 M w w1 (V7.alloc (.cells #[.int .i64 0, .slice none 0 0, .int .i64 0] 85)) V7.heap.size A8 l := ⟨heap_alloc_new _ _, (hri7.mono (M' := fun b => (M b ∧ b ≠ w.heap.size + 1) ∧ b ≠ V7.heap.size) fun b hlt hb => ⟨HMM.out b hb.1, by omega⟩).below (Mi.below_alloc (Below.refl _ _)), hb7.alloc hb7.size _, hb7.size⟩
    obtain ⟨V8, hV8⟩ : ∃ X, V7.alloc (.cells #[.int .i64 0, .slice none 0 0, .int .i64 0] 85) = X := ⟨_, rfl⟩
    obtain ⟨g8, hg8⟩ : ∃ X, V7.heap.size = X := ⟨_, rfl⟩
    rw [hV8] at hG8 ⊢
    rw [hg8] at hG8 ⊢
    refine hK.out _ _ (hG8.bel) (fun hHeld => ?_)
    clear hK K
  case' qb =>
    go_simp
    have hb6 : Below w1.heap.size w1 (V5.alloc (.cells #[.int .i64 0, .slice none 0 0, .int .i64 0] 85)) := hb5.alloc hb5.size _
    have ho6 : Mi.Own (V5.alloc (.cells #[.int .i64 0, .slice none 0 0, .int .i64 0] 85)) w1.heap.size (.slice (some ⟨w1.heap.size, 0, none⟩) 0 0) [] := ho5.alloc _
    have hx6 : Bh (V5.alloc (.cells #[.int .i64 0, .slice none 0 0, .int .i64 0] 85)) V5.heap.size h0 := heap_alloc_new _ _
    have hlt5 : w1.heap.size < V5.heap.size := (ho5.lt w1.heap.size rfl).2
    obtain ⟨V6, hV6⟩ : ∃ X, V5.alloc (.cells #[.int .i64 0, .slice none 0 0, .int .i64 0] 85) = X := ⟨_, rfl⟩
    obtain ⟨g8, hg8⟩ : ∃ X, V5.heap.size = X := ⟨_, rfl⟩
    rw [hV6] at hb6 ho6 hx6 ⊢
    rw [hg8] at hx6 hlt5 ⊢
    refine hK.out _ _ (hb6) (fun hHeld => ?_)
    clear hK K
    refine wpAnyH_ready (rs := [3]) (by kernel_rfl) (by simp) ?_
    refine AllReadyH.cons rfl (fun K hK => ?_) AllReadyH.nil
    rw [if_pos (by kernel_rfl)]
    refine appIw (.tmp 23) (.tmp 24) rfl w1.heap.size B _ [] l rfl ho6 hb6.size ⟨ab, aoff, none⟩ 64 c HLN.out.symm rfl (HRD.out.below (hb6.mono HBw1.out)) (by simp [HLN.out]) ?_
    intro v6 V7 ho7 hg7
    rw [List.nil_append] at ho7
    obtain ⟨A8, c8, rfl, hri7⟩ := own_RI2 ho7
    rw [HLN.out] at ho7 ⊢
    have hb7 : Below w1.heap.size w1 V7 := hb6.grown hg7 hb6.size (fun j e => by cases e; exact Nat.le_refl _)
    simp only [Act.put, List.getElem_toArray, List.getElem_cons_succ, List.getElem_cons_zero, List.setIfInBounds_toArray, List.set_cons_zero, List.set_cons_succ]
    refine hK.out _ _ (hb7) (fun hHeld => ?_)
    clear hK K
    refine wpAnyH_take (i := 6) (v := .agg #[.int .i64 n, .slice A8 64 c8, .int .i64 q.age]) rfl (by kernel_rfl) (by kernel_rfl) (by kernel_rfl) (fun _ _ _ h => h) (Or.inl ⟨by rfl, ?_⟩) (by first | assumption | exact trivial) ?_
    · intro W hSW; go_simp; try (with_reducible rfl)
    simp only [Act.put, List.getElem_toArray, List.getElem_cons_succ, List.getElem_cons_zero, List.setIfInBounds_toArray, List.set_cons_zero, List.set_cons_succ]
    have hx7 : Bh V7 g8 h0 := (hg7.block g8 hx6.lt (fun e => by injection e with e; simp only at e; omega)).trans hx6
    have hG8 : Got8 M w w1 V7 g8 A8 l := ⟨hx7, hri7.mono fun b hlt hb => ⟨HMM.out b hb.1, fun e => (by
      obtain ⟨cur, hc⟩ := hb.2
      rw [e, hx7] at hc
      simp only [Option.some.injEq, Obj.cells.injEq] at hc
      exact absurd hc.2.1 (by decide))⟩, hb7, Nat.le_of_lt hlt5⟩
    obtain ⟨V8, hV8⟩ : ∃ X, V7 = X := ⟨_, rfl⟩
    rw [hV8] at hG8 ⊢
  case' pb =>
    go_simp
    have hb5 : Below w1.heap.size w1 (w1.alloc (.cells #[.int .i64 0, .slice none 0 0, .int .i64 0] 85)).drew := (Mi.below_alloc (Below.refl _ _)).drew
    have hx5 : Bh (w1.alloc (.cells #[.int .i64 0, .slice none 0 0, .int .i64 0] 85)).drew w1.heap.size h0 := heap_alloc_new _ _
    obtain ⟨V5, hV5⟩ : ∃ X, (w1.alloc (.cells #[.int .i64 0, .slice none 0 0, .int .i64 0] 85)).drew = X := ⟨_, rfl⟩
    rw [hV5] at hb5 hx5 ⊢
    clear hV5
    refine hK.out _ _ (hb5) (fun hHeld => ?_)
    clear hK K
    refine wpAnyH_ready (rs := [1]) (by kernel_rfl) (by simp) ?_
    refine AllReadyH.cons rfl (fun K hK => ?_) AllReadyH.nil
    go_simp
    have hb6 : Below w1.heap.size w1 (V5.alloc (.cells #[] 3)) := hb5.alloc hb5.size _
    have ho6 : Mi.Own (V5.alloc (.cells #[] 3)) w1.heap.size (.slice (some ⟨V5.heap.size, 0, none⟩) 0 0) [] := (Mi.Own.lit (Below.refl _ _)).base fun k e => by cases e; exact hb5.size
    have hx6 : Bh (V5.alloc (.cells #[] 3)) w1.heap.size h0 := hx5.at_ (Mi.below_alloc (Below.refl _ _)) hx5.lt
    have hlt5 : w1.heap.size < V5.heap.size := hx5.lt
    obtain ⟨V6, hV6⟩ : ∃ X, V5.alloc (.cells #[] 3) = X := ⟨_, rfl⟩
    obtain ⟨gv, hgv⟩ : ∃ X, V5.heap.size = X := ⟨_, rfl⟩
    obtain ⟨g8, hg8⟩ : ∃ X, w1.heap.size = X := ⟨_, rfl⟩
    have HG8 : Hid (w1.heap.size = g8) := hg8
    have HGV : Hid (V5.heap.size = gv) := hgv
    rw [hV6] at hb6 ho6 hx6 ⊢
    rw [hgv] at ho6 hlt5 ⊢
    rw [hg8] at hx6 ⊢
    clear hg8 hgv
    refine hK.out _ _ (hb6) (fun hHeld => ?_)
    clear hK K
    refine wpAnyH_ready (rs := [3]) (by kernel_rfl) (by simp) ?_
    refine AllReadyH.cons rfl (fun K hK => ?_) AllReadyH.nil
    rw [if_pos (by kernel_rfl)]
    refine appIw (.tmp 23) (.tmp 24) rfl w1.heap.size B _ [] l rfl ho6 hb6.size ⟨ab, aoff, none⟩ 64 c HLN.out.symm rfl (HRD.out.below (hb6.mono HBw1.out)) (by simp [HLN.out]) ?_
    intro v6 V7 ho7 hg7
    rw [List.nil_append] at ho7
    obtain ⟨A8, c8, rfl, hri7⟩ := own_RI2 ho7
    rw [HLN.out] at ho7 ⊢
    have hb7 : Below w1.heap.size w1 V7 := hb6.grown hg7 hb6.size (fun j e => by cases e; exact Nat.le_of_lt hlt5)
    simp only [Act.put, List.getElem_toArray, List.getElem_cons_succ, List.getElem_cons_zero, List.setIfInBounds_toArray, List.set_cons_zero, List.set_cons_succ]
    refine hK.out _ _ (hb7) (fun hHeld => ?_)
    clear hK K
    refine wpAnyH_take (i := 6) (v := .agg #[.int .i64 n, .slice A8 64 c8, .int .i64 q.age]) rfl (by kernel_rfl) (by kernel_rfl) (by kernel_rfl) (fun _ _ _ h => h) (Or.inl ⟨by rfl, ?_⟩) (by first | assumption | exact trivial) ?_
    · intro W hSW; go_simp; try (with_reducible rfl)
    simp only [Act.put, List.getElem_toArray, List.getElem_cons_succ, List.getElem_cons_zero, List.setIfInBounds_toArray, List.set_cons_zero, List.set_cons_succ]
    have hx7 : Bh V7 g8 h0 := (hg7.block g8 hx6.lt (fun e => by injection e with e; simp only at e; have := HG8.out; omega)).trans hx6
    have hG8 : Got8 M w w1 V7 g8 A8 l := ⟨hx7, hri7.mono fun b hlt hb => ⟨HMM.out b hb.1, fun e => (by
      obtain ⟨cur, hc⟩ := hb.2
      rw [e, hx7] at hc
      simp only [Option.some.injEq, Obj.cells.injEq] at hc
      exact absurd hc.2.1 (by decide))⟩, hb7, Nat.le_of_eq HG8.out⟩
    obtain ⟨V8, hV8⟩ : ∃ X, V7 = X := ⟨_, rfl⟩
    rw [hV8] at hG8 ⊢
  all_goals
    refine wpAnyH_ready (rs := [8]) (by kernel_rfl) (by simp) ?_
    refine AllReadyH.cons rfl (fun K hK => ?_) AllReadyH.nil
    refine wp_store_row 85 (.tmp 8) (.tmp 28) rfl g8 (encH ⟨n, l, q.age, A8, c8⟩).toArray rfl (by rw [enc64 A8 c8 HLN.out]; rfl) 85 _ hG8.box (sizeH _) rfl (he_one _) ?_
    have HBh : Hid (Bh (V8.setRow g8 (encH ⟨n, l, q.age, A8, c8⟩).toArray) g8 ⟨n, l, q.age, A8, c8⟩) := setRow_heap _ _ _ _ _ _ hG8.box
    have HB8 : Hid (Below w1.heap.size w1 (V8.setRow g8 (encH ⟨n, l, q.age, A8, c8⟩).toArray)) := Sb.below_setRow _ hG8.bel hG8.g
    have HC8 : Hid (RI (fun b => M b ∧ b ≠ w.heap.size + 1) (V8.setRow g8 (encH ⟨n, l, q.age, A8, c8⟩).toArray) A8 l) := (hG8.cp.but ((But.refl (fun k => k = g8) V8).setRow (D := g8) (.inl rfl) _) fun b hb e => hb.2 e).mono fun b _ hb => hb.1
    have HE : Hid ((encH ⟨n, l, q.age, A8, c8⟩).toArray = #[.int .i64 n, .slice A8 64 c8, .int .i64 q.age]) := enc64 A8 c8 HLN.out
    obtain ⟨W8, hW8⟩ : ∃ X, V8.setRow g8 (encH ⟨n, l, q.age, A8, c8⟩).toArray = X := ⟨_, rfl⟩
    rw [hW8] at HBh HB8 HC8 ⊢
    refine hK.out _ _ (HB8.out) (fun hHeld => ?_)
    clear hK K
    refine wpAnyH_done (by kernel_rfl) ?_ _
    clear hW8 hG8
    have HO0 : Hid (OH (W8.alloc (.cells #[] 85)) W8.heap.size (.slice (some ⟨W8.heap.size, 0, none⟩) 0 0) []) := Og.made W8
    have HB0 : Hid (Below W8.heap.size W8 (W8.alloc (.cells #[] 85))) := Mi.below_alloc (Below.refl _ _)
    have HBQ := Lib.hid (fun (W : World) (hW : Below W8.heap.size W8 W) => (HT.out.b.at_ (HB8.out.trans (hW.mono HB8.out.size)) (by have := HT.out.sz; omega)).cells)
    have HBE := Lib.hid (fun (W : World) (hW : Below W8.heap.size W8 W) => cells64 HLN.out (HBh.out.at_ hW HBh.out.lt))
    have HEL := Lib.hid (fun (W : World) (hW : Below W8.heap.size W8 W) (k : Nat) (r : He) (hk : q.l[k]? = some r) => (HT.out.rf.below (HB8.out.trans (hW.mono HB8.out.size))).l.at_ hk)
    have HF8 := Lib.hid (hfin.out W8 A8 c8 HC8.out HB8.out)
    obtain ⟨hh, hhh⟩ : ∃ hh : He, hh = ⟨n, l, q.age, A8, c8⟩ := ⟨_, rfl⟩
    have HHF : Hid (hh.f = n) := by rw [hhh]; rfl
    rw [← hhh] at HE HF8
    have HHH : Hid (hearQ q n l A8 c8 = ⟨q.self, q.age, q.nbs, q.set, hearL q.l hh⟩) := by rw [hhh]; rfl
    clear hhh hfin HBh HC8
    go_wp2
    go_loopw [9, 10, 11] (fun u dn i wr => ∃ k : Nat, k ≤ N ∧ i = .int .i64 k ∧ dn = .bool (hFold (q.l.take k) hh).2 ∧ Hid (OH wr 0 u (hFold (q.l.take k) hh).1) ∧ Hid (∀ b, u.ownBlock = some b → W8.heap.size ≤ b) ∧ Hid (Below W8.heap.size W8 wr)) (fun _ _ i _ => N - (intOf i).toNat)
    case atStart => exact ⟨0, Nat.zero_le _, rfl, rfl, HO0.out.zero, fun b e => (HO0.out.lt b e).1, HB0⟩
    case round =>
      obtain ⟨k, hk, rfl, rfl, HO, HOB, HB⟩ := hrel
      clear b0 b1 b2 b3 b4 HO0 HB0
      obtain ⟨b0, b1, b2, b3, b4⟩ := HBQ.out wr HB.out
      rw [HN.out] at b4
      obtain ⟨e0, e1, e2⟩ := HBE.out wr HB.out
      have hfl : (hFold (q.l.take k) hh).1.length ≤ 2000 := by have := hFold_le (q.l.take k) hh; rw [List.length_take] at this; omega
      by_cases hlt : k < N
      · obtain ⟨r, hrk⟩ : ∃ r, q.l[k]? = some r := ⟨_, List.getElem?_eq_getElem (by rw [HN.out]; exact hlt)⟩
        have HELk := Lib.hid (fun (W : World) (hW : Below W8.heap.size W8 W) => HEL.out W hW k r hrk)
        obtain ⟨b, off, hA, _, _, y0, y1, y2⟩ := HEL.out wr HB.out k r hrk
        have HS : Hid (hFold (q.l.take (k + 1)) hh = hStep hh (hFold (q.l.take k) hh) r) := hFold_snoc _ _ hrk
        obtain ⟨st, hst⟩ : ∃ st, hFold (q.l.take k) hh = st := ⟨_, rfl⟩
        rw [hst] at HS HO hfl ⊢
        obtain ⟨s1, s2⟩ := st
        simp only at HO hfl
        have HFL : Hid (s1.length ≤ 100000) := by show _ ≤ _; omega
        have HFL2 : Hid ((s1 ++ [hh]).length ≤ 100000) := by show _ ≤ _; rw [List.length_append]; simp; omega
        have hS2 : hStep hh (s1, s2) r = if (r.f == n) = true then (s1, s2) else if s2 = false ∧ n < r.f then (s1 ++ [hh] ++ [r], true) else (s1 ++ [r], s2) := by unfold hStep; rw [HHF.out]
        rw [hS2] at HS
        rw [hA] at b4
        obtain ⟨rf, hrf⟩ : ∃ rf, r.f = rf := ⟨_, rfl⟩
        have HRF : Hid (r.f = rf) := hrf
        rw [hrf] at y0 HS
        clear hst hS2 hrk hrf hfl
        cases he : (rf == n) with
        | true =>
          rw [he, if_pos rfl] at HS
          clear y1 y2
          go_wp2
          go_roundw
          case rel => exact ⟨k + 1, by omega, by go_num, by rw [HS.out], by rw [HS.out]; exact HO.out, HOB, HB⟩
          case measure => simp [intOf]; omega
        | false =>
          rw [he, if_neg (by decide)] at HS
          have hy1 : s2 = true ∨ (s2 = false ∧ n < rf) ∨ (s2 = false ∧ ¬ n < rf) := by
            cases s2
            · by_cases h : n < rf
              · exact .inr (.inl ⟨rfl, h⟩)
              · exact .inr (.inr ⟨rfl, h⟩)
            · exact .inl rfl
          rcases hy1 with rfl | ⟨rfl, h7⟩ | ⟨rfl, h7⟩
          · rw [if_neg (by simp)] at HS
            go_wp2_with (at_builtin; refine appH1 (wl := wr) rfl (.tmp 61) (.tmp 67) rfl s1 r rfl (by (rw [encR_ HRF.out])) HO.out _ rfl rfl HFL.out ?_; intro v3 w3 ho3 hg3 hl3; have HO3 := Lib.hid ho3; have HG3 := Lib.hid hg3; have HL3 := Lib.hid hl3; clear ho3 hg3 hl3)
            go_roundw
            case rel => exact ⟨k + 1, by omega, by go_num, by rw [HS.out], by rw [HS.out]; exact HO3.out, (fun b e => by
              rcases HL3.out b e with h | h
              · exact HOB.out b h
              · exact Nat.le_trans HB.out.size h), HB.out.grown HG3.out HB.out.size fun b e => HOB.out b e⟩
            case measure => simp [intOf]; omega
          · rw [if_pos ⟨rfl, h7⟩] at HS
            go_wp2_with (first
              | (at_builtin; refine appH1 (wl := wr) rfl (.tmp 57) (.tmp 59) rfl s1 hh rfl (by (rw [HE.out])) HO.out _ rfl rfl HFL.out ?_; intro v2 w2 ho2 hg2 hl2
                 have HB2 : Hid (Below W8.heap.size W8 w2) := HB.out.grown hg2 HB.out.size fun b e => HOB.out b e
                 have HOB2 : Hid (∀ b, v2.ownBlock = some b → W8.heap.size ≤ b) := fun b e => (hl2 b e).elim (fun h => HOB.out b h) (fun h => Nat.le_trans HB.out.size h)
                 have HO2 := Lib.hid ho2
                 clear b0 b1 b2 b3 b4 e0 e1 e2 y0 y1 y2 ho2 hg2 hl2
                 obtain ⟨b0, b1, b2, b3, b4⟩ := HBQ.out w2 HB2.out
                 rw [HN.out] at b4
                 obtain ⟨bx, offx, hAx, _, _, y0, y1, y2⟩ := HELk.out w2 HB2.out
                 rw [hA] at hAx
                 injection hAx with hAx
                 injection hAx with hAx1 hAx2
                 subst hAx1
                 subst hAx2
                 rw [hA] at b4
                 rw [HRF.out] at y0)
              | (at_builtin; refine appH1 (wl := w2) rfl (.tmp 61) (.tmp 67) rfl (s1 ++ [hh]) r rfl (by (rw [encR_ HRF.out])) HO2.out _ rfl rfl HFL2.out ?_; intro v3 w3 ho3 hg3 hl3; have HO3 := Lib.hid ho3; have HG3 := Lib.hid hg3; have HL3 := Lib.hid hl3; clear ho3 hg3 hl3))
            go_roundw
            case rel => exact ⟨k + 1, by omega, by go_num, by rw [HS.out], by rw [HS.out]; exact HO3.out, (fun b e => by
              rcases HL3.out b e with h | h
              · exact HOB2.out b h
              · exact Nat.le_trans HB2.out.size h), HB2.out.grown HG3.out HB2.out.size fun b e => HOB2.out b e⟩
            case measure => simp [intOf]; omega
          · rw [if_neg (by simp [h7])] at HS
            go_wp2_with (at_builtin; refine appH1 (wl := wr) rfl (.tmp 61) (.tmp 67) rfl s1 r rfl (by (rw [encR_ HRF.out])) HO.out _ rfl rfl HFL.out ?_; intro v3 w3 ho3 hg3 hl3; have HO3 := Lib.hid ho3; have HG3 := Lib.hid hg3; have HL3 := Lib.hid hl3; clear ho3 hg3 hl3)
            go_roundw
            case rel => exact ⟨k + 1, by omega, by go_num, by rw [HS.out], by rw [HS.out]; exact HO3.out, (fun b e => by
              rcases HL3.out b e with h | h
              · exact HOB.out b h
              · exact Nat.le_trans HB.out.size h), HB.out.grown HG3.out HB.out.size fun b e => HOB.out b e⟩
            case measure => simp [intOf]; omega
      · obtain rfl : k = N := by omega
        have htk : q.l.take k = q.l := List.take_of_length_le (by rw [HN.out]; exact Nat.le_refl _)
        rw [htk] at HO hfl ⊢
        obtain ⟨st, hst⟩ : ∃ st, hFold q.l hh = st := ⟨_, rfl⟩
        have HST : Hid (hearL q.l hh = if st.2 = true then st.1 else st.1 ++ [hh]) := by show _ = _; unfold hearL; rw [hst]
        rw [hst] at HO hfl ⊢
        obtain ⟨s1, s2⟩ := st
        simp only at HO hfl HST
        have HFL : Hid (s1.length ≤ 100000) := by show _ ≤ _; omega
        clear hst htk hfl
        cases s2 with
        | true =>
          rw [if_pos rfl] at HST
          have HO1 : Hid (OH wr W8.heap.size u9 (hearL q.l hh)) := by rw [HST.out]; exact HO.out.base HOB.out
          obtain ⟨A9, c9, rfl, z9, f9, b9⟩ := HF8.out wr u9 HB.out HO1.out
          have Z9 := Lib.hid z9
          have F9 := Lib.hid f9
          have B9 := Lib.hid b9
          clear z9 f9 b9 HO HO1
          go_wp2_with (first
            | (refine valTo rfl (.agg (rqV (hearQ q n l A8 c8) ⟨p.A, p.cA, p.S, p.cS, A9, c9⟩)) (exec_build5 _ _ (hearQ q n l A8 c8) ⟨p.A, p.cA, p.S, p.cS, A9, c9⟩ (.tmp 76) (.tmp 78) (.tmp 80) (.tmp 82) (.tmp 83) rfl rfl rfl rfl rfl (by (rw [HHH.out]; rfl)) _) ?_)
            | (refine wpList_store_row rfl 33 (.tmp 6) (.tmp 84) rfl (w.heap.size + 1) (rqV (hearQ q n l A8 c8) ⟨p.A, p.cA, p.S, p.cS, A9, c9⟩) rfl rfl 33 _ Z9.out (rq_size _ _) rfl (rq_one _ _) ?_))
          exact ret_box2 rfl rfl (setRow_heap _ _ _ _ _ _ Z9.out) rfl Try.underlying33 (rq_size _ _) rfl ⟨A8, c8, ⟨p.A, p.cA, p.S, p.cS, A9, c9⟩, rfl, F9, B9⟩
        | false =>
          rw [if_neg (by decide)] at HST
          go_wp2_with (first
            | (at_builtin; refine appH1 (wl := wr) rfl (.tmp 71) (.tmp 73) rfl s1 hh rfl (by (rw [HE.out])) HO.out _ rfl rfl HFL.out ?_; intro v2 w2 ho2 hg2 hl2
               have HB2 : Hid (Below W8.heap.size W8 w2) := HB.out.grown hg2 HB.out.size fun b e => HOB.out b e
               have HO2 : Hid (OH w2 W8.heap.size v2 (hearL q.l hh)) := by (rw [HST.out]; exact ho2.base fun b e => (hl2 b e).elim (fun h => HOB.out b h) (fun h => Nat.le_trans HB.out.size h))
               clear b0 b1 b2 b3 b4 e0 e1 e2 ho2 hg2 hl2
               obtain ⟨b0, b1, b2, b3, b4⟩ := HBQ.out w2 HB2.out
               obtain ⟨A9, c9, rfl, z9, f9, b9⟩ := HF8.out w2 v2 HB2.out HO2.out
               have Z9 := Lib.hid z9
               have F9 := Lib.hid f9
               have B9 := Lib.hid b9
               clear z9 f9 b9)
            | (refine valTo rfl (.agg (rqV (hearQ q n l A8 c8) ⟨p.A, p.cA, p.S, p.cS, A9, c9⟩)) (exec_build5 _ _ (hearQ q n l A8 c8) ⟨p.A, p.cA, p.S, p.cS, A9, c9⟩ (.tmp 76) (.tmp 78) (.tmp 80) (.tmp 82) (.tmp 83) rfl rfl rfl rfl rfl (by (rw [HHH.out]; rfl)) _) ?_)
            | (refine wpList_store_row rfl 33 (.tmp 6) (.tmp 84) rfl (w.heap.size + 1) (rqV (hearQ q n l A8 c8) ⟨p.A, p.cA, p.S, p.cS, A9, c9⟩) rfl rfl 33 _ Z9.out (rq_size _ _) rfl (rq_one _ _) ?_))
          exact ret_box2 rfl rfl (setRow_heap _ _ _ _ _ _ Z9.out) rfl Try.underlying33 (rq_size _ _) rfl ⟨A8, c8, ⟨p.A, p.cA, p.S, p.cS, A9, c9⟩, rfl, F9, B9⟩
end Go.Proofs.Ytablejhajilpiaa.Rt
