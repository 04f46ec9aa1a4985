/- Small calls of the reference: Node, Has, Right, via, By, Froms. -/
import Derived.Test.YtablejhajilpiaaRtRMem
namespace Go.Proofs.Ytablejhajilpiaa.Rt
open Go.RowKit Go.Maps
open Go.Proofs.Ytablejhajilpiaa.Sb
set_option linter.unusedVariables false
set_option linter.unusedSimpArgs false

theorem RNode_any (n : Int) (w : World) : Calls Try.prog 34 #[.int .i64 n] w fun e w' => e = .returned (.bool (isN n)) ∧ w = w' := by
  have e63 : decide (n < 64) = decide (n ≤ 63) := decide_eq_decide.2 (by omega)
  unfold isN
  rw [e63]
  by_cases h1 : 0 ≤ n
  · have h3 : decide (0 ≤ n) = true := decide_eq_true h1
    clear e63
    go_enter Try.func34, Try.ntmps34
    go_wp2
    go_ret
    simp [h3]
  · have h3 : decide (0 ≤ n) = false := decide_eq_false h1
    clear e63
    go_enter Try.func34, Try.ntmps34
    go_wp2
    go_ret
    simp [h3]
section
variable {M : Nat → Prop} {w : World} {A : Option Addr}
theorem RI.at_ {l : List Int} (h : RI M w A l) {j : Nat} (hj : j < l.length) : ∃ b off, A = some ⟨b, off, none⟩ ∧ M b ∧ b < w.heap.size ∧ w.cell? ⟨b, off + j, none⟩ = some (.int .i64 (Mi.at_ l j)) := by
  obtain ⟨b, off, e, h1, h2, h3⟩ := h j (l[j]) (List.getElem?_eq_getElem hj)
  have := h3 0 _ rfl
  rw [Nat.mul_one, Nat.add_zero, ← Mi.at_get hj] at this
  exact ⟨b, off, e, h1, h2, this⟩
theorem RR.at_ {l : List (Int × Int)} (h : RR M w A l) {j : Nat} {r : Int × Int} (hj : l[j]? = some r) : ∃ b off, A = some ⟨b, off, none⟩ ∧ M b ∧ b < w.heap.size ∧ w.cell? ⟨b, off + j * 2, none⟩ = some (.int .i64 r.1) ∧ w.cell? ⟨b, off + j * 2 + 1, none⟩ = some (.int .i64 r.2) := by
  obtain ⟨b, off, e, h1, h2, h3⟩ := h j r hj
  exact ⟨b, off, e, h1, h2, h3 0 _ rfl, h3 1 _ rfl⟩
theorem RH.at_ {l : List He} (h : RH M w A l) {j : Nat} {r : He} (hj : l[j]? = some r) : ∃ b off, A = some ⟨b, off, none⟩ ∧ M b ∧ b < w.heap.size ∧ w.cell? ⟨b, off + j * 3, none⟩ = some (.int .i64 r.f) ∧ w.cell? ⟨b, off + j * 3 + 1, none⟩ = some (.slice r.R r.c.length r.cr) ∧ w.cell? ⟨b, off + j * 3 + 2, none⟩ = some (.int .i64 r.left) := by
  obtain ⟨b, off, e, h1, h2, h3⟩ := h j r hj
  exact ⟨b, off, e, h1, h2, h3 0 _ rfl, h3 1 _ rfl, h3 2 _ rfl⟩
end
set_option maxRecDepth 100000 in
theorem RHas_any {M : Nat → Prop} (A : Option Addr) (c : Nat) (l : List Int) (n : Int) (w : World) (hr : Hid (RI M w A l)) (hc : l.length ≤ 9223372036854775806) : Calls Try.prog 25 #[.slice A l.length c, .int .i64 n] w fun e w' => e = .returned (.bool (l.contains n)) ∧ w = w' := by
  obtain ⟨N, hN⟩ : ∃ N, l.length = N := ⟨_, rfl⟩
  have HN : Hid (l.length = N) := hN
  rw [hN] at hc ⊢
  clear hN
  go_enter Try.func25, Try.ntmps25
  go_wp2
  go_loopw [5] (fun i wr => ∃ k : Nat, k ≤ N ∧ i = .int .i64 k ∧ Hid (∀ j, j < k → Mi.at_ l j ≠ n) ∧ Hid (w = wr)) (fun i _ => N - (intOf i).toNat)
  case atStart => exact ⟨0, Nat.zero_le _, rfl, fun j hj => absurd hj (by omega), rfl⟩
  case round =>
    obtain ⟨k, hk, rfl, hok, HW⟩ := hrel
    by_cases hlt : k < N
    · obtain ⟨b, off, rfl, _, _, y0⟩ := hr.out.at_ (j := k) (by rw [HN.out]; exact hlt)
      rw [HW.out] at y0
      obtain ⟨x, hx⟩ : ∃ x, Mi.at_ l k = x := ⟨_, rfl⟩
      rw [hx] at y0
      by_cases he : x = n
      · have HA : Hid (l.contains n = true) := by
          show _ = _
          rw [List.contains_iff_mem, ← he, ← hx, Mi.at_get (by rw [HN.out]; exact hlt)]
          exact List.getElem_mem _
        have g1 : (x == n) = true := beq_iff_eq.mpr he
        clear he hx hok
        go_wp2
        go_ret
        exact ⟨by rw [HA.out]; rfl, HW.out⟩
      · have HOK : Hid (∀ j, j < k + 1 → Mi.at_ l j ≠ n) := fun j hj => by
          by_cases e : j = k
          · subst e; rw [hx]; exact he
          · exact hok.out j (by omega)
        have g1 : (x == n) = false := beq_eq_false_iff_ne.mpr he
        clear he hx hok
        go_wp2
        go_roundw
        case rel => exact ⟨k + 1, by omega, by go_num, HOK, HW⟩
        case measure => simp [intOf]; omega
    · obtain rfl : k = N := by omega
      have HA : Hid (l.contains n = false) := by
        show _ = _
        cases hb : l.contains n with
        | false => rfl
        | true =>
          rw [List.contains_iff_mem] at hb
          obtain ⟨j, hj, e⟩ := List.mem_iff_getElem.1 hb
          have := hok.out j (by rw [← HN.out]; exact hj)
          rw [Mi.at_get hj] at this
          exact absurd e this
      clear hok
      go_wp2
      go_ret
      exact ⟨by rw [HA.out]; rfl, HW.out⟩
/-- Right costs. -/
def rightB (l : List Int) : Bool := !(l.any badC) && decide (l.length = 64)
set_option maxRecDepth 100000 in
theorem RRight_any (A : Option Addr) (c B : Nat) (l : List Int) (w : World) (hr : Hid (Mi.Rd w B A l)) (hc : l.length ≤ 9223372036854775806) : Calls Try.prog 46 #[.slice A l.length c] w fun e w' => e = .returned (.bool (rightB l)) ∧ w = w' := by
  obtain ⟨N, hN⟩ : ∃ N, l.length = N := ⟨_, rfl⟩
  have HN : Hid (l.length = N) := hN
  rw [hN] at hc ⊢
  clear hN
  go_enter Try.func46, Try.ntmps46
  go_wp2
  go_loopw [3] (fun i wr => ∃ k : Nat, k ≤ N ∧ i = .int .i64 k ∧ Hid (∀ j, j < k → badC (Mi.at_ l j) = false) ∧ Hid (w = wr)) (fun i _ => N - (intOf i).toNat)
  case atStart => exact ⟨0, Nat.zero_le _, rfl, fun j hj => absurd hj (by omega), rfl⟩
  case round =>
    obtain ⟨k, hk, rfl, hok, HW⟩ := hrel
    by_cases hlt : k < N
    · obtain ⟨b, off, rfl, y0⟩ := rd_at hr.out (i := k) (by rw [HN.out]; exact hlt)
      rw [HW.out] at y0
      obtain ⟨x, hx⟩ : ∃ x, Mi.at_ l k = x := ⟨_, rfl⟩
      rw [hx] at y0
      have hmem : x ∈ l := by
        rw [← hx, Mi.at_get (by rw [HN.out]; exact hlt)]
        exact List.getElem_mem _
      by_cases h1 : x < 0
      · have HA : Hid (rightB l = false) := by
          show _ = _
          have : l.any badC = true := List.any_eq_true.2 ⟨x, hmem, by simp [badC, h1]⟩
          simp [rightB, this]
        clear hx hok hmem
        go_wp2
        go_ret
        exact ⟨by rw [HA.out]; rfl, HW.out⟩
      · by_cases h2 : 16 < x
        · have HA : Hid (rightB l = false) := by
            show _ = _
            have : l.any badC = true := List.any_eq_true.2 ⟨x, hmem, by simp [badC, h2]⟩
            simp [rightB, this]
          clear hx hok hmem
          go_wp2
          go_ret
          exact ⟨by rw [HA.out]; rfl, HW.out⟩
        · have HOK : Hid (∀ j, j < k + 1 → badC (Mi.at_ l j) = false) := fun j hj => by
            by_cases e : j = k
            · subst e; rw [hx]; simp [badC, h1, h2]
            · exact hok.out j (by omega)
          clear hx hok hmem
          go_wp2
          go_roundw
          case rel => exact ⟨k + 1, by omega, by go_num, HOK, HW⟩
          case measure => simp [intOf]; omega
    · obtain rfl : k = N := by omega
      have HA : Hid (rightB l = ((k : Int) == 64)) := by
        show _ = _
        have : l.any badC = false := List.any_eq_false.2 fun x hx => by
          obtain ⟨j, hj, rfl⟩ := List.mem_iff_getElem.1 hx
          have := hok.out j (by rw [← HN.out]; exact hj)
          rw [Mi.at_get hj] at this
          simp [this]
        unfold rightB
        rw [this, HN.out]
        by_cases e : k = 64
        · subst e; rfl
        · rw [decide_eq_false e, beq_eq_false_iff_ne.mpr (by omega)]; rfl
      clear hok
      go_wp2
      go_ret
      exact ⟨by rw [HA.out]; rfl, HW.out⟩
/-! ### First finds -/
theorem find_first {α : Type} {p : α → Bool} : ∀ {l : List α} {k : Nat} {r : α}, l[k]? = some r → p r = true → (∀ j, j < k → ∀ s, l[j]? = some s → p s = false) → l.find? p = some r
  | [], k, r, h, _, _ => by simp at h
  | x :: l, 0, r, h, hp, _ => by
    simp only [List.getElem?_cons_zero, Option.some.injEq] at h
    subst h
    simp [List.find?_cons, hp]
  | x :: l, k + 1, r, h, hp, hn => by
    rw [List.getElem?_cons_succ] at h
    have h0 := hn 0 (by omega) x rfl
    rw [List.find?_cons, h0]
    exact find_first h hp fun j hj s hs => hn (j + 1) (by omega) s (by rw [List.getElem?_cons_succ]; exact hs)
theorem find_none {α : Type} {p : α → Bool} {l : List α} (hn : ∀ (j : Nat) (s : α), l[j]? = some s → p s = false) : l.find? p = none :=
  List.find?_eq_none.2 fun x hx => by
    obtain ⟨j, hj⟩ := List.mem_iff_getElem?.1 hx
    simp [hn j x hj]
def viaL (set : List (Int × Int)) (d : Int) : Int := match set.find? (fun r => r.1 == d) with
  | none => -1
  | some r => r.2
theorem exec_boxq (ρ : Operand → Value) (o : Oper) (q : RQ) (p : Pl) (x : Operand) (ho : o.op = .box 33 x) (h0 : ρ x = .agg (rqV q p)) (w : World) :
    (execOp ρ o).run Try.prog w = .ok (.value (.pointer (some ⟨w.heap.size, 0, none⟩))) (w.alloc (.cells (rqV q p) 33 (0, 0))) := by
  unfold execOp
  rw [ho]
  simp only [h0]
  kernel_rfl
set_option maxRecDepth 100000 in
theorem RVia_any {M : Nat → Prop} (q : RQ) (p : Pl) (d : Int) (w : World) (hr : Hid (Rf M w q p)) (hc : q.set.length ≤ 9223372036854775806) : Calls Try.prog 41 #[.agg (rqV q p), .int .i64 d] w fun e w' => e = .returned (.int .i64 (viaL q.set d)) ∧ Hid (Below w.heap.size w w') := by
  have HQ : Hid (Bq (w.alloc (.cells (rqV q p) 33)) w.heap.size q p) := box_rq q p w
  have HB : Hid (Below w.heap.size w (w.alloc (.cells (rqV q p) 33))) := Mi.below_alloc (Below.refl _ _)
  have HR : Hid (RR M (w.alloc (.cells (rqV q p) 33)) p.S q.set) := (hr.out.below HB.out).set
  obtain ⟨N, hN⟩ : ∃ N, q.set.length = N := ⟨_, rfl⟩
  have HN : Hid (q.set.length = N) := hN
  rw [hN] at hc
  clear hN hr
  go_enter Try.func41, Try.ntmps41
  go_wp2_with (refine Mi.allocTo rfl (.pointer (some ⟨_, 0, none⟩)) (.cells (rqV q p) 33 (0, 0)) (exec_boxq _ _ q p (.tmp 0) rfl rfl _) ?_)
  obtain ⟨w1, hw1⟩ : ∃ w1, w.alloc (.cells (rqV q p) 33) = w1 := ⟨_, rfl⟩
  rw [hw1] at HQ HB HR ⊢
  clear hw1
  go_loopw [5] (fun i wr => ∃ k : Nat, k ≤ N ∧ i = .int .i64 k ∧ Hid (∀ j, j < k → ∀ r, q.set[j]? = some r → (r.1 == d) = false) ∧ Hid (w1 = wr)) (fun i _ => N - (intOf i).toNat)
  case atStart => exact ⟨0, Nat.zero_le _, rfl, fun j hj => absurd hj (by omega), rfl⟩
  case round =>
    obtain ⟨k, hk, rfl, hok, HW⟩ := hrel
    obtain ⟨_, _, _, b3, _⟩ := HQ.out.cells
    rw [HW.out, HN.out] at b3
    by_cases hlt : k < N
    · obtain ⟨r, hr⟩ : ∃ r, q.set[k]? = some r := ⟨_, List.getElem?_eq_getElem (by rw [HN.out]; exact hlt)⟩
      obtain ⟨b, off, hA, _, _, y0, y1⟩ := HR.out.at_ hr
      rw [HW.out] at y0 y1
      rw [hA] at b3
      cases he : (r.1 == d) with
      | true =>
        have HA : Hid (viaL q.set d = r.2) := by
          show _ = _
          unfold viaL
          rw [find_first hr he hok.out]
        obtain ⟨r1, r2⟩ := r
        simp only at he y0 y1 HA
        clear hr hok
        go_wp2
        go_ret
        refine ⟨by rw [HA.out]; rfl, ?_⟩
        rw [← HW.out]
        exact HB
      | false =>
        have HOK : Hid (∀ j, j < k + 1 → ∀ r, q.set[j]? = some r → (r.1 == d) = false) := fun j hj s hs => by
          by_cases e : j = k
          · subst e
            rw [hr] at hs
            cases hs
            exact he
          · exact hok.out j (by omega) s hs
        obtain ⟨r1, r2⟩ := r
        simp only at he y0 y1
        clear hr hok
        go_wp2
        go_roundw
        case rel => exact ⟨k + 1, by omega, by go_num, HOK, HW⟩
        case measure => simp [intOf]; omega
    · obtain rfl : k = N := by omega
      have HA : Hid (viaL q.set d = -1) := by
        show _ = _
        unfold viaL
        rw [find_none fun j s hs => hok.out j (by rw [← HN.out]; exact (List.getElem?_eq_some_iff.1 hs).1) s hs]
      clear hok
      go_wp2
      go_ret
      refine ⟨by rw [HA.out]; rfl, ?_⟩
      rw [← HW.out]
      exact HB
/-- What a destination costs by a neighbour. -/
def byQ (l : List He) (d : Nat) (n : Int) : Int := match l.find? (fun e => e.f == n) with
  | none => 16
  | some e => min 16 (Mi.at_ e.c d + 1)
def CokL (l : List He) : Prop := ∀ e ∈ l, ∀ d, d < 64 → 0 ≤ Mi.at_ e.c d ∧ Mi.at_ e.c d ≤ 16
set_option maxRecDepth 100000 in
theorem RBy_any {M : Nat → Prop} (q : RQ) (p : Pl) (d : Nat) (hd : d < 64) (n : Int) (w : World) (hr : Hid (Rf M w q p)) (hok : Hid (CokL q.l)) (hc : q.l.length ≤ 9223372036854775806) : Calls Try.prog 42 #[.agg (rqV q p), .int .i64 (d : Int), .int .i64 n] w fun e w' => e = .returned (.int .i64 (byQ q.l d n)) ∧ Hid (Below w.heap.size w w') := by
  have HQ : Hid (Bq (w.alloc (.cells (rqV q p) 33)) w.heap.size q p) := box_rq q p w
  have HB : Hid (Below w.heap.size w (w.alloc (.cells (rqV q p) 33))) := Mi.below_alloc (Below.refl _ _)
  have HR : Hid (Rf M (w.alloc (.cells (rqV q p) 33)) q p) := hr.out.below HB.out
  obtain ⟨N, hN⟩ : ∃ N, q.l.length = N := ⟨_, rfl⟩
  have HN : Hid (q.l.length = N) := hN
  rw [hN] at hc
  clear hN hr
  go_enter Try.func42, Try.ntmps42
  go_wp2_with (refine Mi.allocTo rfl (.pointer (some ⟨_, 0, none⟩)) (.cells (rqV q p) 33 (0, 0)) (exec_boxq _ _ q p (.tmp 0) rfl rfl _) ?_)
  obtain ⟨w1, hw1⟩ : ∃ w1, w.alloc (.cells (rqV q p) 33) = w1 := ⟨_, rfl⟩
  rw [hw1] at HQ HB HR ⊢
  clear hw1
  go_loopw [7] (fun i wr => ∃ k : Nat, k ≤ N ∧ i = .int .i64 k ∧ Hid (∀ j, j < k → ∀ r, q.l[j]? = some r → (r.f == n) = false) ∧ Hid (w1 = wr)) (fun i _ => N - (intOf i).toNat)
  case atStart => exact ⟨0, Nat.zero_le _, rfl, fun j hj => absurd hj (by omega), rfl⟩
  case round =>
    obtain ⟨k, hk, rfl, hnn, HW⟩ := hrel
    obtain ⟨_, _, _, _, b4⟩ := HQ.out.cells
    rw [HW.out, HN.out] at b4
    by_cases hlt : k < N
    · obtain ⟨r, hr⟩ : ∃ r, q.l[k]? = some r := ⟨_, List.getElem?_eq_getElem (by rw [HN.out]; exact hlt)⟩
      obtain ⟨b, off, hA, _, _, y0, y1, _⟩ := HR.out.l.at_ hr
      rw [HW.out] at y0 y1
      rw [hA] at b4
      have hmem := List.mem_of_getElem? hr
      cases he : (r.f == n) with
      | true =>
        have HA : Hid (byQ q.l d n = min 16 (Mi.at_ r.c d + 1)) := by
          show _ = _
          unfold byQ
          rw [find_first hr he hnn.out]
        obtain ⟨k1, k2⟩ := HR.out.c r hmem
        obtain ⟨b2, off2, hR, _, _, y2⟩ := k1.at_ (j := d) (by rw [k2]; exact hd)
        rw [HW.out] at y2
        obtain ⟨x1, x2⟩ := hok.out r hmem d hd
        obtain ⟨x, hx⟩ : ∃ x, Mi.at_ r.c d = x := ⟨_, rfl⟩
        rw [hx] at x1 x2 y2 HA
        rw [hR, k2] at y1
        obtain ⟨rf, hrf⟩ : ∃ rf, r.f = rf := ⟨_, rfl⟩
        rw [hrf] at he y0
        have hdi : (d : Int) < 64 := by omega
        clear hr hnn hmem k1 k2 hx hrf
        go_wp2
        all_goals skip
        go_ret
        refine ⟨by rw [HA.out]; rfl, ?_⟩
        rw [← HW.out]
        exact HB
      | false =>
        have HOK : Hid (∀ j, j < k + 1 → ∀ r, q.l[j]? = some r → (r.f == n) = false) := fun j hj s hs => by
          by_cases e : j = k
          · subst e
            rw [hr] at hs
            cases hs
            exact he
          · exact hnn.out j (by omega) s hs
        obtain ⟨rf, hrf⟩ : ∃ rf, r.f = rf := ⟨_, rfl⟩
        rw [hrf] at he y0
        clear hr hnn hmem hrf y1
        go_wp2
        go_roundw
        case rel => exact ⟨k + 1, by omega, by go_num, HOK, HW⟩
        case measure => simp [intOf]; omega
    · obtain rfl : k = N := by omega
      have HA : Hid (byQ q.l d n = 16) := by
        show _ = _
        unfold byQ
        rw [find_none fun j s hs => hnn.out j (by rw [← HN.out]; exact (List.getElem?_eq_some_iff.1 hs).1) s hs]
      clear hnn
      go_wp2
      go_ret
      refine ⟨by rw [HA.out]; rfl, ?_⟩
      rw [← HW.out]
      exact HB
end Go.Proofs.Ytablejhajilpiaa.Rt
