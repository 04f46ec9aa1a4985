/- A line as the document has it: each byte with how many ticks it needs. -/
import Derived.Test.YtcdpdijfgeeenaaLnRTake
import Derived.Test.YtcdpdijfgeeenaaLnRDrop
import Derived.Test.YtcdpdijfgeeenaaLnRFlip
import Derived.Test.YtcdpdijfgeeenaaLnRIns
import Derived.Test.YtcdpdijfgeeenaaLnStateB
namespace Go.Proofs.Ytcdpdijfgeeenaa.Li
open Go.RowKit
open Go.Proofs.Ytcdpdijfgeeenaa.Sb
set_option linter.unusedVariables false
set_option linter.unusedSimpArgs false

def nd (ps : Nat) (t : Int) : Int := max 0 (t - (ps : Int))
def wys (ps : Nat) : List Nat → List Int → List Wy := List.zipWith fun b t => (b, nd ps t)
/-- The bytes of s, each with how many ticks it needs. -/
def ways (s : Ln) : List Wy := wys s.passed s.bs s.due
theorem ways_len {s : Ln} (h : s.Ok) : (ways s).length = s.bs.length := by simp [ways, wys, h.len]
theorem ways_new (d : Nat) : ways (newL d) = [] := rfl
theorem wys_app (ps : Nat) {a a' : List Nat} {b b' : List Int} (h : a.length = b.length) : wys ps (a ++ a') (b ++ b') = wys ps a b ++ wys ps a' b' := List.zipWith_append h
theorem wys_rep (ps : Nat) (t : Int) : ∀ (p : List Nat), wys ps p (List.replicate p.length t) = p.map fun b => (b, nd ps t)
  | [] => rfl
  | a :: r => by
    have ih := wys_rep ps t r
    show (a, nd ps t) :: wys ps r (List.replicate r.length t) = _
    rw [ih]
    rfl
theorem ways_put {s : Ln} (h : s.Ok) (p : List Nat) : ways ⟨s.delay, s.passed, s.bs ++ p, s.due ++ List.replicate p.length ((s.passed + s.delay : Nat) : Int)⟩ = ways s ++ p.map fun b => (b, (s.delay : Int)) := by
  show wys s.passed (s.bs ++ p) (s.due ++ _) = _
  rw [wys_app _ h.len.symm, wys_rep]
  have e : nd s.passed ((s.passed + s.delay : Nat) : Int) = (s.delay : Int) := by unfold nd; omega
  rw [e]
  rfl
theorem ways_tick (s : Ln) : ways (tickL s) = tickW (ways s) := by
  show wys (s.passed + 1) s.bs s.due = (wys s.passed s.bs s.due).map _
  unfold wys
  rw [List.map_zipWith]
  congr 1
  funext b t
  show (b, nd (s.passed + 1) t) = (b, max 0 (nd s.passed t - 1))
  unfold nd
  congr 1
  omega
theorem wys_take (ps : Nat) (a : List Nat) (b : List Int) (k : Nat) : wys ps (a.take k) (b.take k) = (wys ps a b).take k := List.take_zipWith.symm
theorem wys_drop (ps : Nat) (a : List Nat) (b : List Int) (k : Nat) : wys ps (a.drop k) (b.drop k) = (wys ps a b).drop k := List.drop_zipWith.symm
theorem wys_get (ps : Nat) (a : List Nat) (b : List Int) (k : Nat) (x : Nat) (t : Int) (hx : a[k]? = some x) (ht : b[k]? = some t) : (wys ps a b)[k]? = some (x, nd ps t) := by
  unfold wys
  rw [List.getElem?_zipWith, hx, ht]
theorem ways_get {s : Ln} (h : s.Ok) {k : Nat} (hk : k < s.bs.length) : (ways s)[k]? = some (Me.by_ s.bs k, nd s.passed (Mi.at_ s.due k)) := by
  have hk2 : k < s.due.length := by rw [h.len]; exact hk
  exact wys_get _ _ _ k _ _ (by rw [List.getElem?_eq_getElem hk, Me.by_get hk]) (by rw [List.getElem?_eq_getElem hk2, Mi.at_get hk2])
theorem wys_come (ps : Nat) : ∀ (a : List Nat) (b : List Int), a.length = b.length → tkN (wys ps a b) = (b.takeWhile fun d => decide (d ≤ (ps : Int))).length
  | [], [], _ => rfl
  | [], b :: r, h => by simp at h
  | a :: r, [], h => by simp at h
  | a :: r, b :: q, h => by
    have ih := wys_come ps r q (by simpa using h)
    show tkN ((a, nd ps b) :: wys ps r q) = _
    by_cases hb : b ≤ (ps : Int)
    · have e : nd ps b = 0 := by unfold nd; omega
      rw [List.takeWhile_cons_of_pos (by simpa using hb), List.length_cons, ← ih]
      unfold tkN
      rw [List.takeWhile_cons_of_pos (by simpa using e)]
      rfl
    · have e : ¬ nd ps b = 0 := by unfold nd; omega
      rw [List.takeWhile_cons_of_neg (by simpa using hb)]
      unfold tkN
      rw [List.takeWhile_cons_of_neg (by simpa using e)]
      rfl
theorem ways_come {s : Ln} (h : s.Ok) : tkN (ways s) = comeN s := wys_come _ _ _ h.len.symm
theorem ways_takeL {s : Ln} (h : s.Ok) : ways (takeL s) = (ways s).drop (tkN (ways s)) := by
  rw [ways_come h]
  exact wys_drop _ _ _ _
theorem wys_fst (ps : Nat) : ∀ (a : List Nat) (b : List Int), a.length = b.length → (wys ps a b).map (·.1) = a
  | [], [], _ => rfl
  | [], b :: r, h => by simp at h
  | a :: r, [], h => by simp at h
  | a :: r, b :: q, h => by
    have ih := wys_fst ps r q (by simpa using h)
    show a :: (wys ps r q).map (·.1) = _
    rw [ih]
theorem ways_bytes {s : Ln} (h : s.Ok) : (ways s).map (·.1) = s.bs := wys_fst _ _ _ h.len.symm
theorem ways_taken {s : Ln} (h : s.Ok) : ((ways s).take (tkN (ways s))).map (·.1) = s.bs.take (comeN s) := by
  rw [ways_come h, List.map_take, ways_bytes h]
theorem ways_cut {s : Ln} (h : s.Ok) (k n : Nat) : ways (cutL s k n) = (ways s).take k ++ (ways s).drop (k + n) := by
  show wys s.passed (s.bs.take k ++ s.bs.drop (k + n)) (s.due.take k ++ s.due.drop (k + n)) = _
  rw [wys_app _ (by simp [h.len]), wys_take, wys_drop]
  rfl
theorem ways_ins {s : Ln} (h : s.Ok) (k b : Nat) (hk : k ≤ s.bs.length) : ways (insL s k b) = (ways s).take k ++ (b, needs s.delay (ways s) k) :: (ways s).drop k := by
  show wys s.passed (s.bs.take k ++ b :: s.bs.drop k) (s.due.take k ++ dueAt s k :: s.due.drop k) = _
  rw [wys_app _ (by simp [h.len]), wys_take]
  show _ ++ (b, nd s.passed (dueAt s k)) :: wys s.passed (s.bs.drop k) (s.due.drop k) = _
  rw [wys_drop]
  have e : nd s.passed (dueAt s k) = needs s.delay (ways s) k := by
    unfold dueAt needs
    rw [ways_len h, h.len]
    split
    · unfold nd; omega
    · split
      · rw [List.getD_eq_getElem?_getD, ways_get h (by omega)]; rfl
      · rw [List.getD_eq_getElem?_getD, ways_get h (by omega)]; rfl
  rw [e]
  rfl
theorem wys_set (ps : Nat) : ∀ (a : List Nat) (b : List Int) (k x : Nat) (t : Int), b[k]? = some t → wys ps (a.set k x) b = (wys ps a b).set k (x, nd ps t)
  | [], b, k, x, t, _ => by simp [wys]
  | a :: r, [], k, x, t, h => by simp at h
  | a :: r, b :: q, 0, x, t, h => by
    simp at h
    subst h
    rfl
  | a :: r, b :: q, k + 1, x, t, h => by
    have ih := wys_set ps r q k x t (by simpa using h)
    show (a, nd ps b) :: wys ps (r.set k x) q = (a, nd ps b) :: (wys ps r q).set k _
    rw [ih]
theorem ways_flip {s : Ln} (h : s.Ok) (k m : Nat) (hk : k < s.bs.length) : ways (flipL s k m) = (ways s).set k (Me.by_ s.bs k ^^^ m, nd s.passed (Mi.at_ s.due k)) := by
  have hk2 : k < s.due.length := by rw [h.len]; exact hk
  exact wys_set _ _ _ k _ _ (by show s.due[k]? = _; rw [List.getElem?_eq_getElem hk2, Mi.at_get hk2])
theorem ways_in {s : Ln} (h : s.Ok) : ∀ p ∈ ways s, p.1 < 256 ∧ 0 ≤ p.2 ∧ p.2 ≤ 2000000 := fun p hp => by
  obtain ⟨k, hk, rfl⟩ := List.mem_iff_getElem.1 hp
  have hk1 : k < s.bs.length := by rw [ways_len h] at hk; exact hk
  have hk2 : k < s.due.length := by rw [h.len]; exact hk1
  have e := ways_get h hk1
  rw [List.getElem?_eq_getElem hk] at e
  injection e with e
  rw [e]
  have h1 := h.due _ (List.getElem_mem hk2)
  rw [← Mi.at_get hk2] at h1
  refine ⟨by_lt h.byte k, by show 0 ≤ nd _ _; unfold nd; omega, ?_⟩
  show nd _ _ ≤ _
  unfold nd
  omega
/-! ### The document's calls, of a line s -/
theorem RPut_s {s : Ln} (ok : s.Ok) (A : Option Addr) (n c : Nat) (Ap : Option Addr) (pc : Nat) (p : List Nat) (w : World) (hr : Hid (RW w A n c (ways s))) (hp : Hid (Me.Rd w w.heap.size Ap p)) (hl : p.length ≤ 140737488351232) :
    Calls Try.prog 20 #[.agg (lnV s.delay A n c), .slice Ap p.length pc] w fun e w' => ∃ A' n' c', e = .returned (.tuple #[.agg (lnV s.delay A' n' c'), .int .i64 (putN s p : Int)]) ∧ Hid (RW w' A' n' c' (ways (putL s p))) ∧ Hid (Below w.heap.size w w') := by
  have hn : n = s.bs.length := hr.out.len.trans (ways_len ok)
  by_cases hf : 65536 < s.bs.length + p.length
  · have e1 : putN s p = 6 := by unfold putN; rw [if_pos hf]
    have e2 : putL s p = s := by unfold putL; rw [if_pos hf]
    rw [e1, e2]
    refine (RPut_full s.delay A n c (ways s) Ap p.length pc w hr (by have := ok.room; omega) hl (by omega)).mono ?_
    rintro e w' ⟨rfl, hb⟩
    exact ⟨A, n, c, rfl, hr.out.below hb.out, hb⟩
  · have e1 : putN s p = 0 := by unfold putN; rw [if_neg hf]
    have e2 : putL s p = ⟨s.delay, s.passed, s.bs ++ p, s.due ++ List.replicate p.length ((s.passed + s.delay : Nat) : Int)⟩ := by unfold putL; rw [if_neg hf]
    rw [e1, e2, ways_put ok]
    exact RPut_ok s.delay A n c (ways s) Ap pc p w hr (by have := ok.room; omega) ok.dl (by omega) hp
theorem RTick_s {s : Ln} (ok : s.Ok) (A : Option Addr) (n c : Nat) (w : World) (hr : Hid (RW w A n c (ways s))) :
    Calls Try.prog 21 #[.agg (lnV s.delay A n c)] w fun e w' => ∃ A' n' c', e = .returned (.agg (lnV s.delay A' n' c')) ∧ Hid (RW w' A' n' c' (ways (tickL s))) ∧ Hid (Below w.heap.size w w') := by
  have hn : n = s.bs.length := hr.out.len.trans (ways_len ok)
  rw [ways_tick]
  exact RTick_any s.delay A n c (ways s) w hr (by have := ok.room; omega) ok.dl fun p hp => ⟨(ways_in ok p hp).2.1, (ways_in ok p hp).2.2⟩
theorem RTake_s {s : Ln} (ok : s.Ok) (A : Option Addr) (n c : Nat) (w : World) (hr : Hid (RW w A n c (ways s))) :
    Calls Try.prog 22 #[.agg (lnV s.delay A n c)] w fun e w' => ∃ A' n' c' v, e = .returned (.tuple #[.agg (lnV s.delay A' n' c'), v]) ∧ Hid (RW w' A' n' c' (ways (takeL s))) ∧ Hid (Me.Own w' 0 v (s.bs.take (comeN s))) ∧ Hid (∀ q, v.ownBlock = some q → w.heap.size ≤ q) ∧ Hid (Below w.heap.size w w') := by
  have hn : n = s.bs.length := hr.out.len.trans (ways_len ok)
  rw [ways_takeL ok, ← ways_taken ok]
  exact RTake_any s.delay A n c (ways s) w hr (by have := ok.room; omega) ok.dl fun p hp => (ways_in ok p hp).1
theorem RDrop_s {s : Ln} (ok : s.Ok) (A : Option Addr) (n c : Nat) (k m : Int) (hk : Mi.I64 k) (hm : Mi.I64 m) (w : World) (hr : Hid (RW w A n c (ways s))) :
    Calls Try.prog 23 #[.agg (lnV s.delay A n c), .int .i64 k, .int .i64 m] w fun e w' => ∃ A' n' c', e = .returned (.tuple #[.agg (lnV s.delay A' n' c'), .int .i64 (cutN s k m : Int)]) ∧ Hid (RW w' A' n' c' (ways (cutS s k m))) ∧ Hid (Below w.heap.size w w') := by
  have hn : n = s.bs.length := hr.out.len.trans (ways_len ok)
  cases hd : dropB s k m with
  | true =>
    have e1 : cutN s k m = 1 := by unfold cutN; rw [hd]; rfl
    have e2 : cutS s k m = s := by unfold cutS; rw [hd]; rfl
    rw [e1, e2]
    refine (RDrop_bad s.delay A n c (ways s) k m w hr (by have := ok.room; omega) hk hm ?_).mono ?_
    · unfold dropB at hd
      rw [hn]
      simp only [Bool.or_eq_true, decide_eq_true_eq] at hd
      omega
    · rintro e w' ⟨rfl, hb⟩
      exact ⟨A, n, c, rfl, hr.out.below hb.out, hb⟩
  | false =>
    have e1 : cutN s k m = 0 := by unfold cutN; rw [hd]; rfl
    have e2 : cutS s k m = cutL s k.toNat m.toNat := by unfold cutS; rw [hd]; rfl
    unfold dropB at hd
    simp only [Bool.or_eq_false_iff, decide_eq_false_iff_not] at hd
    obtain ⟨j, rfl⟩ : ∃ j : Nat, k = (j : Int) := ⟨k.toNat, by omega⟩
    obtain ⟨q, rfl⟩ : ∃ j : Nat, m = (j : Int) := ⟨m.toNat, by omega⟩
    rw [e1, e2, ways_cut ok]
    exact RDrop_ok s.delay A n c (ways s) j q w hr (by have := ok.room; omega) ok.dl (by omega)
theorem RFlip_s {s : Ln} (ok : s.Ok) (A : Option Addr) (n c : Nat) (k m : Int) (w : World) (hr : Hid (RW w A n c (ways s))) :
    Calls Try.prog 24 #[.agg (lnV s.delay A n c), .int .i64 k, .int .i64 m] w fun e w' => ∃ A' n' c', e = .returned (.tuple #[.agg (lnV s.delay A' n' c'), .int .i64 (flipN s k m : Int)]) ∧ Hid (RW w' A' n' c' (ways (flipS s k m))) ∧ Hid (Below w.heap.size w w') := by
  have hn : n = s.bs.length := hr.out.len.trans (ways_len ok)
  by_cases h1 : k < 0 ∨ (s.bs.length : Int) ≤ k
  · have e1 : flipN s k m = 1 := by unfold flipN; rw [if_pos h1]
    have e2 : flipS s k m = s := by unfold flipS; rw [e1]; rfl
    rw [e1, e2]
    refine (RFlip_bad s.delay A n c (ways s) k m w hr (by have := ok.room; omega) (by omega)).mono ?_
    rintro e w' ⟨rfl, hb⟩
    exact ⟨A, n, c, rfl, hr.out.below hb.out, hb⟩
  · obtain ⟨j, rfl⟩ : ∃ j : Nat, k = (j : Int) := ⟨k.toNat, by omega⟩
    by_cases h2 : low8 m = 0
    · have e1 : flipN s j m = 2 := by unfold flipN; rw [if_neg h1, if_pos h2]
      have e2 : flipS s j m = s := by unfold flipS; rw [e1]; rfl
      rw [e1, e2]
      refine (RFlip_zero s.delay A n c (ways s) j m w hr (by have := ok.room; omega) (by omega) h2).mono ?_
      rintro e w' ⟨rfl, hb⟩
      exact ⟨A, n, c, rfl, hr.out.below hb.out, hb⟩
    · have e1 : flipN s j m = 0 := by unfold flipN; rw [if_neg h1, if_neg h2]
      have e2 : flipS s j m = flipL s j (low8 m) := by unfold flipS; rw [e1]; rfl
      rw [e1, e2, ways_flip ok j _ (by omega)]
      exact RFlip_ok s.delay A n c (ways s) j m (Me.by_ s.bs j, nd s.passed (Mi.at_ s.due j)) w hr (by have := ok.room; omega) ok.dl (by omega) (ways_get ok (by omega)) (by_lt ok.byte j) h2
theorem RIns_s {s : Ln} (ok : s.Ok) (A : Option Addr) (n c : Nat) (k : Int) (b : Nat) (w : World) (hr : Hid (RW w A n c (ways s))) :
    Calls Try.prog 25 #[.agg (lnV s.delay A n c), .int .i64 k, .int .u8 (b : Int)] w fun e w' => ∃ A' n' c', e = .returned (.tuple #[.agg (lnV s.delay A' n' c'), .int .i64 (insN s k : Int)]) ∧ Hid (RW w' A' n' c' (ways (insS s k b))) ∧ Hid (Below w.heap.size w w') := by
  have hn : n = s.bs.length := hr.out.len.trans (ways_len ok)
  by_cases h1 : k < 0 ∨ (s.bs.length : Int) < k
  · have e1 : insN s k = 1 := by unfold insN; rw [if_pos h1]
    have e2 : insS s k b = s := by unfold insS; rw [e1]; rfl
    rw [e1, e2]
    refine (RIns_bad s.delay A n c (ways s) k _ w hr (by have := ok.room; omega) (by omega)).mono ?_
    rintro e w' ⟨rfl, hb⟩
    exact ⟨A, n, c, rfl, hr.out.below hb.out, hb⟩
  · obtain ⟨j, rfl⟩ : ∃ j : Nat, k = (j : Int) := ⟨k.toNat, by omega⟩
    by_cases h2 : s.bs.length = 65536
    · have e1 : insN s j = 6 := by unfold insN; rw [if_neg h1, if_pos h2]
      have e2 : insS s j b = s := by unfold insS; rw [e1]; rfl
      rw [e1, e2]
      refine (RIns_full s.delay A n c (ways s) j _ w hr (by omega) (by omega)).mono ?_
      rintro e w' ⟨rfl, hb⟩
      exact ⟨A, n, c, rfl, hr.out.below hb.out, hb⟩
    · have e1 : insN s j = 0 := by unfold insN; rw [if_neg h1, if_neg h2]
      have e2 : insS s j b = insL s j b := by unfold insS; rw [e1]; rfl
      rw [e1, e2, ways_ins ok j b (by omega)]
      exact RIns_ok s.delay A n c (ways s) j b w hr (by have := ok.room; omega) ok.dl (by omega)
theorem RBytes_s {s : Ln} (ok : s.Ok) (A : Option Addr) (n c : Nat) (w : World) (hr : Hid (RW w A n c (ways s))) :
    Calls Try.prog 12 #[.agg (lnV s.delay A n c)] w fun e w' => ∃ v, e = .returned v ∧ Hid (Me.Own w' 0 v s.bs) ∧ Hid (∀ k, v.ownBlock = some k → w.heap.size ≤ k) ∧ Hid (Below w.heap.size w w') := by
  have hn : n = s.bs.length := hr.out.len.trans (ways_len ok)
  have := RBytes_any s.delay A n c (ways s) w hr (fun p hp => (ways_in ok p hp).1) (by have := ok.room; omega)
  rw [ways_bytes ok] at this
  exact this
end Go.Proofs.Ytcdpdijfgeeenaa.Li
