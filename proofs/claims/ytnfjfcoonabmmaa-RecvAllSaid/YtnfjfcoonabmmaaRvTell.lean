/- The contract of a receiver's tell. -/
import Derived.Test.YtnfjfcoonabmmaaRvNew
import Derived.Deep.RegionHeld
import Derived.WalkMore
import Derived.Deep.RegionWith
namespace Go.Proofs.Ytnfjfcoonabmmaa.Rv
open Go.RowKit
open Go.Proofs.Ytnfjfcoonabmmaa.Me Go.Proofs.Ytnfjfcoonabmmaa.Hd Go.Proofs.Ytnfjfcoonabmmaa.Sn
set_option linter.unusedVariables false
set_option linter.unusedSimpArgs false

/-- On the way: the receiver is rr now; the list at A is l, of the call's own; nothing else turned. -/
structure Tk (E : Nat → Prop) (w : World) (D mb : Nat) (rr : Rcv) (l : List (List Nat)) (A : Option Addr) (c : Nat) (wr : World) : Prop where
  rq : Rq (fun k => E k ∨ w.heap.size ≤ k) wr D mb rr
  ls : Ls (fun k => E k ∨ w.heap.size ≤ k) wr A c l
  nw : ∀ k, bk A k → w.heap.size ≤ k
  but : But (fun k => k = D ∨ k = mb) w wr
  hD : D < w.heap.size
  hm : mb < w.heap.size
section
variable {E : Nat → Prop} {w wr w1 : World} {D mb c : Nat} {rr : Rcv} {l : List (List Nat)} {A : Option Addr}
theorem Tk.start (h : Rq E w D mb rr) : Tk E w D mb rr [] none 0 w :=
  ⟨h.mono (fun k _ he => .inl he) (fun he => he.elim h.nD (by have := h.lt; omega)) (fun he => he.elim h.nm (by have := h.ltm; omega)), Ls.nil _ _, fun k ⟨a, e, _⟩ => (by cases e), But.refl _ _, h.lt, h.ltm⟩
theorem Tk.below (h : Tk E w D mb rr l A c wr) (hb : Below wr.heap.size wr w1) : Tk E w D mb rr l A c w1 :=
  ⟨h.rq.below hb, h.ls.below hb, h.nw, h.but.trans (But.of_below (S := fun _ => False) hb) fun _ _ h => h.elim, h.hD, h.hm⟩
theorem Tk.append {v : Value} {p : List Nat} {A' : Option Addr} {c' : Nat} (h : Tk E w D mb rr l A c wr)
    (hl : Ls (fun k => (E k ∨ w.heap.size ≤ k) ∨ (wr.alloc (.cells #[v] 32)).heap.size ≤ k) w1 A' c' (l ++ [p])) (hb : But (bk A) (wr.alloc (.cells #[v] 32)) w1) (hA : ∀ k, bk A' k → bk A k ∨ (wr.alloc (.cells #[v] 32)).heap.size ≤ k) :
    Tk E w D mb rr (l ++ [p]) A' c' w1 := by
  have hD := h.hD
  have hmb := h.hm
  have hnw : ∀ k, bk A k → k ≠ D ∧ k ≠ mb := fun k hk => by have := h.nw k hk; omega
  have hsz : (wr.alloc (.cells #[v] 32)).heap.size = wr.heap.size + 1 := by simp
  have hws := h.but.size
  have hAl : Below wr.heap.size wr (wr.alloc (.cells #[v] 32)) := Me.below_alloc (Below.refl _ _)
  have q0 : Rq (fun k => E k ∨ w.heap.size ≤ k) (wr.alloc (.cells #[v] 32)) D mb rr := h.rq.below hAl
  refine ⟨?_, hl.mono fun k _ hk => hk.elim id fun hk => .inr (by omega), fun k hk => ?_, (h.but.alloc _).trans hb fun b hb hk => absurd (h.nw b hk) (by omega), hD, hmb⟩
  · refine q0.kept' (hb.same D q0.lt fun e => (hnw D e).1 rfl) (hb.same mb q0.ltm fun e => (hnw mb e).2 rfl) (fun k cs he hc => ⟨hb.same k (Array.getElem?_eq_some_iff.1 hc).1 fun hk => ?_, he⟩) h.rq.nD h.rq.nm
    obtain ⟨_, hlt, cur, hcur⟩ := h.ls.blk k hk
    rw [hAl.block k hlt, hcur] at hc
    simp only [Option.some.injEq, Obj.cells.injEq] at hc
    exact absurd hc.2.1 (by decide)
  · rcases hA k hk with hk | hk
    · exact h.nw k hk
    · omega
theorem Tk.map {kept : Nat → Option (List Nat)} (h : Tk E w D mb rr l A c wr) (hm : Mp (fun k => E k ∨ w.heap.size ≤ k) w1 mb kept) (hb : But (fun k => k = mb) wr w1) : Tk E w D mb ⟨rr.size, rr.waits, kept, rr.asked⟩ l A c w1 :=
  ⟨h.rq.map hm hb, h.ls.but hb fun k hk e => h.rq.nm (by rw [← e]; exact hk), h.nw, h.but.trans hb fun b _ e => .inr e, h.hD, h.hm⟩
theorem Tk.setA (h : Tk E w D mb rr l A c wr) {n : Nat} (hn : n < 128) (b : Bool) : Tk E w D mb ⟨rr.size, rr.waits, rr.kept, fun k => if k = n then b else rr.asked k⟩ l A c (wr.setCell ⟨D, 3 + n, none⟩ (.bool b)) := by
  have hb : But (fun k => k = D) wr (wr.setCell ⟨D, 3 + n, none⟩ (.bool b)) := (But.refl (fun k => k = D) wr).set (p := ⟨D, 3 + n, none⟩) (.inl rfl) _
  exact ⟨h.rq.setA hn b, h.ls.but hb fun k hk e => h.rq.nD (by rw [← e]; exact hk), h.nw, h.but.trans hb fun b _ e => .inl e, h.hD, h.hm⟩
theorem Tk.setW (h : Tk E w D mb rr l A c wr) (n : Nat) : Tk E w D mb ⟨rr.size, n, rr.kept, rr.asked⟩ l A c (wr.setCell ⟨D, 1, none⟩ (.int .i64 (n : Int))) := by
  have hb : But (fun k => k = D) wr (wr.setCell ⟨D, 1, none⟩ (.int .i64 (n : Int))) := (But.refl (fun k => k = D) wr).set (p := ⟨D, 1, none⟩) (.inl rfl) _
  exact ⟨h.rq.setW n, h.ls.but hb fun k hk e => h.rq.nD (by rw [← e]; exact hk), h.nw, h.but.trans hb fun b _ e => .inl e, h.hD, h.hm⟩
end
/-- Block D lies as it lay. -/
def SameD (D : Nat) (w W : World) : Prop := W.heap[D]? = w.heap[D]?
theorem SameD.cell {D : Nat} {w W : World} (h : SameD D w W) (i : Nat) : W.cell? ⟨D, i, none⟩ = w.cell? ⟨D, i, none⟩ := World.cell?_of_block (a := ⟨D, i, none⟩) h
theorem SameD.frozen {D : Nat} {w W : World} (h : SameD D w W) (i : Nat) : W.frozen? ⟨D, i, none⟩ = w.frozen? ⟨D, i, none⟩ := World.frozen?_of_block (a := ⟨D, i, none⟩) h
theorem next_nat (n m : Nat) (hm : (n + 1) % 128 = m) (w : World) : Calls Try.prog 43 #[.int .i64 n] w fun e w' => e = .returned (.int .i64 (m : Int)) ∧ w = w' := by
  have h := Wn.Next_any (n : Int) w
  rw [show ((n : Int) + 1) % 128 = (m : Int) by omega] at h
  exact h
set_option maxHeartbeats 2000000 in
theorem tell_any {E : Nat → Prop} (w : World) (D mb : Nat) (r : Rcv) (h : Hid (Rq E w D mb r)) (ok : Hid r.Ok) : Calls Try.prog 27 #[.pointer (some ⟨D, 0, none⟩)] w fun e w' =>
    ∃ i A c, e = .returned (.slice A i c) ∧ Hid (Tells r i) ∧ Hid (Tk E w D mb (goneR r i) (toldR r i) A c w') := by
  have h0 : Hid (Tk E w D mb (goneR r 0) (toldR r 0) none 0 w) := by
    show Tk _ _ _ _ _ _ _ _ _
    rw [goneR_zero ok.out]; exact Tk.start h.out
  have hN := Lib.hid (fun (n m : Nat) (hm : (n + 1) % 128 = m) (W : World) => next_nat n m hm W)
  go_enter Try.func27, Try.ntmps27
  go_wp2
  go_step3
  go_wp2
  go_step3
  go_wp2
  go_loopw [3] (fun v wr => ∃ i A c, i ≤ 128 ∧ v = .slice A i c ∧ (∀ j, j < i → (r.kept ((r.waits + j) % 128)).isSome = true) ∧ Tk E w D mb (goneR r i) (toldR r i) A c wr) (fun v _ => 128 - (match v with | .slice _ n _ => n | _ => 0))
  case atStart => exact ⟨0, none, 0, by omega, rfl, fun j hj => absurd hj (by omega), h0.out⟩
  case round =>
    obtain ⟨i, A, c, hi, rfl, hall, hT⟩ := hrel
    have c1 := hT.rq.c1
    have c2 := hT.rq.c2
    obtain ⟨n, hn⟩ : ∃ n, (r.waits + i) % 128 = n := ⟨_, rfl⟩
    have hn' : n < 128 := by omega
    have hwn : (goneR r i).waits = n := hn
    rw [hwn] at c1
    cases hk : (goneR r i).kept n with
    | none =>
      have hlook : ∀ m, (Instr.lookup 54 (.map (some mb)) (.int .i64 (n : Int)) true).run Try.prog (wr.drewN m) = .ok (.tuple #[.slice none 0 0, .bool false]) (wr.drewN m) := fun m => hT.rq.mp.no hn' hk rfl
      have HT := Lib.hid (fun m => hT.below (below_drewN (Below.refl _ _) m))
      have HE : Hid (Tells r i) := ⟨hi, hall, by rw [hn]; exact hk⟩
      clear hT hall hn hk h0 hwn
      go_wp2
      go_quiet (fail)
      go_wp2
      try rw [Exit.noGoto_ret]
      go_ret
      exact ⟨i, A, c, rfl, HE, HT.out _⟩
    | some p =>
      obtain ⟨v, hv, hlk⟩ := hT.rq.mp.yes hn' hk
      obtain ⟨R, cr, rfl, ho, hF⟩ := hv
      have hlook : ∀ m, (Instr.lookup 54 (.map (some mb)) (.int .i64 (n : Int)) true).run Try.prog (wr.drewN m) = .ok (.tuple #[.slice R p.length cr, .bool true]) (wr.drewN m) := fun m => hlk _ rfl
      have hi8 : i < 128 := by
        apply Classical.byContradiction
        intro hc
        obtain rfl : i = 128 := by omega
        have : (goneR r 128).kept n = none := by
          simp only [goneR]
          rw [if_pos ⟨hn', way_lt _ _⟩]
        rw [this] at hk
        cases hk
      have HT := Lib.hid (fun m => hT.below (w1 := wr.drewN m) (below_drewN (Below.refl _ _) m))
      have HO : Hid (∀ m, El (fun k => E k ∨ w.heap.size ≤ k) ((wr.drewN m).alloc (.cells #[.slice R p.length cr] 32)) (.slice R p.length cr) p) := fun m => El.kept (F := fun k => E k ∨ w.heap.size ≤ k) (w := wr) ⟨R, cr, rfl, ho, hF⟩ fun k cs he hc => ⟨(Me.below_alloc (below_drewN (Below.refl _ _) m)).block k (Array.getElem?_eq_some_iff.1 hc).1, he⟩
      have HL := Lib.hid (show (i + [p].length) * 24 ≤ 140737488355328 by simp; omega)
      have HK := Lib.hid hk
      have HG := Lib.hid hn
      have HALL := Lib.hid hall
      obtain ⟨tl, htl⟩ : ∃ tl, toldR r i = tl := ⟨_, rfl⟩
      have htn : tl.length = i := by rw [← htl]; exact toldR_length r i
      clear hT hall hn hk h0 hwn hlk ho hF
      go_wp2
      go_quiet (fail)
      have hT := HT.out nq
      have hO := HO.out nq
      generalize wr.drewN nq = W0 at hT hO
      clear HT HO hlook c1 c2
      have hL0 : Ls (fun k => E k ∨ w.heap.size ≤ k) (W0.alloc (.cells #[.slice R p.length cr] 32)) A c tl := by rw [← htl]; exact hT.ls.below (Me.below_alloc (Below.refl _ _))
      rw [← htn] at HL
      have HT0 := Lib.hid hT
      have HO0 := Lib.hid hO
      have HL0 := Lib.hid hL0
      have HTL := Lib.hid htl
      have HTN := Lib.hid htn
      have HA : Hid (∀ A' c' w1, Ls (fun k => (E k ∨ w.heap.size ≤ k) ∨ (W0.alloc (.cells #[.slice R p.length cr] 32)).heap.size ≤ k) w1 A' c' (tl ++ [p]) → But (bk A) (W0.alloc (.cells #[.slice R p.length cr] 32)) w1 → (∀ k, bk A' k → bk A k ∨ (W0.alloc (.cells #[.slice R p.length cr] 32)).heap.size ≤ k) → Tk E w D mb (goneR r i) (toldR r i ++ [p]) A' c' w1) := by
        show ∀ _ _ _, _
        intro A' c' w1 q1 q2 q3
        rw [← htl] at q1
        exact hT.append q1 q2 q3
      clear hT hO hL0 htl htn
      go_wp2_with (at_builtin; go_loud (refine appL rfl (.tmp 20) (.tmp 22) rfl (fun k => E k ∨ w.heap.size ≤ k) A c tl [p] (by rw [HTN.out]; rfl) HL0.out (.slice (some ⟨W0.heap.size, 0, none⟩) 1 1) [.slice R p.length cr] (by rfl) (src_one rfl) (fun j hj => by obtain rfl : j = 0 := (by simpa using hj); exact ⟨_, rfl, HO0.out⟩) HL.out ?_; intro A1 c1 w1 hl1 hb1 hn1; rw [HTN.out]; have T1 := Lib.hid (HA.out A1 c1 w1 hl1 hb1 hn1); clear hl1 hb1 hn1))
      have d1 := T1.out.rq.c1
      have d2 := T1.out.rq.c2
      rw [show (goneR r i).waits = n from HG.out] at d1
      have G1 : ((n : Nat) : Int) < 128 := by omega
      have HN := Lib.hid hn'
      obtain ⟨kp, hkp⟩ : ∃ kp, (goneR r i).kept = kp := ⟨_, rfl⟩
      have HKP := Lib.hid hkp
      have HM : Hid (∀ W, Below w1.heap.size w1 W → Mp (fun k => E k ∨ w.heap.size ≤ k) W mb kp) := by
        show ∀ W, _
        intro W hW
        rw [← hkp]; exact T1.out.rq.mp.below hW
      clear hkp hn' HL0 HO0 HT0 HA
      refine wp_region_held_drew (S := SameD D w1) (by kernel_rfl) rfl (fun hHeld => ?_)
      refine wpAnyH_take (i := 0) (v := ?vz1) rfl (by kernel_rfl) (by kernel_rfl) (by kernel_rfl) (fun _ _ _ h => h) (Or.inl ⟨by rfl, ?hyz1⟩) (by first | assumption | exact trivial) ?restz1
      case hyz1 => intro W hSW; go_simp; try (with_reducible rfl)
      simp only [Act.put, List.getElem_toArray, List.getElem_cons_succ, List.getElem_cons_zero, List.setIfInBounds_toArray, List.set_cons_zero, List.set_cons_succ]
      refine wpAnyH_take (i := 1) (v := ?vz2) rfl (by kernel_rfl) (by kernel_rfl) (by kernel_rfl) (fun _ _ _ h => h) (Or.inl ⟨by rfl, ?hyz2⟩) (by first | assumption | exact trivial) ?restz2
      case hyz2 => intro W hSW; go_simp; try (with_reducible rfl)
      simp only [Act.put, List.getElem_toArray, List.getElem_cons_succ, List.getElem_cons_zero, List.setIfInBounds_toArray, List.set_cons_zero, List.set_cons_succ]
      refine wpAnyH_take (i := 2) (v := ?vz3) rfl (by kernel_rfl) (by kernel_rfl) (by kernel_rfl) (fun _ _ _ h => h) (Or.inl ⟨by rfl, ?hyz3⟩) (by first | assumption | exact trivial) ?restz3
      case hyz3 => intro W hSW; go_simp; try (with_reducible rfl)
      simp only [Act.put, List.getElem_toArray, List.getElem_cons_succ, List.getElem_cons_zero, List.setIfInBounds_toArray, List.set_cons_zero, List.set_cons_succ]
      refine wpAnyH_take (i := 3) (v := ?vz4) rfl (by kernel_rfl) (by kernel_rfl) (by kernel_rfl) (fun _ _ _ h => h) (Or.inl ⟨by rfl, ?hyz4⟩) (by first | assumption | exact trivial) ?restz4
      case hyz4 => intro W hSW; have q1 := (SameD.cell hSW 2).trans d2; go_simp; try (with_reducible rfl)
      simp only [Act.put, List.getElem_toArray, List.getElem_cons_succ, List.getElem_cons_zero, List.setIfInBounds_toArray, List.set_cons_zero, List.set_cons_succ]
      refine wpAnyH_take (i := 4) (v := ?vz5) rfl (by kernel_rfl) (by kernel_rfl) (by kernel_rfl) (fun _ _ _ h => h) (Or.inl ⟨by rfl, ?hyz5⟩) (by first | assumption | exact trivial) ?restz5
      case hyz5 => intro W hSW; go_simp; try (with_reducible rfl)
      simp only [Act.put, List.getElem_toArray, List.getElem_cons_succ, List.getElem_cons_zero, List.setIfInBounds_toArray, List.set_cons_zero, List.set_cons_succ]
      refine wpAnyH_take (i := 5) (v := ?vz6) rfl (by kernel_rfl) (by kernel_rfl) (by kernel_rfl) (fun _ _ _ h => h) (Or.inl ⟨by rfl, ?hyz6⟩) (by first | assumption | exact trivial) ?restz6
      case hyz6 => intro W hSW; go_simp; try (with_reducible rfl)
      simp only [Act.put, List.getElem_toArray, List.getElem_cons_succ, List.getElem_cons_zero, List.setIfInBounds_toArray, List.set_cons_zero, List.set_cons_succ]
      refine wpAnyH_take (i := 6) (v := ?vz7) rfl (by kernel_rfl) (by kernel_rfl) (by kernel_rfl) (fun _ _ _ h => h) (Or.inl ⟨by rfl, ?hyz7⟩) (by first | assumption | exact trivial) ?restz7
      case hyz7 => intro W hSW; go_simp; try (with_reducible rfl)
      simp only [Act.put, List.getElem_toArray, List.getElem_cons_succ, List.getElem_cons_zero, List.setIfInBounds_toArray, List.set_cons_zero, List.set_cons_succ]
      refine wpAnyH_take (i := 7) (v := ?vz8) rfl (by kernel_rfl) (by kernel_rfl) (by kernel_rfl) (fun _ _ _ h => h) (Or.inl ⟨by rfl, ?hyz8⟩) (by first | assumption | exact trivial) ?restz8
      case hyz8 => intro W hSW; have q2 := (SameD.cell hSW 1).trans d1; go_simp; try (with_reducible rfl)
      simp only [Act.put, List.getElem_toArray, List.getElem_cons_succ, List.getElem_cons_zero, List.setIfInBounds_toArray, List.set_cons_zero, List.set_cons_succ]
      refine wpAnyH_ready (rs := [8]) (by kernel_rfl) (by simp) ?_
      refine AllReadyH.cons rfl (fun K hK => ?_) AllReadyH.nil
      rw [if_pos (by kernel_rfl)]
      refine delW (.tmp 27) (.tmp 31) rfl (fun k => E k ∨ w.heap.size ≤ k) mb kp n rfl rfl (HM.out _ ((Below.refl _ w1).drew)) HN.out ?_
      intro w2 hm2 hb2 hs2
      have b2 : But (fun k => k = mb) w1 w2 := (But.of_below (S := fun k => k = mb) ((Below.refl w1.heap.size w1).drew)).trans hb2 fun _ _ h => h
      have T2 := Lib.hid (T1.out.map hm2 b2)
      have s2 : SameD D w1 w2 := b2.same D T1.out.rq.lt T1.out.rq.ne
      simp only [Act.put, List.getElem_toArray, List.getElem_cons_succ, List.getElem_cons_zero, List.setIfInBounds_toArray, List.set_cons_zero, List.set_cons_succ]
      refine hK.out _ _ (s2) (fun hHeld => ?_)
      clear hK K
      refine wpAnyH_done (by kernel_rfl) ?_ _
      have e1 := T2.out.rq.c1
      rw [show (⟨(goneR r i).size, (goneR r i).waits, fun k => if k = n then none else kp k, (goneR r i).asked⟩ : Rcv).waits = n from HG.out] at e1
      have ea := T2.out.rq.ca HN.out
      have ef := T2.out.rq.frozen (3 + n)
      clear hm2 hb2 hs2 b2 s2 d1 d2 HM
      go_wp2
      refine wp_region_held_drew (S := fun W => W.cell? ⟨D, 1, none⟩ = some (.int .i64 (n : Int))) (by kernel_rfl) e1 (fun hHeld => ?_)
      refine wpAnyH_take (i := 0) (v := ?vz9) rfl (by kernel_rfl) (by kernel_rfl) (by kernel_rfl) (fun _ _ _ h => h) (Or.inl ⟨by rfl, ?hyz9⟩) (by first | assumption | exact trivial) ?restz9
      case hyz9 => intro W hSW; go_simp; try (with_reducible rfl)
      simp only [Act.put, List.getElem_toArray, List.getElem_cons_succ, List.getElem_cons_zero, List.setIfInBounds_toArray, List.set_cons_zero, List.set_cons_succ]
      refine wpAnyH_take (i := 1) (v := ?vz10) rfl (by kernel_rfl) (by kernel_rfl) (by kernel_rfl) (fun _ _ _ h => h) (Or.inl ⟨by rfl, ?hyz10⟩) (by first | assumption | exact trivial) ?restz10
      case hyz10 => intro W hSW; go_simp; try (with_reducible rfl)
      simp only [Act.put, List.getElem_toArray, List.getElem_cons_succ, List.getElem_cons_zero, List.setIfInBounds_toArray, List.set_cons_zero, List.set_cons_succ]
      refine wpAnyH_take (i := 2) (v := ?vz11) rfl (by kernel_rfl) (by kernel_rfl) (by kernel_rfl) (fun _ _ _ h => h) (Or.inl ⟨by rfl, ?hyz11⟩) (by first | assumption | exact trivial) ?restz11
      case hyz11 => intro W hSW; go_simp; try (with_reducible rfl)
      simp only [Act.put, List.getElem_toArray, List.getElem_cons_succ, List.getElem_cons_zero, List.setIfInBounds_toArray, List.set_cons_zero, List.set_cons_succ]
      refine wpAnyH_take (i := 3) (v := ?vz12) rfl (by kernel_rfl) (by kernel_rfl) (by kernel_rfl) (fun _ _ _ h => h) (Or.inl ⟨by rfl, ?hyz12⟩) (by first | assumption | exact trivial) ?restz12
      case hyz12 => intro W hSW; go_simp; try (with_reducible rfl)
      simp only [Act.put, List.getElem_toArray, List.getElem_cons_succ, List.getElem_cons_zero, List.setIfInBounds_toArray, List.set_cons_zero, List.set_cons_succ]
      refine wpAnyH_take (i := 4) (v := ?vz13) rfl (by kernel_rfl) (by kernel_rfl) (by kernel_rfl) (fun _ _ _ h => h) (Or.inl ⟨by rfl, ?hyz13⟩) (by first | assumption | exact trivial) ?restz13
      case hyz13 => intro W hSW; have q2 := hSW; go_simp; try (with_reducible rfl)
      simp only [Act.put, List.getElem_toArray, List.getElem_cons_succ, List.getElem_cons_zero, List.setIfInBounds_toArray, List.set_cons_zero, List.set_cons_succ]
      refine wpAnyH_take (i := 5) (v := ?vz14) rfl (by kernel_rfl) (by kernel_rfl) (by kernel_rfl) (fun _ _ _ h => h) (Or.inl ⟨by rfl, ?hyz14⟩) (by first | assumption | exact trivial) ?restz14
      case hyz14 => intro W hSW; go_simp; try (with_reducible rfl)
      simp only [Act.put, List.getElem_toArray, List.getElem_cons_succ, List.getElem_cons_zero, List.setIfInBounds_toArray, List.set_cons_zero, List.set_cons_succ]
      refine wpAnyH_take (i := 6) (v := ?vz15) rfl (by kernel_rfl) (by kernel_rfl) (by kernel_rfl) (fun _ _ _ h => h) (Or.inl ⟨by rfl, ?hyz15⟩) (by first | assumption | exact trivial) ?restz15
      case hyz15 => intro W hSW; go_simp; try (with_reducible rfl)
      simp only [Act.put, List.getElem_toArray, List.getElem_cons_succ, List.getElem_cons_zero, List.setIfInBounds_toArray, List.set_cons_zero, List.set_cons_succ]
      refine wpAnyH_take (i := 7) (v := ?vz16) rfl (by kernel_rfl) (by kernel_rfl) (by kernel_rfl) (fun _ _ _ h => h) (Or.inl ⟨by rfl, ?hyz16⟩) (by first | assumption | exact trivial) ?restz16
      case hyz16 => intro W hSW; go_simp; try (with_reducible rfl)
      simp only [Act.put, List.getElem_toArray, List.getElem_cons_succ, List.getElem_cons_zero, List.setIfInBounds_toArray, List.set_cons_zero, List.set_cons_succ]
      refine wpAnyH_ready (rs := [8]) (by kernel_rfl) (by simp) ?_
      refine AllReadyH.cons rfl (fun K hK => ?_) AllReadyH.nil
      have f8 := (SameD.cell (show SameD D w2 w2.drew from rfl) (3 + n)).trans ea
      have g8 := (SameD.frozen (show SameD D w2 w2.drew from rfl) (3 + n)).trans ef
      go_simp
      have T3 := Lib.hid ((T2.out.setA HN.out false).below (w1 := (w2.setCell ⟨D, 3 + n, none⟩ (.bool false)).drew) ((Below.refl _ _).drew))
      have e3 := T3.out.rq.c1
      rw [show (⟨(goneR r i).size, (goneR r i).waits, fun k => if k = n then none else kp k, fun k => if k = n then false else (goneR r i).asked k⟩ : Rcv).waits = n from HG.out] at e3
      have f3 := T3.out.rq.frozen 1
      refine hK.out _ _ (e3) (fun hHeld => ?_)
      clear hK K
      refine wpAnyH_done (by kernel_rfl) ?_ _
      clear f8 g8 ea ef e1
      generalize (w2.setCell ⟨D, 3 + n, none⟩ (.bool false)).drew = w3 at T3 e3 f3
      obtain ⟨m, hm⟩ : ∃ m, (n + 1) % 128 = m := ⟨_, rfl⟩
      have hNm := Lib.hid (hN.out n m hm)
      have HMM := Lib.hid hm
      clear hm
      go_wp2_with (go_at_call 43; refine (hNm.out _).mono ?_; rintro e w' ⟨rfl, rfl⟩)
      go_roundw
      case rel =>
        refine ⟨i + 1, A1, c1, hi8, rfl, fun j hj => ?_, ?_⟩
        · by_cases hji : j < i
          · exact HALL.out j hji
          · obtain rfl : j = i := by omega
            rw [HG.out, ← goneR_kept' ok.out hi8 HG.out, HK.out]; rfl
        · have T4 := T3.out.setW m
          have hk' : (r.kept n).getD [] = p := by rw [← goneR_kept' ok.out hi8 HG.out, HK.out]; rfl
          rw [goneR_succ ok.out hi8, HG.out, toldR_succ, HG.out, hk', HMM.out, HKP.out]
          exact T4
      case measure => simp; omega
end Go.Proofs.Ytnfjfcoonabmmaa.Rv
