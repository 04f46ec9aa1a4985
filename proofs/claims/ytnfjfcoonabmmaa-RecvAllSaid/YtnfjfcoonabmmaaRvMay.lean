/- The contract of a receiver's may. -/
import Derived.Test.YtnfjfcoonabmmaaRvNew
import Derived.BigQuiet
namespace Go.Proofs.Ytnfjfcoonabmmaa.Rv
open Go.RowKit
open Go.Proofs.Ytnfjfcoonabmmaa.Me Go.Proofs.Ytnfjfcoonabmmaa.Hd Go.Proofs.Ytnfjfcoonabmmaa.Sn
set_option linter.unusedVariables false
set_option linter.unusedSimpArgs false

theorem goesOut_any (w : World) (Ap : Option Addr) (cp : Nat) (p : List Nat) (hp : Hid (Me.Rd w w.heap.size Ap p)) (hA : Hid (Ap = none → p.length = 0 ∧ cp = 0)) (hl : Hid (p.length ≤ 140737488355328)) :
    Calls Try.prog 42 #[.slice Ap p.length cp] w fun e w' => e = .returned (.int .i64 (pushE (newS 1) p : Int)) ∧ Hid (Below w.heap.size w w') := by
  have N := Lib.hid (New_s w.heap.size (fun _ => False) 1 (Nat.le_refl _) (by omega) w (Nat.le_refl _) (fun k h => h.elim))
  rw [show ((1 : Nat) : Int) = 1 from rfl] at N
  have P := Lib.hid (fun (W : World) (h : Hid (Sn w.heap.size (fun _ => False) W w.heap.size (newS 1))) (hb : Hid (Below w.heap.size w W)) =>
    Push_s w.heap.size (fun _ => False) W w.heap.size (newS 1) h (Lib.hid (Snd.Ok.new (Nat.le_refl _) (by omega))) (Lib.hid hb.out.size) (Lib.hid fun k h => h.elim) Ap cp p (Lib.hid ((hp.out.below hb.out).more hb.out.size)) hA hl.out)
  obtain ⟨e, he⟩ : ∃ e, pushE (newS 1) p = e := ⟨_, rfl⟩
  obtain ⟨n, hn⟩ : ∃ n, p.length = n := ⟨_, rfl⟩
  rw [he, hn] at P
  rw [he, hn]
  clear he hn hp hA hl
  go_enter Try.func42, Try.ntmps42
  go_wp2_with (first
    | (go_at_call 31; refine N.out.mono ?_; rintro e1 w1 ⟨rfl, H1, B1⟩)
    | (go_at_call 32; refine (P.out w1 H1 B1).mono ?_; rintro e1 w2 ⟨rfl, _, b2⟩; have B2 : Hid (Below w.heap.size w w2) := B1.out.trans (but_out b2.out B1.out.size)))
  go_ret
  exact ⟨rfl, B2⟩
theorem may_nil (n : Int) (v : Value) (w : World) : Calls Try.prog 25 #[.pointer none, .int .i64 n, v] w fun e w' => e = .returned (.int .i64 7) ∧ w = w' := by
  go_enter Try.func25, Try.ntmps25
  go_wp2
  go_ret
  exact ⟨rfl, rfl⟩
theorem In_nat (b s n : Nat) (hb : b < 128) (hn : n < 128) (w : World) : Calls Try.prog 38 #[.int .i64 b, .int .i64 s, .int .i64 n] w fun e w' => e = .returned (.bool (decide (way b n < s))) ∧ w = w' := by
  have h := Wn.In_any (b : Int) (s : Int) (n : Int) w
  have : decide ((((n : Int) - (b : Int)) % 128) < (s : Int)) = decide (way b n < s) := by
    congr 1
    unfold way
    exact propext (by omega)
  rw [this] at h
  exact h
theorem pushE_new (p : List Nat) : pushE (newS 1) p = if p.length = 0 then 2 else if 121 < p.length then 3 else 0 := by
  unfold pushE newS; simp
set_option maxRecDepth 100000 in
set_option maxHeartbeats 2000000 in
theorem may_any {E : Nat → Prop} (w : World) (D mb : Nat) (r : Rcv) (h : Hid (Rq E w D mb r)) (ok : Hid r.Ok) (n : Int) (Ap : Option Addr) (cp : Nat) (p : List Nat) (hp : Hid (Me.Rd w w.heap.size Ap p)) (hA : Hid (Ap = none → p.length = 0 ∧ cp = 0)) (hl : Hid (p.length ≤ 140737488355328)) :
    Calls Try.prog 25 #[.pointer (some ⟨D, 0, none⟩), .int .i64 n, .slice Ap p.length cp] w fun e w' => e = .returned (.int .i64 (mayE r n p : Int)) ∧ Hid (Below w.heap.size w w') := by
  by_cases h1 : n < 0 ∨ 127 < n
  · have HE : Hid (mayE r n p = 1) := by show _ = _; unfold mayE; rw [if_pos h1]
    obtain ⟨l, hl'⟩ : ∃ l, p.length = l := ⟨_, rfl⟩
    rw [hl']
    clear hl' hp hA hl
    rw [HE.out]
    by_cases h2 : n < 0
    · clear h1
      go_enter Try.func25, Try.ntmps25
      go_wp2
      go_ret
      exact ⟨rfl, Below.refl _ _⟩
    · have h3 : 128 ≤ n := by omega
      clear h1
      go_enter Try.func25, Try.ntmps25
      go_wp2
      go_ret
      exact ⟨rfl, Below.refl _ _⟩
  · obtain ⟨m, rfl⟩ : ∃ m : Nat, n = (m : Int) := ⟨n.toNat, by omega⟩
    have hm : m < 128 := by omega
    have HG := Lib.hid (goesOut_any w Ap cp p hp hA hl)
    have HPE := pushE_new p
    obtain ⟨e, he⟩ : ∃ e, pushE (newS 1) p = e := ⟨_, rfl⟩
    rw [he] at HG HPE
    have g1 : ¬ ((m : Int) < 0) := by omega
    have g2 : ¬ (128 ≤ (m : Int)) := by omega
    have g3 : (m : Int) < 128 := by omega
    by_cases h2 : e = 0
    · have q1 : p.length ≠ 0 := fun h => by rw [if_pos h] at HPE; omega
      rw [if_neg q1] at HPE
      have q2 : ¬ 121 < p.length := fun h => by rw [if_pos h] at HPE; omega
      subst h2
      have c0 := h.out.c0
      have c1 := h.out.c1
      have c2 := h.out.c2
      have HIn := Lib.hid (fun (W : World) => In_nat r.waits r.size m ok.out.w hm W)
      have hmay : mayE r (m : Int) p = if r.size ≤ way r.waits m then 7 else if (r.kept m).isSome = true then 5 else 0 := by
        unfold mayE
        rw [if_neg h1, if_neg q1, if_neg q2, Int.toNat_natCast]
      by_cases h3 : way r.waits m < r.size
      · rw [if_neg (by omega)] at hmay
        rw [decide_eq_true h3] at HIn
        cases hk : r.kept m with
        | none =>
          rw [hk] at hmay
          have HE : Hid (mayE r (m : Int) p = 0) := hmay
          have HLK : Hid (∀ (W : World), Hid (Below w.heap.size w W) → (Instr.lookup 54 (.map (some mb)) (.int .i64 (m : Int)) true).run Try.prog W = .ok (.tuple #[.slice none 0 0, .bool false]) W) := fun W hW => h.out.mp.no hm hk (hW.out.block mb h.out.ltm)
          rw [HE.out]
          clear hmay h1 q1 q2 h3 HPE he hk
          obtain ⟨l, hl'⟩ : ∃ l, p.length = l := ⟨_, rfl⟩
          rw [hl'] at HG ⊢
          clear hl' hp hA hl
          have HD := Lib.hid h.out.lt
          go_enter Try.func25, Try.ntmps25
          go_wp2_with (go_at_call 42; refine HG.out.mono ?_; rintro e1 w1 ⟨rfl, B1⟩; have d0 := (KeptN.cell B1.out HD.out 0).trans c0; have d1 := (KeptN.cell B1.out HD.out 1).trans c1; have d2 := (KeptN.cell B1.out HD.out 2).trans c2)
          go_quiet ((go_at_call 38; exact (HIn.out _).mono fun _ _ h => ⟨h.1, _, h.2.symm⟩))
          have B2 : Hid (Below w.heap.size w (w1.drewN nq)) := B1.out.trans (Below.mono (below_drewN (Below.refl _ _) nq) B1.out.size)
          have f2 : (w1.drewN nq).cell? ⟨D, 2, none⟩ = some (.map (some mb)) := d2
          have hlook := HLK.out _ B2
          generalize w1.drewN nq = w2 at B2 f2 hlook
          go_wp2
          go_ret
          exact ⟨rfl, B2⟩
        | some q =>
          rw [hk] at hmay
          have HE : Hid (mayE r (m : Int) p = 5) := hmay
          obtain ⟨u, hu, hlk⟩ := h.out.mp.yes hm hk
          obtain ⟨R, cr, rfl, _, _⟩ := hu
          obtain ⟨ql, hql⟩ : ∃ ql, q.length = ql := ⟨_, rfl⟩
          rw [hql] at hlk
          have HLK : Hid (∀ (W : World), Hid (Below w.heap.size w W) → (Instr.lookup 54 (.map (some mb)) (.int .i64 (m : Int)) true).run Try.prog W = .ok (.tuple #[.slice R ql cr, .bool true]) W) := fun W hW => hlk W (hW.out.block mb h.out.ltm)
          rw [HE.out]
          clear hmay h1 q1 q2 h3 HPE he hk hql hlk
          obtain ⟨l, hl'⟩ : ∃ l, p.length = l := ⟨_, rfl⟩
          rw [hl'] at HG ⊢
          clear hl' hp hA hl
          have HD := Lib.hid h.out.lt
          go_enter Try.func25, Try.ntmps25
          go_wp2_with (go_at_call 42; refine HG.out.mono ?_; rintro e1 w1 ⟨rfl, B1⟩; have d0 := (KeptN.cell B1.out HD.out 0).trans c0; have d1 := (KeptN.cell B1.out HD.out 1).trans c1; have d2 := (KeptN.cell B1.out HD.out 2).trans c2)
          go_quiet ((go_at_call 38; exact (HIn.out _).mono fun _ _ h => ⟨h.1, _, h.2.symm⟩))
          have B2 : Hid (Below w.heap.size w (w1.drewN nq)) := B1.out.trans (Below.mono (below_drewN (Below.refl _ _) nq) B1.out.size)
          have f2 : (w1.drewN nq).cell? ⟨D, 2, none⟩ = some (.map (some mb)) := d2
          have hlook := HLK.out _ B2
          generalize w1.drewN nq = w2 at B2 f2 hlook
          go_wp2
          go_ret
          exact ⟨rfl, B2⟩
      · rw [if_pos (by omega)] at hmay
        rw [decide_eq_false h3] at HIn
        have HE : Hid (mayE r (m : Int) p = 7) := hmay
        rw [HE.out]
        clear hmay h1 q1 q2 h3 HPE he
        obtain ⟨l, hl'⟩ : ∃ l, p.length = l := ⟨_, rfl⟩
        rw [hl'] at HG ⊢
        clear hl' hp hA hl
        have HD := Lib.hid h.out.lt
        go_enter Try.func25, Try.ntmps25
        go_wp2_with (go_at_call 42; refine HG.out.mono ?_; rintro e1 w1 ⟨rfl, B1⟩; have d0 := (KeptN.cell B1.out HD.out 0).trans c0; have d1 := (KeptN.cell B1.out HD.out 1).trans c1; have d2 := (KeptN.cell B1.out HD.out 2).trans c2)
        go_quiet ((go_at_call 38; exact (HIn.out _).mono fun _ _ h => ⟨h.1, _, h.2.symm⟩))
        have B2 : Hid (Below w.heap.size w (w1.drewN nq)) := B1.out.trans (Below.mono (below_drewN (Below.refl _ _) nq) B1.out.size)
        generalize w1.drewN nq = w2 at B2
        go_wp2
        go_ret
        exact ⟨rfl, B2⟩
    · have HE : Hid (mayE r (m : Int) p = e) := by
        show _ = _
        unfold mayE
        rw [if_neg h1]
        by_cases q1 : p.length = 0
        · rw [if_pos q1] at HPE ⊢; exact HPE.symm
        · rw [if_neg q1] at HPE ⊢
          by_cases q2 : 121 < p.length
          · rw [if_pos q2] at HPE ⊢; exact HPE.symm
          · rw [if_neg q2] at HPE; exact absurd HPE h2
      rw [HE.out]
      have g4 : ((e : Int) == 0) = false := beq_eq_false_iff_ne.mpr (by omega)
      obtain ⟨l, hl'⟩ : ∃ l, p.length = l := ⟨_, rfl⟩
      rw [hl'] at HG ⊢
      clear hl' hp hA hl HPE h1 h2 he
      go_enter Try.func25, Try.ntmps25
      go_wp2_with (go_at_call 42; refine HG.out.mono ?_; rintro e1 w1 ⟨rfl, B1⟩)
      go_ret
      exact ⟨rfl, B1⟩
end Go.Proofs.Ytnfjfcoonabmmaa.Rv
