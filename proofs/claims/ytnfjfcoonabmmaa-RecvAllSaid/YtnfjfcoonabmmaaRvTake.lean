/- The contract of a receiver's Take. -/
import Derived.Test.YtnfjfcoonabmmaaRvAsk
import Derived.Test.YtnfjfcoonabmmaaRvTell
import Derived.Test.YtnfjfcoonabmmaaRvMay
namespace Go.Proofs.Ytnfjfcoonabmmaa.Rv
open Go.RowKit
open Go.Proofs.Ytnfjfcoonabmmaa.Me Go.Proofs.Ytnfjfcoonabmmaa.Hd Go.Proofs.Ytnfjfcoonabmmaa.Sn
set_option linter.unusedVariables false
set_option linter.unusedSimpArgs false

theorem Take_nil (n : Int) (v : Value) (w : World) : Calls Try.prog 9 #[.pointer none, .int .i64 n, v] w fun e w' => e = .returned (.tuple #[.slice none 0 0, .slice none 0 0, .int .i64 7]) ∧ w = w' := by
  have HM := Lib.hid (may_nil n v)
  go_enter Try.func9, Try.ntmps9
  go_wp2_with (go_at_call 25; refine (HM.out _).mono ?_; rintro e w' ⟨rfl, rfl⟩)
  go_returns
  exact ⟨rfl, rfl⟩
theorem Take_no {E : Nat → Prop} (w : World) (D mb : Nat) (r : Rcv) (h : Hid (Rq E w D mb r)) (ok : Hid r.Ok) (n : Int) (Ap : Option Addr) (cp : Nat) (p : List Nat) (hp : Hid (Me.Rd w w.heap.size Ap p)) (hA : Hid (Ap = none → p.length = 0 ∧ cp = 0)) (hl : Hid (p.length ≤ 140737488355328)) (he : mayE r n p ≠ 0) :
    Calls Try.prog 9 #[.pointer (some ⟨D, 0, none⟩), .int .i64 n, .slice Ap p.length cp] w fun e w' => e = .returned (.tuple #[.slice none 0 0, .slice none 0 0, .int .i64 (mayE r n p : Int)]) ∧ Hid (Below w.heap.size w w') := by
  have HM := Lib.hid (may_any w D mb r h ok n Ap cp p hp hA hl)
  obtain ⟨e, hee⟩ : ∃ e, mayE r n p = e := ⟨_, rfl⟩
  rw [hee] at HM he ⊢
  have g : ((e : Int) == 0) = false := beq_eq_false_iff_ne.mpr (by omega)
  obtain ⟨l, hl'⟩ : ∃ l, p.length = l := ⟨_, rfl⟩
  rw [hl'] at HM ⊢
  clear hl' hee he hp hA hl
  go_enter Try.func9, Try.ntmps9
  go_wp2_with (go_at_call 25; refine HM.out.mono ?_; rintro e w' ⟨rfl, B1⟩)
  go_returns
  exact ⟨rfl, B1⟩
theorem may_ok {r : Rcv} {n : Int} {p : List Nat} (h : mayE r n p = 0) : ∃ m : Nat, n = (m : Int) ∧ m < 128 ∧ 0 < p.length ∧ p.length ≤ 121 ∧ way r.waits m < r.size ∧ r.kept m = none := by
  unfold mayE at h
  by_cases h1 : n < 0 ∨ 127 < n
  · rw [if_pos h1] at h; cases h
  rw [if_neg h1] at h
  by_cases h2 : p.length = 0
  · rw [if_pos h2] at h; cases h
  rw [if_neg h2] at h
  by_cases h3 : 121 < p.length
  · rw [if_pos h3] at h; cases h
  rw [if_neg h3] at h
  by_cases h4 : r.size ≤ way r.waits n.toNat
  · rw [if_pos h4] at h; cases h
  rw [if_neg h4] at h
  refine ⟨n.toNat, by omega, by omega, by omega, by omega, by omega, ?_⟩
  cases hk : r.kept n.toNat with
  | none => rfl
  | some q => rw [hk] at h; cases h
/-- Behind a Take that told i payloads. -/
def takeR (r : Rcv) (n : Nat) (p : List Nat) (i : Nat) : Rcv := askR (goneR (keepR r n p) i)
/-- What a Take answers that goes well. -/
def TakeOk (E : Nat → Prop) (w : World) (D mb : Nat) (r : Rcv) (n : Nat) (p : List Nat) (e : Ending) (w' : World) : Prop :=
  ∃ i A c v, e = .returned (.tuple #[.slice A i c, v, .int .i64 0]) ∧ Hid (Tells (keepR r n p) i) ∧ Hid (Ls (fun k => E k ∨ w.heap.size ≤ k) w' A c (toldR (keepR r n p) i)) ∧
    Hid (Mi.Own w' w.heap.size v (askL (goneR (keepR r n p) i).asked (missR (goneR (keepR r n p) i)))) ∧ Hid (Rq (fun k => E k ∨ w.heap.size ≤ k) w' D mb (takeR r n p i)) ∧ Hid (But (fun k => k = D ∨ k = mb) w w') ∧ Hid (∀ k, bk A k → w.heap.size ≤ k)
theorem Tk.ends {E : Nat → Prop} {w wr w' : World} {D mb c : Nat} {rr rr' : Rcv} {l : List (List Nat)} {A : Option Addr} (h : Tk E w D mb rr l A c wr) (hr : Rq (fun k => (E k ∨ w.heap.size ≤ k) ∧ k < wr.heap.size) w' D mb rr') (hb : But (fun k => k = D) wr w') :
    Ls (fun k => E k ∨ w.heap.size ≤ k) w' A c l ∧ Rq (fun k => E k ∨ w.heap.size ≤ k) w' D mb rr' ∧ But (fun k => k = D ∨ k = mb) w w' :=
  ⟨h.ls.but hb fun k hk e => h.rq.nD (by rw [← e]; exact hk), hr.mono (fun k _ hk => hk.1) h.rq.nD h.rq.nm, h.but.trans hb fun k _ e => .inl e⟩
set_option maxHeartbeats 2000000 in
theorem Take_ok {E : Nat → Prop} (w : World) (D mb : Nat) (r : Rcv) (h : Hid (Rq E w D mb r)) (ok : Hid r.Ok) (n : Nat) (Ap : Option Addr) (cp : Nat) (p : List Nat) (hp : Hid (Me.Rd w w.heap.size Ap p)) (hA : Hid (Ap = none → p.length = 0 ∧ cp = 0)) (hl : Hid (p.length ≤ 140737488355328)) (hn : Hid (n < 128)) (he : mayE r (n : Int) p = 0) :
    Calls Try.prog 9 #[.pointer (some ⟨D, 0, none⟩), .int .i64 n, .slice Ap p.length cp] w (TakeOk E w D mb r n p) := by
  have HM := Lib.hid (may_any w D mb r h ok n Ap cp p hp hA hl)
  rw [he] at HM
  have c2 := h.out.c2
  have HD := Lib.hid h.out.lt
  have HDm := Lib.hid h.out.ltm
  have HC := Lib.hid (fun (W : World) (hW : Hid (Below w.heap.size w W)) => BClone_any Ap cp w.heap.size p W (hp.out.below hW.out) hA hW.out.size hl.out)
  have HB := Lib.hid hp.out.1
  have HOK := Lib.hid (ok.out.keep hn.out hp.out.1)
  have HT := Lib.hid (fun (W : World) (hW : Hid (Rq (fun k => E k ∨ w.heap.size ≤ k) W D mb (keepR r n p))) => tell_any W D mb (keepR r n p) hW HOK)
  clear he
  go_enter Try.func9, Try.ntmps9
  go_wp2_with (go_at_call 25; refine HM.out.mono ?_; rintro e w1 ⟨rfl, B1⟩)
  have d2 := (KeptN.cell B1.out HD.out 2).trans c2
  have S0 : KeptN w w1.drew := B1.out.drew
  refine wp_region_held_drew (S := fun W => W.cell? ⟨D, 2, none⟩ = some (.map (some mb))) (by kernel_rfl) d2 (fun hHeld => ?_)
  refine wpAnyH_take (i := 0) (v := ?vz1) rfl (by kernel_rfl) (by kernel_rfl) (by kernel_rfl) (fun _ _ _ h => h) (Or.inl ⟨by rfl, ?hyz1⟩) (by first | assumption | exact trivial) ?restz1
  case hyz1 => intro W hSW; go_simp; try (with_reducible rfl)
  simp only [Act.put, List.getElem_toArray, List.getElem_cons_succ, List.getElem_cons_zero, List.setIfInBounds_toArray, List.set_cons_zero, List.set_cons_succ]
  refine wpAnyH_take (i := 1) (v := ?vz2) rfl (by kernel_rfl) (by kernel_rfl) (by kernel_rfl) (fun _ _ _ h => h) (Or.inl ⟨by rfl, ?hyz2⟩) (by first | assumption | exact trivial) ?restz2
  case hyz2 => intro W hSW; go_simp; try (with_reducible rfl)
  simp only [Act.put, List.getElem_toArray, List.getElem_cons_succ, List.getElem_cons_zero, List.setIfInBounds_toArray, List.set_cons_zero, List.set_cons_succ]
  refine wpAnyH_take (i := 2) (v := ?vz3) rfl (by kernel_rfl) (by kernel_rfl) (by kernel_rfl) (fun _ _ _ h => h) (Or.inl ⟨by rfl, ?hyz3⟩) (by first | assumption | exact trivial) ?restz3
  case hyz3 => intro W hSW; go_simp; try (with_reducible rfl)
  simp only [Act.put, List.getElem_toArray, List.getElem_cons_succ, List.getElem_cons_zero, List.setIfInBounds_toArray, List.set_cons_zero, List.set_cons_succ]
  refine wpAnyH_take (i := 3) (v := ?vz4) rfl (by kernel_rfl) (by kernel_rfl) (by kernel_rfl) (fun _ _ _ h => h) (Or.inl ⟨by rfl, ?hyz4⟩) (by first | assumption | exact trivial) ?restz4
  case hyz4 => intro W hSW; have q2 := hSW; go_simp; try (with_reducible rfl)
  simp only [Act.put, List.getElem_toArray, List.getElem_cons_succ, List.getElem_cons_zero, List.setIfInBounds_toArray, List.set_cons_zero, List.set_cons_succ]
  refine wpAnyH_take (i := 4) (v := ?vz5) rfl (by kernel_rfl) (by kernel_rfl) (by kernel_rfl) (fun _ _ _ h => h) (Or.inl ⟨by rfl, ?hyz5⟩) (by first | assumption | exact trivial) ?restz5
  case hyz5 => intro W hSW; go_simp; try (with_reducible rfl)
  simp only [Act.put, List.getElem_toArray, List.getElem_cons_succ, List.getElem_cons_zero, List.setIfInBounds_toArray, List.set_cons_zero, List.set_cons_succ]
  refine wpAnyH_take (i := 5) (v := ?vz6) rfl (by kernel_rfl) (by kernel_rfl) (by kernel_rfl) (fun _ _ _ h => h) (Or.inl ⟨by rfl, ?hyz6⟩) (by first | assumption | exact trivial) ?restz6
  case hyz6 => intro W hSW; go_simp; try (with_reducible rfl)
  simp only [Act.put, List.getElem_toArray, List.getElem_cons_succ, List.getElem_cons_zero, List.setIfInBounds_toArray, List.set_cons_zero, List.set_cons_succ]
  refine wpAnyH_ready (rs := [6]) (by kernel_rfl) (by simp) ?_
  refine AllReadyH.cons rfl (fun K hK => ?_) AllReadyH.nil
  go_simp
  go_wp2_with (go_at_call 26; refine (HC.out _ S0).mono ?_; rintro e w5 ⟨v5, rfl, ho5, hb5⟩; obtain ⟨A5, c5, rfl, _, _, _⟩ := ho5.out.held HB.out)
  have hs1 : w.heap.size ≤ w1.drew.heap.size := B1.out.size
  have B5 : Below w.heap.size w w5 := S0.trans (hb5.out.mono hs1)
  have R5 : Rq (fun k => E k ∨ w.heap.size ≤ k) w5 D mb r := (h.out.below B5).mono (fun k _ hk => .inl hk) (fun e => e.elim h.out.nD (by have := HD.out; omega)) (fun e => e.elim h.out.nm (by have := HDm.out; omega))
  have E5 : El (fun k => E k ∨ w.heap.size ≤ k) w5 (.slice A5 p.length c5) p := ⟨A5, c5, rfl, own_base ho5.out fun _ _ => Nat.zero_le _, fun a ea => .inr (Nat.le_trans hs1 (ho5.out.lt a.block (by rw [ea]; rfl)).1)⟩
  refine hK.out _ _ (R5.c2) (fun hHeld => ?_)
  clear hK K
  refine wpAnyH_ready (rs := [7]) (by kernel_rfl) (by simp) ?_
  refine AllReadyH.cons rfl (fun K hK => ?_) AllReadyH.nil
  rw [if_pos (by kernel_rfl)]
  refine putW (.tmp 21) (.tmp 22) (.tmp 24) rfl (fun k => E k ∨ w.heap.size ≤ k) mb r.kept n p (.slice A5 p.length c5) rfl rfl rfl R5.mp hn.out E5 ?_
  intro w6 hm6 hb6 hs6
  have b56 : But (fun k => k = mb) w5 w6 := hb6
  have R6 : Hid (Rq (fun k => E k ∨ w.heap.size ≤ k) w6 D mb (keepR r n p)) := R5.map hm6 b56
  have B6 : Hid (But (fun k => k = D ∨ k = mb) w w6) := (But.of_below B5).trans b56 fun _ _ e => .inr e
  simp only [Act.put, List.getElem_toArray, List.getElem_cons_succ, List.getElem_cons_zero, List.setIfInBounds_toArray, List.set_cons_zero, List.set_cons_succ]
  refine hK.out _ _ (R6.out.c2) (fun hHeld => ?_)
  clear hK K
  refine wpAnyH_done (by kernel_rfl) ?_ _
  clear hm6 hb6 hs6 b56 R5 E5 B5 ho5 hb5 d2 S0
  have HT6 := Lib.hid (HT.out w6 R6)
  have HSZ : Hid (w.heap.size ≤ w6.heap.size) := B6.out.size
  go_wp2_with (first
    | (go_at_call 27; refine HT6.out.mono ?_; rintro e w7 ⟨i, A7, c7, rfl, ht7, hk7⟩
       have K7 : Hid (Tk (fun k => E k ∨ w.heap.size ≤ k) w6 D mb (goneR (keepR r n p) i) (toldR (keepR r n p) i) A7 c7 w7) := hk7
       have Q7 : Hid (Rq (fun k => ((E k ∨ w.heap.size ≤ k) ∨ w6.heap.size ≤ k) ∧ k < w7.heap.size) w7 D mb (goneR (keepR r n p) i)) := K7.out.rq.mono (fun k hk he => ⟨he, hk⟩) (fun e => K7.out.rq.nD e.1) (fun e => K7.out.rq.nm e.1)
       have HA7 := Lib.hid (ask_any w7 D mb (goneR (keepR r n p) i) Q7 (Lib.hid fun k hk => hk.2))
       clear hk7)
    | (go_at_call 28; refine HA7.out.mono ?_; rintro e w8 ⟨v8, rfl, ho8, hr8, hb8⟩))
  go_returns
  obtain ⟨e1, e2, e3⟩ := K7.out.ends hr8.out hb8.out
  have hs := HSZ.out
  have hs7 : w.heap.size ≤ w7.heap.size := Nat.le_trans hs K7.out.but.size
  have hE : ∀ k, ((E k ∨ w.heap.size ≤ k) ∨ w6.heap.size ≤ k) → (E k ∨ w.heap.size ≤ k) := fun k hk => hk.elim id fun hk => .inr (by omega)
  refine ⟨i, A7, c7, v8, rfl, ht7, e1.mono fun k _ hk => hE k hk, ho8.out.base fun k e => Nat.le_trans hs7 (World.ownsRow.lt ho8.out k e).1, ?_, B6.out.trans e3 fun k _ e => e, fun k hk => Nat.le_trans hs (K7.out.nw k hk)⟩
  exact e2.mono (fun k _ hk => hE k hk) (fun e => e2.nD (.inl e)) (fun e => e2.nm (.inl e))
end Go.Proofs.Ytnfjfcoonabmmaa.Rv
