/- How a file is laid under a name. -/
import Derived.Test.YtdjgkoklkoahbaaDkLook
import Derived.Deep.RegionHeld
namespace Go.Proofs.Ytdjgkoklkoahbaa.Dk
open Go.RowKit
open Go.Proofs.Ytdjgkoklkoahbaa.Me Go.Proofs.Ytdjgkoklkoahbaa.Hd
set_option linter.unusedVariables false
set_option linter.unusedSimpArgs false

theorem Clone_any (s : ByteArray) (w : World) (hs : s.size ≤ 281474976710656) : Calls Try.prog 52 #[.string s] w fun e w' => e = .returned (.string s) ∧ Below w.heap.size w w' := by
  have HC := Lib.hid (Try.Clone s w hs)
  clear hs
  go_enter Try.func52, Try.ntmps52
  go_wp2_with (go_at_call 66; refine HC.out.mono ?_; rintro e w1 ⟨rfl, hb⟩)
  go_ret
  exact ⟨rfl, hb⟩
theorem putM {w : World} {o : Oper} {a : Act} {K : Act → World → Prop} {Q : Exit → Act → World → Prop} (m x v : Operand) (ho : o.op = .mapUpdate 62 m x v)
    (E : Nat → Prop) (b N : Nat) (kept : Nm → Option Fl) (n : Nm) (p : Nat) (u : Value) (f : Fl) (hm : a.eval m = .map (some b)) (hx : a.eval x = nmV n) (hv : a.eval v = .pointer (some ⟨p, 0, none⟩)) (hM : Mf E w b kept N) (hn : n.length ≤ maxLen) (hN : N < maxLen) (hF : FileIn w p u f) (hp : ¬ E p) (hu : ∀ k, u.ownBlock = some k → ¬ E k)
    (h : ∀ w', Mf (fun k => E k ∨ k = p ∨ u.ownBlock = some k) w' b (fun m => if m = n then some f else kept m) (if (kept n).isSome then N else N + 1) → But (fun k => k = b) w w' → w'.heap.size = w.heap.size → (∀ W : World, W.heap[b]? = w'.heap[b]? → (Instr.lookup 62 (.map (some b)) (nmV n) false).run Try.prog W = .ok (.pointer (some ⟨p, 0, none⟩)) W) → K (a.put o.dst undef) w') : o.wp Try.prog a w K Q := by
  obtain ⟨w', hr, h1, h2, h3, h4⟩ := hM.put hn hN hF hp hu
  unfold Oper.wp execOp
  simp only [ho, Sem.run_bind, Sem.run_pure, Result.andThen_ok, hm, hx, hv, hr]
  exact h w' h1 h2 h3 h4
theorem put_length {L : Fs} (hs : Srt L) (n : Nm) (f : Fl) : (put L n f).length = if (look L n).isSome then L.length else L.length + 1 := by
  cases h : look L n with
  | none => simp [(put_none h f).1]
  | some g => simp [(put_some hs h f).1]
/-- Behind lay: the disk with that file too. -/
theorem Dq.laid {G : Nat → Prop} {w w' : World} {D mb : Nat} {s : St} {n : Nm} {f : Fl} {p : Nat} {v : Value} (h : Dq G w D mb s) (hs : Srt s.files) (hp : ¬ G p) (hv : ∀ k, v.ownBlock = some k → ¬ G k)
    (hm : Mf (fun k => (G k ∧ k ≠ D ∧ k ≠ mb) ∨ k = p ∨ v.ownBlock = some k) w' mb (fun m => if m = n then some f else look s.files m) (if (look s.files n).isSome then s.files.length else s.files.length + 1)) (hb : But (fun k => k = mb) w w') :
    Dq (fun k => G k ∨ k = p ∨ v.ownBlock = some k) w' D mb ⟨s.limit, put s.files n f, s.left, s.down⟩ := by
  refine ⟨(hb.same D h.lt h.ne).trans h.blk, ?_, .inl h.gD, .inl h.gm⟩
  rw [put_length hs]
  refine (hm.mono fun k _ hk => ?_).congr (look_put s.files n f)
  rcases hk with hk | hk | hk
  · exact ⟨.inl hk.1, hk.2⟩
  · exact ⟨.inr (.inl hk), fun e => hp (hk ▸ e ▸ h.gD), fun e => hp (hk ▸ e ▸ h.gm)⟩
  · exact ⟨.inr (.inr hk), fun e => hv k hk (e ▸ h.gD), fun e => hv k hk (e ▸ h.gm)⟩
set_option maxHeartbeats 1000000 in
set_option maxRecDepth 100000 in
theorem lay_any {G : Nat → Prop} (w : World) (D mb : Nat) (s : St) (h : Hid (Dq G w D mb s)) (hs : Hid (Srt s.files)) (hc : Hid (s.files.length ≤ 64)) (n : Nm) (hn : Hid (n.length ≤ 12)) (p : Nat) (v : Value) (f : Fl) (hF : Hid (FileIn w p v f)) (hp : Hid (¬ G p)) (hv : Hid (∀ k, v.ownBlock = some k → ¬ G k)) :
    Calls Try.prog 35 #[.pointer (some ⟨D, 0, none⟩), nmV n, .pointer (some ⟨p, 0, none⟩)] w fun e w' => (∃ u, e = .returned u) ∧ Hid (Dq (fun k => G k ∨ k = p ∨ v.ownBlock = some k) w' D mb ⟨s.limit, put s.files n f, s.left, s.down⟩) ∧ Hid (But (fun k => k = mb) w w') ∧ Hid (∀ W : World, W.heap[mb]? = w'.heap[mb]? → (Instr.lookup 62 (.map (some mb)) (nmV n) false).run Try.prog W = .ok (.pointer (some ⟨p, 0, none⟩)) W) := by
  have c0 := h.out.c0
  have HC := Lib.hid (fun W => Clone_any ⟨n.toArray⟩ W (by have := hn.out; rw [sz]; omega))
  have HD := Lib.hid h.out.lt
  have HNE := Lib.hid h.out.ne
  show Calls Try.prog 35 #[.pointer (some ⟨D, 0, none⟩), .string ⟨n.toArray⟩, .pointer (some ⟨p, 0, none⟩)] w _
  obtain ⟨ns, hns⟩ : ∃ ns, (⟨n.toArray⟩ : ByteArray) = ns := ⟨_, rfl⟩
  have HNS : Hid (nmV n = .string ns) := by show _ = _; rw [← hns]
  rw [hns] at HC ⊢
  clear hns
  go_enter Try.func35, Try.ntmps35
  go_wp2
  refine wp_region_held_drew (S := fun W => W.cell? ⟨D, 0, none⟩ = some (.map (some mb))) (by kernel_rfl) c0 (fun hHeld => ?_)
  refine wpAnyH_take (i := 0) (v := ?vz1) rfl (by kernel_rfl) (by kernel_rfl) (by kernel_rfl) (fun _ _ _ h => h) (Or.inl ⟨by rfl, ?hyz1⟩) (by first | assumption | exact trivial) ?restz1
  case hyz1 => intro W hSW; go_simp; try (with_reducible rfl)
  simp only [Act.put, List.getElem_toArray, List.getElem_cons_succ, List.getElem_cons_zero, List.setIfInBounds_toArray, List.set_cons_zero, List.set_cons_succ]
  refine wpAnyH_take (i := 1) (v := ?vz2) rfl (by kernel_rfl) (by kernel_rfl) (by kernel_rfl) (fun _ _ _ h => h) (Or.inl ⟨by rfl, ?hyz2⟩) (by first | assumption | exact trivial) ?restz2
  case hyz2 => intro W hSW; go_simp; try (with_reducible rfl)
  simp only [Act.put, List.getElem_toArray, List.getElem_cons_succ, List.getElem_cons_zero, List.setIfInBounds_toArray, List.set_cons_zero, List.set_cons_succ]
  refine wpAnyH_take (i := 2) (v := ?vz3) rfl (by kernel_rfl) (by kernel_rfl) (by kernel_rfl) (fun _ _ _ h => h) (Or.inl ⟨by rfl, ?hyz3⟩) (by first | assumption | exact trivial) ?restz3
  case hyz3 => intro W hSW; go_simp; try (with_reducible rfl)
  simp only [Act.put, List.getElem_toArray, List.getElem_cons_succ, List.getElem_cons_zero, List.setIfInBounds_toArray, List.set_cons_zero, List.set_cons_succ]
  refine wpAnyH_take (i := 3) (v := ?vz4) rfl (by kernel_rfl) (by kernel_rfl) (by kernel_rfl) (fun _ _ _ h => h) (Or.inl ⟨by rfl, ?hyz4⟩) (by first | assumption | exact trivial) ?restz4
  case hyz4 => intro W hSW; have q3 := hSW; go_simp; try (with_reducible rfl)
  simp only [Act.put, List.getElem_toArray, List.getElem_cons_succ, List.getElem_cons_zero, List.setIfInBounds_toArray, List.set_cons_zero, List.set_cons_succ]
  refine wpAnyH_take (i := 4) (v := ?vz5) rfl (by kernel_rfl) (by kernel_rfl) (by kernel_rfl) (fun _ _ _ h => h) (Or.inl ⟨by rfl, ?hyz5⟩) (by first | assumption | exact trivial) ?restz5
  case hyz5 => intro W hSW; go_simp; try (with_reducible rfl)
  simp only [Act.put, List.getElem_toArray, List.getElem_cons_succ, List.getElem_cons_zero, List.setIfInBounds_toArray, List.set_cons_zero, List.set_cons_succ]
  refine wpAnyH_take (i := 6) (v := ?vz6) rfl (by kernel_rfl) (by kernel_rfl) (by kernel_rfl) (fun _ _ _ h => h) (Or.inl ⟨by rfl, ?hyz6⟩) (by first | assumption | exact trivial) ?restz6
  case hyz6 => intro W hSW; go_simp; try (with_reducible rfl)
  simp only [Act.put, List.getElem_toArray, List.getElem_cons_succ, List.getElem_cons_zero, List.setIfInBounds_toArray, List.set_cons_zero, List.set_cons_succ]
  refine wpAnyH_ready (rs := [5]) (by kernel_rfl) (by simp) ?_
  refine AllReadyH.cons rfl (fun K hK => ?_) AllReadyH.nil
  go_simp
  go_wp2_with (go_at_call 52; refine (HC.out _).mono ?_; rintro e w2 ⟨rfl, hb2⟩)
  have B2 : Below w.heap.size w w2 := ((Below.refl _ w).drew).trans hb2
  have H2 : Dq G w2 D mb s := h.out.below B2
  refine hK.out _ _ (H2.c0) (fun hHeld => ?_)
  clear hK K
  refine wpAnyH_ready (rs := [7]) (by kernel_rfl) (by simp) ?_
  refine AllReadyH.cons rfl (fun K hK => ?_) AllReadyH.nil
  rw [if_pos (by kernel_rfl)]
  have f2 : FileIn w2 p v f := hF.out.keep (B2.block p hF.out.lt) fun k e => B2.block k (hF.out.ltv k e)
  have l1 : n.length ≤ maxLen := by have := hn.out; unfold maxLen; omega
  have l2 : s.files.length < maxLen := by have := hc.out; unfold maxLen; omega
  have e1 : ¬ (G p ∧ p ≠ D ∧ p ≠ mb) := fun e => hp.out e.1
  have e2 : ∀ k, v.ownBlock = some k → ¬ (G k ∧ k ≠ D ∧ k ≠ mb) := fun k e e2 => hv.out k e e2.1
  have m2 := H2.mf
  refine putM (.tmp 9) (.tmp 11) (.tmp 12) rfl (fun k => G k ∧ k ≠ D ∧ k ≠ mb) mb s.files.length (look s.files) n p v f rfl ?hx rfl m2 l1 l2 f2 e1 e2 ?_
  case hx => exact HNS.out.symm
  intro w3 hm3 hb3 hs3 hk3
  have K3 := Lib.hid hk3
  clear hk3
  have H3 : Hid (Dq (fun k => G k ∨ k = p ∨ v.ownBlock = some k) w3 D mb ⟨s.limit, put s.files n f, s.left, s.down⟩) := H2.laid hs.out hp.out hv.out hm3 hb3
  have B3 : Hid (But (fun k => k = mb) w w3) := (But.of_below B2).trans hb3 fun _ _ h => h
  simp only [Act.put, List.getElem_toArray, List.getElem_cons_succ, List.getElem_cons_zero, List.setIfInBounds_toArray, List.set_cons_zero, List.set_cons_succ]
  refine hK.out _ _ (H3.out.c0) (fun hHeld => ?_)
  clear hK K
  refine wpAnyH_done (by kernel_rfl) ?_ _
  go_end0
  exact ⟨⟨_, rfl⟩, H3, B3, K3⟩
end Go.Proofs.Ytdjgkoklkoahbaa.Dk
