/- The disk's calls on files: Sync, Cut, Remove, Read. -/
import Derived.Test.YtbacgljeadalbaaGreatDoorZ8
namespace Go.Proofs.YtbacgljeadalbaaGreatDoor.Dk
open Go.RowKit
open Go.Proofs.YtbacgljeadalbaaGreatDoor.Me Go.Proofs.YtbacgljeadalbaaGreatDoor.Hd
set_option linter.unusedVariables false
set_option linter.unusedSimpArgs false

/-- G's blocks, and all from block n on. -/
def Gn (G : Nat → Prop) (n k : Nat) : Prop := G k ∨ n ≤ k
/-- What a call answers that may change the disk. -/
def OpP (G : Nat → Prop) (w : World) (D mb : Nat) (s' : St) (c : Nat) (e : Ending) (w' : World) : Prop := e = .returned (.int .i64 (c : Int)) ∧ Hid (Dq (Gn G w.heap.size) w' D mb s') ∧ Hid (But G w w')
/-- Where the map says that a name's file lies. -/
def Lk (w : World) (mb : Nat) (n : Nm) (p : Nat) : Prop := ∀ W : World, W.heap[mb]? = w.heap[mb]? → (Instr.lookup 64 (.map (some mb)) (nmV n) false).run Tryz.prog W = .ok (.pointer (some ⟨p, 0, none⟩)) W
/-- What may become of one file: v its slice before, v' behind. -/
def Fresh (w : World) (v v' : Value) : Prop := ∀ k, v'.ownBlock = some k → v.ownBlock = some k ∨ w.heap.size ≤ k
section
variable {G : Nat → Prop} {w : World} {D mb : Nat} {s : St}
theorem OpP.same (h : Dq G w D mb s) {c : Nat} {w' : World} (hb : Below w.heap.size w w') : OpP G w D mb s c (.returned (.int .i64 (c : Int))) w' :=
  ⟨rfl, (h.below hb).mono fun k _ hk => .inl hk, But.of_below hb⟩
theorem Dq.yes (h : Dq G w D mb s) (hs : Srt s.files) {n : Nm} (hn : n.length ≤ maxLen) {f : Fl} (hk : look s.files n = some f) :
    ∃ p v, FileIn w p v f ∧ G p ∧ p ≠ D ∧ p ≠ mb ∧ (∀ k, v.ownBlock = some k → G k ∧ k ≠ D ∧ k ≠ mb) ∧ Lk w mb n p ∧
      (∀ (w' : World) (v' : Value) (f' : Fl), But (fun k => k = p ∨ v.ownBlock = some k) w w' → FileIn w' p v' f' → Fresh w v v' → Dq (Gn G w.heap.size) w' D mb ⟨s.limit, put s.files n f', s.left, s.down⟩ ∧ But G w w') := by
  obtain ⟨p, v, hF, hp, hv, hL, hc⟩ := h.mf.yes hn hk
  refine ⟨p, v, hF, hp.1, hp.2.1, hp.2.2, hv, hL, fun w' v' f' hb hF' hfr => ?_⟩
  have hne : ∀ k, (k = D ∨ k = mb) → ¬ (k = p ∨ v.ownBlock = some k) := fun k hk e => by
    rcases e with e | e
    · subst e; rcases hk with hk | hk
      · exact hp.2.1 hk
      · exact hp.2.2 hk
    · rcases hk with hk | hk
      · exact (hv k e).2.1 hk
      · exact (hv k e).2.2 hk
  have hD := h.lt
  have hM := h.ltm
  refine ⟨⟨(hb.same D hD (hne D (.inl rfl))).trans h.blk, ?_, .inl h.gD, .inl h.gm⟩, hb.mono fun k _ e => by
    rcases e with e | e
    · exact e ▸ hp.1
    · exact (hv k e).1⟩
  have hlen : (put s.files n f').length = s.files.length := (put_some hs hk f').1
  rw [hlen]
  refine (hc w' v' f' (fun k => Gn G w.heap.size k ∧ k ≠ D ∧ k ≠ mb) (hb.same mb hM (hne mb (.inr rfl))) hF' (fun k hk he h1 h2 => hb.same k hk fun e => e.elim h1 h2) (fun k _ he => ⟨.inl he.1, he.2⟩) fun k e => ?_).congr (look_put s.files n f')
  rcases hfr k e with h1 | h1
  · exact ⟨⟨.inl (hv k h1).1, (hv k h1).2⟩, .inl h1⟩
  · exact ⟨⟨.inr h1, by omega, by omega⟩, .inr h1⟩
theorem Dq.loosen {n m : Nat} (h : Dq (Gn (Gn G n) m) w D mb s) (hn : n ≤ m) : Dq (Gn G n) w D mb s := h.mono fun k _ hk => by
  rcases hk with (hk | hk) | hk
  · exact .inl hk
  · exact .inr hk
  · exact .inr (Nat.le_trans hn hk)
theorem But.loosen {n : Nat} {w w1 w2 : World} (h : But G w w1) (k : But (Gn G n) w1 w2) (hn : n = w.heap.size) : But G w w2 :=
  h.trans k fun b hb e => e.elim id fun e => by omega
end
section
variable {G : Nat → Prop} (w : World) (D mb : Nat) (s : St)
theorem Sync_any (h : Hid (Dq G w D mb s)) (ok : Hid s.Ok) (n : Nm) : Calls Tryz.prog 35 #[.pointer (some ⟨D, 0, none⟩), nmV n] w (OpP G w D mb (syncS s n) (findE s n)) := by
  show Calls Tryz.prog 35 #[.pointer (some ⟨D, 0, none⟩), .string ⟨n.toArray⟩] w _
  by_cases he : findE s n = 0
  · obtain ⟨hd, hok, hl⟩ := findE_ok he
    have hlen := nameOk_len hok
    obtain ⟨f, hf⟩ : ∃ f, fileOf s n = f := ⟨_, rfl⟩
    rw [hf] at hl
    obtain ⟨p, v, hF, hp, hpD, hpm, hv, hL, hc⟩ := h.out.yes ok.out.srt (by unfold maxLen; omega) hl
    have HFd := Lib.hid (find_ok w D mb s h n he p hL)
    have HS : Hid (syncS s n = chg s (put s.files n ⟨f.bytes, f.bytes.length⟩)) := by show _ = _; simp [syncS, he, hf]
    rw [HS.out, he]
    obtain ⟨A, c, rfl, hc1, hc2, _⟩ := hF.own.held (ok.out.file hl).2.2.1
    have HF := Lib.hid hF
    have HC := Lib.hid hc
    have HK := Lib.hid (fun (w1 : World) (hb : Below w.heap.size w w1) => (show w1.cell? ⟨p, 0, none⟩ = some (.slice A f.bytes.length c) ∧ w1.cell? ⟨p, 1, none⟩ = some (.int .i64 (f.safe : Int)) ∧ w1.frozen? ⟨p, 1, none⟩ = false from
      ⟨by rw [hb.cell (p := ⟨p, 0, none⟩) hF.lt]; exact cell_of_row w p 0 _ _ (0, 0) hF.blk, by rw [hb.cell (p := ⟨p, 1, none⟩) hF.lt]; exact cell_of_row w p 1 _ _ (0, 0) hF.blk, by rw [hb.frozen (p := ⟨p, 1, none⟩) hF.lt]; exact frozen_of_row w p 1 _ _ hF.blk⟩))
    obtain ⟨L, hLL⟩ : ∃ L, f.bytes.length = L := ⟨_, rfl⟩
    obtain ⟨q, hq⟩ : ∃ q, f.safe = q := ⟨_, rfl⟩
    have H2 : Hid (∀ w1, Below w.heap.size w w1 → Dq (Gn G w.heap.size) (w1.setCell ⟨p, 1, none⟩ (.int .i64 (L : Int))) D mb ⟨s.limit, put s.files n ⟨f.bytes, L⟩, s.left, s.down⟩ ∧ But G w (w1.setCell ⟨p, 1, none⟩ (.int .i64 (L : Int)))) := fun w1 hb => by
      have hblk : w1.heap[p]? = some (.cells #[.slice A f.bytes.length c, .int .i64 (f.safe : Int)] 70 (0, 0)) := (hb.block p HF.out.lt).trans HF.out.blk
      refine HC.out _ (.slice A f.bytes.length c) ⟨f.bytes, L⟩ (((But.of_below hb)).set (p := ⟨p, 1, none⟩) (.inl (.inl rfl)) _) ⟨heap_setCell_same w1 p 1 _ _ _ hblk, ?_⟩ fun k e => .inl e
      exact own_same HF.out.own fun k e hk => (Below.heap_setCell _ _ _ k fun e2 => HF.out.ne (by rw [e]; exact congrArg some e2)).trans (hb.block k hk)
    have HCH := Lib.hid (fun (w2 : World) (h2 : Hid (Dq (Gn G w.heap.size) w2 D mb ⟨s.limit, put s.files n ⟨f.bytes, L⟩, s.left, s.down⟩)) => changed_any w2 D mb ⟨s.limit, put s.files n ⟨f.bytes, L⟩, s.left, s.down⟩ h2 hd ok.out.left)
    rw [hLL] at HK ⊢
    rw [hq] at HK
    clear hd hok hl hlen hf hF hc hp hpD hpm hv hL hLL hq he HS hc1
    obtain ⟨ns, hns⟩ : ∃ ns, (⟨n.toArray⟩ : ByteArray) = ns := ⟨_, rfl⟩
    simp only [nmV] at HFd
    rw [hns] at HFd ⊢
    clear hns
    go_enter Tryz.func35, Tryz.ntmps35
    go_wp2_with (first
      | (go_at_call 48; refine HFd.out.mono ?_; rintro e w1 ⟨rfl, hb1⟩; obtain ⟨k0, k1, k2⟩ := HK.out w1 hb1; have HB1 := Lib.hid hb1; clear hb1; obtain ⟨d2, b2⟩ := H2.out w1 HB1.out; have HD2 := Lib.hid d2; have HB2 := Lib.hid b2; clear d2 b2)
      | (go_at_call 47; refine (HCH.out _ HD2).mono ?_; rintro e w3 ⟨⟨u, rfl⟩, hd3, hb3⟩))
    go_ret
    exact ⟨rfl, hd3, But.loosen HB2.out hb3.out rfl⟩
  · have HS : Hid (syncS s n = s) := by show _ = _; simp [syncS, he]
    rw [HS.out]
    have HFd := Lib.hid (find_bad w D mb s h n he)
    have HO := Lib.hid (fun (w' : World) (hb : Below w.heap.size w w') => OpP.same (c := findE s n) h.out hb)
    obtain ⟨q, hq⟩ : ∃ q, findE s n = q := ⟨_, rfl⟩
    rw [hq] at HFd HO he ⊢
    have hz : ((q : Int) == 0) = false := by
      have : ¬ (q : Int) = 0 := by omega
      simpa using this
    clear hq he HS
    obtain ⟨ns, hns⟩ : ∃ ns, (⟨n.toArray⟩ : ByteArray) = ns := ⟨_, rfl⟩
    simp only [nmV] at HFd
    rw [hns] at HFd ⊢
    clear hns
    go_enter Tryz.func35, Tryz.ntmps35
    go_wp2_with (go_at_call 48; refine HFd.out.mono ?_; rintro e w1 ⟨rfl, hb1⟩; have HB1 := Lib.hid hb1; clear hb1)
    go_ret
    exact HO.out _ HB1.out
end
end Go.Proofs.YtbacgljeadalbaaGreatDoor.Dk
/- The disk's calls on files: Cut, Remove, Read, Rename. -/
namespace Go.Proofs.YtbacgljeadalbaaGreatDoor.Dk
open Go.RowKit
open Go.Proofs.YtbacgljeadalbaaGreatDoor.Me Go.Proofs.YtbacgljeadalbaaGreatDoor.Hd
set_option linter.unusedVariables false
set_option linter.unusedSimpArgs false

theorem nz {q : Nat} (h : ¬ q = 0) : ((q : Int) == 0) = false := by
  have : ¬ (q : Int) = 0 := by omega
  simpa using this
theorem delM {w : World} {ops : Array Oper} {rest : List Oper} {o : Oper} {a : Act} {Q : Exit → Act → World → Prop} (hg : o.guard = none) (m x : Operand) (ho : o.op = .call { callee := .builtin .delete, args := #[m, x], argTypes := #[64, 9] })
    (E : Nat → Prop) (b N : Nat) (kept : Nm → Option Fl) (n : Nm) (f : Fl) (hm : a.eval m = .map (some b)) (hx : a.eval x = nmV n) (hM : Mf E w b kept N) (hn : n.length ≤ maxLen) (hk : kept n = some f)
    (h : ∀ w', (∀ p v, FileIn w p v f → (∀ W : World, W.heap[b]? = w.heap[b]? → (Instr.lookup 64 (.map (some b)) (nmV n) false).run Tryz.prog W = .ok (.pointer (some ⟨p, 0, none⟩)) W) → Mf (fun k => E k ∧ k ≠ p ∧ v.ownBlock ≠ some k) w' b (fun m => if m = n then none else kept m) (N - 1)) →
      But (fun k => k = b) w w' → w'.heap.size = w.heap.size → wpList Tryz.prog ops Q rest (a.put o.dst (.tuple #[])) w') : wpList Tryz.prog ops Q (o :: rest) a w := by
  refine wpList_plain hg fun K hK => ?_
  obtain ⟨w', hr, h1, h2, h3⟩ := hM.del hn hk o.type
  unfold Oper.wp execOp
  simp only [ho, resolve, invoke, builtin, Sem.run_bind, Sem.run_pure, Result.andThen_ok, List.map_toArray, List.map_cons, List.map_nil, hm, hx, hr]
  exact hK _ _ (h w' h1 h2 h3)
/-- Behind a removal: the disk without that file, whose blocks are none of the disk's any more. -/
theorem Dq.gone {G : Nat → Prop} {w w' : World} {D mb : Nat} {s : St} {n : Nm} {f : Fl} {p : Nat} {v : Value} (h : Dq G w D mb s) (hs : Srt s.files) (hf : look s.files n = some f) (hpD : p ≠ D) (hpm : p ≠ mb) (hv : ∀ k, v.ownBlock = some k → G k ∧ k ≠ D ∧ k ≠ mb)
    (hm : Mf (fun k => (G k ∧ k ≠ D ∧ k ≠ mb) ∧ k ≠ p ∧ v.ownBlock ≠ some k) w' mb (fun m => if m = n then none else look s.files m) (s.files.length - 1)) (hb : But (fun k => k = mb) w w') :
    Dq (fun k => G k ∧ k ≠ p ∧ v.ownBlock ≠ some k) w' D mb ⟨s.limit, del s.files n, s.left, s.down⟩ := by
  refine ⟨(hb.same D h.lt h.ne).trans h.blk, ?_, ⟨h.gD, fun e => hpD e.symm, fun e => (hv D e).2.1 rfl⟩, ⟨h.gm, fun e => hpm e.symm, fun e => (hv mb e).2.2 rfl⟩⟩
  have hl : (del s.files n).length = s.files.length - 1 := by have := (del_some hs hf).1; omega
  rw [hl]
  exact (hm.mono fun k _ hk => ⟨⟨hk.1.1, hk.2.1, hk.2.2⟩, hk.1.2⟩).congr (look_del s.files n)
section
variable {G : Nat → Prop} (w : World) (D mb : Nat) (s : St)
theorem Cut_any (h : Hid (Dq G w D mb s)) (ok : Hid s.Ok) (n : Nm) (k : Int) : Calls Tryz.prog 74 #[.pointer (some ⟨D, 0, none⟩), nmV n, .int .i64 k] w (OpP G w D mb (cutS s n k) (cutE s n k)) := by
  show Calls Tryz.prog 74 #[.pointer (some ⟨D, 0, none⟩), .string ⟨n.toArray⟩, .int .i64 k] w _
  by_cases he : findE s n = 0
  · obtain ⟨hd, hok, hl⟩ := findE_ok he
    have hlen := nameOk_len hok
    obtain ⟨f, hf⟩ : ∃ f, fileOf s n = f := ⟨_, rfl⟩
    rw [hf] at hl
    obtain ⟨p, v, hF, hp, hpD, hpm, hv, hL, hc⟩ := h.out.yes ok.out.srt (by unfold maxLen; omega) hl
    have hfile := ok.out.file hl
    have huse := ok.out.use
    have HFd := Lib.hid (find_ok w D mb s h n he p hL)
    obtain ⟨A, c, rfl, hc1, hc2, _⟩ := hF.own.held hfile.2.2.1
    have HF := Lib.hid hF
    have HC := Lib.hid hc
    have HK := Lib.hid (fun (w1 : World) (hb : Below w.heap.size w w1) => (show w1.cell? ⟨p, 0, none⟩ = some (.slice A f.bytes.length c) from
      by rw [hb.cell (p := ⟨p, 0, none⟩) hF.lt]; exact cell_of_row w p 0 _ _ (0, 0) hF.blk))
    by_cases hk : k < 0 ∨ (f.bytes.length : Int) < k
    · have HE : Hid (cutE s n k = 1) := by
        show _ = _
        unfold cutE
        rw [if_neg (by simp [he]), hf, if_pos hk]
      have HS : Hid (cutS s n k = s) := by show _ = _; simp [cutS, HE.out]
      rw [HS.out, HE.out]
      have HO := Lib.hid (fun (w' : World) (hb : Below w.heap.size w w') => OpP.same (c := 1) h.out hb)
      obtain ⟨L, hLL⟩ : ∃ L, f.bytes.length = L := ⟨_, rfl⟩
      rw [hLL] at HK hk
      clear hd hok hl hlen hf hF hc hp hpD hpm hv hL hLL he HS HE hc1 hfile huse
      obtain ⟨ns, hns⟩ : ∃ ns, (⟨n.toArray⟩ : ByteArray) = ns := ⟨_, rfl⟩
      simp only [nmV] at HFd
      rw [hns] at HFd ⊢
      clear hns
      by_cases hk0 : k < 0
      · clear hk
        go_enter Tryz.func74, Tryz.ntmps74
        go_wp2_with (go_at_call 48; refine HFd.out.mono ?_; rintro e w1 ⟨rfl, hb1⟩; have k0 := HK.out w1 hb1; have HB1 := Lib.hid hb1; clear hb1)
        go_ret
        exact HO.out _ HB1.out
      · have hk1 : (L : Int) < k := by omega
        clear hk
        go_enter Tryz.func74, Tryz.ntmps74
        go_wp2_with (go_at_call 48; refine HFd.out.mono ?_; rintro e w1 ⟨rfl, hb1⟩; have k0 := HK.out w1 hb1; have HB1 := Lib.hid hb1; clear hb1)
        go_ret
        exact HO.out _ HB1.out
    · obtain ⟨q, rfl⟩ : ∃ q : Nat, k = q := ⟨k.toNat, by omega⟩
      have hq : q ≤ f.bytes.length := by omega
      have HE : Hid (cutE s n (q : Int) = 0) := by
        show _ = _
        unfold cutE
        rw [if_neg (by simp [he]), hf, if_neg hk]
      have HS : Hid (cutS s n (q : Int) = chg s (put s.files n ⟨f.bytes.take q, q⟩)) := by show _ = _; simp [cutS, HE.out, hf]
      rw [HS.out, HE.out]
      have HKP := Lib.hid (fun (w1 : World) (hb : Below w.heap.size w w1) => keep_any w1 p (.slice A f.bytes.length c) f (HF.out.keep (hb.block p HF.out.lt) fun k e => hb.block k (HF.out.ltv k e)) q hq (by omega) hfile.2.2.1)
      have H2 : Hid (∀ w1 w2 v', Below w.heap.size w w1 → But (fun k => k = p) w1 w2 → FileIn w2 p v' ⟨f.bytes.take q, q⟩ → (∀ k, v'.ownBlock = some k → w1.heap.size ≤ k) → Dq (Gn G w.heap.size) w2 D mb ⟨s.limit, put s.files n ⟨f.bytes.take q, q⟩, s.left, s.down⟩ ∧ But G w w2) := fun w1 w2 v' hb hb2 hF2 hfr =>
        HC.out w2 v' ⟨f.bytes.take q, q⟩ ((But.of_below hb).trans hb2 fun _ _ e => .inl e) hF2 fun k e => .inr (Nat.le_trans hb.size (hfr k e))
      have HCH := Lib.hid (fun (w2 : World) (h2 : Hid (Dq (Gn G w.heap.size) w2 D mb ⟨s.limit, put s.files n ⟨f.bytes.take q, q⟩, s.left, s.down⟩)) => changed_any w2 D mb ⟨s.limit, put s.files n ⟨f.bytes.take q, q⟩, s.left, s.down⟩ h2 hd ok.out.left)
      have hq1 : ¬ ((q : Int) < 0) := by omega
      obtain ⟨L, hLL⟩ : ∃ L, f.bytes.length = L := ⟨_, rfl⟩
      rw [hLL] at HK hq
      have hq2 : ¬ ((L : Int) < (q : Int)) := by omega
      clear hd hok hl hlen hf hF hc hp hpD hpm hv hL hLL he HS HE hc1 hfile huse hk hq
      obtain ⟨ns, hns⟩ : ∃ ns, (⟨n.toArray⟩ : ByteArray) = ns := ⟨_, rfl⟩
      simp only [nmV] at HFd
      rw [hns] at HFd ⊢
      clear hns
      go_enter Tryz.func74, Tryz.ntmps74
      go_wp2_with (first
        | (go_at_call 48; refine HFd.out.mono ?_; rintro e w1 ⟨rfl, hb1⟩; have k0 := HK.out w1 hb1; have HB1 := Lib.hid hb1; clear hb1; have HKP1 := Lib.hid (HKP.out w1 HB1.out))
        | (go_at_call 37; refine HKP1.out.mono ?_; rintro e w2 ⟨⟨u, rfl⟩, hF2, hB2⟩; have HX : Hid (Dq (Gn G w.heap.size) w2 D mb ⟨s.limit, put s.files n ⟨f.bytes.take q, q⟩, s.left, s.down⟩ ∧ But G w w2) := (by obtain ⟨v', f2, fr⟩ := hF2.out; exact H2.out w1 w2 v' HB1.out hB2.out f2 fr); have HD2 := Lib.hid HX.out.1)
        | (go_at_call 47; refine (HCH.out _ HD2).mono ?_; rintro e w3 ⟨⟨u, rfl⟩, hd3, hb3⟩))
      go_ret
      exact ⟨rfl, hd3, But.loosen HX.out.2 hb3.out rfl⟩
  · have HE : Hid (cutE s n k = findE s n) := by show _ = _; unfold cutE; rw [if_pos he]
    have HS : Hid (cutS s n k = s) := by show _ = _; unfold cutS; rw [HE.out, if_neg he]
    rw [HS.out, HE.out]
    have HFd := Lib.hid (find_bad w D mb s h n he)
    have HO := Lib.hid (fun (w' : World) (hb : Below w.heap.size w w') => OpP.same (c := findE s n) h.out hb)
    obtain ⟨q, hq⟩ : ∃ q, findE s n = q := ⟨_, rfl⟩
    rw [hq] at HFd HO he ⊢
    have hz := nz he
    clear hq he HS HE
    obtain ⟨ns, hns⟩ : ∃ ns, (⟨n.toArray⟩ : ByteArray) = ns := ⟨_, rfl⟩
    simp only [nmV] at HFd
    rw [hns] at HFd ⊢
    clear hns
    go_enter Tryz.func74, Tryz.ntmps74
    go_wp2_with (go_at_call 48; refine HFd.out.mono ?_; rintro e w1 ⟨rfl, hb1⟩; have HB1 := Lib.hid hb1; clear hb1)
    go_ret
    exact HO.out _ HB1.out
theorem Remove_any (h : Hid (Dq G w D mb s)) (ok : Hid s.Ok) (n : Nm) : Calls Tryz.prog 20 #[.pointer (some ⟨D, 0, none⟩), nmV n] w (OpP G w D mb (remS s n) (findE s n)) := by
  show Calls Tryz.prog 20 #[.pointer (some ⟨D, 0, none⟩), .string ⟨n.toArray⟩] w _
  by_cases he : findE s n = 0
  · obtain ⟨hd, hok, hl⟩ := findE_ok he
    have hlen := nameOk_len hok
    have hmax : n.length ≤ maxLen := by unfold maxLen; omega
    obtain ⟨f, hf⟩ : ∃ f, fileOf s n = f := ⟨_, rfl⟩
    rw [hf] at hl
    obtain ⟨p, v, hF, hp, hpD, hpm, hv, hL, hc⟩ := h.out.yes ok.out.srt hmax hl
    have HFd := Lib.hid (find_ok w D mb s h n he p hL)
    have HS : Hid (remS s n = chg s (del s.files n)) := by show _ = _; simp [remS, he]
    rw [HS.out, he]
    have HMX := Lib.hid hmax
    have HL := Lib.hid hl
    have HLK := Lib.hid hL
    have H2 : Hid (∀ w1 w2, Below w.heap.size w w1 → Mf (fun k => (G k ∧ k ≠ D ∧ k ≠ mb) ∧ k ≠ p ∧ v.ownBlock ≠ some k) w2 mb (fun m => if m = n then none else look s.files m) (s.files.length - 1) → But (fun k => k = mb) w1 w2 → Dq (Gn G w.heap.size) w2 D mb ⟨s.limit, del s.files n, s.left, s.down⟩ ∧ But G w w2) := fun w1 w2 hb hm hb2 => by
      have hg := (h.out.below hb).gone ok.out.srt hl hpD hpm hv hm hb2
      exact ⟨hg.mono fun k _ hk => .inl hk.1, (But.of_below hb).trans hb2 fun k _ e => e ▸ h.out.gm⟩
    have HCH := Lib.hid (fun (w2 : World) (h2 : Hid (Dq (Gn G w.heap.size) w2 D mb ⟨s.limit, del s.files n, s.left, s.down⟩)) => changed_any w2 D mb ⟨s.limit, del s.files n, s.left, s.down⟩ h2 hd ok.out.left)
    have HF := Lib.hid hF
    have c0 := h.out.c0
    have HD := Lib.hid h.out.lt
    have HM := Lib.hid h.out.ltm
    clear hd hok hl hlen hf hF hc hp hpD hpm hv hL he HS hmax
    obtain ⟨ns, hns⟩ : ∃ ns, (⟨n.toArray⟩ : ByteArray) = ns := ⟨_, rfl⟩
    have HNS : Hid (nmV n = .string ns) := by show _ = _; rw [← hns]
    rw [HNS.out] at HFd
    rw [hns]
    clear hns
    go_enter Tryz.func20, Tryz.ntmps20
    go_wp2_with (first
      | (go_at_call 48; refine HFd.out.mono ?_; rintro e w1 ⟨rfl, hb1⟩; have k0 := (hb1.cell (p := ⟨D, 0, none⟩) HD.out).trans c0; have HB1 := Lib.hid hb1; have HM1 := Lib.hid (h.out.below hb1).mf; clear hb1)
      | (refine delM rfl (.tmp 19) (.tmp 20) rfl _ mb _ _ n f rfl HNS.out.symm HM1.out HMX.out HL.out ?_; intro w2 hm2 hb2 hs2; have HX : Hid (Dq (Gn G w.heap.size) w2 D mb ⟨s.limit, del s.files n, s.left, s.down⟩ ∧ But G w w2) := H2.out w1 w2 HB1.out (hm2 p v (HF.out.keep (HB1.out.block p HF.out.lt) fun k e => HB1.out.block k (HF.out.ltv k e)) fun W hW => HLK.out W (hW.trans (HB1.out.block mb HM.out))) hb2; have HD2 := Lib.hid HX.out.1; clear hm2 hb2 hs2)
      | (go_at_call 47; refine (HCH.out _ HD2).mono ?_; rintro e w3 ⟨⟨u, rfl⟩, hd3, hb3⟩))
    go_ret
    exact ⟨rfl, hd3, But.loosen HX.out.2 hb3.out rfl⟩
  · have HS : Hid (remS s n = s) := by show _ = _; simp [remS, he]
    rw [HS.out]
    have HFd := Lib.hid (find_bad w D mb s h n he)
    have HO := Lib.hid (fun (w' : World) (hb : Below w.heap.size w w') => OpP.same (c := findE s n) h.out hb)
    obtain ⟨q, hq⟩ : ∃ q, findE s n = q := ⟨_, rfl⟩
    rw [hq] at HFd HO he ⊢
    have hz := nz he
    clear hq he HS
    obtain ⟨ns, hns⟩ : ∃ ns, (⟨n.toArray⟩ : ByteArray) = ns := ⟨_, rfl⟩
    simp only [nmV] at HFd
    rw [hns] at HFd ⊢
    clear hns
    go_enter Tryz.func20, Tryz.ntmps20
    go_wp2_with (go_at_call 48; refine HFd.out.mono ?_; rintro e w1 ⟨rfl, hb1⟩; have HB1 := Lib.hid hb1; clear hb1)
    go_ret
    exact HO.out _ HB1.out
/-- What Read answers. -/
def ReadP (w : World) (s : St) (n : Nm) (e : Ending) (w' : World) : Prop :=
  ∃ A, e = .returned (.tuple #[.slice A (readP s n).length (readP s n).length, .int .i64 (findE s n : Int)]) ∧ Hid (Me.Rd w' w'.heap.size A (readP s n)) ∧ Hid (A = none → (readP s n).length = 0) ∧ Hid (∀ a, A = some a → a = ⟨a.block, 0, none⟩ ∧ Me.Row w' a.block (readP s n) ∧ w.heap.size ≤ a.block) ∧ Hid (Below w.heap.size w w')
theorem Read_any (h : Hid (Dq G w D mb s)) (ok : Hid s.Ok) (n : Nm) : Calls Tryz.prog 25 #[.pointer (some ⟨D, 0, none⟩), nmV n] w (ReadP w s n) := by
  show Calls Tryz.prog 25 #[.pointer (some ⟨D, 0, none⟩), .string ⟨n.toArray⟩] w _
  by_cases he : findE s n = 0
  · obtain ⟨hd, hok, hl⟩ := findE_ok he
    have hlen := nameOk_len hok
    obtain ⟨f, hf⟩ : ∃ f, fileOf s n = f := ⟨_, rfl⟩
    rw [hf] at hl
    obtain ⟨p, v, hF, hp, hpD, hpm, hv, hL, hc⟩ := h.out.yes ok.out.srt (by unfold maxLen; omega) hl
    have hfile := ok.out.file hl
    have huse := ok.out.use
    have HFd := Lib.hid (find_ok w D mb s h n he p hL)
    obtain ⟨A, c, rfl, hc1, hc2, hh⟩ := hF.own.held hfile.2.2.1
    have HK := Lib.hid (fun (w1 : World) (hb : Below w.heap.size w w1) => (show w1.cell? ⟨p, 0, none⟩ = some (.slice A f.bytes.length c) from
      by rw [hb.cell (p := ⟨p, 0, none⟩) hF.lt]; exact cell_of_row w p 0 _ _ (0, 0) hF.blk))
    have HCP := Lib.hid (fun (w1 : World) (hb : Below w.heap.size w w1) => copied_any A c w.heap.size f.bytes w1 (hh.rd.below hb) hb.size hc1 hc2 (by omega))
    have HE : Hid (∀ (w2 : World) (g : Nat), w.heap.size ≤ g → Me.Row w2 g f.bytes → Below w.heap.size w w2 → ReadP w s n (.returned (.tuple #[.slice (some ⟨g, 0, none⟩) f.bytes.length f.bytes.length, .int .i64 0])) w2) := fun w2 g hg hr hb => by
      have e1 : readP s n = f.bytes := by simp [readP, he, hf]
      unfold ReadP
      rw [e1, he]
      exact ⟨_, rfl, hr.rd hr.lt hfile.2.2.1, (fun e => by cases e), (fun a e => by cases e; exact ⟨rfl, hr, hg⟩), hb⟩
    obtain ⟨L, hLL⟩ : ∃ L, f.bytes.length = L := ⟨_, rfl⟩
    rw [hLL] at HK HCP HE
    clear hd hok hl hlen hf hF hc hp hpD hpm hv hL he hc1 hfile huse hh hLL
    obtain ⟨ns, hns⟩ : ∃ ns, (⟨n.toArray⟩ : ByteArray) = ns := ⟨_, rfl⟩
    simp only [nmV] at HFd
    rw [hns] at HFd ⊢
    clear hns
    go_enter Tryz.func25, Tryz.ntmps25
    go_wp2_with (first
      | (go_at_call 48; refine HFd.out.mono ?_; rintro e w1 ⟨rfl, hb1⟩; have k0 := HK.out w1 hb1; have HB1 := Lib.hid hb1; clear hb1)
      | (go_at_call 49; refine (HCP.out w1 HB1.out).mono ?_; rintro e w2 ⟨rfl, hr2, hb2⟩))
    go_returns
    exact HE.out w2 _ HB1.out.size hr2.out (HB1.out.trans (hb2.out.mono HB1.out.size))
  · have HFd := Lib.hid (find_bad w D mb s h n he)
    have HE : Hid (∀ w2 : World, Below w.heap.size w w2 → ReadP w s n (.returned (.tuple #[.slice none 0 0, .int .i64 (findE s n : Int)])) w2) := fun w2 hb => by
      have e1 : readP s n = [] := by simp [readP, he]
      unfold ReadP
      rw [e1]
      exact ⟨none, rfl, ⟨by simp, by simp⟩, (fun _ => rfl), (fun a e => by cases e), hb⟩
    obtain ⟨q, hq⟩ : ∃ q, findE s n = q := ⟨_, rfl⟩
    rw [hq] at HFd he HE
    have hz := nz he
    clear hq he
    obtain ⟨ns, hns⟩ : ∃ ns, (⟨n.toArray⟩ : ByteArray) = ns := ⟨_, rfl⟩
    simp only [nmV] at HFd
    rw [hns] at HFd ⊢
    clear hns
    go_enter Tryz.func25, Tryz.ntmps25
    go_wp2_with (go_at_call 48; refine HFd.out.mono ?_; rintro e w1 ⟨rfl, hb1⟩; have HB1 := Lib.hid hb1; clear hb1)
    go_returns
    exact HE.out _ HB1.out
end
end Go.Proofs.YtbacgljeadalbaaGreatDoor.Dk
/- The disk's calls on files: Rename, Append. -/
namespace Go.Proofs.YtbacgljeadalbaaGreatDoor.Dk
open Go.RowKit
open Go.Proofs.YtbacgljeadalbaaGreatDoor.Me Go.Proofs.YtbacgljeadalbaaGreatDoor.Hd
set_option linter.unusedVariables false
set_option linter.unusedSimpArgs false

section
variable {G : Nat → Prop} {w : World} {D mb : Nat} {s : St}
/-- The file that lies at p. -/
theorem Dq.at (h : Dq G w D mb s) (hs : Srt s.files) {n : Nm} (hn : n.length ≤ maxLen) {f : Fl} (hk : look s.files n = some f) {p : Nat} {v : Value} (hL : Lk w mb n p) (hF : FileIn w p v f) :
    G p ∧ p ≠ D ∧ p ≠ mb ∧ (∀ k, v.ownBlock = some k → G k ∧ k ≠ D ∧ k ≠ mb) ∧
      (∀ (w' : World) (v' : Value) (f' : Fl), But (fun k => k = p ∨ v.ownBlock = some k) w w' → FileIn w' p v' f' → Fresh w v v' → Dq (Gn G w.heap.size) w' D mb ⟨s.limit, put s.files n f', s.left, s.down⟩ ∧ But G w w') := by
  obtain ⟨p', v', hF', h1, h2, h3, h4, hL', hc⟩ := h.yes hs hn hk
  have e1 : p' = p := by
    have := (hL' w rfl).symm.trans (hL w rfl)
    simp only [Result.ok.injEq, Value.pointer.injEq, Option.some.injEq, Addr.mk.injEq, and_true] at this
    exact this
  subst e1
  have e2 : v' = v := by
    have := hF'.blk
    rw [hF.blk] at this
    simp at this
    exact this.symm
  subst e2
  exact ⟨h1, h2, h3, h4, hc⟩
end
/-- A file behind an append and the store of what it made. -/
theorem app_file {w w4 : World} {p : Nat} {v v' : Value} {f : Fl} {l : List Nat} (h : FileIn w p v f) (ho : Me.Own w4 0 v' l) (hg : w.grownBy w4 v.ownBlock) (hfr : Fresh w v v') :
    FileIn (w4.setCell ⟨p, 0, none⟩ v') p v' ⟨l, f.safe⟩ ∧ But (fun k => k = p ∨ v.ownBlock = some k) w (w4.setCell ⟨p, 0, none⟩ v') := by
  have hb : But (fun k => k = p ∨ v.ownBlock = some k) w w4 := (But.refl _ w).grown hg fun r e => .inl (.inr e)
  have hp4 : w4.heap[p]? = some (.cells #[v, .int .i64 (f.safe : Int)] 70 (0, 0)) := (hg.block p h.lt fun e => h.ne e.symm).trans h.blk
  refine ⟨⟨heap_setCell_same w4 p 0 _ _ _ hp4, own_same ho fun k e _ => Below.heap_setCell w4 ⟨p, 0, none⟩ v' k fun e2 => ?_⟩, hb.set (p := ⟨p, 0, none⟩) (.inl (.inl rfl)) v'⟩
  simp only at e2
  subst e2
  rcases hfr k e with h1 | h1
  · exact h.ne h1
  · have := h.lt; omega
section
variable {G : Nat → Prop} (w : World) (D mb : Nat) (s : St)
end
end Go.Proofs.YtbacgljeadalbaaGreatDoor.Dk
