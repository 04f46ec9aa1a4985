/- The disk's calls on files: Sync, Cut, Remove, Read. -/
import Derived.Test.YtdjgkoklkoahbaaDkLay
namespace Go.Proofs.Ytdjgkoklkoahbaa.Dk
open Go.RowKit
open Go.Proofs.Ytdjgkoklkoahbaa.Me Go.Proofs.Ytdjgkoklkoahbaa.Hd
set_option linter.unusedVariables false
set_option linter.unusedSimpArgs false

/-- G's blocks, and all from block n on. -/
def Gn (G : Nat → Prop) (n k : Nat) : Prop := G k ∨ n ≤ k
/-- What a call answers that may change the disk. -/
def OpP (G : Nat → Prop) (w : World) (D mb : Nat) (s' : St) (c : Nat) (e : Ending) (w' : World) : Prop := e = .returned (.int .i64 (c : Int)) ∧ Hid (Dq (Gn G w.heap.size) w' D mb s') ∧ Hid (But G w w')
/-- Where the map says that a name's file lies. -/
def Lk (w : World) (mb : Nat) (n : Nm) (p : Nat) : Prop := ∀ W : World, W.heap[mb]? = w.heap[mb]? → (Instr.lookup 62 (.map (some mb)) (nmV n) false).run Try.prog W = .ok (.pointer (some ⟨p, 0, none⟩)) W
/-- What may become of one file: v its slice before, v' behind. -/
def Fresh (w : World) (v v' : Value) : Prop := ∀ k, v'.ownBlock = some k → v.ownBlock = some k ∨ w.heap.size ≤ k
section
variable {G : Nat → Prop} {w : World} {D mb : Nat} {s : St}
theorem OpP.same (h : Dq G w D mb s) {c : Nat} {w' : World} (hb : Below w.heap.size w w') : OpP G w D mb s c (.returned (.int .i64 (c : Int))) w' :=
  ⟨rfl, (h.below hb).mono fun k _ hk => .inl hk, But.of_below hb⟩
theorem Dq.yes (h : Dq G w D mb s) (hs : Srt s.files) {n : Nm} (hn : n.length ≤ maxLen) {f : Fl} (hk : look s.files n = some f) :
    ∃ p v, FileIn w p v f ∧ G p ∧ p ≠ D ∧ p ≠ mb ∧ (∀ k, v.ownBlock = some k → G k ∧ k ≠ D ∧ k ≠ mb) ∧ Lk w mb n p ∧
      (∀ (w' : World) (v' : Value) (f' : Fl), But (fun k => k = p ∨ v.ownBlock = some k) w w' → FileIn w' p v' f' → Fresh w v v' → Dq (Gn G w.heap.size) w' D mb ⟨s.limit, put s.files n f', s.left, s.down⟩ ∧ But G w w') := by
  obtain ⟨p, v, hF, hp, hv, hL, hc⟩ := h.mf.yes hn hk
  refine ⟨p, v, hF, hp.1, hp.2.1, hp.2.2, hv, hL, fun w' v' f' hb hF' hfr => ?_⟩
  have hne : ∀ k, (k = D ∨ k = mb) → ¬ (k = p ∨ v.ownBlock = some k) := fun k hk e => by
    rcases e with e | e
    · subst e; rcases hk with hk | hk
      · exact hp.2.1 hk
      · exact hp.2.2 hk
    · rcases hk with hk | hk
      · exact (hv k e).2.1 hk
      · exact (hv k e).2.2 hk
  have hD := h.lt
  have hM := h.ltm
  refine ⟨⟨(hb.same D hD (hne D (.inl rfl))).trans h.blk, ?_, .inl h.gD, .inl h.gm⟩, hb.mono fun k _ e => by
    rcases e with e | e
    · exact e ▸ hp.1
    · exact (hv k e).1⟩
  have hlen : (put s.files n f').length = s.files.length := (put_some hs hk f').1
  rw [hlen]
  refine (hc w' v' f' (fun k => Gn G w.heap.size k ∧ k ≠ D ∧ k ≠ mb) (hb.same mb hM (hne mb (.inr rfl))) hF' (fun k hk he h1 h2 => hb.same k hk fun e => e.elim h1 h2) (fun k _ he => ⟨.inl he.1, he.2⟩) fun k e => ?_).congr (look_put s.files n f')
  rcases hfr k e with h1 | h1
  · exact ⟨⟨.inl (hv k h1).1, (hv k h1).2⟩, .inl h1⟩
  · exact ⟨⟨.inr h1, by omega, by omega⟩, .inr h1⟩
theorem Dq.loosen {n m : Nat} (h : Dq (Gn (Gn G n) m) w D mb s) (hn : n ≤ m) : Dq (Gn G n) w D mb s := h.mono fun k _ hk => by
  rcases hk with (hk | hk) | hk
  · exact .inl hk
  · exact .inr hk
  · exact .inr (Nat.le_trans hn hk)
theorem But.loosen {n : Nat} {w w1 w2 : World} (h : But G w w1) (k : But (Gn G n) w1 w2) (hn : n = w.heap.size) : But G w w2 :=
  h.trans k fun b hb e => e.elim id fun e => by omega
end
section
variable {G : Nat → Prop} (w : World) (D mb : Nat) (s : St)
theorem Sync_any (h : Hid (Dq G w D mb s)) (ok : Hid s.Ok) (n : Nm) : Calls Try.prog 23 #[.pointer (some ⟨D, 0, none⟩), nmV n] w (OpP G w D mb (syncS s n) (findE s n)) := by
  show Calls Try.prog 23 #[.pointer (some ⟨D, 0, none⟩), .string ⟨n.toArray⟩] w _
  by_cases he : findE s n = 0
  · obtain ⟨hd, hok, hl⟩ := findE_ok he
    have hlen := nameOk_len hok
    obtain ⟨f, hf⟩ : ∃ f, fileOf s n = f := ⟨_, rfl⟩
    rw [hf] at hl
    obtain ⟨p, v, hF, hp, hpD, hpm, hv, hL, hc⟩ := h.out.yes ok.out.srt (by unfold maxLen; omega) hl
    have HFd := Lib.hid (find_ok w D mb s h n he p hL)
    have HS : Hid (syncS s n = chg s (put s.files n ⟨f.bytes, f.bytes.length⟩)) := by show _ = _; simp [syncS, he, hf]
    rw [HS.out, he]
    obtain ⟨A, c, rfl, hc1, hc2, _⟩ := hF.own.held (ok.out.file hl).2.2.1
    have HF := Lib.hid hF
    have HC := Lib.hid hc
    have HK := Lib.hid (fun (w1 : World) (hb : Below w.heap.size w w1) => (show w1.cell? ⟨p, 0, none⟩ = some (.slice A f.bytes.length c) ∧ w1.cell? ⟨p, 1, none⟩ = some (.int .i64 (f.safe : Int)) ∧ w1.frozen? ⟨p, 1, none⟩ = false from
      ⟨by rw [hb.cell (p := ⟨p, 0, none⟩) hF.lt]; exact cell_of_row w p 0 _ _ (0, 0) hF.blk, by rw [hb.cell (p := ⟨p, 1, none⟩) hF.lt]; exact cell_of_row w p 1 _ _ (0, 0) hF.blk, by rw [hb.frozen (p := ⟨p, 1, none⟩) hF.lt]; exact frozen_of_row w p 1 _ _ hF.blk⟩))
    obtain ⟨L, hLL⟩ : ∃ L, f.bytes.length = L := ⟨_, rfl⟩
    obtain ⟨q, hq⟩ : ∃ q, f.safe = q := ⟨_, rfl⟩
    have H2 : Hid (∀ w1, Below w.heap.size w w1 → Dq (Gn G w.heap.size) (w1.setCell ⟨p, 1, none⟩ (.int .i64 (L : Int))) D mb ⟨s.limit, put s.files n ⟨f.bytes, L⟩, s.left, s.down⟩ ∧ But G w (w1.setCell ⟨p, 1, none⟩ (.int .i64 (L : Int)))) := fun w1 hb => by
      have hblk : w1.heap[p]? = some (.cells #[.slice A f.bytes.length c, .int .i64 (f.safe : Int)] 68 (0, 0)) := (hb.block p HF.out.lt).trans HF.out.blk
      refine HC.out _ (.slice A f.bytes.length c) ⟨f.bytes, L⟩ (((But.of_below hb)).set (p := ⟨p, 1, none⟩) (.inl (.inl rfl)) _) ⟨heap_setCell_same w1 p 1 _ _ _ hblk, ?_⟩ fun k e => .inl e
      exact own_same HF.out.own fun k e hk => (Below.heap_setCell _ _ _ k fun e2 => HF.out.ne (by rw [e]; exact congrArg some e2)).trans (hb.block k hk)
    have HCH := Lib.hid (fun (w2 : World) (h2 : Hid (Dq (Gn G w.heap.size) w2 D mb ⟨s.limit, put s.files n ⟨f.bytes, L⟩, s.left, s.down⟩)) => changed_any w2 D mb ⟨s.limit, put s.files n ⟨f.bytes, L⟩, s.left, s.down⟩ h2 hd ok.out.left)
    rw [hLL] at HK ⊢
    rw [hq] at HK
    clear hd hok hl hlen hf hF hc hp hpD hpm hv hL hLL hq he HS hc1
    obtain ⟨ns, hns⟩ : ∃ ns, (⟨n.toArray⟩ : ByteArray) = ns := ⟨_, rfl⟩
    simp only [nmV] at HFd
    rw [hns] at HFd ⊢
    clear hns
    go_enter Try.func23, Try.ntmps23
    go_wp2_with (first
      | (go_at_call 49; refine HFd.out.mono ?_; rintro e w1 ⟨rfl, hb1⟩; obtain ⟨k0, k1, k2⟩ := HK.out w1 hb1; have HB1 := Lib.hid hb1; clear hb1; obtain ⟨d2, b2⟩ := H2.out w1 HB1.out; have HD2 := Lib.hid d2; have HB2 := Lib.hid b2; clear d2 b2)
      | (go_at_call 36; refine (HCH.out _ HD2).mono ?_; rintro e w3 ⟨⟨u, rfl⟩, hd3, hb3⟩))
    go_ret
    exact ⟨rfl, hd3, But.loosen HB2.out hb3.out rfl⟩
  · have HS : Hid (syncS s n = s) := by show _ = _; simp [syncS, he]
    rw [HS.out]
    have HFd := Lib.hid (find_bad w D mb s h n he)
    have HO := Lib.hid (fun (w' : World) (hb : Below w.heap.size w w') => OpP.same (c := findE s n) h.out hb)
    obtain ⟨q, hq⟩ : ∃ q, findE s n = q := ⟨_, rfl⟩
    rw [hq] at HFd HO he ⊢
    have hz : ((q : Int) == 0) = false := by
      have : ¬ (q : Int) = 0 := by omega
      simpa using this
    clear hq he HS
    obtain ⟨ns, hns⟩ : ∃ ns, (⟨n.toArray⟩ : ByteArray) = ns := ⟨_, rfl⟩
    simp only [nmV] at HFd
    rw [hns] at HFd ⊢
    clear hns
    go_enter Try.func23, Try.ntmps23
    go_wp2_with (go_at_call 49; refine HFd.out.mono ?_; rintro e w1 ⟨rfl, hb1⟩; have HB1 := Lib.hid hb1; clear hb1)
    go_ret
    exact HO.out _ HB1.out
end
end Go.Proofs.Ytdjgkoklkoahbaa.Dk
