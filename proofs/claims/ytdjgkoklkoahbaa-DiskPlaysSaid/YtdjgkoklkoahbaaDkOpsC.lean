/- The disk's calls on files: Rename, Append. -/
import Derived.Test.YtdjgkoklkoahbaaDkOpsB
namespace Go.Proofs.Ytdjgkoklkoahbaa.Dk
open Go.RowKit
open Go.Proofs.Ytdjgkoklkoahbaa.Me Go.Proofs.Ytdjgkoklkoahbaa.Hd
set_option linter.unusedVariables false
set_option linter.unusedSimpArgs false

section
variable {G : Nat → Prop} {w : World} {D mb : Nat} {s : St}
/-- The file that lies at p. -/
theorem Dq.at (h : Dq G w D mb s) (hs : Srt s.files) {n : Nm} (hn : n.length ≤ maxLen) {f : Fl} (hk : look s.files n = some f) {p : Nat} {v : Value} (hL : Lk w mb n p) (hF : FileIn w p v f) :
    G p ∧ p ≠ D ∧ p ≠ mb ∧ (∀ k, v.ownBlock = some k → G k ∧ k ≠ D ∧ k ≠ mb) ∧
      (∀ (w' : World) (v' : Value) (f' : Fl), But (fun k => k = p ∨ v.ownBlock = some k) w w' → FileIn w' p v' f' → Fresh w v v' → Dq (Gn G w.heap.size) w' D mb ⟨s.limit, put s.files n f', s.left, s.down⟩ ∧ But G w w') := by
  obtain ⟨p', v', hF', h1, h2, h3, h4, hL', hc⟩ := h.yes hs hn hk
  have e1 : p' = p := by
    have := (hL' w rfl).symm.trans (hL w rfl)
    simp only [Result.ok.injEq, Value.pointer.injEq, Option.some.injEq, Addr.mk.injEq, and_true] at this
    exact this
  subst e1
  have e2 : v' = v := by
    have := hF'.blk
    rw [hF.blk] at this
    simp at this
    exact this.symm
  subst e2
  exact ⟨h1, h2, h3, h4, hc⟩
end
/-- A file behind an append and the store of what it made. -/
theorem app_file {w w4 : World} {p : Nat} {v v' : Value} {f : Fl} {l : List Nat} (h : FileIn w p v f) (ho : Me.Own w4 0 v' l) (hg : w.grownBy w4 v.ownBlock) (hfr : Fresh w v v') :
    FileIn (w4.setCell ⟨p, 0, none⟩ v') p v' ⟨l, f.safe⟩ ∧ But (fun k => k = p ∨ v.ownBlock = some k) w (w4.setCell ⟨p, 0, none⟩ v') := by
  have hb : But (fun k => k = p ∨ v.ownBlock = some k) w w4 := (But.refl _ w).grown hg fun r e => .inl (.inr e)
  have hp4 : w4.heap[p]? = some (.cells #[v, .int .i64 (f.safe : Int)] 68 (0, 0)) := (hg.block p h.lt fun e => h.ne e.symm).trans h.blk
  refine ⟨⟨heap_setCell_same w4 p 0 _ _ _ hp4, own_same ho fun k e _ => Below.heap_setCell w4 ⟨p, 0, none⟩ v' k fun e2 => ?_⟩, hb.set (p := ⟨p, 0, none⟩) (.inl (.inl rfl)) v'⟩
  simp only at e2
  subst e2
  rcases hfr k e with h1 | h1
  · exact h.ne h1
  · have := h.lt; omega
section
variable {G : Nat → Prop} (w : World) (D mb : Nat) (s : St)
set_option maxRecDepth 100000 in
theorem Rename_any (h : Hid (Dq G w D mb s)) (ok : Hid s.Ok) (a b : Nm) : Calls Try.prog 27 #[.pointer (some ⟨D, 0, none⟩), nmV a, nmV b] w (OpP G w D mb (renS s a b) (renE s a b)) := by
  show Calls Try.prog 27 #[.pointer (some ⟨D, 0, none⟩), .string ⟨a.toArray⟩, .string ⟨b.toArray⟩] w _
  have HM := Lib.hid (may_two w D mb s h a b)
  by_cases hm : mayE s [a, b] = 0
  · have hok : s.down = false ∧ nameOk a = true ∧ nameOk b = true := by
      unfold mayE at hm
      split at hm
      · cases hm
      · rename_i hd
        split at hm
        · rename_i ha
          simp at ha
          exact ⟨by simpa using hd, ha.1, ha.2⟩
        · cases hm
    obtain ⟨hd, ha, hb⟩ := hok
    have hla := nameOk_len ha
    have hlb := nameOk_len hb
    have hmax : a.length ≤ maxLen := by unfold maxLen; omega
    rw [hm] at HM
    have c0 := Lib.hid h.out.c0
    have HD := Lib.hid h.out.lt
    have Hmb := Lib.hid h.out.ltm
    cases hl : look s.files a with
    | none =>
      have HE : Hid (renE s a b = 4) := by
        show _ = _
        unfold renE
        rw [if_neg (by simp [hm]), if_pos (by simp [hl])]
      have HS : Hid (renS s a b = s) := by show _ = _; simp [renS, HE.out]
      rw [HS.out, HE.out]
      have HO := Lib.hid (fun (w' : World) (hb : Below w.heap.size w w') => OpP.same (c := 4) h.out hb)
      have HLK := Lib.hid (fun W hW => h.out.mf.no hmax hl W hW)
      clear hd ha hb hla hlb hmax hl HE HS hm
      obtain ⟨na, hna⟩ : ∃ ns, (⟨a.toArray⟩ : ByteArray) = ns := ⟨_, rfl⟩
      obtain ⟨nb, hnb⟩ : ∃ ns, (⟨b.toArray⟩ : ByteArray) = ns := ⟨_, rfl⟩
      simp only [nmV] at HM HLK
      rw [hna] at HM HLK ⊢
      rw [hnb] at HM ⊢
      clear hna hnb
      go_enter Try.func27, Try.ntmps27
      go_wp2_with (go_at_call 34; refine HM.out.mono ?_; rintro e w1 ⟨rfl, hb1⟩; have HB1 := Lib.hid hb1; have k0 := (hb1.cell (p := ⟨D, 0, none⟩) HD.out).trans c0.out; have hl1 := HLK.out w1 (hb1.block mb Hmb.out); clear hb1)
      go_ret
      exact HO.out _ HB1.out
    | some f =>
      have hfo : fileOf s a = f := by simp [fileOf, hl]
      obtain ⟨p, v, hF, hp, hpD, hpm, hv, hL, hc⟩ := h.out.yes ok.out.srt hmax hl
      have hfile := ok.out.file hl
      have HT := Lib.hid (fun (w1 : World) (hb : Below w.heap.size w w1) => tail_any w1 p v f (hF.keep (hb.block p hF.lt) fun k e => hb.block k (hF.ltv k e)) hfile.2.2.1 hfile.1)
      have HLK := Lib.hid hL
      by_cases ht : f.safe < f.bytes.length
      · have HE : Hid (renE s a b = 7) := by
          show _ = _
          unfold renE
          rw [if_neg (by simp [hm]), if_neg (by simp [hl]), hfo, if_pos ht]
        have HS : Hid (renS s a b = s) := by show _ = _; simp [renS, HE.out]
        rw [HS.out, HE.out]
        have HO := Lib.hid (fun (w' : World) (hb : Below w.heap.size w w') => OpP.same (c := 7) h.out hb)
        obtain ⟨q, hq⟩ : ∃ q, f.bytes.length - f.safe = q := ⟨_, rfl⟩
        rw [hq] at HT
        have hq0 : (0 : Int) < (q : Int) := by omega
        clear hd ha hb hla hlb hmax hl HE HS hm hfo hF hp hpD hpm hv hL hc hfile ht hq
        obtain ⟨na, hna⟩ : ∃ ns, (⟨a.toArray⟩ : ByteArray) = ns := ⟨_, rfl⟩
        obtain ⟨nb, hnb⟩ : ∃ ns, (⟨b.toArray⟩ : ByteArray) = ns := ⟨_, rfl⟩
        unfold Lk at HLK
        simp only [nmV] at HM HLK
        rw [hna] at HM HLK ⊢
        rw [hnb] at HM ⊢
        clear hna hnb
        go_enter Try.func27, Try.ntmps27
        go_wp2_with (first
          | (go_at_call 34; refine HM.out.mono ?_; rintro e w1 ⟨rfl, hb1⟩; have HB1 := Lib.hid hb1; have k0 := (hb1.cell (p := ⟨D, 0, none⟩) HD.out).trans c0.out; have hl1 := HLK.out w1 (hb1.block mb Hmb.out); clear hb1; have HT1 := Lib.hid (HT.out w1 HB1.out))
          | (go_at_call 32; refine HT1.out.mono ?_; rintro e w2 ⟨rfl, hb2⟩))
        go_ret
        exact HO.out _ (HB1.out.trans (hb2.out.mono HB1.out.size))
      · have HE : Hid (renE s a b = 0) := by
          show _ = _
          unfold renE
          rw [if_neg (by simp [hm]), if_neg (by simp [hl]), hfo, if_neg ht]
        have HS : Hid (renS s a b = chg s (put (del s.files a) b f)) := by show _ = _; simp [renS, HE.out, hfo]
        rw [HS.out, HE.out]
        have hz : f.bytes.length - f.safe = 0 := by omega
        rw [hz] at HT
        have HMX := Lib.hid hmax
        have HL := Lib.hid hl
        have HF := Lib.hid hF
        have H2 : Hid (∀ w1 w2, Below w.heap.size w w1 → Mf (fun k => (G k ∧ k ≠ D ∧ k ≠ mb) ∧ k ≠ p ∧ v.ownBlock ≠ some k) w2 mb (fun m => if m = a then none else look s.files m) (s.files.length - 1) → But (fun k => k = mb) w1 w2 →
            Dq (fun k => G k ∧ k ≠ p ∧ v.ownBlock ≠ some k) w2 D mb ⟨s.limit, del s.files a, s.left, s.down⟩ ∧ But G w w2 ∧ FileIn w2 p v f) := fun w1 w2 hb hm hb2 => by
          have hg := (h.out.below hb).gone ok.out.srt hl hpD hpm hv hm hb2
          have hF1 : FileIn w1 p v f := hF.keep (hb.block p hF.lt) fun k e => hb.block k (hF.ltv k e)
          exact ⟨hg, (But.of_below hb).trans hb2 fun k _ e => e ▸ h.out.gm, hF1.keep (hb2.same p hF1.lt hpm) fun k e => hb2.same k (hF1.ltv k e) (hv k e).2.2⟩
        have hdel := ok.out.del a
        have hcnt := ok.out.cnt
        have HLY := Lib.hid (fun (w2 : World) (h2 : Dq (fun k => G k ∧ k ≠ p ∧ v.ownBlock ≠ some k) w2 D mb ⟨s.limit, del s.files a, s.left, s.down⟩) (hF2 : FileIn w2 p v f) =>
          lay_any w2 D mb ⟨s.limit, del s.files a, s.left, s.down⟩ h2 (ok.out.srt.del a) (show (del s.files a).length ≤ 64 by omega) b hlb p v f hF2 (fun e => e.2.1 rfl) fun k e e2 => e2.2.2 e)
        have H3 : Hid (∀ w2 w3, But G w w2 → Dq (fun k => (G k ∧ k ≠ p ∧ v.ownBlock ≠ some k) ∨ k = p ∨ v.ownBlock = some k) w3 D mb ⟨s.limit, put (del s.files a) b f, s.left, s.down⟩ → But (fun k => k = mb) w2 w3 → Dq (Gn G w.heap.size) w3 D mb ⟨s.limit, put (del s.files a) b f, s.left, s.down⟩ ∧ But G w w3) := fun w2 w3 hb2 h3 hb3 =>
          ⟨h3.mono fun k _ hk => .inl (by
            rcases hk with hk | hk | hk
            · exact hk.1
            · exact hk ▸ hp
            · exact (hv k hk).1), hb2.trans hb3 fun k _ e => e ▸ h.out.gm⟩
        have HCH := Lib.hid (fun (w2 : World) (h2 : Hid (Dq (Gn G w.heap.size) w2 D mb ⟨s.limit, put (del s.files a) b f, s.left, s.down⟩)) => changed_any w2 D mb ⟨s.limit, put (del s.files a) b f, s.left, s.down⟩ h2 hd ok.out.left)
        clear hd ha hb hla hlb hmax hl HE HS hm hfo hF hp hpD hpm hv hL hc hfile ht hz hdel hcnt
        obtain ⟨na, hna⟩ : ∃ ns, (⟨a.toArray⟩ : ByteArray) = ns := ⟨_, rfl⟩
        obtain ⟨nb, hnb⟩ : ∃ ns, (⟨b.toArray⟩ : ByteArray) = ns := ⟨_, rfl⟩
        have HNA : Hid (nmV a = .string na) := by show _ = _; rw [← hna]
        have HNB : Hid (nmV b = .string nb) := by show _ = _; rw [← hnb]
        have HLK2 := HLK
        unfold Lk at HLK2
        rw [HNA.out] at HM HLK2
        rw [HNB.out] at HM HLY
        rw [hna, hnb]
        clear hna hnb
        go_enter Try.func27, Try.ntmps27
        go_wp2_with (first
          | (go_at_call 34; refine HM.out.mono ?_; rintro e w1 ⟨rfl, hb1⟩; have HB1 := Lib.hid hb1; have k0 := (hb1.cell (p := ⟨D, 0, none⟩) HD.out).trans c0.out; have hl1 := HLK2.out w1 (hb1.block mb Hmb.out); clear hb1; have HT1 := Lib.hid (HT.out w1 HB1.out))
          | (go_at_call 32; refine HT1.out.mono ?_; rintro e w2 ⟨rfl, hb2⟩; have HB2 := Lib.hid (HB1.out.trans (hb2.out.mono HB1.out.size)); have k2 := (HB2.out.cell (p := ⟨D, 0, none⟩) HD.out).trans c0.out; have HM2 := Lib.hid (h.out.below HB2.out).mf)
          | (refine delM rfl (.tmp 33) (.tmp 34) rfl _ mb _ _ a f rfl HNA.out.symm HM2.out HMX.out HL.out ?_; intro w3 hm3 hb3 hs3; have HX := Lib.hid (H2.out w2 w3 HB2.out (hm3 p v (HF.out.keep (HB2.out.block p HF.out.lt) fun k e => HB2.out.block k (HF.out.ltv k e)) fun W hW => HLK.out W (hW.trans (HB2.out.block mb Hmb.out))) hb3); have HLY3 := Lib.hid (HLY.out w3 HX.out.1 HX.out.2.2); clear hm3 hb3 hs3)
          | (go_at_call 35; refine HLY3.out.mono ?_; rintro e w4 ⟨⟨u, rfl⟩, h4, b4, _⟩; have HY := Lib.hid (H3.out w3 w4 HX.out.2.1 h4.out b4.out); have HD4 := Lib.hid HY.out.1)
          | (go_at_call 36; refine (HCH.out _ HD4).mono ?_; rintro e w5 ⟨⟨u, rfl⟩, hd5, hb5⟩))
        go_ret
        exact ⟨rfl, hd5, But.loosen HY.out.2 hb5.out rfl⟩
  · have HE : Hid (renE s a b = mayE s [a, b]) := by show _ = _; unfold renE; rw [if_pos hm]
    have HS : Hid (renS s a b = s) := by show _ = _; unfold renS; rw [HE.out, if_neg hm]
    rw [HS.out, HE.out]
    have HO := Lib.hid (fun (w' : World) (hb : Below w.heap.size w w') => OpP.same (c := mayE s [a, b]) h.out hb)
    obtain ⟨q, hq⟩ : ∃ q, mayE s [a, b] = q := ⟨_, rfl⟩
    rw [hq] at HM HO hm ⊢
    have hz := nz hm
    clear hq hm HS HE
    obtain ⟨na, hna⟩ : ∃ ns, (⟨a.toArray⟩ : ByteArray) = ns := ⟨_, rfl⟩
    obtain ⟨nb, hnb⟩ : ∃ ns, (⟨b.toArray⟩ : ByteArray) = ns := ⟨_, rfl⟩
    simp only [nmV] at HM
    rw [hna, hnb] at HM ⊢
    clear hna hnb
    go_enter Try.func27, Try.ntmps27
    go_wp2_with (go_at_call 34; refine HM.out.mono ?_; rintro e w1 ⟨rfl, hb1⟩; have HB1 := Lib.hid hb1; clear hb1)
    go_ret
    exact HO.out _ HB1.out
end
end Go.Proofs.Ytdjgkoklkoahbaa.Dk
