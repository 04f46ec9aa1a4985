/- Two disks side by side, one a fork of the other; the walk of the law DiskRooms. -/
import Derived.Test.YtdjgkoklkoahbaaDkSame
import Derived.Test.YtdjgkoklkoahbaaDkArms
namespace Go.Proofs.Ytdjgkoklkoahbaa.Dk
open Go.RowKit
open Go.Proofs.Ytdjgkoklkoahbaa.Me Go.Proofs.Ytdjgkoklkoahbaa.Hd
set_option linter.unusedVariables false
set_option linter.unusedSimpArgs false

/-- From block s on, below block t. -/
abbrev Betw (s t : Nat) : Nat → Prop := fun k => s ≤ k ∧ k < t
/-- What a call of the elder disk answers and leaves; the fork stays as it was. -/
def OpT (s t : Nat) (w : World) (D mb : Nat) (st' : St) (st : St) (c : Nat) (e : Ending) (w' : World) : Prop := e = .returned (.int .i64 (c : Int)) ∧ Hid (Df s w' D mb st') ∧ Hid (Df t w' t (t + 1) st) ∧ Hid (Below s w w') ∧ Hid (But (Betw s t) w w')
theorem OpT.of {s t : Nat} {w : World} {D mb : Nat} {st st' : St} {c : Nat} {e : Ending} {w' : World} (h : OpP (Betw s t) w D mb st' c e w') (hc : Df t w t (t + 1) st) (hs : s ≤ w.heap.size) (ok : st'.Ok) : OpT s t w D mb st' st c e w' := by
  obtain ⟨h1, h2, h3⟩ := h
  refine ⟨h1, ⟨h2.out.mono fun k _ hk => ?_, ok⟩, ⟨hc.dq.but h3.out fun k hk e => ?_, hc.ok⟩, h3.out.below hs (fun k hk => hk.1), h3⟩
  · rcases hk with hk | hk
    · exact hk.1
    · exact Nat.le_trans hs hk
  · have h1 : t ≤ k := hk
    omega
/-- Behind a fork: both. -/
theorem Fork_t (w : World) (s D mb : Nat) (st : St) (h : Hid (Df s w D mb st)) : Calls Try.prog 12 #[.pointer (some ⟨D, 0, none⟩)] w fun e w' => e = .returned (.pointer (some ⟨w.heap.size, 0, none⟩)) ∧ Hid (Df w.heap.size w' w.heap.size (w.heap.size + 1) st) ∧ Hid (Dq (Betw s w.heap.size) w' D mb st) ∧ Hid (Below w.heap.size w w') :=
  (Fork_f w D mb st h).mono fun e w' ⟨h1, h2, h3⟩ => ⟨h1, h2, (h.out.dq.mono fun k hk e => ⟨e, hk⟩).below h3.out, h3⟩
theorem RNew_any (n : Nat) (h1 : 1 ≤ n) (h2 : n ≤ 1048576) (w : World) : Calls Try.prog 10 #[.int .i64 (n : Int)] w fun e w' => e = .returned (.tuple #[.agg #[.int .i64 (n : Int), .slice none 0 0, .int .i64 (-1), .bool false], .int .i64 0]) ∧ Hid (Below w.heap.size w w') := by
  have g1 : ¬ (n : Int) < 1 := by omega
  have g2 : ¬ 1048576 < (n : Int) := by omega
  clear h1 h2
  go_enter Try.func10, Try.ntmps10
  go_wp2
  go_returns
  exact ⟨rfl, Me.below_alloc (Below.refl _ _)⟩
theorem rooms_bad (n : Int) (h : n < 1 ∨ 1048576 < n) (v : Value) (k an : Int) (nm to : ByteArray) (p kp : Value) (w : World) : Calls Try.prog 6 #[.int .i64 n, v, .agg #[.int .i64 k, .string nm, .string to, p, .int .i64 an, kp]] w fun e w' => e = .returned (.bool true) ∧ Below w.heap.size w w' := by
  have N := Lib.hid (fun W => done_bad n h v W)
  have M := Lib.hid (fun W => may_no n h W)
  have HW := Lib.hid awake_any
  have HB0 : Hid (Below w.heap.size w (w.alloc (.cells #[.int .i64 k, .string nm, .string to, p, .int .i64 an, kp] 36))) := Me.below_alloc (Below.refl _ _)
  clear h
  go_enter Try.func6, Try.ntmps6
  go_wp2_with (first
    | (go_at_call 17; refine (N.out _).mono ?_; rintro e w' ⟨rfl, rfl⟩)
    | (go_at_call 18; refine (M.out _).mono ?_; rintro e w' ⟨rfl, rfl⟩)
    | (go_at_call 11; refine (HW.out _).mono ?_; rintro e w' ⟨rfl, hb⟩))
  go_ret
  exact ⟨rfl, HB0.out.trans (hb.out.mono HB0.out.size)⟩
set_option maxRecDepth 100000 in
set_option maxHeartbeats 8000000 in
theorem rooms_ok (n : Nat) (h1 : 1 ≤ n) (h2 : n ≤ 1048576) (A : Option Addr) (cap : Nat) (ls : List DAc) (a : DAc) (r sl : Option Addr × Nat) (w : World) (hlc : ls.length ≤ cap) (hm : cap ≤ 9223372036854775807) (hacts : Hid (Acts w A ls)) (hi : Hid (AcIn w a r sl)) :
    Calls Try.prog 6 #[.int .i64 n, .slice A ls.length cap, .agg (acV a r sl).toArray] w fun e w' => e = .returned (.bool true) ∧ Below w.heap.size w w' := by
  obtain ⟨kd, nm, to, p, an, kp⟩ := a
  obtain ⟨R, cr⟩ := r
  obtain ⟨K, ck⟩ := sl
  have hpl : p.length ≤ 140737488351232 := Nat.le_trans hi.out.pl hi.out.pc
  obtain ⟨ns, hns⟩ : ∃ ns, (⟨nm.toArray⟩ : ByteArray) = ns := ⟨_, rfl⟩
  obtain ⟨ts, hts⟩ : ∃ ts, (⟨to.toArray⟩ : ByteArray) = ts := ⟨_, rfl⟩
  have HNS : Hid (nmV nm = .string ns) := by show _ = _; rw [← hns]
  have HTS : Hid (nmV to = .string ts) := by show _ = _; rw [← hts]
  show Calls Try.prog 6 #[.int .i64 n, .slice A ls.length cap, .agg #[.int .i64 kd, .string ⟨nm.toArray⟩, .string ⟨to.toArray⟩, .slice R p.length cr, .int .i64 an, .slice K kp.length ck]] w _
  rw [hns, hts]
  clear hns hts
  obtain ⟨w0, hw0⟩ : ∃ w0, w.alloc (.cells #[.int .i64 kd, .string ns, .string ts, .slice R p.length cr, .int .i64 an, .slice K kp.length ck] 36) = w0 := ⟨_, rfl⟩
  have HW0 := Lib.hid hw0
  have HB0 : Hid (Below w.heap.size w w0) := by show Below _ w w0; rw [← hw0]; exact Me.below_alloc (Below.refl _ _)
  have HR0 : Hid (w0.heap[w.heap.size]? = some (.cells #[.int .i64 kd, .string ns, .string ts, .slice R p.length cr, .int .i64 an, .slice K kp.length ck] 36 (0, 0))) := by show _ = _; rw [← hw0]; exact heap_alloc_new _ _
  have HZ0 : Hid (w0.heap.size = w.heap.size + 1) := by show _ = _; rw [← hw0]; simp
  have HA0 : Hid (Acts w0 A ls) := fun j hj => by
    obtain ⟨b, off, r, s, e, hb, hc, hq⟩ := hacts.out j hj
    refine ⟨b, off, r, s, e, Nat.lt_of_lt_of_le hb HB0.out.size, fun i u hu => (HB0.out.cell (p := ⟨b, off + j * 6 + i, none⟩) hb).trans (hc i u hu), ⟨hq.pl, hq.pc, (hq.pr.below HB0.out).more HB0.out.size, hq.pn, hq.kl, hq.kc, (hq.kr.below HB0.out).more HB0.out.size, hq.kn, hq.ki, hq.hk, hq.hn, hq.nm, hq.tm⟩⟩
  have HPR : Hid (Me.Rd w0 w0.heap.size R p) := (hi.out.pr.below HB0.out).more HB0.out.size
  have HPN := Lib.hid hi.out.pn
  have N := Lib.hid (done_ok n h1 h2 A cap ls w0 hlc hm HA0)
  have RN := Lib.hid (fun W => RNew_any n h1 h2 W)
  have HK : Hid (∀ W, Below w0.heap.size w0 W → W.cell? ⟨w.heap.size, 0, none⟩ = some (.int .i64 kd) ∧ W.cell? ⟨w.heap.size, 1, none⟩ = some (.string ns) ∧ W.cell? ⟨w.heap.size, 2, none⟩ = some (.string ts) ∧ W.cell? ⟨w.heap.size, 3, none⟩ = some (.slice R p.length cr) ∧ W.cell? ⟨w.heap.size, 4, none⟩ = some (.int .i64 an)) := fun W hb => by
    have h := (hb.block w.heap.size (by have := HZ0.out; omega)).trans HR0.out
    exact ⟨cell_of_row W _ 0 _ _ (0, 0) h, cell_of_row W _ 1 _ _ (0, 0) h, cell_of_row W _ 2 _ _ (0, 0) h, cell_of_row W _ 3 _ _ (0, 0) h, cell_of_row W _ 4 _ _ (0, 0) h⟩
  have HAW := Lib.hid awake_any
  have HPL := Lib.hid hpl
  have HO : Hid (∀ W, Below w0.heap.size w0 W → Below w.heap.size w W) := fun W hb => HB0.out.trans (hb.mono (by have := HZ0.out; omega))
  obtain ⟨s, hs⟩ : ∃ s, w0.heap.size = s := ⟨_, rfl⟩
  have HS := Lib.hid hs
  rw [hs] at N HK HO HPR
  obtain ⟨L, hL⟩ : ∃ L, ls.length = L := ⟨_, rfl⟩
  rw [hL] at hlc N ⊢
  obtain ⟨pl, hp⟩ : ∃ pl, p.length = pl := ⟨_, rfl⟩
  have HP := Lib.hid hp
  rw [hp] at HK hw0 ⊢
  clear hs hw0 hL hacts HA0 HR0 HZ0 hi hp hpl
  go_enter Try.func6, Try.ntmps6
  have HSZ : Hid (∀ st : St, Dn n st → ¬ (n : Int) < (used st.files : Int) ∧ (used st.files : Int) ≤ (n : Int)) := fun st h => by have := h.use; omega
  have HSZ2 : Hid (∀ st : St, st.Ok → ¬ (64 : Int) < (st.files.length : Int)) := fun st h => by have := h.cnt; omega
  go_wp2_with (first
    | (go_at_call 17; simp only [← HP.out, HW0.out]; refine N.out.mono ?_; rintro e w1 ⟨st, rfl, hd1, hn1, hb1⟩; have U1 := Lib.hid (Used_f w1 (s + 1) s st hd1); obtain ⟨x1, x2⟩ := HSZ.out st hn1.out; have x3 := HSZ2.out st hd1.out.ok; obtain ⟨us, hus⟩ : ∃ us, used st.files = us := ⟨_, rfl⟩; rw [hus] at U1 x1; clear hus x2)
    | (go_at_call 25; refine U1.out.mono ?_; rintro e w2 ⟨rfl, hb2⟩; have hd2 : Hid (Df s w2 (s + 1) s st) := hd1.out.below hb2.out; have B2 : Hid (Below s w0 w2) := hb1.out.trans (hb2.out.mono hd1.out.lt); have NM := Lib.hid (Names_f w2 (s + 1) s st hd2))
    | (go_at_call 19; refine NM.out.mono ?_; rintro e w3 ⟨v, rfl, hS, hb3⟩; obtain ⟨A1, c1, rfl, hl1, hm1, hcells⟩ := hS.out.form; rw [show (namesL st.files).length = st.files.length from List.length_map ..] at hl1 ⊢; clear hcells hS hl1 hm1; obtain ⟨fl, hfl⟩ : ∃ fl, st.files.length = fl := ⟨_, rfl⟩; rw [hfl] at x3 ⊢; clear hfl; have hd3 : Hid (Df s w3 (s + 1) s st) := hd2.out.below hb3.out; have B3 : Hid (Below s w0 w3) := B2.out.trans (hb3.out.mono hd2.out.lt); have FK := Lib.hid (Fork_t w3 s (s + 1) s st hd3); obtain ⟨t, ht⟩ : ∃ t, w3.heap.size = t := ⟨_, rfl⟩; have HT := Lib.hid ht; rw [ht] at FK; clear ht)
    | (go_at_call 12; refine FK.out.mono ?_; rintro e w4 ⟨rfl, hc4, hd4, hb4⟩; have B4 : Hid (Below s w0 w4) := B3.out.trans (hb4.out.mono (by have := hd3.out.lt; have := HT.out; omega))))
  go_at_call 10
  refine (RN.out _).mono ?_
  rintro e w5 ⟨rfl, hb5⟩
  obtain ⟨X, hX⟩ : ∃ X, w5.alloc (.cells #[.int .i64 (n : Int), .slice none 0 0, .int .i64 (-1), .bool false] 29) = X := ⟨_, rfl⟩
  have HX := Lib.hid hX
  have hbX : Below w4.heap.size w4 X := by rw [← hX]; exact hb5.out.trans ((Me.below_alloc (Below.refl _ _)).mono hb5.out.size)
  have hrX : X.heap[w5.heap.size]? = some (.cells #[.int .i64 (n : Int), .slice none 0 0, .int .i64 (-1), .bool false] 29 (0, 0)) := by rw [← hX]; exact heap_alloc_new _ _
  have hcX : Hid (Df t X t (t + 1) st) := hc4.out.below hbX
  have hdX : Hid (Dq (Betw s t) X (s + 1) s st) := hd4.out.below hbX
  have hs4 : s ≤ w4.heap.size := Nat.le_trans hd4.out.gD.1 (Nat.le_of_lt hd4.out.lt)
  have BX : Hid (Below s w0 X) := B4.out.trans (hbX.mono hs4)
  have HSX : Hid (s ≤ X.heap.size) := Nat.le_trans hs4 hbX.size
  have ht5 : t ≤ w5.heap.size := Nat.le_trans hc4.out.lt hb5.out.size
  obtain ⟨q5, hq5⟩ : ∃ q5, w5.heap.size = q5 := ⟨_, rfl⟩
  have HQ5 := Lib.hid hq5
  rw [hq5] at hrX ht5
  have HTQ := Lib.hid ht5
  have HRX := Lib.hid hrX
  have HOKS := hd1.out.ok
  have HOK := Lib.hid HOKS
  have HREF : Hid (∀ W, But (Betw s t) X W → W.cell? ⟨q5, 0, none⟩ = some (.int .i64 (n : Int))) := fun W hW => by
    have h1 : W.heap[q5]? = some _ := (hW.same q5 (Array.getElem?_eq_some_iff.1 HRX.out).1 (fun e => by have := HTQ.out; omega)).trans HRX.out
    exact cell_of_row W q5 0 _ _ (0, 0) h1
  rw [← HQ5.out] at HREF
  obtain ⟨c0, c1, c2, c3, c4⟩ := HK.out X BX.out
  rw [← HX.out] at c0 c1 c2 c3 c4
  have HSM : Hid (∀ W, Hid (Df s W (s + 1) s st) → Hid (Df t W t (t + 1) st) → Calls Try.prog 24 #[.pointer (some ⟨t, 0, none⟩), .pointer (some ⟨s + 1, 0, none⟩)] W fun e w' => e = .returned (.bool true) ∧ Hid (Below W.heap.size W w')) := fun W hD hC =>
    same_yes W t t (t + 1) s (s + 1) s st st hC hD hn1.out.down hn1.out.down rfl
  have HUS : Hid (∀ (st' : St) (W : World), Dn n st' → Hid (Df s W (s + 1) s st') → ∃ u : Nat, (u : Int) ≤ (n : Int) ∧ Hid (Calls Try.prog 25 #[.pointer (some ⟨s + 1, 0, none⟩)] W fun e w' => e = .returned (.int .i64 (u : Int)) ∧ Hid (Below W.heap.size W w'))) := fun st' W hn hD => ⟨used st'.files, by have := hn.use; omega, Used_f W (s + 1) s st' hD⟩
  have HFIN : Hid (∀ W W', Below s w0 W → s ≤ W.heap.size → Below W.heap.size W W' → Below w.heap.size w W') := fun W W' h1 h2 h3 => HO.out W' (h1.trans (h3.mono h2))
  have HAP : Hid (Calls Try.prog 14 #[.pointer (some ⟨s + 1, 0, none⟩), .string ns, .slice R pl cr] X (OpT s t X (s + 1) s (appS st nm p) st (appE st nm p))) := by
    have h := (Append_any X (s + 1) s st hdX HOKS nm R cr p ((HPR.out.below BX.out).more HSX.out) HPN HPL.out).mono fun e w' hp => OpT.of hp hcX.out HSX.out (HOK.out.app nm HPR.out.1)
    rw [HNS.out, HP.out] at h
    exact h
  have HSY : Hid (Calls Try.prog 23 #[.pointer (some ⟨s + 1, 0, none⟩), .string ns] X (OpT s t X (s + 1) s (syncS st nm) st (findE st nm))) := by
    have h := (Sync_any X (s + 1) s st hdX HOKS nm).mono fun e w' hp => OpT.of hp hcX.out HSX.out (HOK.out.sync nm)
    rw [HNS.out] at h
    exact h
  have HCU : Hid (Calls Try.prog 26 #[.pointer (some ⟨s + 1, 0, none⟩), .string ns, .int .i64 an] X (OpT s t X (s + 1) s (cutS st nm an) st (cutE st nm an))) := by
    have h := (Cut_any X (s + 1) s st hdX HOKS nm an).mono fun e w' hp => OpT.of hp hcX.out HSX.out (HOK.out.cut nm an)
    rw [HNS.out] at h
    exact h
  have HRN : Hid (Calls Try.prog 27 #[.pointer (some ⟨s + 1, 0, none⟩), .string ns, .string ts] X (OpT s t X (s + 1) s (renS st nm to) st (renE st nm to))) := by
    have h := (Rename_any X (s + 1) s st hdX HOKS nm to).mono fun e w' hp => OpT.of hp hcX.out HSX.out (HOK.out.ren nm to)
    rw [HNS.out, HTS.out] at h
    exact h
  have HRM : Hid (Calls Try.prog 28 #[.pointer (some ⟨s + 1, 0, none⟩), .string ns] X (OpT s t X (s + 1) s (remS st nm) st (findE st nm))) := by
    have h := (Remove_any X (s + 1) s st hdX HOKS nm).mono fun e w' hp => OpT.of hp hcX.out HSX.out (HOK.out.rem nm)
    rw [HNS.out] at h
    exact h
  clear hq5 hbX hrX hs4 ht5 HOKS hb5 hX hb1 hb2 hb3 hb4 hc4 hd4 FK NM N U1 B4 B3 B2 hd1 hd2 hd3 HPR HPN HPL
  by_cases h0 : kd = 0
  · subst h0
    obtain ⟨c, hc⟩ : ∃ c, appE st nm p = c := ⟨_, rfl⟩
    obtain ⟨st2, hst⟩ : ∃ st2, appS st nm p = st2 := ⟨_, rfl⟩
    have hop : OpA st c st2 := by rw [← hc, ← hst]; exact OpA.app st nm p
    have hdn : Dn n st2 := by rw [← hst]; exact hn1.out.app HOK.out nm p
    have HDN := Lib.hid hdn
    rw [hc, hst] at HAP
    clear hc hst hdn HSY HCU HRN HRM
    by_cases hz : c = 0
    · subst hz
      clear hop
      go_wp2_with (first
        | (go_at_call 14; simp only [HX.out]; refine HAP.out.mono ?_; rintro e w6 ⟨rfl, hd6, hc6, hb6, ht6⟩; have r6 := HREF.out w6 ht6.out; have B6 : Hid (Below s w0 w6) := BX.out.trans hb6.out; obtain ⟨u, hu, hU⟩ := HUS.out st2 w6 HDN.out hd6)
        | (go_at_call 25; refine hU.out.mono ?_; rintro e w7 ⟨rfl, hb7⟩)
        | (go_at_call 11; refine (HAW.out _).mono ?_; rintro e w8 ⟨rfl, hb8⟩))
      go_ret
      exact ⟨rfl, HFIN.out w6 _ B6.out hd6.out.lt (hb7.out.trans (hb8.out.mono hb7.out.size))⟩
    · have hst := hop.same hz
      subst hst
      have a3 := nz hz
      clear hop hz
      go_wp2_with (first
        | (go_at_call 14; simp only [HX.out]; refine HAP.out.mono ?_; rintro e w6 ⟨rfl, hd6, hc6, hb6, ht6⟩; have r6 := HREF.out w6 ht6.out; have B6 : Hid (Below s w0 w6) := BX.out.trans hb6.out; have SM := Lib.hid (HSM.out w6 hd6 hc6))
        | (go_at_call 24; refine SM.out.mono ?_; rintro e w6b ⟨rfl, hb6b⟩; have hd6b : Hid (Df s w6b (s + 1) s st2) := hd6.out.below hb6b.out; obtain ⟨u, hu, hU⟩ := HUS.out st2 w6b HDN.out hd6b)
        | (go_at_call 25; refine hU.out.mono ?_; rintro e w7 ⟨rfl, hb7⟩)
        | (go_at_call 11; refine (HAW.out _).mono ?_; rintro e w8 ⟨rfl, hb8⟩))
      go_ret
      exact ⟨rfl, HFIN.out w6 _ B6.out hd6.out.lt (hb6b.out.trans ((hb7.out.trans (hb8.out.mono hb7.out.size)).mono hb6b.out.size))⟩
  have e0 : (kd == 0) = false := by simpa using h0
  by_cases h1 : kd = 1
  · subst h1
    obtain ⟨c, hc⟩ : ∃ c, findE st nm = c := ⟨_, rfl⟩
    obtain ⟨st2, hst⟩ : ∃ st2, syncS st nm = st2 := ⟨_, rfl⟩
    have hop : OpA st c st2 := by rw [← hc, ← hst]; exact OpA.sync st nm
    have hdn : Dn n st2 := by rw [← hst]; exact hn1.out.sync HOK.out nm
    have HDN := Lib.hid hdn
    rw [hc, hst] at HSY
    clear hc hst hdn HAP HCU HRN HRM
    by_cases hz : c = 0
    · subst hz
      clear hop
      go_wp2_with (first
        | (go_at_call 23; simp only [HX.out]; refine HSY.out.mono ?_; rintro e w6 ⟨rfl, hd6, hc6, hb6, ht6⟩; have r6 := HREF.out w6 ht6.out; have B6 : Hid (Below s w0 w6) := BX.out.trans hb6.out; obtain ⟨u, hu, hU⟩ := HUS.out st2 w6 HDN.out hd6)
        | (go_at_call 25; refine hU.out.mono ?_; rintro e w7 ⟨rfl, hb7⟩)
        | (go_at_call 11; refine (HAW.out _).mono ?_; rintro e w8 ⟨rfl, hb8⟩))
      go_ret
      exact ⟨rfl, HFIN.out w6 _ B6.out hd6.out.lt (hb7.out.trans (hb8.out.mono hb7.out.size))⟩
    · have hst := hop.same hz
      subst hst
      have a3 := nz hz
      clear hop hz
      go_wp2_with (first
        | (go_at_call 23; simp only [HX.out]; refine HSY.out.mono ?_; rintro e w6 ⟨rfl, hd6, hc6, hb6, ht6⟩; have r6 := HREF.out w6 ht6.out; have B6 : Hid (Below s w0 w6) := BX.out.trans hb6.out; have SM := Lib.hid (HSM.out w6 hd6 hc6))
        | (go_at_call 24; refine SM.out.mono ?_; rintro e w6b ⟨rfl, hb6b⟩; have hd6b : Hid (Df s w6b (s + 1) s st2) := hd6.out.below hb6b.out; obtain ⟨u, hu, hU⟩ := HUS.out st2 w6b HDN.out hd6b)
        | (go_at_call 25; refine hU.out.mono ?_; rintro e w7 ⟨rfl, hb7⟩)
        | (go_at_call 11; refine (HAW.out _).mono ?_; rintro e w8 ⟨rfl, hb8⟩))
      go_ret
      exact ⟨rfl, HFIN.out w6 _ B6.out hd6.out.lt (hb6b.out.trans ((hb7.out.trans (hb8.out.mono hb7.out.size)).mono hb6b.out.size))⟩
  have e1 : (kd == 1) = false := by simpa using h1
  by_cases h2 : kd = 2
  · subst h2
    obtain ⟨c, hc⟩ : ∃ c, cutE st nm an = c := ⟨_, rfl⟩
    obtain ⟨st2, hst⟩ : ∃ st2, cutS st nm an = st2 := ⟨_, rfl⟩
    have hop : OpA st c st2 := by rw [← hc, ← hst]; exact OpA.cut st nm an
    have hdn : Dn n st2 := by rw [← hst]; exact hn1.out.cut HOK.out nm an
    have HDN := Lib.hid hdn
    rw [hc, hst] at HCU
    clear hc hst hdn HAP HSY HRN HRM
    by_cases hz : c = 0
    · subst hz
      clear hop
      go_wp2_with (first
        | (go_at_call 26; simp only [HX.out]; refine HCU.out.mono ?_; rintro e w6 ⟨rfl, hd6, hc6, hb6, ht6⟩; have r6 := HREF.out w6 ht6.out; have B6 : Hid (Below s w0 w6) := BX.out.trans hb6.out; obtain ⟨u, hu, hU⟩ := HUS.out st2 w6 HDN.out hd6)
        | (go_at_call 25; refine hU.out.mono ?_; rintro e w7 ⟨rfl, hb7⟩)
        | (go_at_call 11; refine (HAW.out _).mono ?_; rintro e w8 ⟨rfl, hb8⟩))
      go_ret
      exact ⟨rfl, HFIN.out w6 _ B6.out hd6.out.lt (hb7.out.trans (hb8.out.mono hb7.out.size))⟩
    · have hst := hop.same hz
      subst hst
      have a3 := nz hz
      clear hop hz
      go_wp2_with (first
        | (go_at_call 26; simp only [HX.out]; refine HCU.out.mono ?_; rintro e w6 ⟨rfl, hd6, hc6, hb6, ht6⟩; have r6 := HREF.out w6 ht6.out; have B6 : Hid (Below s w0 w6) := BX.out.trans hb6.out; have SM := Lib.hid (HSM.out w6 hd6 hc6))
        | (go_at_call 24; refine SM.out.mono ?_; rintro e w6b ⟨rfl, hb6b⟩; have hd6b : Hid (Df s w6b (s + 1) s st2) := hd6.out.below hb6b.out; obtain ⟨u, hu, hU⟩ := HUS.out st2 w6b HDN.out hd6b)
        | (go_at_call 25; refine hU.out.mono ?_; rintro e w7 ⟨rfl, hb7⟩)
        | (go_at_call 11; refine (HAW.out _).mono ?_; rintro e w8 ⟨rfl, hb8⟩))
      go_ret
      exact ⟨rfl, HFIN.out w6 _ B6.out hd6.out.lt (hb6b.out.trans ((hb7.out.trans (hb8.out.mono hb7.out.size)).mono hb6b.out.size))⟩
  have e2 : (kd == 2) = false := by simpa using h2
  by_cases h3 : kd = 3
  · subst h3
    obtain ⟨c, hc⟩ : ∃ c, renE st nm to = c := ⟨_, rfl⟩
    obtain ⟨st2, hst⟩ : ∃ st2, renS st nm to = st2 := ⟨_, rfl⟩
    have hop : OpA st c st2 := by rw [← hc, ← hst]; exact OpA.ren st nm to
    have hdn : Dn n st2 := by rw [← hst]; exact hn1.out.ren HOK.out nm to
    have HDN := Lib.hid hdn
    rw [hc, hst] at HRN
    clear hc hst hdn HAP HSY HCU HRM
    by_cases hz : c = 0
    · subst hz
      clear hop
      go_wp2_with (first
        | (go_at_call 27; simp only [HX.out]; refine HRN.out.mono ?_; rintro e w6 ⟨rfl, hd6, hc6, hb6, ht6⟩; have r6 := HREF.out w6 ht6.out; have B6 : Hid (Below s w0 w6) := BX.out.trans hb6.out; obtain ⟨u, hu, hU⟩ := HUS.out st2 w6 HDN.out hd6)
        | (go_at_call 25; refine hU.out.mono ?_; rintro e w7 ⟨rfl, hb7⟩)
        | (go_at_call 11; refine (HAW.out _).mono ?_; rintro e w8 ⟨rfl, hb8⟩))
      go_ret
      exact ⟨rfl, HFIN.out w6 _ B6.out hd6.out.lt (hb7.out.trans (hb8.out.mono hb7.out.size))⟩
    · have hst := hop.same hz
      subst hst
      have a3 := nz hz
      clear hop hz
      go_wp2_with (first
        | (go_at_call 27; simp only [HX.out]; refine HRN.out.mono ?_; rintro e w6 ⟨rfl, hd6, hc6, hb6, ht6⟩; have r6 := HREF.out w6 ht6.out; have B6 : Hid (Below s w0 w6) := BX.out.trans hb6.out; have SM := Lib.hid (HSM.out w6 hd6 hc6))
        | (go_at_call 24; refine SM.out.mono ?_; rintro e w6b ⟨rfl, hb6b⟩; have hd6b : Hid (Df s w6b (s + 1) s st2) := hd6.out.below hb6b.out; obtain ⟨u, hu, hU⟩ := HUS.out st2 w6b HDN.out hd6b)
        | (go_at_call 25; refine hU.out.mono ?_; rintro e w7 ⟨rfl, hb7⟩)
        | (go_at_call 11; refine (HAW.out _).mono ?_; rintro e w8 ⟨rfl, hb8⟩))
      go_ret
      exact ⟨rfl, HFIN.out w6 _ B6.out hd6.out.lt (hb6b.out.trans ((hb7.out.trans (hb8.out.mono hb7.out.size)).mono hb6b.out.size))⟩
  have e3 : (kd == 3) = false := by simpa using h3
  by_cases h4 : kd = 4
  · subst h4
    obtain ⟨c, hc⟩ : ∃ c, findE st nm = c := ⟨_, rfl⟩
    obtain ⟨st2, hst⟩ : ∃ st2, remS st nm = st2 := ⟨_, rfl⟩
    have hop : OpA st c st2 := by rw [← hc, ← hst]; exact OpA.rem st nm
    have hdn : Dn n st2 := by rw [← hst]; exact hn1.out.rem HOK.out nm
    have HDN := Lib.hid hdn
    rw [hc, hst] at HRM
    clear hc hst hdn HAP HSY HCU HRN
    by_cases hz : c = 0
    · subst hz
      clear hop
      go_wp2_with (first
        | (go_at_call 28; simp only [HX.out]; refine HRM.out.mono ?_; rintro e w6 ⟨rfl, hd6, hc6, hb6, ht6⟩; have r6 := HREF.out w6 ht6.out; have B6 : Hid (Below s w0 w6) := BX.out.trans hb6.out; obtain ⟨u, hu, hU⟩ := HUS.out st2 w6 HDN.out hd6)
        | (go_at_call 25; refine hU.out.mono ?_; rintro e w7 ⟨rfl, hb7⟩)
        | (go_at_call 11; refine (HAW.out _).mono ?_; rintro e w8 ⟨rfl, hb8⟩))
      go_ret
      exact ⟨rfl, HFIN.out w6 _ B6.out hd6.out.lt (hb7.out.trans (hb8.out.mono hb7.out.size))⟩
    · have hst := hop.same hz
      subst hst
      have a3 := nz hz
      clear hop hz
      go_wp2_with (first
        | (go_at_call 28; simp only [HX.out]; refine HRM.out.mono ?_; rintro e w6 ⟨rfl, hd6, hc6, hb6, ht6⟩; have r6 := HREF.out w6 ht6.out; have B6 : Hid (Below s w0 w6) := BX.out.trans hb6.out; have SM := Lib.hid (HSM.out w6 hd6 hc6))
        | (go_at_call 24; refine SM.out.mono ?_; rintro e w6b ⟨rfl, hb6b⟩; have hd6b : Hid (Df s w6b (s + 1) s st2) := hd6.out.below hb6b.out; obtain ⟨u, hu, hU⟩ := HUS.out st2 w6b HDN.out hd6b)
        | (go_at_call 25; refine hU.out.mono ?_; rintro e w7 ⟨rfl, hb7⟩)
        | (go_at_call 11; refine (HAW.out _).mono ?_; rintro e w8 ⟨rfl, hb8⟩))
      go_ret
      exact ⟨rfl, HFIN.out w6 _ B6.out hd6.out.lt (hb6b.out.trans ((hb7.out.trans (hb8.out.mono hb7.out.size)).mono hb6b.out.size))⟩
  have e4 : (kd == 4) = false := by simpa using h4
  clear h0 h1 h2 h3 h4 HAP HSY HCU HRN HRM
  have hdx : Hid (Df s X (s + 1) s st) := ⟨hdX.out.mono fun k _ hk => hk.1, HOK.out⟩
  have r6 := HREF.out X (But.refl _ X)
  obtain ⟨u, hu, hU⟩ := HUS.out st X hn1.out hdx
  rw [← HX.out] at r6
  go_wp2_with (first
    | (go_at_call 25; simp only [HX.out]; refine hU.out.mono ?_; rintro e w7 ⟨rfl, hb7⟩)
    | (go_at_call 11; refine (HAW.out _).mono ?_; rintro e w8 ⟨rfl, hb8⟩))
  go_ret
  exact ⟨rfl, HFIN.out X _ BX.out HSX.out (hb7.out.trans (hb8.out.mono hb7.out.size))⟩
theorem drooms (n : Int) (A : Option Addr) (len cap : Nat) (ls : List DAc) (z : DAc) (r sl : Option Addr × Nat) (w : World) (w0 : (Lit.int .i64 n).wf = true) (w1 : len = ls.length ∧ len ≤ cap ∧ cap ≤ 9223372036854775807 ∧ Acts w A ls) (w2 : AcIn w z r sl) :
    Calls Try.prog 6 #[.int .i64 n, .slice A len cap, .agg (acV z r sl).toArray] w fun e w' => e = .returned (.bool true) ∧ Below w.heap.size w w' := by
  obtain ⟨rfl, hlc, hm, ha⟩ := w1
  by_cases h : n < 1 ∨ 1048576 < n
  · exact rooms_bad n h _ z.k z.n ⟨z.name.toArray⟩ ⟨z.to.toArray⟩ (.slice r.1 z.p.length r.2) (.slice sl.1 z.keep.length sl.2) w
  · obtain ⟨q, rfl⟩ : ∃ q : Nat, n = q := ⟨n.toNat, by omega⟩
    exact rooms_ok q (by omega) (by omega) A cap ls z r sl w hlc hm ha w2
end Go.Proofs.Ytdjgkoklkoahbaa.Dk
