/- A disk behind some calls, but crashes and arms. -/
import Derived.Test.YtdjgkoklkoahbaaDkWoke
namespace Go.Proofs.Ytdjgkoklkoahbaa.Dk
open Go.RowKit
open Go.Proofs.Ytdjgkoklkoahbaa.Me Go.Proofs.Ytdjgkoklkoahbaa.Hd
set_option linter.unusedVariables false
set_option linter.unusedSimpArgs false

/-- A disk that was never armed, of so much room, and not above it. -/
structure Dn (n : Nat) (st : St) : Prop where
  lim : st.limit = n
  use : used st.files ≤ n
  left : st.left = 0
  down : st.down = false
theorem Dn.new (n : Nat) : Dn n (newS n) := ⟨rfl, Nat.zero_le _, rfl, rfl⟩
theorem Dn.chg {n : Nat} {st : St} (h : Dn n st) {L : Fs} (hL : used L ≤ n) : Dn n (Dk.chg st L) := by
  obtain ⟨h1, h2, h3, h4⟩ := h
  refine ⟨h1, hL, ?_, ?_⟩
  · show st.left - 1 = 0
    omega
  · show decide (st.left = 1) = false
    rw [h3]; rfl
theorem Dn.app {n : Nat} {st : St} (h : Dn n st) (ok : st.Ok) (m : Nm) (p : List Nat) : Dn n (appS st m p) := by
  unfold appS
  split
  · rename_i he
    refine h.chg ?_
    unfold appE at he
    split at he
    · rename_i h0; exact absurd he h0
    · split at he
      · cases he
      · rename_i h1
        simp only [not_or, Nat.not_lt] at h1
        have h2 := h.lim
        cases hf : look st.files m with
        | none =>
          have h3 := put_none hf (appF none p)
          have e : (appF none p).bytes.length = p.length := rfl
          omega
        | some f =>
          have h3 := put_some ok.srt hf (appF (some f) p)
          have e : (appF (some f) p).bytes.length = f.bytes.length + p.length := by simp [appF]
          omega
  · exact h
theorem Dn.same {n : Nat} {st : St} (h : Dn n st) (ok : st.Ok) {m : Nm} {f g : Fl} (hf : look st.files m = some g) (h1 : f.bytes.length ≤ g.bytes.length) : Dn n (Dk.chg st (put st.files m f)) := by
  have h3 := put_some ok.srt hf f
  have h4 := h.use
  exact h.chg (by omega)
theorem Dn.sync {n : Nat} {st : St} (h : Dn n st) (ok : st.Ok) (m : Nm) : Dn n (syncS st m) := by
  unfold syncS
  split
  · rename_i he
    obtain ⟨_, _, hf⟩ := findE_ok he
    exact h.same ok hf (Nat.le_refl _)
  · exact h
theorem Dn.cut {n : Nat} {st : St} (h : Dn n st) (ok : st.Ok) (m : Nm) (k : Int) : Dn n (cutS st m k) := by
  unfold cutS
  split
  · rename_i he
    obtain ⟨h1, h2, h3⟩ := cutE_ok he
    obtain ⟨_, _, hf⟩ := findE_ok h1
    exact h.same ok hf (by simp; omega)
  · exact h
theorem Dn.ren {n : Nat} {st : St} (h : Dn n st) (ok : st.Ok) (a b : Nm) : Dn n (renS st a b) := by
  unfold renS
  split
  · rename_i he
    obtain ⟨_, hb, hf, _⟩ := renE_ok he
    have hd := del_some ok.srt hf
    have hs := ok.srt.del a
    have h4 := h.use
    refine h.chg ?_
    cases hg : look (Dk.del st.files a) b with
    | none => have := put_none hg (Dk.fileOf st a); omega
    | some g => have := put_some hs hg (Dk.fileOf st a); omega
  · exact h
theorem Dn.rem {n : Nat} {st : St} (h : Dn n st) (ok : st.Ok) (m : Nm) : Dn n (remS st m) := by
  unfold remS
  split
  · have h1 := ok.del m
    have h4 := h.use
    exact h.chg (by omega)
  · exact h
/-- Where a call's fields lie. -/
theorem Acts.at' {w : World} {A : Option Addr} {ls : List DAc} (h : Acts w A ls) {j : Nat} (hj : j < ls.length) : ∃ b off r s, A = some ⟨b, off, none⟩ ∧ b < w.heap.size ∧ AcIn w (acAt ls j) r s ∧ ∀ W : World, Below w.heap.size w W →
    W.cell? ⟨b, off + j * 6, none⟩ = some (.int .i64 (acAt ls j).k) ∧ W.cell? ⟨b, off + j * 6 + 1, none⟩ = some (nmV (acAt ls j).name) ∧ W.cell? ⟨b, off + j * 6 + 2, none⟩ = some (nmV (acAt ls j).to) ∧
    W.cell? ⟨b, off + j * 6 + 3, none⟩ = some (.slice r.1 (acAt ls j).p.length r.2) ∧ W.cell? ⟨b, off + j * 6 + 4, none⟩ = some (.int .i64 (acAt ls j).n) ∧ W.cell? ⟨b, off + j * 6 + 5, none⟩ = some (.slice s.1 (acAt ls j).keep.length s.2) := by
  obtain ⟨b, off, r, s, e, hb, hc, hi⟩ := h j hj
  refine ⟨b, off, r, s, e, hb, hi, fun W hW => ?_⟩
  have hx : ∀ i u, (acV (acAt ls j) r s)[i]? = some u → W.cell? ⟨b, off + j * 6 + i, none⟩ = some u := fun i u hu => (hW.cell (p := ⟨b, off + j * 6 + i, none⟩) hb).trans (hc i u hu)
  exact ⟨hx 0 _ rfl, hx 1 _ rfl, hx 2 _ rfl, hx 3 _ rfl, hx 4 _ rfl, hx 5 _ rfl⟩
theorem may_no (n : Int) (h : n < 1 ∨ 1048576 < n) (w : World) : Calls Try.prog 18 #[.int .i64 n] w fun e w' => e = .returned (.bool false) ∧ w = w' := by
  by_cases h1 : n < 1
  · have g : ¬ (1 : Int) ≤ n := by omega
    clear h
    go_enter Try.func18, Try.ntmps18
    go_wp2
    go_ret
    exact ⟨rfl, rfl⟩
  · have g : (1 : Int) ≤ n := by omega
    have g2 : ¬ n ≤ 1048576 := by omega
    clear h
    go_enter Try.func18, Try.ntmps18
    go_wp2
    go_ret
    exact ⟨rfl, rfl⟩
theorem done_bad (n : Int) (h : n < 1 ∨ 1048576 < n) (v : Value) (w : World) : Calls Try.prog 17 #[.int .i64 n, v] w fun e w' => e = .returned (.pointer none) ∧ w = w' := by
  have N := Lib.hid (New_bad n h w)
  clear h
  go_enter Try.func17, Try.ntmps17
  go_wp2_with (go_at_call 9; refine N.out.mono ?_; rintro e w1 ⟨rfl, rfl⟩)
  go_ret
  exact ⟨rfl, rfl⟩
set_option maxRecDepth 100000 in
set_option maxHeartbeats 4000000 in
theorem done_ok (n : Nat) (h1 : 1 ≤ n) (h2 : n ≤ 1048576) (A : Option Addr) (cap : Nat) (ls : List DAc) (w : World) (hlc : ls.length ≤ cap) (hm : cap ≤ 9223372036854775807) (hacts : Hid (Acts w A ls)) :
    Calls Try.prog 17 #[.int .i64 n, .slice A ls.length cap] w fun e w' => ∃ st, e = .returned (.pointer (some ⟨w.heap.size + 1, 0, none⟩)) ∧ Hid (Df w.heap.size w' (w.heap.size + 1) w.heap.size st) ∧ Hid (Dn n st) ∧ Hid (Below w.heap.size w w') := by
  have N := Lib.hid (New_f n h1 h2 w)
  have HA := hacts
  have HDN := Lib.hid (Dn.new n)
  obtain ⟨L, hL⟩ : ∃ L, ls.length = L := ⟨_, rfl⟩
  have HL := Lib.hid hL
  rw [hL] at hlc ⊢
  obtain ⟨s, hs⟩ : ∃ s, w.heap.size = s := ⟨_, rfl⟩
  have HS := Lib.hid hs
  rw [hs] at N ⊢
  clear hL hs h1 h2 hacts
  go_enter Try.func17, Try.ntmps17
  go_wp2_with (go_at_call 9; refine N.out.mono ?_; rintro e w1 ⟨rfl, H1, B1⟩)
  go_loopw [7] (fun v wr => ∃ (k : Nat) (st : St), k ≤ L ∧ v = .int .i64 k ∧ Hid (Df s wr (s + 1) s st) ∧ Hid (Dn n st) ∧ Hid (Below s w wr)) (fun v _ => L - (intOf v).toNat)
  case atStart => exact ⟨0, newS n, Nat.zero_le _, rfl, H1, HDN, B1⟩
  case round =>
    obtain ⟨k, st, hk, rfl, hd, hn, hb⟩ := hrel
    clear H1 B1 HDN N
    by_cases hlt : k < L
    · by_cases h100 : (k : Int) < 100
      · obtain ⟨b, off, r, sl, rfl, hbb, hi, hcells⟩ := HA.out.at' (j := k) (by rw [HL.out]; exact hlt)
        rw [HS.out] at hcells hbb
        obtain ⟨⟨kd, nm, to, p, an, kp⟩, hac⟩ : ∃ a, acAt ls k = a := ⟨_, rfl⟩
        obtain ⟨R, cr⟩ := r
        rw [hac] at hcells hi
        simp only [nmV] at hcells
        obtain ⟨ns, hns⟩ : ∃ ns, (⟨nm.toArray⟩ : ByteArray) = ns := ⟨_, rfl⟩
        obtain ⟨ts, hts⟩ : ∃ ts, (⟨to.toArray⟩ : ByteArray) = ts := ⟨_, rfl⟩
        have HNS : Hid (nmV nm = .string ns) := by show _ = _; rw [← hns]
        have HTS : Hid (nmV to = .string ts) := by show _ = _; rw [← hts]
        rw [hns, hts] at hcells
        have HC := Lib.hid hcells
        have c0 := (hcells wr hb.out).1
        have c1 := (hcells wr hb.out).2.1
        have g1 : (k : Int) < (L : Int) := by omega
        have g0 : (0 : Int) ≤ (k : Int) := by omega
        have hok := hd.out.ok
        have HPR := Lib.hid hi.pr
        rw [HS.out] at HPR
        have HPN := Lib.hid hi.pn
        have HPL : Hid (p.length ≤ 140737488351232) := by have q1 : p.length ≤ cr := hi.pl; have q2 : cr ≤ 140737488351232 := hi.pc; show p.length ≤ 140737488351232; omega
        have HAP : Hid (∀ W : World, Below s w W → Df s W (s + 1) s st → Calls Try.prog 14 #[.pointer (some ⟨s + 1, 0, none⟩), .string ns, .slice R p.length cr] W (OpF s W (s + 1) s (appS st nm p) (appE st nm p))) := fun W hW hD => by
          rw [← HNS.out]
          exact Append_f W (s + 1) s st hD nm R cr p ((HPR.out.below hW).more hD.lt) HPN HPL.out
        have HSY : Hid (∀ W : World, Df s W (s + 1) s st → Calls Try.prog 23 #[.pointer (some ⟨s + 1, 0, none⟩), .string ns] W (OpF s W (s + 1) s (syncS st nm) (findE st nm))) := fun W hD => by
          rw [← HNS.out]; exact Sync_f W (s + 1) s st hD nm
        have HCU : Hid (∀ W : World, Df s W (s + 1) s st → Calls Try.prog 26 #[.pointer (some ⟨s + 1, 0, none⟩), .string ns, .int .i64 an] W (OpF s W (s + 1) s (cutS st nm an) (cutE st nm an))) := fun W hD => by
          rw [← HNS.out]; exact Cut_f W (s + 1) s st hD nm an
        have HRN : Hid (∀ W : World, Df s W (s + 1) s st → Calls Try.prog 27 #[.pointer (some ⟨s + 1, 0, none⟩), .string ns, .string ts] W (OpF s W (s + 1) s (renS st nm to) (renE st nm to))) := fun W hD => by
          rw [← HNS.out, ← HTS.out]; exact Rename_f W (s + 1) s st hD nm to
        have HRM : Hid (∀ W : World, Df s W (s + 1) s st → Calls Try.prog 28 #[.pointer (some ⟨s + 1, 0, none⟩), .string ns] W (OpF s W (s + 1) s (remS st nm) (findE st nm))) := fun W hD => by
          rw [← HNS.out]; exact Remove_f W (s + 1) s st hD nm
        obtain ⟨pl, hpl⟩ : ∃ pl, p.length = pl := ⟨_, rfl⟩
        rw [hpl] at hcells HC HAP
        clear hac hns hts hcells hi hpl HPR HPN HPL
        by_cases h0 : kd = 0
        · subst h0
          go_wp2
          refine wp_region_held_drew (S := fun W => Below s w W) (by kernel_rfl) hb.out.drew (fun hHeld => ?_)
          refine wpAnyH_take (i := 0) (v := ?vz1) rfl (by kernel_rfl) (by kernel_rfl) (by kernel_rfl) (fun _ _ _ h => h) (Or.inl ⟨by rfl, ?hyz1⟩) (by first | assumption | exact trivial) ?restz1
          case hyz1 => intro W hSW; go_simp; try (with_reducible rfl)
          simp only [Act.put, List.getElem_toArray, List.getElem_cons_succ, List.getElem_cons_zero, List.setIfInBounds_toArray, List.set_cons_zero, List.set_cons_succ]
          refine wpAnyH_take (i := 1) (v := ?vz2) rfl (by kernel_rfl) (by kernel_rfl) (by kernel_rfl) (fun _ _ _ h => h) (Or.inl ⟨by rfl, ?hyz2⟩) (by first | assumption | exact trivial) ?restz2
          case hyz2 => intro W hSW; go_simp; try (with_reducible rfl)
          simp only [Act.put, List.getElem_toArray, List.getElem_cons_succ, List.getElem_cons_zero, List.setIfInBounds_toArray, List.set_cons_zero, List.set_cons_succ]
          refine wpAnyH_take (i := 2) (v := ?vz3) rfl (by kernel_rfl) (by kernel_rfl) (by kernel_rfl) (fun _ _ _ h => h) (Or.inl ⟨by rfl, ?hyz3⟩) (by first | assumption | exact trivial) ?restz3
          case hyz3 => intro W hSW; go_simp; try (with_reducible rfl)
          simp only [Act.put, List.getElem_toArray, List.getElem_cons_succ, List.getElem_cons_zero, List.setIfInBounds_toArray, List.set_cons_zero, List.set_cons_succ]
          refine wpAnyH_take (i := 3) (v := ?vz4) rfl (by kernel_rfl) (by kernel_rfl) (by kernel_rfl) (fun _ _ _ h => h) (Or.inl ⟨by rfl, ?hyz4⟩) (by first | assumption | exact trivial) ?restz4
          case hyz4 => intro W hSW; go_simp; try (with_reducible rfl)
          simp only [Act.put, List.getElem_toArray, List.getElem_cons_succ, List.getElem_cons_zero, List.setIfInBounds_toArray, List.set_cons_zero, List.set_cons_succ]
          refine wpAnyH_take (i := 4) (v := ?vz5) rfl (by kernel_rfl) (by kernel_rfl) (by kernel_rfl) (fun _ _ _ h => h) (Or.inl ⟨by rfl, ?hyz5⟩) (by first | assumption | exact trivial) ?restz5
          case hyz5 => intro W hSW; go_simp; try (with_reducible rfl)
          simp only [Act.put, List.getElem_toArray, List.getElem_cons_succ, List.getElem_cons_zero, List.setIfInBounds_toArray, List.set_cons_zero, List.set_cons_succ]
          refine wpAnyH_take (i := 5) (v := ?vz6) rfl (by kernel_rfl) (by kernel_rfl) (by kernel_rfl) (fun _ _ _ h => h) (Or.inl ⟨by rfl, ?hyz6⟩) (by first | assumption | exact trivial) ?restz6
          case hyz6 => intro W hSW; have q5 := (HC.out W hSW).2.1; go_simp; try (with_reducible rfl)
          simp only [Act.put, List.getElem_toArray, List.getElem_cons_succ, List.getElem_cons_zero, List.setIfInBounds_toArray, List.set_cons_zero, List.set_cons_succ]
          refine wpAnyH_take (i := 6) (v := ?vz7) rfl (by kernel_rfl) (by kernel_rfl) (by kernel_rfl) (fun _ _ _ h => h) (Or.inl ⟨by rfl, ?hyz7⟩) (by first | assumption | exact trivial) ?restz7
          case hyz7 => intro W hSW; go_simp; try (with_reducible rfl)
          simp only [Act.put, List.getElem_toArray, List.getElem_cons_succ, List.getElem_cons_zero, List.setIfInBounds_toArray, List.set_cons_zero, List.set_cons_succ]
          refine wpAnyH_take (i := 7) (v := ?vz8) rfl (by kernel_rfl) (by kernel_rfl) (by kernel_rfl) (fun _ _ _ h => h) (Or.inl ⟨by rfl, ?hyz8⟩) (by first | assumption | exact trivial) ?restz8
          case hyz8 => intro W hSW; go_simp; try (with_reducible rfl)
          simp only [Act.put, List.getElem_toArray, List.getElem_cons_succ, List.getElem_cons_zero, List.setIfInBounds_toArray, List.set_cons_zero, List.set_cons_succ]
          refine wpAnyH_take (i := 8) (v := ?vz9) rfl (by kernel_rfl) (by kernel_rfl) (by kernel_rfl) (fun _ _ _ h => h) (Or.inl ⟨by rfl, ?hyz9⟩) (by first | assumption | exact trivial) ?restz9
          case hyz9 => intro W hSW; go_simp; try (with_reducible rfl)
          simp only [Act.put, List.getElem_toArray, List.getElem_cons_succ, List.getElem_cons_zero, List.setIfInBounds_toArray, List.set_cons_zero, List.set_cons_succ]
          refine wpAnyH_take (i := 9) (v := ?vz10) rfl (by kernel_rfl) (by kernel_rfl) (by kernel_rfl) (fun _ _ _ h => h) (Or.inl ⟨by rfl, ?hyz10⟩) (by first | assumption | exact trivial) ?restz10
          case hyz10 => intro W hSW; go_simp; try (with_reducible rfl)
          simp only [Act.put, List.getElem_toArray, List.getElem_cons_succ, List.getElem_cons_zero, List.setIfInBounds_toArray, List.set_cons_zero, List.set_cons_succ]
          refine wpAnyH_take (i := 10) (v := ?vz11) rfl (by kernel_rfl) (by kernel_rfl) (by kernel_rfl) (fun _ _ _ h => h) (Or.inl ⟨by rfl, ?hyz11⟩) (by first | assumption | exact trivial) ?restz11
          case hyz11 => intro W hSW; have q10 := (HC.out W hSW).2.2.2.1; go_simp; try (with_reducible rfl)
          simp only [Act.put, List.getElem_toArray, List.getElem_cons_succ, List.getElem_cons_zero, List.setIfInBounds_toArray, List.set_cons_zero, List.set_cons_succ]
          refine wpAnyH_ready (rs := [11]) (by kernel_rfl) (by simp) ?_
          refine AllReadyH.cons rfl (fun K hK => ?_) AllReadyH.nil
          go_simp
          go_wp2_with (go_at_call 14; refine (HAP.out wr.drew hb.out.drew (hd.out.below ((Below.refl _ wr).drew))).mono ?_; rintro e w2 ⟨rfl, hd2, hb2⟩)
          have B2 : Below s w w2 := hb.out.drew.trans hb2.out
          refine hK.out _ _ (B2) (fun hHeld => ?_)
          clear hK K
          refine wpAnyH_done (by kernel_rfl) ?_ _
          go_wp2
          go_roundw
          case rel => exact ⟨k + 1, _, by omega, by go_num, hd2, hn.out.app hok _ _, B2⟩
          case measure => simp [intOf]; omega
        have e0 : (kd == 0) = false := by simpa using h0
        by_cases h1 : kd = 1
        · subst h1
          go_wp2_with (go_at_call 23; refine (HSY.out wr hd.out).mono ?_; rintro e w2 ⟨rfl, hd2, hb2⟩)
          have B2 : Below s w w2 := hb.out.trans hb2.out
          go_roundw
          case rel => exact ⟨k + 1, _, by omega, by go_num, hd2, hn.out.sync hok _, B2⟩
          case measure => simp [intOf]; omega
        have e1 : (kd == 1) = false := by simpa using h1
        by_cases h2 : kd = 2
        · subst h2
          go_wp2
          refine wp_region_held_drew (S := fun W => Below s w W) (by kernel_rfl) hb.out.drew (fun hHeld => ?_)
          refine wpAnyH_take (i := 0) (v := ?vz12) rfl (by kernel_rfl) (by kernel_rfl) (by kernel_rfl) (fun _ _ _ h => h) (Or.inl ⟨by rfl, ?hyz12⟩) (by first | assumption | exact trivial) ?restz12
          case hyz12 => intro W hSW; go_simp; try (with_reducible rfl)
          simp only [Act.put, List.getElem_toArray, List.getElem_cons_succ, List.getElem_cons_zero, List.setIfInBounds_toArray, List.set_cons_zero, List.set_cons_succ]
          refine wpAnyH_take (i := 1) (v := ?vz13) rfl (by kernel_rfl) (by kernel_rfl) (by kernel_rfl) (fun _ _ _ h => h) (Or.inl ⟨by rfl, ?hyz13⟩) (by first | assumption | exact trivial) ?restz13
          case hyz13 => intro W hSW; go_simp; try (with_reducible rfl)
          simp only [Act.put, List.getElem_toArray, List.getElem_cons_succ, List.getElem_cons_zero, List.setIfInBounds_toArray, List.set_cons_zero, List.set_cons_succ]
          refine wpAnyH_take (i := 2) (v := ?vz14) rfl (by kernel_rfl) (by kernel_rfl) (by kernel_rfl) (fun _ _ _ h => h) (Or.inl ⟨by rfl, ?hyz14⟩) (by first | assumption | exact trivial) ?restz14
          case hyz14 => intro W hSW; go_simp; try (with_reducible rfl)
          simp only [Act.put, List.getElem_toArray, List.getElem_cons_succ, List.getElem_cons_zero, List.setIfInBounds_toArray, List.set_cons_zero, List.set_cons_succ]
          refine wpAnyH_take (i := 3) (v := ?vz15) rfl (by kernel_rfl) (by kernel_rfl) (by kernel_rfl) (fun _ _ _ h => h) (Or.inl ⟨by rfl, ?hyz15⟩) (by first | assumption | exact trivial) ?restz15
          case hyz15 => intro W hSW; go_simp; try (with_reducible rfl)
          simp only [Act.put, List.getElem_toArray, List.getElem_cons_succ, List.getElem_cons_zero, List.setIfInBounds_toArray, List.set_cons_zero, List.set_cons_succ]
          refine wpAnyH_take (i := 4) (v := ?vz16) rfl (by kernel_rfl) (by kernel_rfl) (by kernel_rfl) (fun _ _ _ h => h) (Or.inl ⟨by rfl, ?hyz16⟩) (by first | assumption | exact trivial) ?restz16
          case hyz16 => intro W hSW; go_simp; try (with_reducible rfl)
          simp only [Act.put, List.getElem_toArray, List.getElem_cons_succ, List.getElem_cons_zero, List.setIfInBounds_toArray, List.set_cons_zero, List.set_cons_succ]
          refine wpAnyH_take (i := 5) (v := ?vz17) rfl (by kernel_rfl) (by kernel_rfl) (by kernel_rfl) (fun _ _ _ h => h) (Or.inl ⟨by rfl, ?hyz17⟩) (by first | assumption | exact trivial) ?restz17
          case hyz17 => intro W hSW; have q5 := (HC.out W hSW).2.1; go_simp; try (with_reducible rfl)
          simp only [Act.put, List.getElem_toArray, List.getElem_cons_succ, List.getElem_cons_zero, List.setIfInBounds_toArray, List.set_cons_zero, List.set_cons_succ]
          refine wpAnyH_take (i := 6) (v := ?vz18) rfl (by kernel_rfl) (by kernel_rfl) (by kernel_rfl) (fun _ _ _ h => h) (Or.inl ⟨by rfl, ?hyz18⟩) (by first | assumption | exact trivial) ?restz18
          case hyz18 => intro W hSW; go_simp; try (with_reducible rfl)
          simp only [Act.put, List.getElem_toArray, List.getElem_cons_succ, List.getElem_cons_zero, List.setIfInBounds_toArray, List.set_cons_zero, List.set_cons_succ]
          refine wpAnyH_take (i := 7) (v := ?vz19) rfl (by kernel_rfl) (by kernel_rfl) (by kernel_rfl) (fun _ _ _ h => h) (Or.inl ⟨by rfl, ?hyz19⟩) (by first | assumption | exact trivial) ?restz19
          case hyz19 => intro W hSW; go_simp; try (with_reducible rfl)
          simp only [Act.put, List.getElem_toArray, List.getElem_cons_succ, List.getElem_cons_zero, List.setIfInBounds_toArray, List.set_cons_zero, List.set_cons_succ]
          refine wpAnyH_take (i := 8) (v := ?vz20) rfl (by kernel_rfl) (by kernel_rfl) (by kernel_rfl) (fun _ _ _ h => h) (Or.inl ⟨by rfl, ?hyz20⟩) (by first | assumption | exact trivial) ?restz20
          case hyz20 => intro W hSW; go_simp; try (with_reducible rfl)
          simp only [Act.put, List.getElem_toArray, List.getElem_cons_succ, List.getElem_cons_zero, List.setIfInBounds_toArray, List.set_cons_zero, List.set_cons_succ]
          refine wpAnyH_take (i := 9) (v := ?vz21) rfl (by kernel_rfl) (by kernel_rfl) (by kernel_rfl) (fun _ _ _ h => h) (Or.inl ⟨by rfl, ?hyz21⟩) (by first | assumption | exact trivial) ?restz21
          case hyz21 => intro W hSW; go_simp; try (with_reducible rfl)
          simp only [Act.put, List.getElem_toArray, List.getElem_cons_succ, List.getElem_cons_zero, List.setIfInBounds_toArray, List.set_cons_zero, List.set_cons_succ]
          refine wpAnyH_take (i := 10) (v := ?vz22) rfl (by kernel_rfl) (by kernel_rfl) (by kernel_rfl) (fun _ _ _ h => h) (Or.inl ⟨by rfl, ?hyz22⟩) (by first | assumption | exact trivial) ?restz22
          case hyz22 => intro W hSW; have q10 := (HC.out W hSW).2.2.2.2.1; go_simp; try (with_reducible rfl)
          simp only [Act.put, List.getElem_toArray, List.getElem_cons_succ, List.getElem_cons_zero, List.setIfInBounds_toArray, List.set_cons_zero, List.set_cons_succ]
          refine wpAnyH_ready (rs := [11]) (by kernel_rfl) (by simp) ?_
          refine AllReadyH.cons rfl (fun K hK => ?_) AllReadyH.nil
          go_simp
          go_wp2_with (go_at_call 26; refine (HCU.out wr.drew (hd.out.below ((Below.refl _ wr).drew))).mono ?_; rintro e w2 ⟨rfl, hd2, hb2⟩)
          have B2 : Below s w w2 := hb.out.drew.trans hb2.out
          refine hK.out _ _ (B2) (fun hHeld => ?_)
          clear hK K
          refine wpAnyH_done (by kernel_rfl) ?_ _
          go_wp2
          go_roundw
          case rel => exact ⟨k + 1, _, by omega, by go_num, hd2, hn.out.cut hok _ _, B2⟩
          case measure => simp [intOf]; omega
        have e2 : (kd == 2) = false := by simpa using h2
        by_cases h3 : kd = 3
        · subst h3
          go_wp2
          refine wp_region_held_drew (S := fun W => Below s w W) (by kernel_rfl) hb.out.drew (fun hHeld => ?_)
          refine wpAnyH_take (i := 0) (v := ?vz23) rfl (by kernel_rfl) (by kernel_rfl) (by kernel_rfl) (fun _ _ _ h => h) (Or.inl ⟨by rfl, ?hyz23⟩) (by first | assumption | exact trivial) ?restz23
          case hyz23 => intro W hSW; go_simp; try (with_reducible rfl)
          simp only [Act.put, List.getElem_toArray, List.getElem_cons_succ, List.getElem_cons_zero, List.setIfInBounds_toArray, List.set_cons_zero, List.set_cons_succ]
          refine wpAnyH_take (i := 1) (v := ?vz24) rfl (by kernel_rfl) (by kernel_rfl) (by kernel_rfl) (fun _ _ _ h => h) (Or.inl ⟨by rfl, ?hyz24⟩) (by first | assumption | exact trivial) ?restz24
          case hyz24 => intro W hSW; go_simp; try (with_reducible rfl)
          simp only [Act.put, List.getElem_toArray, List.getElem_cons_succ, List.getElem_cons_zero, List.setIfInBounds_toArray, List.set_cons_zero, List.set_cons_succ]
          refine wpAnyH_take (i := 2) (v := ?vz25) rfl (by kernel_rfl) (by kernel_rfl) (by kernel_rfl) (fun _ _ _ h => h) (Or.inl ⟨by rfl, ?hyz25⟩) (by first | assumption | exact trivial) ?restz25
          case hyz25 => intro W hSW; go_simp; try (with_reducible rfl)
          simp only [Act.put, List.getElem_toArray, List.getElem_cons_succ, List.getElem_cons_zero, List.setIfInBounds_toArray, List.set_cons_zero, List.set_cons_succ]
          refine wpAnyH_take (i := 3) (v := ?vz26) rfl (by kernel_rfl) (by kernel_rfl) (by kernel_rfl) (fun _ _ _ h => h) (Or.inl ⟨by rfl, ?hyz26⟩) (by first | assumption | exact trivial) ?restz26
          case hyz26 => intro W hSW; go_simp; try (with_reducible rfl)
          simp only [Act.put, List.getElem_toArray, List.getElem_cons_succ, List.getElem_cons_zero, List.setIfInBounds_toArray, List.set_cons_zero, List.set_cons_succ]
          refine wpAnyH_take (i := 4) (v := ?vz27) rfl (by kernel_rfl) (by kernel_rfl) (by kernel_rfl) (fun _ _ _ h => h) (Or.inl ⟨by rfl, ?hyz27⟩) (by first | assumption | exact trivial) ?restz27
          case hyz27 => intro W hSW; go_simp; try (with_reducible rfl)
          simp only [Act.put, List.getElem_toArray, List.getElem_cons_succ, List.getElem_cons_zero, List.setIfInBounds_toArray, List.set_cons_zero, List.set_cons_succ]
          refine wpAnyH_take (i := 5) (v := ?vz28) rfl (by kernel_rfl) (by kernel_rfl) (by kernel_rfl) (fun _ _ _ h => h) (Or.inl ⟨by rfl, ?hyz28⟩) (by first | assumption | exact trivial) ?restz28
          case hyz28 => intro W hSW; have q5 := (HC.out W hSW).2.1; go_simp; try (with_reducible rfl)
          simp only [Act.put, List.getElem_toArray, List.getElem_cons_succ, List.getElem_cons_zero, List.setIfInBounds_toArray, List.set_cons_zero, List.set_cons_succ]
          refine wpAnyH_take (i := 6) (v := ?vz29) rfl (by kernel_rfl) (by kernel_rfl) (by kernel_rfl) (fun _ _ _ h => h) (Or.inl ⟨by rfl, ?hyz29⟩) (by first | assumption | exact trivial) ?restz29
          case hyz29 => intro W hSW; go_simp; try (with_reducible rfl)
          simp only [Act.put, List.getElem_toArray, List.getElem_cons_succ, List.getElem_cons_zero, List.setIfInBounds_toArray, List.set_cons_zero, List.set_cons_succ]
          refine wpAnyH_take (i := 7) (v := ?vz30) rfl (by kernel_rfl) (by kernel_rfl) (by kernel_rfl) (fun _ _ _ h => h) (Or.inl ⟨by rfl, ?hyz30⟩) (by first | assumption | exact trivial) ?restz30
          case hyz30 => intro W hSW; go_simp; try (with_reducible rfl)
          simp only [Act.put, List.getElem_toArray, List.getElem_cons_succ, List.getElem_cons_zero, List.setIfInBounds_toArray, List.set_cons_zero, List.set_cons_succ]
          refine wpAnyH_take (i := 8) (v := ?vz31) rfl (by kernel_rfl) (by kernel_rfl) (by kernel_rfl) (fun _ _ _ h => h) (Or.inl ⟨by rfl, ?hyz31⟩) (by first | assumption | exact trivial) ?restz31
          case hyz31 => intro W hSW; go_simp; try (with_reducible rfl)
          simp only [Act.put, List.getElem_toArray, List.getElem_cons_succ, List.getElem_cons_zero, List.setIfInBounds_toArray, List.set_cons_zero, List.set_cons_succ]
          refine wpAnyH_take (i := 9) (v := ?vz32) rfl (by kernel_rfl) (by kernel_rfl) (by kernel_rfl) (fun _ _ _ h => h) (Or.inl ⟨by rfl, ?hyz32⟩) (by first | assumption | exact trivial) ?restz32
          case hyz32 => intro W hSW; go_simp; try (with_reducible rfl)
          simp only [Act.put, List.getElem_toArray, List.getElem_cons_succ, List.getElem_cons_zero, List.setIfInBounds_toArray, List.set_cons_zero, List.set_cons_succ]
          refine wpAnyH_take (i := 10) (v := ?vz33) rfl (by kernel_rfl) (by kernel_rfl) (by kernel_rfl) (fun _ _ _ h => h) (Or.inl ⟨by rfl, ?hyz33⟩) (by first | assumption | exact trivial) ?restz33
          case hyz33 => intro W hSW; have q10 := (HC.out W hSW).2.2.1; go_simp; try (with_reducible rfl)
          simp only [Act.put, List.getElem_toArray, List.getElem_cons_succ, List.getElem_cons_zero, List.setIfInBounds_toArray, List.set_cons_zero, List.set_cons_succ]
          refine wpAnyH_ready (rs := [11]) (by kernel_rfl) (by simp) ?_
          refine AllReadyH.cons rfl (fun K hK => ?_) AllReadyH.nil
          go_simp
          go_wp2_with (go_at_call 27; refine (HRN.out wr.drew (hd.out.below ((Below.refl _ wr).drew))).mono ?_; rintro e w2 ⟨rfl, hd2, hb2⟩)
          have B2 : Below s w w2 := hb.out.drew.trans hb2.out
          refine hK.out _ _ (B2) (fun hHeld => ?_)
          clear hK K
          refine wpAnyH_done (by kernel_rfl) ?_ _
          go_wp2
          go_roundw
          case rel => exact ⟨k + 1, _, by omega, by go_num, hd2, hn.out.ren hok _ _, B2⟩
          case measure => simp [intOf]; omega
        have e3 : (kd == 3) = false := by simpa using h3
        by_cases h4 : kd = 4
        · subst h4
          go_wp2_with (go_at_call 28; refine (HRM.out wr hd.out).mono ?_; rintro e w2 ⟨rfl, hd2, hb2⟩)
          have B2 : Below s w w2 := hb.out.trans hb2.out
          go_roundw
          case rel => exact ⟨k + 1, _, by omega, by go_num, hd2, hn.out.rem hok _, B2⟩
          case measure => simp [intOf]; omega
        have e4 : (kd == 4) = false := by simpa using h4
        clear h0 h1 h2 h3 h4
        go_wp2
        go_roundw
        case rel => exact ⟨k + 1, st, by omega, by go_num, hd, hn, hb⟩
        case measure => simp [intOf]; omega
      · have g1 : (k : Int) < (L : Int) := by omega
        go_wp2
        go_ret
        exact ⟨rfl, st, hd, hn, hb⟩
    · have g1 : ¬ (k : Int) < (L : Int) := by omega
      go_wp2
      go_ret
      exact ⟨rfl, st, hd, hn, hb⟩
end Go.Proofs.Ytdjgkoklkoahbaa.Dk
