/- A fork: another disk that is the same, in new memory. -/
import Derived.Test.YtdjgkoklkoahbaaDkOpsB
namespace Go.Proofs.Ytdjgkoklkoahbaa.Dk
open Go.RowKit Go.Maps
open Go.Proofs.Ytdjgkoklkoahbaa.Me Go.Proofs.Ytdjgkoklkoahbaa.Hd
set_option linter.unusedVariables false
set_option linter.unusedSimpArgs false

/-- What has been copied: the files of these names. -/
def keptP (L : Fs) (ss : List Nm) (m : Nm) : Option Fl := if m ∈ ss then look L m else none
theorem keptP_nil (L : Fs) : keptP L [] = fun _ => none := funext fun m => by simp [keptP]
theorem keptP_snoc {L : Fs} {ss : List Nm} {n : Nm} {f : Fl} (hf : look L n = some f) : (fun m => if m = n then some f else keptP L ss m) = keptP L (ss ++ [n]) := funext fun m => by
  unfold keptP
  by_cases e : m = n
  · subst e; simp [hf]
  · simp [e]
theorem keptP_not {L : Fs} {ss : List Nm} {n : Nm} (h : n ∉ ss) : keptP L ss n = none := by simp [keptP, h]
theorem keptP_all {L : Fs} {ss : List Nm} (h : ss.Perm (namesL L)) : keptP L ss = look L := funext fun m => by
  unfold keptP
  split
  · rfl
  · rename_i hm
    refine (look_none.2 fun p hp e => hm ?_).symm
    exact h.symm.subset (List.mem_map.2 ⟨p, hp, e⟩)
theorem ranges_same {X Y : World} {b r n : Nat} {D : DataW Value} {left : Lit → Bool} {cnt : Nat} (h : X.ranges Try.prog 9 RV b r n D left cnt) (hb : Y.heap[b]? = X.heap[b]?) (hr : Y.heap[r]? = X.heap[r]?) : Y.ranges Try.prog 9 RV b r n D left cnt := by
  obtain ⟨es, clock, since, seen, c0, q1, F, q2, q3, q4, rest⟩ := h
  exact ⟨es, clock, since, seen, c0, hb.trans q1, F, q2, q3, hr.trans q4, rest⟩
theorem But.cell {S : Nat → Prop} {w X : World} (h : But S w X) {b i : Nat} (hb : b < w.heap.size) (hS : ¬ S b) : X.cell? ⟨b, i, none⟩ = w.cell? ⟨b, i, none⟩ := World.cell?_of_block (a := ⟨b, i, none⟩) (h.same b hb hS)
/-- A new file in a box. -/
theorem file_boxed {w : World} {g : Nat} {l : List Nat} (hr : Me.Row w g l) (hl : l.length ≤ 140737488355328) (q : Nat) :
    FileIn (w.alloc (.cells #[.slice (some ⟨g, 0, none⟩) l.length l.length, .int .i64 (q : Int)] 68)) w.heap.size (.slice (some ⟨g, 0, none⟩) l.length l.length) ⟨l, q⟩ :=
  ⟨heap_alloc_new w _, own_same (Row.own hr hl) fun k e hk => ((Below.refl _ w).alloc (Nat.le_refl _) _).block k hk⟩
set_option maxRecDepth 100000 in
set_option maxHeartbeats 2000000 in
theorem Fork_any {G : Nat → Prop} (w : World) (D mb : Nat) (s : St) (h : Hid (Dq G w D mb s)) (ok : Hid s.Ok) :
    Calls Try.prog 12 #[.pointer (some ⟨D, 0, none⟩)] w fun e w' => e = .returned (.pointer (some ⟨w.heap.size, 0, none⟩)) ∧ Hid (Dq (fun k => w.heap.size ≤ k) w' w.heap.size (w.heap.size + 1) s) ∧ Hid (Below w.heap.size w w') := by
  obtain ⟨D0, ent, how, hsz, hv⟩ := h.out.mf
  have HV := Lib.hid hv
  have HP := Lib.hid (names_perm how hv ok.out.srt)
  have HOW := Lib.hid how
  have hcnt := ok.out.cnt
  have HSZ : Hid (Maps.size D0 ≤ 64) := by show _ ≤ _; omega
  have c0 := h.out.c0
  have c1 := h.out.c1
  have c2 := h.out.c2
  have c3 := h.out.c3
  have hmb := h.out.ltm
  have HD := Lib.hid h.out.lt
  have hmm : ∀ W : World, (Instr.makeMap 62 none).run Try.prog W = .ok (.map (some W.heap.size)) (W.alloc (.map #[] 0)) := fun W => by kernel_rfl
  obtain ⟨n, hn⟩ : ∃ n, w.heap.size = n := ⟨_, rfl⟩
  have HN : Hid (w.heap.size = n) := hn
  obtain ⟨X, hX⟩ : ∃ X, X = (w.alloc (.cells #[.map (some (w.heap.size + 1)), .int .i64 (s.limit : Int), .bool s.down, .int .i64 (s.left : Int)] 64)).alloc (.map #[] 0) := ⟨_, rfl⟩
  have HX := Lib.hid hX
  have hbX : Below w.heap.size w X := by rw [hX]; exact Me.below_alloc (Me.below_alloc (Below.refl _ _))
  have HBX := Lib.hid hbX
  have HSX : Hid (X.heap.size = n + 2) := by show _ = _; rw [hX, ← hn]; simp
  have cX : ((w.alloc (.cells #[.map (some (w.heap.size + 1)), .int .i64 (s.limit : Int), .bool s.down, .int .i64 (s.left : Int)] 64)).alloc (.map #[] 0)).cell? ⟨D, 0, none⟩ = some (.map (some mb)) := by
    have := hbX.cell (p := ⟨D, 0, none⟩) HD.out
    rw [hX] at this
    exact this.trans c0
  have HXD : Hid (X.heap[n]? = some (.cells #[.map (some (n + 1)), .int .i64 (s.limit : Int), .bool s.down, .int .i64 (s.left : Int)] 64 (0, 0))) := by
    show _ = _
    rw [hX, ← hn]
    have h1 := heap_alloc_new w (.cells #[.map (some (w.heap.size + 1)), .int .i64 (s.limit : Int), .bool s.down, .int .i64 (s.left : Int)] 64)
    rw [← h1]
    exact (Below.refl _ _).alloc (Nat.le_refl _) _ |>.block _ (by simp)
  have HXM : Hid (Mf (fun k => n + 2 < k) X (n + 1) (keptP s.files []) 0) := by
    show Mf _ _ _ _ _
    rw [keptP_nil, hX, ← hn]
    have := Mf.made (fun k => w.heap.size + 2 < k) (w.alloc (.cells #[.map (some (w.heap.size + 1)), .int .i64 (s.limit : Int), .bool s.down, .int .i64 (s.left : Int)] 64))
    rwa [World.size_alloc] at this
  have HOX : Hid (X.ownsMap Try.prog 9 RV mb s.files.length D0) := by
    obtain ⟨es, clock, hb, r⟩ := HOW.out
    exact ⟨es, clock, (hbX.block mb hmb).trans hb, r⟩
  have HBX2 : Hid (mb < n) := by show _ < _; omega
  clear hbX hX hn hv how hsz hcnt
  go_enter Try.func12, Try.ntmps12
  go_wp2_with (first
    | (at_range; rw [← HX.out]; refine wpList_range_own _ rfl _ 62 rfl 9 65 keyed Try.underlying62 _ mb _ _ rfl HOX.out ?_; intro w0 hrg0 hg0 hs0; rw [HSX.out] at hrg0 ⊢)
    | go_in)
  rw [HN.out] at HBX ⊢
  have HB0 : Hid (Below n w w0) := by
    show Below n w w0
    have := HBX.out
    exact this.grown hg0 (by have := HSX.out; omega) (fun j hj => by cases hj)
  have HS0 : Hid (w0.heap.size = n + 3) := by show _ = _; rw [hs0, HSX.out]
  have HB0X : Hid (Below (n + 2) X w0) := by
    show Below (n + 2) X w0
    exact (Below.refl _ X).grown hg0 (by have := HSX.out; omega) (fun j hj => by cases hj)
  clear hs0 hg0
  go_frame
  go_loopw [] (fun wr => ∃ (left : Lit → Bool) (cnt : Nat) (ss : List Nm), Hid (wr.ranges Try.prog 9 RV mb (n + 2) s.files.length D0 left cnt) ∧ Hid (Collected D0 left ss) ∧ Hid (ss.length + cnt ≤ Maps.size D0) ∧ Hid (Mf (fun k => n + 2 < k) wr (n + 1) (keptP s.files ss) ss.length) ∧ Hid (wr.heap[n]? = some (.cells #[.map (some (n + 1)), .int .i64 (s.limit : Int), .bool s.down, .int .i64 (s.left : Int)] 64 (0, 0))) ∧ Hid (Below n w wr) ∧ Hid (n + 3 ≤ wr.heap.size))
    (fun wr => wr.rangeLeft mb (n + 2))
  case atStart =>
    have hsz0 := HS0.out
    refine ⟨_, _, [], hrg0, Collected.start D0, by show 0 + _ ≤ _; omega, HXM.out.keep (HB0X.out.block _ (by omega)) fun k hk he => absurd hk (by have := HSX.out; omega), (HB0X.out.block n (by omega)).trans HXD.out, HB0, by show _ ≤ _; omega⟩
  case round =>
    obtain ⟨left, cnt, ss, hrg, hC, hle, hM, hB, hbr, hsz⟩ := hrel
    clear c0 c1 c2 c3 cX hmm hmb HXM HXD HB0X HS0 HB0 hrg0 HOX HX
    go_wp2_with (first
      | (at_next; refine wpList_next_ranges _ rfl _ rfl 9 keyed RV encStr (fun v : Value => v) (fun key kl hk => by obtain ⟨x, hx, _⟩ := Maps.keyOf_str Try.underlying9 hk; exact ⟨x, hx⟩) (fun v y _ => ⟨v, rfl⟩) mb (n + 2) _ _ _ _ rfl hrg.out ?_ ?_)
      | go_in)
    · intro hc0 hl0
      go_wp2
      go_ret
      have hp := (hC.out.perm HOW.out keyed Try.underlying9 hl0).trans HP.out.symm
      have hM2 := hM.out
      rw [keptP_all hp, hp.length_eq, show (namesL s.files).length = s.files.length from List.length_map ..] at hM2
      rw [HN.out]
      refine ⟨rfl, ⟨hB.out, hM2.mono fun k _ hk => ⟨by omega, by omega, by omega⟩, Nat.le_refl _, by omega⟩, hbr⟩
    · intro x c kl yd yp w2 cnt2 hkey hlk hvv hyp hat hrg2 hlt hg2 hs2 hen
      obtain ⟨x', ex, rfl, _⟩ := Maps.keyOf_str Try.underlying9 hkey
      obtain rfl : x = x' := encStr_inj ex
      subst hvv
      have hC2 := hC.out.step hlk hat
      have hhas := has_true_of_atKey hat
      obtain ⟨m, e, hm⟩ := HV.out.keys _ hhas
      cases e
      obtain ⟨f, hf⟩ := Option.isSome_iff_exists.1 hm
      have hy := (HV.out.yes x f hf).2 (.held c)
      rw [hat] at hy
      simp only [DataW.held.injEq] at hy
      subst hy
      obtain ⟨hF, _, _⟩ := HV.out.file x f hf
      have hfile := ok.out.file hf
      have huse := ok.out.use
      obtain ⟨A, cc, hv2, hc1, hc2, hh⟩ := hF.own.held hfile.2.2.1
      have hx12 := nameOk_len hfile.2.2.2
      have hs0 := hsz.out
      have hw0 := HN.out
      have b2 : Below n w w2 := hbr.out.grown hg2 (by have := hbr.out.size; omega) (fun j hj => by cases hj; omega)
      have HB2 := Lib.hid b2
      have HM2 : Hid (Mf (fun k => n + 2 < k) w2 (n + 1) (keptP s.files ss) ss.length) :=
        hM.out.keep (hg2.block _ hM.out.lt fun e => by simp at e) fun k hk he => ⟨hg2.block k hk fun e => by simp only [Option.some.injEq] at e; omega, he⟩
      have HD2 : Hid (w2.heap[n]? = some (.cells #[.map (some (n + 1)), .int .i64 (s.limit : Int), .bool s.down, .int .i64 (s.left : Int)] 64 (0, 0))) := (hg2.block n (by omega) fun e => by simp only [Option.some.injEq] at e; omega).trans hB.out
      have HS2 : Hid (n + 3 ≤ w2.heap.size) := by show _ ≤ _; omega
      have hns : x ∉ ss := fun e => by
        have := (hC.out.2 x).1 e
        rw [hlk] at this
        cases this.2
      obtain ⟨p, hp⟩ : ∃ p, (ent x).1 = p := ⟨_, rfl⟩
      rw [hp] at hen
      rw [hp, hv2] at hF
      have hpn : p < n := by have := hF.lt; omega
      have F2 : FileIn w2 p (.slice A f.bytes.length cc) f := hF.keep (b2.block p hpn) fun k e => b2.block k (by have := hF.ltv k e; omega)
      have HF2 := Lib.hid F2
      obtain ⟨L, hL⟩ : ∃ L, f.bytes.length = L := ⟨_, rfl⟩
      have HL : Hid (f.bytes.length = L) := hL
      obtain ⟨q, hq⟩ : ∃ q, f.safe = q := ⟨_, rfl⟩
      have HQ : Hid (f.safe = q) := hq
      have hL20 : L ≤ 1048576 := by omega
      have HCP := Lib.hid (fun (W : World) (hb : Below w2.heap.size w2 W) => copied_any A cc n f.bytes W (by have h1 := hh.rd; rw [hw0] at h1; exact (h1.below b2).below (hb.mono (by have := HS2.out; omega))) (by have := hb.size; have := HS2.out; omega) hc1 hc2 (by omega))
      rw [hL] at HCP
      have hc00 := cell_of_row w2 p 0 _ _ (0, 0) F2.blk
      have hc01 := cell_of_row w2 p 1 _ _ (0, 0) F2.blk
      have K0 : Hid (w2.cell? ⟨p, 0, none⟩ = some (.slice A L cc)) := by show _ = _; rw [hc00, ← hL]; rfl
      have K1 : Hid (w2.cell? ⟨p, 1, none⟩ = some (.int .i64 (q : Int))) := by show _ = _; rw [hc01, ← hq]; rfl
      have KD : Hid (w2.cell? ⟨n, 0, none⟩ = some (.map (some (n + 1)))) := cell_of_row w2 n 0 _ _ (0, 0) HD2.out
      have HRG2 := Lib.hid hrg2
      have HC2 := Lib.hid hC2
      have HLT := Lib.hid hlt
      have HFL := Lib.hid hf
      have HXL : Hid (x.length ≤ maxLen) := by show _ ≤ _; unfold maxLen; omega
      have HNSS := Lib.hid hns
      have HBY := Lib.hid hfile.2.2.1
      have HEN : Hid (n + 1 ≠ p) := by show _ ≠ _; omega
      have HPL : Hid (p < n) := hpn
      have hen : (Instr.entry (.pointer (some ⟨n + 2, 0, none⟩))).run Try.prog w2 = .ok (.tuple #[nmV x, .pointer (some ⟨p, 0, none⟩)]) w2 := hen
      obtain ⟨ns, hnse⟩ : ∃ ns, (⟨x.toArray⟩ : ByteArray) = ns := ⟨_, rfl⟩
      have HNS : Hid (nmV x = .string ns) := by show _ = _; rw [← hnse]
      rw [HNS.out] at hen
      clear hs0 hw0 b2 hF F2 hL hq hh hc1 hc2 hv2 hp hrg2 hC2 hlt hlk hns hpn hc00 hc01 hfile huse hx12 hat hhas hm hf hg2 hs2 hkey ex hyp hnse
      go_wp2
      refine wp_region_held_drew (S := fun W => But (fun k => k = n + 1) w2 W ∧ n + 3 ≤ W.heap.size) (by kernel_rfl) ⟨But.of_below ((Below.refl _ w2).drew), HS2.out⟩ (fun hHeld => ?_)
      refine wpAnyH_take (i := 0) (v := ?vz1) rfl (by kernel_rfl) (by kernel_rfl) (by kernel_rfl) (fun _ _ _ h => h) (Or.inl ⟨by rfl, ?hyz1⟩) (by first | assumption | exact trivial) ?restz1
      case hyz1 => intro W hSW; go_simp; try (with_reducible rfl)
      simp only [Act.put, List.getElem_toArray, List.getElem_cons_succ, List.getElem_cons_zero, List.setIfInBounds_toArray, List.set_cons_zero, List.set_cons_succ]
      refine wpAnyH_take (i := 1) (v := ?vz2) rfl (by kernel_rfl) (by kernel_rfl) (by kernel_rfl) (fun _ _ _ h => h) (Or.inl ⟨by rfl, ?hyz2⟩) (by first | assumption | exact trivial) ?restz2
      case hyz2 => intro W hSW; have q1 := (But.cell (i := 0) hSW.1 (by have := HS2.out; omega) (by omega)).trans KD.out; go_simp; try (with_reducible rfl)
      simp only [Act.put, List.getElem_toArray, List.getElem_cons_succ, List.getElem_cons_zero, List.setIfInBounds_toArray, List.set_cons_zero, List.set_cons_succ]
      refine wpAnyH_take (i := 2) (v := ?vz3) rfl (by kernel_rfl) (by kernel_rfl) (by kernel_rfl) (fun _ _ _ h => h) (Or.inl ⟨by rfl, ?hyz3⟩) (by first | assumption | exact trivial) ?restz3
      case hyz3 => intro W hSW; go_simp; try (with_reducible rfl)
      simp only [Act.put, List.getElem_toArray, List.getElem_cons_succ, List.getElem_cons_zero, List.setIfInBounds_toArray, List.set_cons_zero, List.set_cons_succ]
      refine wpAnyH_take (i := 3) (v := ?vz4) rfl (by kernel_rfl) (by kernel_rfl) (by kernel_rfl) (fun _ _ _ h => h) (Or.inl ⟨by rfl, ?hyz4⟩) (by first | assumption | exact trivial) ?restz4
      case hyz4 => intro W hSW; go_simp; try (with_reducible rfl)
      simp only [Act.put, List.getElem_toArray, List.getElem_cons_succ, List.getElem_cons_zero, List.setIfInBounds_toArray, List.set_cons_zero, List.set_cons_succ]
      refine wpAnyH_take (i := 4) (v := ?vz5) rfl (by kernel_rfl) (by kernel_rfl) (by kernel_rfl) (fun _ _ _ h => h) (Or.inl ⟨by rfl, ?hyz5⟩) (by first | assumption | exact trivial) ?restz5
      case hyz5 => intro W hSW; go_simp; try (with_reducible rfl)
      simp only [Act.put, List.getElem_toArray, List.getElem_cons_succ, List.getElem_cons_zero, List.setIfInBounds_toArray, List.set_cons_zero, List.set_cons_succ]
      refine wpAnyH_take (i := 5) (v := ?vz6) rfl (by kernel_rfl) (by kernel_rfl) (by kernel_rfl) (fun _ _ _ h => h) (Or.inl ⟨by rfl, ?hyz6⟩) (by first | assumption | exact trivial) ?restz6
      case hyz6 => intro W hSW; go_simp; try (with_reducible rfl)
      simp only [Act.put, List.getElem_toArray, List.getElem_cons_succ, List.getElem_cons_zero, List.setIfInBounds_toArray, List.set_cons_zero, List.set_cons_succ]
      refine wpAnyH_take (i := 6) (v := ?vz7) rfl (by kernel_rfl) (by kernel_rfl) (by kernel_rfl) (fun _ _ _ h => h) (Or.inl ⟨by rfl, ?hyz7⟩) (by first | assumption | exact trivial) ?restz7
      case hyz7 => intro W hSW; have q6 := (But.cell (i := 0) hSW.1 HF2.out.lt HEN.out.symm).trans K0.out; go_simp; try (with_reducible rfl)
      simp only [Act.put, List.getElem_toArray, List.getElem_cons_succ, List.getElem_cons_zero, List.setIfInBounds_toArray, List.set_cons_zero, List.set_cons_succ]
      refine wpAnyH_take (i := 8) (v := ?vz8) rfl (by kernel_rfl) (by kernel_rfl) (by kernel_rfl) (fun _ _ _ h => h) (Or.inl ⟨by rfl, ?hyz8⟩) (by first | assumption | exact trivial) ?restz8
      case hyz8 => intro W hSW; go_simp; try (with_reducible rfl)
      simp only [Act.put, List.getElem_toArray, List.getElem_cons_succ, List.getElem_cons_zero, List.setIfInBounds_toArray, List.set_cons_zero, List.set_cons_succ]
      refine wpAnyH_take (i := 9) (v := ?vz9) rfl (by kernel_rfl) (by kernel_rfl) (by kernel_rfl) (fun _ _ _ h => h) (Or.inl ⟨by rfl, ?hyz9⟩) (by first | assumption | exact trivial) ?restz9
      case hyz9 => intro W hSW; go_simp; try (with_reducible rfl)
      simp only [Act.put, List.getElem_toArray, List.getElem_cons_succ, List.getElem_cons_zero, List.setIfInBounds_toArray, List.set_cons_zero, List.set_cons_succ]
      refine wpAnyH_take (i := 10) (v := ?vz10) rfl (by kernel_rfl) (by kernel_rfl) (by kernel_rfl) (fun _ _ _ h => h) (Or.inl ⟨by rfl, ?hyz10⟩) (by first | assumption | exact trivial) ?restz10
      case hyz10 => intro W hSW; go_simp; try (with_reducible rfl)
      simp only [Act.put, List.getElem_toArray, List.getElem_cons_succ, List.getElem_cons_zero, List.setIfInBounds_toArray, List.set_cons_zero, List.set_cons_succ]
      refine wpAnyH_take (i := 11) (v := ?vz11) rfl (by kernel_rfl) (by kernel_rfl) (by kernel_rfl) (fun _ _ _ h => h) (Or.inl ⟨by rfl, ?hyz11⟩) (by first | assumption | exact trivial) ?restz11
      case hyz11 => intro W hSW; have q11 := (But.cell (i := 1) hSW.1 HF2.out.lt HEN.out.symm).trans K1.out; go_simp; try (with_reducible rfl)
      simp only [Act.put, List.getElem_toArray, List.getElem_cons_succ, List.getElem_cons_zero, List.setIfInBounds_toArray, List.set_cons_zero, List.set_cons_succ]
      refine wpAnyH_ready (rs := [7]) (by kernel_rfl) (by simp) ?_
      refine AllReadyH.cons rfl (fun K hK => ?_) AllReadyH.nil
      go_simp
      go_wp2_with (go_at_call 31; refine (HCP.out _ ((Below.refl _ w2).drew)).mono ?_; rintro e w3 ⟨rfl, hr3, hb3⟩)
      have S3 : Below w2.heap.size w2 w3 := ((Below.refl _ w2).drew).trans hb3.out
      refine hK.out _ _ (⟨But.of_below S3, Nat.le_trans HS2.out S3.size⟩) (fun hHeld => ?_)
      clear hK K
      refine wpAnyH_take (i := 12) (v := ?vz12) rfl (by kernel_rfl) (by kernel_rfl) (by kernel_rfl) (fun _ _ _ h => h) (Or.inl ⟨by rfl, ?hyz12⟩) (by first | assumption | exact trivial) ?restz12
      case hyz12 => intro W hSW; go_simp; try (with_reducible rfl)
      simp only [Act.put, List.getElem_toArray, List.getElem_cons_succ, List.getElem_cons_zero, List.setIfInBounds_toArray, List.set_cons_zero, List.set_cons_succ]
      have HR3 := hr3
      have HS4 : Hid (Below w2.heap.size w2 (w3.alloc (.cells #[.slice (some ⟨w2.heap.size, 0, none⟩) L L, .int .i64 (q : Int)] 68))) := Me.below_alloc S3
      have HF4 : Hid (FileIn (w3.alloc (.cells #[.slice (some ⟨w2.heap.size, 0, none⟩) L L, .int .i64 (q : Int)] 68)) w3.heap.size (.slice (some ⟨w2.heap.size, 0, none⟩) L L) f) := by
        have h1 : Me.Row w3 w2.heap.size f.bytes := hr3.out
        have h2 := file_boxed h1 (by rw [HL.out]; omega) q
        rw [HL.out] at h2
        have e : (⟨f.bytes, q⟩ : Fl) = f := by rw [← HQ.out]
        rw [e] at h2
        exact h2
      have HS3 : Hid (w2.heap.size < w3.heap.size) := hr3.out.lt
      clear hr3 hb3
      refine wpAnyH_ready (rs := [13]) (by kernel_rfl) (by simp) ?_
      refine AllReadyH.cons rfl (fun K hK => ?_) AllReadyH.nil
      go_simp
      go_wp2
      refine hK.out _ _ (⟨But.of_below HS4.out, Nat.le_trans HS2.out HS4.out.size⟩) (fun hHeld => ?_)
      clear hK K
      obtain ⟨w4, hw4⟩ : ∃ w4, w3.alloc (.cells #[.slice (some ⟨w2.heap.size, 0, none⟩) L L, .int .i64 (q : Int)] 68) = w4 := ⟨_, rfl⟩
      rw [hw4] at HS4 HF4 ⊢
      clear hw4
      refine wpAnyH_ready (rs := [14]) (by kernel_rfl) (by simp) ?_
      refine AllReadyH.cons rfl (fun K hK => ?_) AllReadyH.nil
      rw [if_pos (by kernel_rfl)]
      have m4 : Mf (fun k => n + 2 < k ∧ k < w2.heap.size) w4 (n + 1) (keptP s.files ss) ss.length := HM2.out.keep (HS4.out.block _ HM2.out.lt) fun k hk he => ⟨HS4.out.block k hk, he, hk⟩
      have l2 : ss.length < maxLen := by have := hle.out; have := HSZ.out; unfold maxLen; omega
      have e1 : ¬ (n + 2 < w3.heap.size ∧ w3.heap.size < w2.heap.size) := by have := HS3.out; omega
      have e2 : ∀ k, (Value.slice (some ⟨w2.heap.size, 0, none⟩) L L).ownBlock = some k → ¬ (n + 2 < k ∧ k < w2.heap.size) := fun k e => by
        simp only [Value.ownBlock, Option.some.injEq] at e
        omega
      refine putM (.tmp 24) (.tmp 25) (.tmp 36) rfl (fun k => n + 2 < k ∧ k < w2.heap.size) (n + 1) ss.length (keptP s.files ss) x w3.heap.size (.slice (some ⟨w2.heap.size, 0, none⟩) L L) f rfl rfl rfl m4 HXL.out l2 HF4.out e1 e2 ?_
      intro w5 hm5 hb5 hs5 hk5
      clear hk5 m4 e1 e2
      rw [keptP_not HNSS.out, keptP_snoc HFL.out] at hm5
      have HM5 : Hid (Mf (fun k => n + 2 < k) w5 (n + 1) (keptP s.files (ss ++ [x])) (ss ++ [x]).length) := by
        show Mf _ _ _ _ _
        rw [List.length_append]
        refine hm5.mono fun k _ hk => ?_
        have a1 := HS2.out
        have a2 := HS3.out
        rcases hk with hk | hk | hk
        · exact hk.1
        · omega
        · simp only [Value.ownBlock, Option.some.injEq] at hk
          omega
      have HB5 : Hid (But (fun k => k = n + 1) w2 w5) := (But.of_below HS4.out).trans hb5 fun _ _ e => e
      have HS5 : Hid (n + 3 ≤ w5.heap.size) := by have := HS2.out; have := HB5.out.size; show _ ≤ _; omega
      clear hm5 hb5 hs5
      simp only [Act.put, List.getElem_toArray, List.getElem_cons_succ, List.getElem_cons_zero, List.setIfInBounds_toArray, List.set_cons_zero, List.set_cons_succ]
      refine hK.out _ _ (⟨HB5.out, HS5.out⟩) (fun hHeld => ?_)
      clear hK K
      refine wpAnyH_done (by kernel_rfl) ?_ _
      have HRG5 := Lib.hid (ranges_same HRG2.out (HB5.out.same mb (by have := HS2.out; have := HBX2.out; omega) (by have := HBX2.out; omega)) (HB5.out.same (n + 2) (by have := HS2.out; omega) (by omega)))
      go_roundw
      case rel =>
        refine ⟨_, _, _, _, _, _, _, _, _, _, _, _, _, _, _, _, _, _, _, _, _, ⟨_, cnt2, ss ++ [x], HRG5, HC2, by show (ss ++ [x]).length + cnt2 ≤ _; have := hle.out; have := HLT.out; simp; omega, HM5, (HB5.out.same n (by have := HS2.out; omega) (by omega)).trans HD2.out, HB2.out.trans ?_, HS5⟩, rfl⟩
        exact ⟨HB5.out.os, HB5.out.tape, HB5.out.output, HB5.out.size, fun k hk => HB5.out.same k (by have := HS2.out; omega) (by omega)⟩
      case measure => rw [HRG5.out.left_eq, hrg.out.left_eq]; exact HLT.out
end Go.Proofs.Ytdjgkoklkoahbaa.Dk
