/- A fork: another disk that is the same, in new memory. -/
import Derived.Test.YtbacgljeadalbaaGreatDoorZ9
import Derived.Test.YtbacgljeadalbaaGreatDoorZ14
import Derived.Test.YtbacgljeadalbaaGreatDoorZ15
namespace Go.Proofs.YtbacgljeadalbaaGreatDoor.Dk
open Go.RowKit Go.Maps
open Go.Proofs.YtbacgljeadalbaaGreatDoor.Me Go.Proofs.YtbacgljeadalbaaGreatDoor.Hd
set_option linter.unusedVariables false
set_option linter.unusedSimpArgs false

/-- What has been copied: the files of these names. -/
def keptP (L : Fs) (ss : List Nm) (m : Nm) : Option Fl := if m ∈ ss then look L m else none
theorem keptP_nil (L : Fs) : keptP L [] = fun _ => none := funext fun m => by simp [keptP]
theorem keptP_snoc {L : Fs} {ss : List Nm} {n : Nm} {f : Fl} (hf : look L n = some f) : (fun m => if m = n then some f else keptP L ss m) = keptP L (ss ++ [n]) := funext fun m => by
  unfold keptP
  by_cases e : m = n
  · subst e; simp [hf]
  · simp [e]
theorem keptP_not {L : Fs} {ss : List Nm} {n : Nm} (h : n ∉ ss) : keptP L ss n = none := by simp [keptP, h]
theorem keptP_all {L : Fs} {ss : List Nm} (h : ss.Perm (namesL L)) : keptP L ss = look L := funext fun m => by
  unfold keptP
  split
  · rfl
  · rename_i hm
    refine (look_none.2 fun p hp e => hm ?_).symm
    exact h.symm.subset (List.mem_map.2 ⟨p, hp, e⟩)
theorem ranges_same {X Y : World} {b r n : Nat} {D : DataW Value} {left : Lit → Bool} {cnt : Nat} (h : X.ranges Tryz.prog 9 RV b r n D left cnt) (hb : Y.heap[b]? = X.heap[b]?) (hr : Y.heap[r]? = X.heap[r]?) : Y.ranges Tryz.prog 9 RV b r n D left cnt := by
  obtain ⟨es, clock, since, seen, c0, q1, F, q2, q3, q4, rest⟩ := h
  exact ⟨es, clock, since, seen, c0, hb.trans q1, F, q2, q3, hr.trans q4, rest⟩
theorem But.cell {S : Nat → Prop} {w X : World} (h : But S w X) {b i : Nat} (hb : b < w.heap.size) (hS : ¬ S b) : X.cell? ⟨b, i, none⟩ = w.cell? ⟨b, i, none⟩ := World.cell?_of_block (a := ⟨b, i, none⟩) (h.same b hb hS)
/-- A new file in a box. -/
theorem file_boxed {w : World} {g : Nat} {l : List Nat} (hr : Me.Row w g l) (hl : l.length ≤ 140737488355328) (q : Nat) :
    FileIn (w.alloc (.cells #[.slice (some ⟨g, 0, none⟩) l.length l.length, .int .i64 (q : Int)] 70)) w.heap.size (.slice (some ⟨g, 0, none⟩) l.length l.length) ⟨l, q⟩ :=
  ⟨heap_alloc_new w _, own_same (Row.own hr hl) fun k e hk => ((Below.refl _ w).alloc (Nat.le_refl _) _).block k hk⟩
set_option maxRecDepth 100000 in
set_option maxHeartbeats 2000000 in
theorem Fork_any {G : Nat → Prop} (w : World) (D mb : Nat) (s : St) (h : Hid (Dq G w D mb s)) (ok : Hid s.Ok) :
    Calls Tryz.prog 21 #[.pointer (some ⟨D, 0, none⟩)] w fun e w' => e = .returned (.pointer (some ⟨w.heap.size, 0, none⟩)) ∧ Hid (Dq (fun k => w.heap.size ≤ k) w' w.heap.size (w.heap.size + 1) s) ∧ Hid (Below w.heap.size w w') := by
  obtain ⟨D0, ent, how, hsz, hv⟩ := h.out.mf
  have HV := Lib.hid hv
  have HP := Lib.hid (names_perm how hv ok.out.srt)
  have HOW := Lib.hid how
  have hcnt := ok.out.cnt
  have HSZ : Hid (Maps.size D0 ≤ 64) := by show _ ≤ _; omega
  have c0 := h.out.c0
  have c1 := h.out.c1
  have c2 := h.out.c2
  have c3 := h.out.c3
  have hmb := h.out.ltm
  have HD := Lib.hid h.out.lt
  have hmm : ∀ W : World, (Instr.makeMap 64 none).run Tryz.prog W = .ok (.map (some W.heap.size)) (W.alloc (.map #[] 0)) := fun W => by kernel_rfl
  obtain ⟨n, hn⟩ : ∃ n, w.heap.size = n := ⟨_, rfl⟩
  have HN : Hid (w.heap.size = n) := hn
  obtain ⟨X, hX⟩ : ∃ X, X = (w.alloc (.cells #[.map (some (w.heap.size + 1)), .int .i64 (s.limit : Int), .bool s.down, .int .i64 (s.left : Int)] 66)).alloc (.map #[] 0) := ⟨_, rfl⟩
  have HX := Lib.hid hX
  have hbX : Below w.heap.size w X := by rw [hX]; exact Me.below_alloc (Me.below_alloc (Below.refl _ _))
  have HBX := Lib.hid hbX
  have HSX : Hid (X.heap.size = n + 2) := by show _ = _; rw [hX, ← hn]; simp
  have cX : ((w.alloc (.cells #[.map (some (w.heap.size + 1)), .int .i64 (s.limit : Int), .bool s.down, .int .i64 (s.left : Int)] 66)).alloc (.map #[] 0)).cell? ⟨D, 0, none⟩ = some (.map (some mb)) := by
    have := hbX.cell (p := ⟨D, 0, none⟩) HD.out
    rw [hX] at this
    exact this.trans c0
  have HXD : Hid (X.heap[n]? = some (.cells #[.map (some (n + 1)), .int .i64 (s.limit : Int), .bool s.down, .int .i64 (s.left : Int)] 66 (0, 0))) := by
    show _ = _
    rw [hX, ← hn]
    have h1 := heap_alloc_new w (.cells #[.map (some (w.heap.size + 1)), .int .i64 (s.limit : Int), .bool s.down, .int .i64 (s.left : Int)] 66)
    rw [← h1]
    exact (Below.refl _ _).alloc (Nat.le_refl _) _ |>.block _ (by simp)
  have HXM : Hid (Mf (fun k => n + 2 < k) X (n + 1) (keptP s.files []) 0) := by
    show Mf _ _ _ _ _
    rw [keptP_nil, hX, ← hn]
    have := Mf.made (fun k => w.heap.size + 2 < k) (w.alloc (.cells #[.map (some (w.heap.size + 1)), .int .i64 (s.limit : Int), .bool s.down, .int .i64 (s.left : Int)] 66))
    rwa [World.size_alloc] at this
  have HOX : Hid (X.ownsMap Tryz.prog 9 RV mb s.files.length D0) := by
    obtain ⟨es, clock, hb, r⟩ := HOW.out
    exact ⟨es, clock, (hbX.block mb hmb).trans hb, r⟩
  have HBX2 : Hid (mb < n) := by show _ < _; omega
  clear hbX hX hn hv how hsz hcnt
  go_enter Tryz.func21, Tryz.ntmps21
  go_wp2_with (first
    | (at_range; rw [← HX.out]; refine wpList_range_own _ rfl _ 64 rfl 9 67 keyed Tryz.underlying64 _ mb _ _ rfl HOX.out ?_; intro w0 hrg0 hg0 hs0; rw [HSX.out] at hrg0 ⊢)
    | go_in)
  rw [HN.out] at HBX ⊢
  have HB0 : Hid (Below n w w0) := by
    show Below n w w0
    have := HBX.out
    exact this.grown hg0 (by have := HSX.out; omega) (fun j hj => by cases hj)
  have HS0 : Hid (w0.heap.size = n + 3) := by show _ = _; rw [hs0, HSX.out]
  have HB0X : Hid (Below (n + 2) X w0) := by
    show Below (n + 2) X w0
    exact (Below.refl _ X).grown hg0 (by have := HSX.out; omega) (fun j hj => by cases hj)
  clear hs0 hg0
  go_frame
  go_loopw [] (fun wr => ∃ (left : Lit → Bool) (cnt : Nat) (ss : List Nm), Hid (wr.ranges Tryz.prog 9 RV mb (n + 2) s.files.length D0 left cnt) ∧ Hid (Collected D0 left ss) ∧ Hid (ss.length + cnt ≤ Maps.size D0) ∧ Hid (Mf (fun k => n + 2 < k) wr (n + 1) (keptP s.files ss) ss.length) ∧ Hid (wr.heap[n]? = some (.cells #[.map (some (n + 1)), .int .i64 (s.limit : Int), .bool s.down, .int .i64 (s.left : Int)] 66 (0, 0))) ∧ Hid (Below n w wr) ∧ Hid (n + 3 ≤ wr.heap.size))
    (fun wr => wr.rangeLeft mb (n + 2))
  case atStart =>
    have hsz0 := HS0.out
    refine ⟨_, _, [], hrg0, Collected.start D0, by show 0 + _ ≤ _; omega, HXM.out.keep (HB0X.out.block _ (by omega)) fun k hk he => absurd hk (by have := HSX.out; omega), (HB0X.out.block n (by omega)).trans HXD.out, HB0, by show _ ≤ _; omega⟩
  case round =>
    obtain ⟨left, cnt, ss, hrg, hC, hle, hM, hB, hbr, hsz⟩ := hrel
    clear c0 c1 c2 c3 cX hmm hmb HXM HXD HB0X HS0 HB0 hrg0 HOX HX
    go_wp2_with (first
      | (at_next; refine wpList_next_ranges _ rfl _ rfl 9 keyed RV encStr (fun v : Value => v) (fun key kl hk => by obtain ⟨x, hx, _⟩ := Maps.keyOf_str Tryz.underlying9 hk; exact ⟨x, hx⟩) (fun v y _ => ⟨v, rfl⟩) mb (n + 2) _ _ _ _ rfl hrg.out ?_ ?_)
      | go_in)
    · intro hc0 hl0
      go_wp2
      go_ret
      have hp := (hC.out.perm HOW.out keyed Tryz.underlying9 hl0).trans HP.out.symm
      have hM2 := hM.out
      rw [keptP_all hp, hp.length_eq, show (namesL s.files).length = s.files.length from List.length_map ..] at hM2
      rw [HN.out]
      refine ⟨rfl, ⟨hB.out, hM2.mono fun k _ hk => ⟨by omega, by omega, by omega⟩, Nat.le_refl _, by omega⟩, hbr⟩
    · intro x c kl yd yp w2 cnt2 hkey hlk hvv hyp hat hrg2 hlt hg2 hs2 hen
      obtain ⟨x', ex, rfl, _⟩ := Maps.keyOf_str Tryz.underlying9 hkey
      obtain rfl : x = x' := encStr_inj ex
      subst hvv
      have hC2 := hC.out.step hlk hat
      have hhas := has_true_of_atKey hat
      obtain ⟨m, e, hm⟩ := HV.out.keys _ hhas
      cases e
      obtain ⟨f, hf⟩ := Option.isSome_iff_exists.1 hm
      have hy := (HV.out.yes x f hf).2 (.held c)
      rw [hat] at hy
      simp only [DataW.held.injEq] at hy
      subst hy
      obtain ⟨hF, _, _⟩ := HV.out.file x f hf
      have hfile := ok.out.file hf
      have huse := ok.out.use
      obtain ⟨A, cc, hv2, hc1, hc2, hh⟩ := hF.own.held hfile.2.2.1
      have hx12 := nameOk_len hfile.2.2.2
      have hs0 := hsz.out
      have hw0 := HN.out
      have b2 : Below n w w2 := hbr.out.grown hg2 (by have := hbr.out.size; omega) (fun j hj => by cases hj; omega)
      have HB2 := Lib.hid b2
      have HM2 : Hid (Mf (fun k => n + 2 < k) w2 (n + 1) (keptP s.files ss) ss.length) :=
        hM.out.keep (hg2.block _ hM.out.lt fun e => by simp at e) fun k hk he => ⟨hg2.block k hk fun e => by simp only [Option.some.injEq] at e; omega, he⟩
      have HD2 : Hid (w2.heap[n]? = some (.cells #[.map (some (n + 1)), .int .i64 (s.limit : Int), .bool s.down, .int .i64 (s.left : Int)] 66 (0, 0))) := (hg2.block n (by omega) fun e => by simp only [Option.some.injEq] at e; omega).trans hB.out
      have HS2 : Hid (n + 3 ≤ w2.heap.size) := by show _ ≤ _; omega
      have hns : x ∉ ss := fun e => by
        have := (hC.out.2 x).1 e
        rw [hlk] at this
        cases this.2
      obtain ⟨p, hp⟩ : ∃ p, (ent x).1 = p := ⟨_, rfl⟩
      rw [hp] at hen
      rw [hp, hv2] at hF
      have hpn : p < n := by have := hF.lt; omega
      have F2 : FileIn w2 p (.slice A f.bytes.length cc) f := hF.keep (b2.block p hpn) fun k e => b2.block k (by have := hF.ltv k e; omega)
      have HF2 := Lib.hid F2
      obtain ⟨L, hL⟩ : ∃ L, f.bytes.length = L := ⟨_, rfl⟩
      have HL : Hid (f.bytes.length = L) := hL
      obtain ⟨q, hq⟩ : ∃ q, f.safe = q := ⟨_, rfl⟩
      have HQ : Hid (f.safe = q) := hq
      have hL20 : L ≤ 1048576 := by omega
      have HCP := Lib.hid (fun (W : World) (hb : Below w2.heap.size w2 W) => copied_any A cc n f.bytes W (by have h1 := hh.rd; rw [hw0] at h1; exact (h1.below b2).below (hb.mono (by have := HS2.out; omega))) (by have := hb.size; have := HS2.out; omega) hc1 hc2 (by omega))
      rw [hL] at HCP
      have hc00 := cell_of_row w2 p 0 _ _ (0, 0) F2.blk
      have hc01 := cell_of_row w2 p 1 _ _ (0, 0) F2.blk
      have K0 : Hid (w2.cell? ⟨p, 0, none⟩ = some (.slice A L cc)) := by show _ = _; rw [hc00, ← hL]; rfl
      have K1 : Hid (w2.cell? ⟨p, 1, none⟩ = some (.int .i64 (q : Int))) := by show _ = _; rw [hc01, ← hq]; rfl
      have KD : Hid (w2.cell? ⟨n, 0, none⟩ = some (.map (some (n + 1)))) := cell_of_row w2 n 0 _ _ (0, 0) HD2.out
      have HRG2 := Lib.hid hrg2
      have HC2 := Lib.hid hC2
      have HLT := Lib.hid hlt
      have HFL := Lib.hid hf
      have HXL : Hid (x.length ≤ maxLen) := by show _ ≤ _; unfold maxLen; omega
      have HNSS := Lib.hid hns
      have HBY := Lib.hid hfile.2.2.1
      have HEN : Hid (n + 1 ≠ p) := by show _ ≠ _; omega
      have HPL : Hid (p < n) := hpn
      have hen : (Instr.entry (.pointer (some ⟨n + 2, 0, none⟩))).run Tryz.prog w2 = .ok (.tuple #[nmV x, .pointer (some ⟨p, 0, none⟩)]) w2 := hen
      obtain ⟨ns, hnse⟩ : ∃ ns, (⟨x.toArray⟩ : ByteArray) = ns := ⟨_, rfl⟩
      have HNS : Hid (nmV x = .string ns) := by show _ = _; rw [← hnse]
      rw [HNS.out] at hen
      clear hs0 hw0 b2 hF F2 hL hq hh hc1 hc2 hv2 hp hrg2 hC2 hlt hlk hns hpn hc00 hc01 hfile huse hx12 hat hhas hm hf hg2 hs2 hkey ex hyp hnse
      go_wp2
      refine wp_region_held_drew (S := fun W => But (fun k => k = n + 1) w2 W ∧ n + 3 ≤ W.heap.size) (by kernel_rfl) ⟨But.of_below ((Below.refl _ w2).drew), HS2.out⟩ (fun hHeld => ?_)
      refine wpAnyH_take (i := 0) (v := ?vz1) rfl (by kernel_rfl) (by kernel_rfl) (by kernel_rfl) (fun _ _ _ h => h) (Or.inl ⟨by rfl, ?hyz1⟩) (by first | assumption | exact trivial) ?restz1
      case hyz1 => intro W hSW; go_simp; try (with_reducible rfl)
      simp only [Act.put, List.getElem_toArray, List.getElem_cons_succ, List.getElem_cons_zero, List.setIfInBounds_toArray, List.set_cons_zero, List.set_cons_succ]
      refine wpAnyH_take (i := 1) (v := ?vz2) rfl (by kernel_rfl) (by kernel_rfl) (by kernel_rfl) (fun _ _ _ h => h) (Or.inl ⟨by rfl, ?hyz2⟩) (by first | assumption | exact trivial) ?restz2
      case hyz2 => intro W hSW; have q1 := (But.cell (i := 0) hSW.1 (by have := HS2.out; omega) (by omega)).trans KD.out; go_simp; try (with_reducible rfl)
      simp only [Act.put, List.getElem_toArray, List.getElem_cons_succ, List.getElem_cons_zero, List.setIfInBounds_toArray, List.set_cons_zero, List.set_cons_succ]
      refine wpAnyH_take (i := 2) (v := ?vz3) rfl (by kernel_rfl) (by kernel_rfl) (by kernel_rfl) (fun _ _ _ h => h) (Or.inl ⟨by rfl, ?hyz3⟩) (by first | assumption | exact trivial) ?restz3
      case hyz3 => intro W hSW; go_simp; try (with_reducible rfl)
      simp only [Act.put, List.getElem_toArray, List.getElem_cons_succ, List.getElem_cons_zero, List.setIfInBounds_toArray, List.set_cons_zero, List.set_cons_succ]
      refine wpAnyH_take (i := 3) (v := ?vz4) rfl (by kernel_rfl) (by kernel_rfl) (by kernel_rfl) (fun _ _ _ h => h) (Or.inl ⟨by rfl, ?hyz4⟩) (by first | assumption | exact trivial) ?restz4
      case hyz4 => intro W hSW; go_simp; try (with_reducible rfl)
      simp only [Act.put, List.getElem_toArray, List.getElem_cons_succ, List.getElem_cons_zero, List.setIfInBounds_toArray, List.set_cons_zero, List.set_cons_succ]
      refine wpAnyH_take (i := 4) (v := ?vz5) rfl (by kernel_rfl) (by kernel_rfl) (by kernel_rfl) (fun _ _ _ h => h) (Or.inl ⟨by rfl, ?hyz5⟩) (by first | assumption | exact trivial) ?restz5
      case hyz5 => intro W hSW; go_simp; try (with_reducible rfl)
      simp only [Act.put, List.getElem_toArray, List.getElem_cons_succ, List.getElem_cons_zero, List.setIfInBounds_toArray, List.set_cons_zero, List.set_cons_succ]
      refine wpAnyH_take (i := 5) (v := ?vz6) rfl (by kernel_rfl) (by kernel_rfl) (by kernel_rfl) (fun _ _ _ h => h) (Or.inl ⟨by rfl, ?hyz6⟩) (by first | assumption | exact trivial) ?restz6
      case hyz6 => intro W hSW; go_simp; try (with_reducible rfl)
      simp only [Act.put, List.getElem_toArray, List.getElem_cons_succ, List.getElem_cons_zero, List.setIfInBounds_toArray, List.set_cons_zero, List.set_cons_succ]
      refine wpAnyH_take (i := 6) (v := ?vz7) rfl (by kernel_rfl) (by kernel_rfl) (by kernel_rfl) (fun _ _ _ h => h) (Or.inl ⟨by rfl, ?hyz7⟩) (by first | assumption | exact trivial) ?restz7
      case hyz7 => intro W hSW; have q6 := (But.cell (i := 0) hSW.1 HF2.out.lt HEN.out.symm).trans K0.out; go_simp; try (with_reducible rfl)
      simp only [Act.put, List.getElem_toArray, List.getElem_cons_succ, List.getElem_cons_zero, List.setIfInBounds_toArray, List.set_cons_zero, List.set_cons_succ]
      refine wpAnyH_take (i := 8) (v := ?vz8) rfl (by kernel_rfl) (by kernel_rfl) (by kernel_rfl) (fun _ _ _ h => h) (Or.inl ⟨by rfl, ?hyz8⟩) (by first | assumption | exact trivial) ?restz8
      case hyz8 => intro W hSW; go_simp; try (with_reducible rfl)
      simp only [Act.put, List.getElem_toArray, List.getElem_cons_succ, List.getElem_cons_zero, List.setIfInBounds_toArray, List.set_cons_zero, List.set_cons_succ]
      refine wpAnyH_take (i := 9) (v := ?vz9) rfl (by kernel_rfl) (by kernel_rfl) (by kernel_rfl) (fun _ _ _ h => h) (Or.inl ⟨by rfl, ?hyz9⟩) (by first | assumption | exact trivial) ?restz9
      case hyz9 => intro W hSW; go_simp; try (with_reducible rfl)
      simp only [Act.put, List.getElem_toArray, List.getElem_cons_succ, List.getElem_cons_zero, List.setIfInBounds_toArray, List.set_cons_zero, List.set_cons_succ]
      refine wpAnyH_take (i := 10) (v := ?vz10) rfl (by kernel_rfl) (by kernel_rfl) (by kernel_rfl) (fun _ _ _ h => h) (Or.inl ⟨by rfl, ?hyz10⟩) (by first | assumption | exact trivial) ?restz10
      case hyz10 => intro W hSW; go_simp; try (with_reducible rfl)
      simp only [Act.put, List.getElem_toArray, List.getElem_cons_succ, List.getElem_cons_zero, List.setIfInBounds_toArray, List.set_cons_zero, List.set_cons_succ]
      refine wpAnyH_take (i := 11) (v := ?vz11) rfl (by kernel_rfl) (by kernel_rfl) (by kernel_rfl) (fun _ _ _ h => h) (Or.inl ⟨by rfl, ?hyz11⟩) (by first | assumption | exact trivial) ?restz11
      case hyz11 => intro W hSW; have q11 := (But.cell (i := 1) hSW.1 HF2.out.lt HEN.out.symm).trans K1.out; go_simp; try (with_reducible rfl)
      simp only [Act.put, List.getElem_toArray, List.getElem_cons_succ, List.getElem_cons_zero, List.setIfInBounds_toArray, List.set_cons_zero, List.set_cons_succ]
      refine wpAnyH_ready (rs := [7]) (by kernel_rfl) (by simp) ?_
      refine AllReadyH.cons rfl (fun K hK => ?_) AllReadyH.nil
      go_simp
      go_wp2_with (go_at_call 49; refine (HCP.out _ ((Below.refl _ w2).drew)).mono ?_; rintro e w3 ⟨rfl, hr3, hb3⟩)
      have S3 : Below w2.heap.size w2 w3 := ((Below.refl _ w2).drew).trans hb3.out
      refine hK.out _ _ (⟨But.of_below S3, Nat.le_trans HS2.out S3.size⟩) (fun hHeld => ?_)
      clear hK K
      refine wpAnyH_take (i := 12) (v := ?vz12) rfl (by kernel_rfl) (by kernel_rfl) (by kernel_rfl) (fun _ _ _ h => h) (Or.inl ⟨by rfl, ?hyz12⟩) (by first | assumption | exact trivial) ?restz12
      case hyz12 => intro W hSW; go_simp; try (with_reducible rfl)
      simp only [Act.put, List.getElem_toArray, List.getElem_cons_succ, List.getElem_cons_zero, List.setIfInBounds_toArray, List.set_cons_zero, List.set_cons_succ]
      have HR3 := hr3
      have HS4 : Hid (Below w2.heap.size w2 (w3.alloc (.cells #[.slice (some ⟨w2.heap.size, 0, none⟩) L L, .int .i64 (q : Int)] 70))) := Me.below_alloc S3
      have HF4 : Hid (FileIn (w3.alloc (.cells #[.slice (some ⟨w2.heap.size, 0, none⟩) L L, .int .i64 (q : Int)] 70)) w3.heap.size (.slice (some ⟨w2.heap.size, 0, none⟩) L L) f) := by
        have h1 : Me.Row w3 w2.heap.size f.bytes := hr3.out
        have h2 := file_boxed h1 (by rw [HL.out]; omega) q
        rw [HL.out] at h2
        have e : (⟨f.bytes, q⟩ : Fl) = f := by rw [← HQ.out]
        rw [e] at h2
        exact h2
      have HS3 : Hid (w2.heap.size < w3.heap.size) := hr3.out.lt
      clear hr3 hb3
      refine wpAnyH_ready (rs := [13]) (by kernel_rfl) (by simp) ?_
      refine AllReadyH.cons rfl (fun K hK => ?_) AllReadyH.nil
      go_simp
      go_wp2
      refine hK.out _ _ (⟨But.of_below HS4.out, Nat.le_trans HS2.out HS4.out.size⟩) (fun hHeld => ?_)
      clear hK K
      obtain ⟨w4, hw4⟩ : ∃ w4, w3.alloc (.cells #[.slice (some ⟨w2.heap.size, 0, none⟩) L L, .int .i64 (q : Int)] 70) = w4 := ⟨_, rfl⟩
      rw [hw4] at HS4 HF4 ⊢
      clear hw4
      refine wpAnyH_ready (rs := [14]) (by kernel_rfl) (by simp) ?_
      refine AllReadyH.cons rfl (fun K hK => ?_) AllReadyH.nil
      rw [if_pos (by kernel_rfl)]
      have m4 : Mf (fun k => n + 2 < k ∧ k < w2.heap.size) w4 (n + 1) (keptP s.files ss) ss.length := HM2.out.keep (HS4.out.block _ HM2.out.lt) fun k hk he => ⟨HS4.out.block k hk, he, hk⟩
      have l2 : ss.length < maxLen := by have := hle.out; have := HSZ.out; unfold maxLen; omega
      have e1 : ¬ (n + 2 < w3.heap.size ∧ w3.heap.size < w2.heap.size) := by have := HS3.out; omega
      have e2 : ∀ k, (Value.slice (some ⟨w2.heap.size, 0, none⟩) L L).ownBlock = some k → ¬ (n + 2 < k ∧ k < w2.heap.size) := fun k e => by
        simp only [Value.ownBlock, Option.some.injEq] at e
        omega
      refine putM (.tmp 24) (.tmp 25) (.tmp 36) rfl (fun k => n + 2 < k ∧ k < w2.heap.size) (n + 1) ss.length (keptP s.files ss) x w3.heap.size (.slice (some ⟨w2.heap.size, 0, none⟩) L L) f rfl rfl rfl m4 HXL.out l2 HF4.out e1 e2 ?_
      intro w5 hm5 hb5 hs5 hk5
      clear hk5 m4 e1 e2
      rw [keptP_not HNSS.out, keptP_snoc HFL.out] at hm5
      have HM5 : Hid (Mf (fun k => n + 2 < k) w5 (n + 1) (keptP s.files (ss ++ [x])) (ss ++ [x]).length) := by
        show Mf _ _ _ _ _
        rw [List.length_append]
        refine hm5.mono fun k _ hk => ?_
        have a1 := HS2.out
        have a2 := HS3.out
        rcases hk with hk | hk | hk
        · exact hk.1
        · omega
        · simp only [Value.ownBlock, Option.some.injEq] at hk
          omega
      have HB5 : Hid (But (fun k => k = n + 1) w2 w5) := (But.of_below HS4.out).trans hb5 fun _ _ e => e
      have HS5 : Hid (n + 3 ≤ w5.heap.size) := by have := HS2.out; have := HB5.out.size; show _ ≤ _; omega
      clear hm5 hb5 hs5
      simp only [Act.put, List.getElem_toArray, List.getElem_cons_succ, List.getElem_cons_zero, List.setIfInBounds_toArray, List.set_cons_zero, List.set_cons_succ]
      refine hK.out _ _ (⟨HB5.out, HS5.out⟩) (fun hHeld => ?_)
      clear hK K
      refine wpAnyH_done (by kernel_rfl) ?_ _
      have HRG5 := Lib.hid (ranges_same HRG2.out (HB5.out.same mb (by have := HS2.out; have := HBX2.out; omega) (by have := HBX2.out; omega)) (HB5.out.same (n + 2) (by have := HS2.out; omega) (by omega)))
      go_roundw
      case rel =>
        refine ⟨_, _, _, _, _, _, _, _, _, _, _, _, _, _, _, _, _, _, _, _, _, ⟨_, cnt2, ss ++ [x], HRG5, HC2, by show (ss ++ [x]).length + cnt2 ≤ _; have := hle.out; have := HLT.out; simp; omega, HM5, (HB5.out.same n (by have := HS2.out; omega) (by omega)).trans HD2.out, HB2.out.trans ?_, HS5⟩, rfl⟩
        exact ⟨HB5.out.os, HB5.out.tape, HB5.out.output, HB5.out.size, fun k hk => HB5.out.same k (by have := HS2.out; omega) (by omega)⟩
      case measure => rw [HRG5.out.left_eq, hrg.out.left_eq]; exact HLT.out
end Go.Proofs.YtbacgljeadalbaaGreatDoor.Dk
/- The log's Open on a disk that has power and keeps it, from the first segment on. -/
namespace Go.Proofs.YtbacgljeadalbaaGreatDoor.Wl
open Go.RowKit
open Go.Proofs.YtbacgljeadalbaaGreatDoor.Me Go.Proofs.YtbacgljeadalbaaGreatDoor.Hd Go.Proofs.YtbacgljeadalbaaGreatDoor.Dk Go.Proofs.YtbacgljeadalbaaGreatDoor.Rc
set_option linter.unusedVariables false
set_option linter.unusedSimpArgs false

/-- What Open answers, and leaves. -/
def OnP (G : Nat → Prop) (w : World) (D mb size : Nat) (s : St) (e : Ending) (w' : World) : Prop :=
  ∃ (s' : St) (last : Nat) (ps : List (List Nat)) (v : Value) (X : Nat) (G' : Nat → Prop), e = .returned (.tuple #[.pointer (some ⟨X, 0, none⟩), v, .int .i64 0]) ∧ Hid (Opens s s' last ps) ∧ Hid (Rws (fun k => w.heap.size ≤ k ∧ ¬ G' k) w' v ps) ∧ Hid (Lq G' w' X D mb s' ⟨last, false⟩ size) ∧ Hid (∀ k, G' k → G k ∨ w.heap.size ≤ k) ∧ Hid (But G w w')
/-- The disk's blocks behind the first removal, and the log's. -/
def Gx (G : Nat → Prop) (n m X k : Nat) : Prop := ((G k ∨ n ≤ k) ∧ k < m) ∨ k = X
section
variable {G : Nat → Prop} (w : World) (D mb : Nat) (s : St) (size : Nat)
theorem lq_new {w3 : World} {n : Nat} (hd : Dq (Gn G n) w3 D mb s) (hs : Good s ⟨1, false⟩) (hc : size ≤ 1048576) (o : Obj) :
    Lq (Gx G n w3.heap.size w3.heap.size) ((w3.alloc (.cells (lcs D ⟨1, false⟩ size) 59 (0, 0))).alloc o) w3.heap.size D mb s ⟨1, false⟩ size := by
  have b1 : Below w3.heap.size w3 (w3.alloc (.cells (lcs D ⟨1, false⟩ size) 59 (0, 0))) := Me.below_alloc (Below.refl _ _)
  have b2 : Below w3.heap.size w3 ((w3.alloc (.cells (lcs D ⟨1, false⟩ size) 59 (0, 0))).alloc o) := Me.below_alloc b1
  refine ⟨?_, ((hd.mono (G' := Bx (Gx G n w3.heap.size w3.heap.size) w3.heap.size) fun k hk e => ⟨.inl ⟨e, hk⟩, by omega⟩)).below b2, .inr rfl, hs, hc⟩
  rw [Below.heap_alloc _ o w3.heap.size (by simp)]
  exact heap_alloc_new w3 _
/-- The world in which load is called. -/
abbrev opW (w3 : World) (D size : Nat) : World := (w3.alloc (.cells (lcs D ⟨1, false⟩ size) 59 (0, 0))).alloc (.cells #[.pointer (some ⟨w3.heap.size, 0, none⟩)] 28 (0, 0))
/-- The blocks of the disk and of the log behind load. -/
def G6 (G : Nat → Prop) (w2 w3 w6 : World) (D size t t2 : Nat) : Nat → Prop := Lo (Mid (Lo (Gx G w2.heap.size w3.heap.size w3.heap.size) (opW w3 D size).heap.size) t t2) w6.heap.size
theorem opW_size (w3 : World) (D size : Nat) : (opW w3 D size).heap.size = w3.heap.size + 2 := by simp [opW]
theorem g6_in {w2 w3 w6 : World} {t t2 k : Nat} (h : G6 G w2 w3 w6 D size t t2 k) : k < w6.heap.size ∧ (((G k ∨ w2.heap.size ≤ k) ∧ k < w3.heap.size) ∨ k = w3.heap.size ∨ (t ≤ k ∧ k < t2)) := by
  refine ⟨h.2, ?_⟩
  rcases h.1 with h | h
  · rcases h.1 with h | h
    · exact .inl h
    · exact .inr (.inl h)
  · exact .inr (.inr h)
/-- The calls behind load. -/
theorem tail_facts {W : World} {X bL last : Nat} {s1 : St} (h : Hid (Lq G W X D mb s1 ⟨last, false⟩ size)) (hc : Calm s1) (hlow : ∀ k, G k → k < W.heap.size) (hb : W.cell? ⟨bL, 0, none⟩ = some (.pointer (some ⟨X, 0, none⟩))) (hbl : bL < W.heap.size) :
    ∃ K, Hid (Calls Tryz.prog 38 #[.pointer (some ⟨D, 0, none⟩), .func (.func 42) #[] #[.pointer (some ⟨bL, 0, none⟩)]] W fun e w' => ∃ A c, e = .returned (.slice A K c) ∧ Hid (Mi.Own w' W.heap.size (.slice A K c) (intsL (segs s1.files fun k => decide (last < k)))) ∧ Hid (Below W.heap.size W w')) ∧
    Hid (∀ w7 A c, Mi.Own w7 W.heap.size (.slice A K c) (intsL (segs s1.files fun k => decide (last < k))) → Below W.heap.size W w7 → Calls Tryz.prog 43 #[.slice A K c] w7 fun e w' => e = .returned (.tuple #[]) ∧ Hid (Mi.Rd w' w'.heap.size A (intsL (segs s1.files fun k => decide (last < k)).reverse)) ∧ Hid (But (fun k => W.heap.size ≤ k) w7 w')) ∧
    Hid (∀ w7 w8 A c, Mi.Own w7 W.heap.size (.slice A K c) (intsL (segs s1.files fun k => decide (last < k))) → Below W.heap.size W w7 → But (fun k => W.heap.size ≤ k) w7 w8 → Mi.Rd w8 w8.heap.size A (intsL (segs s1.files fun k => decide (last < k)).reverse) → Calls Tryz.prog 40 #[.pointer (some ⟨D, 0, none⟩), .slice A K c] w8 fun e w' => e = .returned (.int .i64 0) ∧ Hid (Lq (Gn G w8.heap.size) w' X D mb (trim s1 last) ⟨last, false⟩ size) ∧ Hid (But G w8 w')) := by
  have ok := h.out.good.ok
  have hs := h.out.good.seg
  have hlen : (intsL (segs s1.files fun k => decide (last < k))).length ≤ 64 := by
    rw [ints_len]
    exact Nat.le_trans (segs_len _ _) ok.cnt
  refine ⟨(intsL (segs s1.files fun k => decide (last < k))).length, ?_, fun w7 A c q1 q2 => ?_, fun w7 w8 A c q1 q2 q3 q4 => ?_⟩
  · refine (segments_any W D mb s1 h.out.dq ok hs 42 #[.pointer (some ⟨bL, 0, none⟩)] (enters_of Tryz.func42 (by kernel_rfl) rfl) (fun k => decide (last < k)) (ask_highs hb hbl h.out.c2 h.out.lt)).mono fun e w' ⟨v, q1, q2, q3⟩ => ?_
    obtain ⟨A, c, rfl, _⟩ := q2.out.form
    exact ⟨A, c, q1, q2, q3⟩
  · refine (rev_any w7 W.heap.size A c _ q1 (by omega)).mono fun e w' ⟨k1, k2, k3⟩ => ⟨k1, ?_, k3⟩
    rw [ints_rev] at k2
    exact k2
  · have hl8 : Lq G w8 X D mb s1 ⟨last, false⟩ size := (h.out.below q2).but q3 fun k hk e => by have := hlow k hk; omega
    have hA : ∀ a, A = some a → ¬ Bx G X a.block := fun a e e2 => by
      obtain ⟨A', c', e', _, _, _, _, q5⟩ := q1.form
      injection e' with e1 e2' e3
      subst e1
      have := (q5 a e).1
      have := hlow _ e2.1
      omega
    have hN : ∀ k ∈ (segs s1.files fun k => decide (last < k)).reverse, isN k := fun k hk => (segs_there hs ok _ k (List.mem_reverse.1 hk)).1
    have hr := remove_any w8 D mb s1 hl8.dq ok A c _ q4 hA hN (by rw [List.length_reverse]; rw [ints_len] at hlen; omega)
    rw [rem_above hs ok hc last, List.length_reverse] at hr
    rw [ints_len]
    have hok : Good (trim s1 last) ⟨last, false⟩ := ⟨ok_filter ok _, hs.sub fun p hp => ⟨p, (List.mem_filter.1 hp).1, rfl⟩, h.out.good.num⟩
    refine hr.mono fun e w' ⟨k1, k2, k3⟩ => ?_
    obtain ⟨z1, z2⟩ := hl8.disk k2.out k3.out hok
    exact ⟨k1, z1, z2⟩
set_option maxHeartbeats 4000000 in
theorem Open_any (h : Hid (Dq G w D mb s)) (ok : Hid s.Ok) (hs : Hid (Seg s.files)) (hc : Hid (Calm s)) (h1 : 16 ≤ size) (h2 : size ≤ 1048576) (hG : Hid (∀ k, G k → k < w.heap.size)) :
    Calls Tryz.prog 17 #[.pointer (some ⟨D, 0, none⟩), .int .i64 1, .int .i64 (size : Int)] w (OnP G w D mb size s) := by
  have HNm : Hid (∀ W, Calls Tryz.prog 28 #[.int .i64 1] W fun e w' => e = .returned (.bool true) ∧ W = w') := fun W => isNumber_any 1 W
  have g1 : (16 : Int) ≤ (size : Int) := by omega
  have g2 : (size : Int) ≤ 1048576 := by omega
  have hgd : Good s ⟨1, false⟩ := ⟨ok.out, hs.out, (show isN 1 from ⟨by omega, by omega⟩)⟩
  have HGd := Lib.hid hgd
  -- the first box
  obtain ⟨w1, hw1⟩ : ∃ w1, w.alloc (.cells #[.int .i64 1] 3) = w1 := ⟨_, rfl⟩
  have hb1 : Below w.heap.size w w1 := by rw [← hw1]; exact Me.below_alloc (Below.refl _ _)
  have hbl : w.heap.size < w1.heap.size := by rw [← hw1]; simp
  have hbc : w1.cell? ⟨w.heap.size, 0, none⟩ = some (.int .i64 1) := by rw [← hw1, cell_of_row _ w.heap.size 0 _ _ (0, 0) (heap_alloc_new w _)]; rfl
  have HDn : Hid (Calls Tryz.prog 33 #[.pointer (some ⟨D, 0, none⟩)] w1 fun e w' => e = .returned (.bool false) ∧ w1 = w') := by
    have := Down_any w1 D mb s (h.out.below hb1)
    rw [hc.out.1] at this
    exact this
  have HSg : Hid (Calls Tryz.prog 38 #[.pointer (some ⟨D, 0, none⟩), .func (.func 39) #[] #[.pointer (some ⟨w.heap.size, 0, none⟩)]] w1 fun e w' => ∃ A c, e = .returned (.slice A 0 c) ∧ Hid (∀ a, A = some a → w1.heap.size ≤ a.block) ∧ Hid (Below w1.heap.size w1 w')) := by
    have := segments_any w1 D mb s (h.out.below hb1) ok hs 39 #[.pointer (some ⟨w.heap.size, 0, none⟩)] (enters_of Tryz.func39 (by kernel_rfl) rfl) (fun k => decide (k < 1)) (ask_lows hbc hbl)
    rw [segs_none hs.out] at this
    refine this.mono fun e w' ⟨v, q1, q2, q3⟩ => ?_
    obtain ⟨A, c, rfl, _, _, _, _, q4⟩ := q2.out.form
    exact ⟨A, c, q1, fun a e => (q4 a e).1, q3⟩
  have HRm : Hid (∀ W A c, Below w1.heap.size w1 W → (∀ a, A = some a → w1.heap.size ≤ a.block) → Calls Tryz.prog 40 #[.pointer (some ⟨D, 0, none⟩), .slice A 0 c] W fun e w' => e = .returned (.int .i64 0) ∧ Hid (Dq (Gn G W.heap.size) w' D mb s) ∧ Hid (But G W w')) := fun W A c hW hA => by
    have hd : Dq (Lo G w1.heap.size) W D mb s := ((h.out.below hb1).mono (G' := Lo G w1.heap.size) fun k hk e => ⟨e, hk⟩).below hW
    have hO := remove_any W D mb s hd ok A c [] (Mi.Rd.nil _ _ _) (fun a e => fun e2 => by have := hA a e; have := e2.2; omega) (fun k hk => absurd hk (by simp)) (by simp)
    exact hO.mono fun e w' ⟨q1, q2, q3⟩ => ⟨q1, q2.out.mono fun k _ hk => hk.imp (fun e => e.1) id, q3.out.mono fun k _ e => e.1⟩
  have HB1 := Lib.hid hb1
  have HLd : Hid (∀ w2 w3 : World, Dq (Gn G w2.heap.size) w3 D mb s → Calls Tryz.prog 41 #[.pointer (some ⟨w3.heap.size, 0, none⟩)] (opW w3 D size) (LoP (Gx G w2.heap.size w3.heap.size w3.heap.size) (opW w3 D size) w3.heap.size D mb size s ⟨1, false⟩)) := fun w2 w3 hd =>
    load_any _ w3.heap.size D mb s ⟨1, false⟩ size (lq_new D mb s size hd HGd.out h2 _).low hc rfl
  have HBx : Hid (∀ w2 w3 w6 : World, But (Lo (Gx G w2.heap.size w3.heap.size w3.heap.size) (opW w3 D size).heap.size) (opW w3 D size) w6 → w6.cell? ⟨w3.heap.size + 1, 0, none⟩ = some (.pointer (some ⟨w3.heap.size, 0, none⟩)) ∧ w3.heap.size + 1 < w6.heap.size) := fun w2 w3 w6 hb => by
    have hsz := opW_size w3 D size
    have hle := hb.size
    refine ⟨?_, by omega⟩
    rw [Dk.But.cell hb (b := w3.heap.size + 1) (i := 0) (by omega) (fun e => ?_)]
    · rw [cell_of_row (opW w3 D size) (w3.heap.size + 1) 0 _ _ (0, 0) (by have := heap_alloc_new (w3.alloc (.cells (lcs D ⟨1, false⟩ size) 59 (0, 0))) (.cells #[.pointer (some ⟨w3.heap.size, 0, none⟩)] 28 (0, 0)); rwa [World.size_alloc] at this)]
      rfl
    · rcases e.1 with e | e
      · omega
      · omega
  have HTl := Lib.hid (fun (w2 w3 w6 : World) (s1 : St) (last t t2 : Nat) (ps : List (List Nat)) (hl : Lq (Mid (Lo (Gx G w2.heap.size w3.heap.size w3.heap.size) (opW w3 D size).heap.size) t t2) w6 w3.heap.size D mb s1 ⟨last, false⟩ size) (hb : But (Lo (Gx G w2.heap.size w3.heap.size w3.heap.size) (opW w3 D size).heap.size) (opW w3 D size) w6) (ho : Loads s s1 last ps) =>
    tail_facts (G := G6 G w2 w3 w6 D size t t2) D mb size (bL := w3.heap.size + 1) (Lib.hid hl.low) (loads_calm ok.out hc.out ho) (fun k e => (g6_in D size e).1) (HBx.out w2 w3 w6 hb).1 (HBx.out w2 w3 w6 hb).2)
  have HEnd : Hid (∀ (w2 w3 w6 w7 w8 w9 : World) (s1 : St) (last t t2 : Nat) (ps : List (List Nat)) (v : Value), Below w1.heap.size w1 w2 → But G w2 w3 → Loads s s1 last ps → (opW w3 D size).heap.size ≤ t → Rws (fun k => (opW w3 D size).heap.size ≤ k ∧ ¬ (t ≤ k ∧ k < t2)) w6 v ps → But (Lo (Gx G w2.heap.size w3.heap.size w3.heap.size) (opW w3 D size).heap.size) (opW w3 D size) w6 →
      Below w6.heap.size w6 w7 → But (fun k => w6.heap.size ≤ k) w7 w8 → Lq (Gn (G6 G w2 w3 w6 D size t t2) w8.heap.size) w9 w3.heap.size D mb (trim s1 last) ⟨last, false⟩ size → But (G6 G w2 w3 w6 D size t t2) w8 w9 →
      OnP G w D mb size s (.returned (.tuple #[.pointer (some ⟨w3.heap.size, 0, none⟩), v, .int .i64 0])) w9 ∧ w9.cell? ⟨w3.heap.size + 1, 0, none⟩ = some (.pointer (some ⟨w3.heap.size, 0, none⟩))) := fun w2 w3 w6 w7 w8 w9 s1 last t t2 ps v k2 k3 ho ht hv k6 k7 k8 l9 k9 => by
    have hsz := opW_size w3 D size
    have z1 := HB1.out.size
    have z2 := k2.size
    have z3 := k3.size
    have z6 := k6.size
    have z7 := k7.size
    have z8 := k8.size
    refine ⟨⟨trim s1 last, last, ps, v, w3.heap.size, Gn (G6 G w2 w3 w6 D size t t2) w8.heap.size, rfl, ⟨s1, ho, rfl⟩, ?_, l9, fun k e => ?_, ?_⟩, ?_⟩
    · have hv6 : Rws (fun k => ((opW w3 D size).heap.size ≤ k ∧ ¬ (t ≤ k ∧ k < t2)) ∧ k < w6.heap.size) w6 v ps := hv.mono fun k hk e => ⟨e, hk⟩
      have hv8 := (hv6.below k7).but k8 fun k e e2 => by omega
      refine (hv8.but k9 fun k e e2 => ?_).mono fun k _ e => ⟨by omega, fun e2 => ?_⟩
      · rcases (g6_in D size e2).2 with q | q | q
        · omega
        · omega
        · exact e.1.2 q
      · rcases e2 with e2 | e2
        · rcases (g6_in D size e2).2 with q | q | q
          · omega
          · omega
          · exact e.1.2 q
        · omega
    · rcases e with e | e
      · rcases (g6_in D size e).2 with q | q | q
        · exact q.1.imp id fun q => by omega
        · exact .inr (by omega)
        · exact .inr (by omega)
      · exact .inr (by omega)
    · have b3 : But G w w3 := (But.of_below (S := G) (HB1.out.trans (k2.mono HB1.out.size))).trans k3 fun _ _ e => e
      have b5 : But G w (opW w3 D size) := (b3.alloc _).alloc _
      have b6 : But G w w6 := b5.trans k6 fun k hk e => by
        rcases e.1 with e | e
        · rcases e.1 with e | e
          · exact e
          · omega
        · omega
      have b7 : But G w w7 := b6.trans (But.of_below (S := fun _ => False) k7) fun _ _ e => e.elim
      have b8 : But G w w8 := b7.trans k8 fun k hk e => by omega
      exact b8.trans k9 fun k hk e => by
        rcases (g6_in D size e).2 with q | q | q
        · exact q.1.elim id fun q => by omega
        · omega
        · omega
    · have hk := HBx.out w2 w3 w6 k6
      rw [Dk.But.cell k9 (b := w3.heap.size + 1) (i := 0) (by omega) (fun e => ?_), Dk.But.cell k8 (b := w3.heap.size + 1) (i := 0) (by omega) (by omega), k7.cell (p := ⟨w3.heap.size + 1, 0, none⟩) hk.2]
      · exact hk.1
      · rcases (g6_in D size e).2 with q | q | q
        · omega
        · omega
        · omega
  have HK3 : Hid (∀ w2 w3, Below w1.heap.size w1 w2 → But G w2 w3 → w3.cell? ⟨w.heap.size, 0, none⟩ = some (.int .i64 1)) := fun w2 w3 k2 k3 => by
    have z2 := k2.size
    rw [Dk.But.cell k3 (b := w.heap.size) (i := 0) (by omega) (fun e => by have := hG.out _ e; omega), k2.cell (p := ⟨w.heap.size, 0, none⟩) hbl]
    exact hbc
  have HW1 := Lib.hid hw1
  clear hb1 hbl hgd HGd HBx hw1 h1 h2 h ok hs hc HB1
  go_enter Tryz.func17, Tryz.ntmps17
  go_wp2_with (first
    | (go_at_call 28; refine (HNm.out _).mono ?_; rintro e w' ⟨rfl, rfl⟩; rw [HW1.out])
    | (go_at_call 33; refine HDn.out.mono ?_; rintro e w' ⟨rfl, rfl⟩)
    | (go_at_call 38; ((with_reducible refine HSg.out.mono ?_); rintro e w2 ⟨A, c, rfl, hA, b2⟩))
    | (go_at_call 40; ((with_reducible refine (HRm.out w2 A c b2.out hA.out).mono ?_); rintro e w3 ⟨rfl, d3, b3⟩; have k3 := HK3.out w2 w3 b2.out b3.out; have HL3 := Lib.hid (HLd.out w2 w3 d3.out)))
    | (go_at_call 41; refine HL3.out.mono ?_; rintro e w6 ⟨s1, last, ps, v, t, t2, rfl, hLo, ht, hR, hL, hB⟩; obtain ⟨K, HS2, HRv, HRm2⟩ := HTl.out w2 w3 w6 s1 last t t2 ps hL.out hB.out hLo.out)
    | (go_at_call 38; refine HS2.out.mono ?_; rintro e w7 ⟨A7, c7, rfl, o7, b7⟩)
    | (go_at_call 43; refine (HRv.out w7 A7 c7 o7.out b7.out).mono ?_; rintro e w8 ⟨rfl, r8, b8⟩)
    | (go_at_call 40; refine (HRm2.out w7 w8 A7 c7 o7.out b7.out b8.out r8.out).mono ?_; rintro e w9 ⟨rfl, l9, b9⟩; obtain ⟨hE, k9⟩ := HEnd.out w2 w3 w6 w7 w8 w9 s1 last t t2 ps v b2.out b3.out hLo.out ht.out hR.out hB.out b7.out b8.out l9.out b9.out; have HE := Lib.hid hE; clear hE))
  go_returns
  exact HE.out
end
end Go.Proofs.YtbacgljeadalbaaGreatDoor.Wl
