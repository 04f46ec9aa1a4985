/- The walk of the law RecordTurns. -/
import Derived.Test.YtcdijhenfddmcaaRcCuts
import Derived.Test.YtcdijhenfddmcaaSameQ
import Derived.Deep.RegionHeld
import Derived.StillTailTactics
namespace Go.Proofs.Ytcdijhenfddmcaa.Rc
open Go.RowKit
open Go.Proofs.Ytcdijhenfddmcaa.Me Go.Proofs.Ytcdijhenfddmcaa.Ma Go.Proofs.Ytcdijhenfddmcaa.Hd
set_option linter.unusedVariables false
set_option linter.unusedSimpArgs false

theorem u8_nat {m : Int} (h : (Lit.int .u8 m).wf = true) : ∃ k : Nat, m = (k : Int) ∧ k < 256 := by
  have := bounds_u8 h
  exact ⟨m.toNat, by omega, by omega⟩
theorem rem_below (N : Int) (m : Nat) (h0 : 0 < m) : ∃ a t : Nat, IntKind.u64.wrap N = (a : Int) ∧ ((a : Int).tmod (m : Int)) = (t : Int) ∧ t < m := by
  obtain ⟨a, ha⟩ : ∃ a : Nat, IntKind.u64.wrap N = (a : Int) := by
    refine ⟨(IntKind.u64.wrap N).toNat, ?_⟩
    simp [IntKind.wrap, IntKind.bits, IntKind.signed]
    omega
  exact ⟨a, a % m, ha, by rw [← Int.ofNat_tmod], Nat.mod_lt a h0⟩
theorem ahead_lt {ps : List (List Nat)} {t : Nat} (h : t < siz ps) : ahead ps t < ps.length := by
  have h1 := ahead_le ps t
  apply Classical.byContradiction
  intro hn
  have hK : ahead ps t = ps.length := by omega
  rcases Nat.eq_zero_or_pos ps.length with h0 | hp
  · rw [List.eq_nil_of_length_eq_zero h0] at h
    simp [siz] at h
  · have h2 := (ahead_iff ps t (ps.length - 1) (by omega)).mp (by omega)
    rw [show ps.length - 1 + 1 = ps.length by omega, offs_end] at h2
    omega
set_option maxRecDepth 100000 in
set_option maxHeartbeats 2000000 in
/-- No byte is turned: all is told. -/
theorem turns_none {H : Type} (a : Option Addr) (cap : Nat) (ls : List (List Nat)) (at_ : Int) (mk : Nat) (w : World) (hlst : Me.Lst w w.heap.size a ls) (hnil : Me.Nils w a ls) (hll : ls.length ≤ 9223372036854775807) (hbk : ls.flatten.length + ls.length ≤ 1048576)
    (h : (flatR (fitL ls)).length = 0 ∨ mk = 0) :
    Calls Try.prog 8 #[.slice a ls.length cap, .int .i64 at_, .int .u8 (mk : Int)] w fun e w' => e = .returned (.bool true) ∧ Below w.heap.size w w' := by
  have hb := Me.Lst.bytes hlst
  have hfine := fitL_fine hb
  have hsz := fitL_siz ls
  have hln := fitL_len ls
  have D1 := All_q a cap ls w hlst hnil hll hbk
  have hfl := flat_length (fitL ls)
  have hfb := flat_bytes hfine
  have hpb := fit_bytes hb
  have hrf := recs_flat hfine
  obtain ⟨ps, hps⟩ : ∃ ps, fitL ls = ps := ⟨_, rfl⟩
  rw [hps] at D1 hfine hsz hln hfl hfb hpb hrf h
  have D2 := fun (W : World) (A1 : Option Addr) (c1 : Nat) (hr : Hid (Rd W W.heap.size A1 (flatR ps))) (q1 : (flatR ps).length ≤ c1) (q2 : c1 ≤ 9223372036854775807) =>
    (Scan_any A1 c1 (flatR ps) W hr q1 q2 (by omega)).mono fun _ _ h => h.q hfb
  rw [hrf] at D2
  have D3 := fun (W : World) (A A' : Option Addr) (c c' : Nat) (q1) (q2) (q3) (q4) => Same_any W A A' c c' ps ps q1 q2 q3 q4 (by omega)
  simp only [decide_true] at D3
  obtain ⟨all, hall⟩ : ∃ all, flatR ps = all := ⟨_, rfl⟩
  rw [hall] at D1 hfl hfb h
  simp only [hall] at D2
  obtain ⟨m, hm⟩ : ∃ m, all.length = m := ⟨_, rfl⟩
  obtain ⟨K, hK⟩ : ∃ K, ps.length = K := ⟨_, rfl⟩
  obtain ⟨z, hz⟩ : ∃ z, siz ps = z := ⟨_, rfl⟩
  rw [hm, hK] at D1
  rw [hm] at D2 h
  simp only [hK, hz] at D2
  simp only [hK] at D3
  have HD1 := Lib.hid D1
  have HD2 := Lib.hid D2
  have HD3 := Lib.hid D3
  have HPB := Lib.hid hpb
  have hcond : ((m : Int) == 0) = true ∨ (((m : Int) == 0) = false ∧ mk = 0) := by
    rcases Nat.eq_zero_or_pos m with h0 | hp
    · left; rw [beq_iff_eq]; omega
    · right; exact ⟨by rw [beq_eq_false_iff_ne]; omega, by omega⟩
  clear D1 D2 D3 hall hm hK hz hfl hps hsz hln hfb hpb hfine hbk hb hlst hnil hrf h
  rcases hcond with q1 | ⟨q1, rfl⟩
  all_goals
    go_enter Try.func8, Try.ntmps8
    go_wp2_with (first
      | (go_at_call 18; refine HD1.out.mono ?_; rintro e w1 ⟨A1, c1, A2, c2, rfl, g1, g2, g3, g4, HR1, HN1, HL1, HI1, HW1, HB1⟩)
      | (go_at_call 14; ((with_reducible refine (HD2.out w1 A1 c1 HR1 g1 g2).mono ?_); rintro e w2 ⟨A3, c3, rfl, HR2, HB2⟩; obtain ⟨A4, c4, e4', _, _, q3, q4, _⟩ := HR2.out.lst HPB.out; simp only [Value.slice.injEq] at e4'; obtain ⟨rfl, hq0, rfl⟩ := e4'; clear hq0; have HL2 := Lib.hid q3; have HI2 := Lib.hid q4; have HL3 : Hid (Me.Lst w2 w2.heap.size A2 ps) := lst_go HL1.out HB2.out; have HI3 : Hid (Me.Nils w2 A2 ps) := nils_below HI1.out HL1.out HB2.out; have BW2 : Hid (Below w.heap.size w w2) := HB1.out.trans (HB2.out.mono HB1.out.size); clear q3 q4))
      | (go_at_call 16; ((with_reducible refine (HD3.out w2 _ _ _ _ HL2 HI2 HL3 HI3).mono ?_); rintro e w3 ⟨rfl, HB3⟩; have BW3 : Hid (Below w.heap.size w w3) := BW2.out.trans (HB3.out.mono BW2.out.size)))
      | (go_at_call 11; refine (awake_below BW3).mono ?_; rintro e w4 ⟨rfl, hb4⟩))
    go_ret
    exact ⟨rfl, hb4.out⟩
theorem row_at2 {w : World} {P : Nat → Prop} {A : Option Addr} {c : Nat} {ps : List (List Nat)} (h : Rws P w (.slice A ps.length c) ps) (hb : ∀ l ∈ ps, ∀ z ∈ l, z < 256) : ∀ j, j < ps.length → ∃ g R cr, A = some ⟨g, 0, none⟩ ∧ g < w.heap.size ∧ w.cell? ⟨g, j, none⟩ = some (.slice R (lsAt ps j).length cr) ∧ Rd w w.heap.size R (lsAt ps j) := by
  intro j hj
  obtain ⟨vs, h1, _, h2, h3⟩ := h
  rcases h1.2 with ⟨e, h0⟩ | ⟨g, cp, cur, e, q1, q2, q3, q4, q5, q6⟩
  · omega
  · simp only [Value.slice.injEq, true_and] at e
    obtain ⟨rfl, rfl⟩ := e
    obtain ⟨R, cr, e3, h4, _⟩ := h3 j hj
    obtain ⟨r1, _, _, _⟩ := own_rd h4 (hb _ (by simp [lsAt, hj]))
    refine ⟨g, R, cr, rfl, (Array.getElem?_eq_some_iff.1 q2).1, ?_, r1⟩
    rw [h1.cellAt j (by omega)]
    exact e3
theorem lsAt_take {ls : List (List Nat)} {j k : Nat} (h : j < k) : lsAt (ls.take k) j = lsAt ls j := by simp [lsAt, h]
set_option maxRecDepth 100000 in
set_option maxHeartbeats 8000000 in
/-- One byte is turned. -/
theorem turns_some {H : Type} (a : Option Addr) (cap : Nat) (ls : List (List Nat)) (at_ : Int) (mk : Nat) (w : World) (hlst : Me.Lst w w.heap.size a ls) (hnil : Me.Nils w a ls) (hll : ls.length ≤ 9223372036854775807) (hbk : ls.flatten.length + ls.length ≤ 1048576)
    (h0 : 0 < (flatR (fitL ls)).length) (hmk : 0 < mk) (hmk2 : mk < 256) :
    Calls Try.prog 8 #[.slice a ls.length cap, .int .i64 at_, .int .u8 (mk : Int)] w fun e w' => e = .returned (.bool true) ∧ Below w.heap.size w w' := by
  have hb := Me.Lst.bytes hlst
  have hfine := fitL_fine hb
  have hsz := fitL_siz ls
  have hln := fitL_len ls
  have D1 := All_q a cap ls w hlst hnil hll hbk
  have hfl := flat_length (fitL ls)
  have hfb := flat_bytes hfine
  have hpb := fit_bytes hb
  obtain ⟨ps, hps⟩ : ∃ ps, fitL ls = ps := ⟨_, rfl⟩
  rw [hps] at D1 hfine hsz hln hfl hfb hpb h0
  obtain ⟨ca, t, hcu, hwt, htm⟩ := rem_below at_ (flatR ps).length h0
  obtain ⟨b, hbd⟩ : ∃ b, by_ (flatR ps) t = b := ⟨_, rfl⟩
  have hb8 : b < 256 := by rw [← hbd, by_get htm]; exact hfb _ (List.getElem_mem htm)
  have hy8 : b ^^^ mk < 256 := Nat.xor_lt_two_pow (n := 8) hb8 hmk2
  have hyne : by_ (flatR ps) t ≠ b ^^^ mk := by
    rw [hbd]
    intro e
    have : mk = 0 := by
      have h1 := congrArg (b ^^^ ·) e
      simp only [← Nat.xor_assoc, Nat.xor_self, Nat.zero_xor] at h1
      exact h1.symm
    omega
  obtain ⟨tl, q1, q2⟩ := turns ps t (b ^^^ mk) hfine htm hy8 hyne
  have hal := ahead_lt (ps := ps) (t := t) (by omega)
  have hai := fun k (hk : k < ps.length) => ahead_iff ps t k hk
  have hsb : ∀ z ∈ (flatR ps).set t (b ^^^ mk), z < 256 := fun z hz => by
    rcases List.mem_or_eq_of_mem_set hz with h | h
    · exact hfb z h
    · omega
  have hrb := recs_bytes hsb
  have hrm := recs_many ((flatR ps).set t (b ^^^ mk))
  have hrf := recs_fit (row := (flatR ps).set t (b ^^^ mk))
  have D2 := fun (W : World) (A1 : Option Addr) (c1 : Nat) (hr : Hid (Rd W W.heap.size A1 ((flatR ps).set t (b ^^^ mk)))) (q1 : ((flatR ps).set t (b ^^^ mk)).length ≤ c1) (q2 : c1 ≤ 9223372036854775807) =>
    (Scan_any A1 c1 ((flatR ps).set t (b ^^^ mk)) W hr q1 q2 (by simp; omega)).mono fun _ _ h => h.q hsb
  obtain ⟨rs, hrs⟩ : ∃ rs, recs ((flatR ps).set t (b ^^^ mk)) = rs := ⟨_, rfl⟩
  obtain ⟨kk, hkk⟩ : ∃ kk, ahead ps t = kk := ⟨_, rfl⟩
  rw [hrs] at D2 q1 hrb hrm hrf
  rw [hkk] at q1 q2 hal hai
  have hkl : (ps.take kk).length = kk := by simp; omega
  have hrt : rs.take kk = ps.take kk := by rw [q1, List.take_left' hkl]
  have hG : kk ≤ rs.length := by rw [q1, List.length_append, hkl]; omega
  have hne : kk < rs.length → (lsAt rs kk).length ≠ (lsAt ps kk).length := fun hlt => by
    have h1 : tl ≠ [] := by intro e; rw [q1, e, List.append_nil, hkl] at hlt; omega
    have h2 : lsAt rs kk = lsAt tl 0 := by
      rw [q1]
      have h3 : ¬ kk < (ps.take kk).length := by rw [hkl]; omega
      rw [lsAt_append_right h3, hkl, Nat.sub_self]
    rw [h2]; exact q2 h1
  have D3 := fun (W : World) (A A' : Option Addr) (c c' : Nat) (q1) (q2) (q3) (q4) => Same_q W A A' c c' (ps.take kk) (ps.take kk) q1 q2 q3 q4 (by rw [hkl]; omega)
  simp only [hkl, decide_true] at D3
  obtain ⟨G, hGd⟩ : ∃ G, rs.length = G := ⟨_, rfl⟩
  obtain ⟨z, hz⟩ : ∃ z, siz rs = z := ⟨_, rfl⟩
  simp only [hGd, hz, List.length_set] at D2
  rw [hGd] at hG hne hrm
  obtain ⟨m, hm⟩ : ∃ m, (flatR ps).length = m := ⟨_, rfl⟩
  obtain ⟨K, hK⟩ : ∃ K, ps.length = K := ⟨_, rfl⟩
  rw [hm, hK] at D1
  rw [hm] at D2 hwt htm h0 hfl
  rw [hK] at hal hai hln
  have hmb : m ≤ 16777216 := by omega
  have hKb : K ≤ 1048576 := by omega
  have hGb : G ≤ 16777216 := by simp only [List.length_set, hm] at hrm; omega
  have HD1 := Lib.hid D1
  have HD2 := Lib.hid D2
  have HD3 := Lib.hid D3
  have HRB := Lib.hid hrb
  have HRT := Lib.hid hrt
  have HM := Lib.hid hm
  have HKD := Lib.hid hK
  have HBD := Lib.hid hbd
  have HFB := Lib.hid hfb
  have HPF : Hid (∀ k, k < K → (lsAt ps k).length ≤ 65536) := fun k hk => by
    have := (hfine (lsAt ps k) (by simp [lsAt, hK, hk])).1
    rw [fit_iff] at this
    omega
  have HOF : Hid (∀ k, k < K → offs ps (k + 1) = offs ps k + (8 + (lsAt ps k).length)) := fun k hk => offs_step (by omega)
  have HOB : Hid (∀ k, k ≤ kk → offs ps k ≤ t) := fun k hk => by
    rcases Nat.eq_zero_or_pos k with h | h
    · rw [h, offs_zero]; omega
    · have := (hai (k - 1) (by omega)).mp (by omega)
      rwa [show k - 1 + 1 = k by omega] at this
  have HAI := Lib.hid hai
  have HNE := Lib.hid hne
  have HGD := Lib.hid hGd
  have HGLE := Lib.hid hG
  have hx8 : bits .xor .u8 (b : Int) (mk : Int) = ((b ^^^ mk : Nat) : Int) := xor8 (by unfold U8; omega) (by unfold U8; omega)
  obtain ⟨y, hyd⟩ : ∃ y, b ^^^ mk = y := ⟨_, rfl⟩
  rw [hyd] at hx8 hy8
  simp only [hyd] at HD2
  have HSB : Hid (∀ z ∈ (flatR ps).set t y, z < 256) := by rw [← hyd]; exact hsb
  have htb : (t : Int) ≤ 16777216 := by omega
  have e1 : ((m : Int) == 0) = false := by rw [beq_eq_false_iff_ne]; omega
  have e2 : ((mk : Int) == 0) = false := by rw [beq_eq_false_iff_ne]; omega
  clear D1 D2 D3 hps hfine hsz hln hfb hpb hbk hb hlst hnil hrb hrt hm hK hbd hfl hrs hkk hkl q1 q2 hai hsb hrm hrf hG hne hGd hz hyne hyd
  go_enter Try.func8, Try.ntmps8
  go_wp2_with (first
    | (go_at_call 18; refine HD1.out.mono ?_; rintro e w1 ⟨A1, c1, A2, c2, rfl, g1, g2, g3, g4, HR1, HN1, HL1, HI1, HW1, HB1⟩; obtain ⟨g5, _, _, rfl, hg5, _⟩ := HW1.out 0 (by omega))
    | (at_builtin; refine app8 (w0 := w1) rfl (.tmp 47) (.tmp 48) rfl w1.heap.size w1.heap.size _ [] (flatR ps) rfl (Own.lit (Below.refl _ _)) (below_alloc (Below.refl _ _)) (below_alloc (Below.refl _ _)).size A1 c1 (by rw [HM.out]; rfl) (HR1.out.below (below_alloc (Below.refl _ _))) (fun e => by rw [HM.out]; exact HN1.out e) (by rw [HM.out]; simp; omega) ?_; intro v2 w2 ho2 hb2 _; rw [List.nil_append] at ho2; obtain ⟨g, c3, rfl, hgw, hgl⟩ := Own.form ho2 (by rw [HM.out]; omega); obtain ⟨hcell, hfree⟩ := Own.cell ho2 (i := t) (by rw [HM.out]; exact htm); rw [HBD.out] at hcell; obtain ⟨_, _, k3, k4⟩ := own_rd ho2 HFB.out; rw [HM.out] at k3 ⊢; have HO2 := Lib.hid ho2; have HB2 := Lib.hid hb2; clear ho2 hb2)
    | (go_at_call 14; obtain ⟨r3, _, _, _⟩ := own_rd (HO2.out.store t y) HSB.out; have B3 : Hid (Below w1.heap.size w1 (w2.setCell ⟨g, t, none⟩ (.int .u8 (y : Int)))) := HB2.out.setCell (p := ⟨g, t, none⟩) hgw _; ((with_reducible refine (HD2.out (w2.setCell ⟨g, t, none⟩ (.int .u8 (y : Int))) (some ⟨g, 0, none⟩) c3 (Lib.hid r3) k3 k4).mono ?_); rintro e w4 ⟨A3, c4, rfl, HR4, HB4⟩; have B14 : Hid (Below w1.heap.size w1 w4) := B3.out.trans (HB4.out.mono B3.out.size); clear r3)))
  have BW4 : Hid (Below w.heap.size w w4) := HB1.out.trans (B14.out.mono HB1.out.size)
  have HCL : Hid (∀ k, k < K → ∃ R cr, w4.cell? ⟨g5, k, none⟩ = some (.slice R (lsAt ps k).length cr)) := fun k hk => by
    obtain ⟨g', R, cr, e, hg', hcell⟩ := HW1.out k hk
    simp only [Option.some.injEq, Addr.mk.injEq, and_true] at e
    subst e
    exact ⟨R, cr, (B14.out.cell (p := ⟨g5, k, none⟩) hg').trans hcell⟩
  have HL3 : Hid (Me.Lst w4 w4.heap.size (some ⟨g5, 0, none⟩) (ps.take kk)) := lst_take (lst_go HL1.out B14.out) kk
  have HI3 : Hid (Me.Nils w4 (some ⟨g5, 0, none⟩) (ps.take kk)) := nils_take (nils_below HI1.out HL1.out B14.out) kk
  have hgot : Hid ((G ≤ c4 ∧ c4 ≤ 9223372036854775807) ∧ Me.Lst w4 w4.heap.size A3 (ps.take kk) ∧ Me.Nils w4 A3 (ps.take kk) ∧ ∀ j, j < G → ∃ g6 R cr, A3 = some ⟨g6, 0, none⟩ ∧ w4.cell? ⟨g6, j, none⟩ = some (.slice R (lsAt rs j).length cr)) := by
    obtain ⟨A4, c5, e4, z3, z4, z1, z2, _⟩ := HR4.out.lst HRB.out
    simp only [Value.slice.injEq] at e4
    obtain ⟨rfl, _, rfl⟩ := e4
    rw [← HRT.out]
    refine ⟨⟨by rw [← HGD.out]; exact z3, z4⟩, lst_take z1 kk, nils_take z2 kk, fun j hj => ?_⟩
    have hR := HR4.out
    rw [← HGD.out] at hR hj
    obtain ⟨g6, R, cr, e6, _, hc6, _⟩ := row_at2 hR HRB.out j hj
    exact ⟨g6, R, cr, e6, hc6⟩
  obtain ⟨⟨g7, g8⟩, HL4', HI4', HC4'⟩ := hgot.out
  have HL4 := Lib.hid HL4'
  have HI4 := Lib.hid HI4'
  have HC4 := Lib.hid HC4'
  clear hgot HL4' HI4' HC4' hcell hfree HB4 HR4 B3 HO2 HB2 HW1 HL1 HI1 HN1 HR1 HRB HRT HSB HFB HBD HM hx8
  go_loop [15, 16] (fun i f => ∃ k : Nat, k ≤ kk ∧ i = .int .i64 k ∧ f = .int .i64 (offs ps k : Int)) (fun i _ => K - (intOf i).toNat)
  case atStart => exact ⟨0, Nat.zero_le _, rfl, rfl⟩
  case round =>
    obtain ⟨k, hk, rfl, rfl⟩ := hrel
    have hkK : k < K := by omega
    obtain ⟨R, cr, hcell⟩ := HCL.out k hkK
    have hx := HPF.out k hkK
    have hof := HOF.out k hkK
    have hot := HOB.out k hk
    by_cases hlt : k < kk
    · have ho2 := HOB.out (k + 1) (by omega)
      obtain ⟨f, hf⟩ : ∃ f, offs ps k = f := ⟨_, rfl⟩
      obtain ⟨x, hxd⟩ : ∃ x, (lsAt ps k).length = x := ⟨_, rfl⟩
      rw [hf, hxd] at hof
      rw [hf] at hot ⊢
      rw [hxd] at hcell hx
      rw [hof] at ho2
      have HF := Lib.hid hof
      have p1 : IntKind.i64.wrap ((f : Int) + 8) = (f : Int) + 8 := IntWalk.i64_in _ (by omega)
      have p2 : IntKind.i64.wrap ((f : Int) + 8 + (x : Int)) = (f : Int) + 8 + (x : Int) := IntWalk.i64_in _ (by omega)
      have p3 : decide ((f : Int) + 8 + (x : Int) ≤ (t : Int)) = true := decide_eq_true (by omega)
      clear hof hf hxd
      go_wp2
      go_round
      case rel => exact ⟨k + 1, by omega, by go_num, by rw [HF.out]; go_num⟩
      case measure => simp [intOf]; omega
    · obtain rfl : k = kk := by omega
      have hno : ¬ offs ps (k + 1) ≤ t := fun h => absurd ((HAI.out k hkK).mpr h) (Nat.lt_irrefl _)
      have TS : Hid (∀ x, Calls Try.prog 16 #[.slice A3 k c4, .slice (some ⟨g5, 0, none⟩) k c2] (w4.drewN x) fun e w' => e = .returned (.bool true) ∧ ∃ n, w' = w4.drewN n) := fun x => by
        refine (HD3.out (w4.drewN x) A3 (some ⟨g5, 0, none⟩) c4 c2 (lst_go HL4.out (below_drewN (Below.refl _ _) x)) (nils_below HI4.out HL4.out (below_drewN (Below.refl _ _) x)) (lst_go HL3.out (below_drewN (Below.refl _ _) x)) (nils_below HI3.out HL3.out (below_drewN (Below.refl _ _) x))).mono ?_
        rintro e w' ⟨h1, n, h2⟩
        exact ⟨h1, x + n, by rw [h2, drewN_add]⟩
      rw [hof] at hno
      have hne := HNE.out
      obtain ⟨f, hf⟩ : ∃ f, offs ps k = f := ⟨_, rfl⟩
      obtain ⟨x, hxd⟩ : ∃ x, (lsAt ps k).length = x := ⟨_, rfl⟩
      rw [hf, hxd] at hno
      rw [hf] at hot ⊢
      rw [hxd] at hcell hx hne
      have p1 : IntKind.i64.wrap ((f : Int) + 8) = (f : Int) + 8 := IntWalk.i64_in _ (by omega)
      have p2 : IntKind.i64.wrap ((f : Int) + 8 + (x : Int)) = (f : Int) + 8 + (x : Int) := IntWalk.i64_in _ (by omega)
      have p3 : decide ((f : Int) + 8 + (x : Int) ≤ (t : Int)) = false := decide_eq_false (by omega)
      have hgle := HGLE.out
      clear hof hf hxd hno hlt
      have p4 : decide ((G : Int) < (k : Int)) = false := decide_eq_false (by omega)
      rcases Nat.lt_or_ge k G with hlt | hge
      · obtain ⟨g6, R6, cr6, rfl, hcell6⟩ := HC4.out k hlt
        have hn2 := hne hlt
        obtain ⟨x6, hx6⟩ : ∃ x, (lsAt rs k).length = x := ⟨_, rfl⟩
        rw [hx6] at hcell6 hn2
        have r1 : ((G : Int) == (k : Int)) = false := by rw [beq_eq_false_iff_ne]; omega
        have r2 : ((x6 : Int) != (x : Int)) = true := by rw [bne_iff_ne]; omega
        have r3 : ((x6 : Int) == (x : Int)) = false := by rw [beq_eq_false_iff_ne]; omega
        have hlt2 : (k : Int) < (G : Int) := by omega
        have z1 : k ≤ c4 := by omega
        have z2 : k ≤ c2 := by omega
        have z3 : (k : Int) ≤ (c4 : Int) := by omega
        have z4 : (k : Int) ≤ (c2 : Int) := by omega
        clear hne hx6 hn2
        go_wp2
        go_quiet (first
          | (go_at_call 16; (with_reducible exact (TS.out _).mono fun _ _ h => h)))
        go_wp2
        have hb6 : g6 < w4.heap.size := World.block_lt_of_cell? w4 _ hcell6
        have hb5 : g5 < w4.heap.size := World.block_lt_of_cell? w4 _ hcell
        have S0 : Below w4.heap.size w4 (w4.drewN nq).drew := (below_drewN (Below.refl w4.heap.size w4) nq).drew
        refine wp_region_held_drew (S := fun W => Below w4.heap.size w4 W) (by kernel_rfl) S0 (fun hHeld => ?_)
        refine wpAnyH_take (i := 0) (v := ?vz1) rfl (by kernel_rfl) (by kernel_rfl) (by kernel_rfl) (fun _ _ _ h => h) (Or.inl ⟨by rfl, ?hyz1⟩) (by first | assumption | exact trivial) ?restz1
        case hyz1 => intro W hSW; go_simp; try (with_reducible rfl)
        simp only [Act.put, List.getElem_toArray, List.getElem_cons_succ, List.getElem_cons_zero, List.setIfInBounds_toArray, List.set_cons_zero, List.set_cons_succ]
        refine wpAnyH_take (i := 1) (v := ?vz2) rfl (by kernel_rfl) (by kernel_rfl) (by kernel_rfl) (fun _ _ _ h => h) (Or.inl ⟨by rfl, ?hyz2⟩) (by first | assumption | exact trivial) ?restz2
        case hyz2 => intro W hSW; go_simp; try (with_reducible rfl)
        simp only [Act.put, List.getElem_toArray, List.getElem_cons_succ, List.getElem_cons_zero, List.setIfInBounds_toArray, List.set_cons_zero, List.set_cons_succ]
        refine wpAnyH_take (i := 2) (v := ?vz3) rfl (by kernel_rfl) (by kernel_rfl) (by kernel_rfl) (fun _ _ _ h => h) (Or.inl ⟨by rfl, ?hyz3⟩) (by first | assumption | exact trivial) ?restz3
        case hyz3 => intro W hSW; go_simp; try (with_reducible rfl)
        simp only [Act.put, List.getElem_toArray, List.getElem_cons_succ, List.getElem_cons_zero, List.setIfInBounds_toArray, List.set_cons_zero, List.set_cons_succ]
        refine wpAnyH_take (i := 3) (v := ?vz4) rfl (by kernel_rfl) (by kernel_rfl) (by kernel_rfl) (fun _ _ _ h => h) (Or.inl ⟨by rfl, ?hyz4⟩) (by first | assumption | exact trivial) ?restz4
        case hyz4 => intro W hSW; go_simp; try (with_reducible rfl)
        simp only [Act.put, List.getElem_toArray, List.getElem_cons_succ, List.getElem_cons_zero, List.setIfInBounds_toArray, List.set_cons_zero, List.set_cons_succ]
        refine wpAnyH_take (i := 4) (v := .bool false) rfl (by kernel_rfl) (by kernel_rfl) (by kernel_rfl) (fun _ _ _ h => h) (Or.inl ⟨by rfl, ?_⟩) (by first | assumption | exact trivial) ?_
        · intro W hSW; go_simp; try (with_reducible rfl)
        simp only [Act.put, List.getElem_toArray, List.getElem_cons_succ, List.getElem_cons_zero, List.setIfInBounds_toArray, List.set_cons_zero, List.set_cons_succ]
        refine wpAnyH_take (i := 5) (v := ?vz5) rfl (by kernel_rfl) (by kernel_rfl) (by kernel_rfl) (fun _ _ _ h => h) (Or.inl ⟨by rfl, ?hyz5⟩) (by first | assumption | exact trivial) ?restz5
        case hyz5 => intro W hSW; go_simp; try (with_reducible rfl)
        simp only [Act.put, List.getElem_toArray, List.getElem_cons_succ, List.getElem_cons_zero, List.setIfInBounds_toArray, List.set_cons_zero, List.set_cons_succ]
        refine wpAnyH_take (i := 6) (v := ?vz6) rfl (by kernel_rfl) (by kernel_rfl) (by kernel_rfl) (fun _ _ _ h => h) (Or.inl ⟨by rfl, ?hyz6⟩) (by first | assumption | exact trivial) ?restz6
        case hyz6 => intro W hSW; go_simp; try (with_reducible rfl)
        simp only [Act.put, List.getElem_toArray, List.getElem_cons_succ, List.getElem_cons_zero, List.setIfInBounds_toArray, List.set_cons_zero, List.set_cons_succ]
        refine wpAnyH_take (i := 7) (v := ?vz7) rfl (by kernel_rfl) (by kernel_rfl) (by kernel_rfl) (fun _ _ _ h => h) (Or.inl ⟨by rfl, ?hyz7⟩) (by first | assumption | exact trivial) ?restz7
        case hyz7 => intro W hSW; go_simp; try (with_reducible rfl)
        simp only [Act.put, List.getElem_toArray, List.getElem_cons_succ, List.getElem_cons_zero, List.setIfInBounds_toArray, List.set_cons_zero, List.set_cons_succ]
        refine wpAnyH_take (i := 8) (v := ?vz8) rfl (by kernel_rfl) (by kernel_rfl) (by kernel_rfl) (fun _ _ _ h => h) (Or.inl ⟨by rfl, ?hyz8⟩) (by first | assumption | exact trivial) ?restz8
        case hyz8 => intro W hSW; have q6 := (hSW.cell (p := ⟨g6, k, none⟩) hb6).trans hcell6; go_simp; try (with_reducible rfl)
        simp only [Act.put, List.getElem_toArray, List.getElem_cons_succ, List.getElem_cons_zero, List.setIfInBounds_toArray, List.set_cons_zero, List.set_cons_succ]
        refine wpAnyH_take (i := 9) (v := ?vz9) rfl (by kernel_rfl) (by kernel_rfl) (by kernel_rfl) (fun _ _ _ h => h) (Or.inl ⟨by rfl, ?hyz9⟩) (by first | assumption | exact trivial) ?restz9
        case hyz9 => intro W hSW; go_simp; try (with_reducible rfl)
        simp only [Act.put, List.getElem_toArray, List.getElem_cons_succ, List.getElem_cons_zero, List.setIfInBounds_toArray, List.set_cons_zero, List.set_cons_succ]
        refine wpAnyH_take (i := 10) (v := ?vz10) rfl (by kernel_rfl) (by kernel_rfl) (by kernel_rfl) (fun _ _ _ h => h) (Or.inl ⟨by rfl, ?hyz10⟩) (by first | assumption | exact trivial) ?restz10
        case hyz10 => intro W hSW; go_simp; try (with_reducible rfl)
        simp only [Act.put, List.getElem_toArray, List.getElem_cons_succ, List.getElem_cons_zero, List.setIfInBounds_toArray, List.set_cons_zero, List.set_cons_succ]
        refine wpAnyH_take (i := 11) (v := ?vz11) rfl (by kernel_rfl) (by kernel_rfl) (by kernel_rfl) (fun _ _ _ h => h) (Or.inl ⟨by rfl, ?hyz11⟩) (by first | assumption | exact trivial) ?restz11
        case hyz11 => intro W hSW; go_simp; try (with_reducible rfl)
        simp only [Act.put, List.getElem_toArray, List.getElem_cons_succ, List.getElem_cons_zero, List.setIfInBounds_toArray, List.set_cons_zero, List.set_cons_succ]
        refine wpAnyH_take (i := 12) (v := ?vz12) rfl (by kernel_rfl) (by kernel_rfl) (by kernel_rfl) (fun _ _ _ h => h) (Or.inl ⟨by rfl, ?hyz12⟩) (by first | assumption | exact trivial) ?restz12
        case hyz12 => intro W hSW; go_simp; try (with_reducible rfl)
        simp only [Act.put, List.getElem_toArray, List.getElem_cons_succ, List.getElem_cons_zero, List.setIfInBounds_toArray, List.set_cons_zero, List.set_cons_succ]
        refine wpAnyH_take (i := 13) (v := ?vz13) rfl (by kernel_rfl) (by kernel_rfl) (by kernel_rfl) (fun _ _ _ h => h) (Or.inl ⟨by rfl, ?hyz13⟩) (by first | assumption | exact trivial) ?restz13
        case hyz13 => intro W hSW; have q5 := (hSW.cell (p := ⟨g5, k, none⟩) hb5).trans hcell; go_simp; try (with_reducible rfl)
        simp only [Act.put, List.getElem_toArray, List.getElem_cons_succ, List.getElem_cons_zero, List.setIfInBounds_toArray, List.set_cons_zero, List.set_cons_succ]
        refine wpAnyH_take (i := 14) (v := ?vz14) rfl (by kernel_rfl) (by kernel_rfl) (by kernel_rfl) (fun _ _ _ h => h) (Or.inl ⟨by rfl, ?hyz14⟩) (by first | assumption | exact trivial) ?restz14
        case hyz14 => intro W hSW; go_simp; try (with_reducible rfl)
        simp only [Act.put, List.getElem_toArray, List.getElem_cons_succ, List.getElem_cons_zero, List.setIfInBounds_toArray, List.set_cons_zero, List.set_cons_succ]
        refine wpAnyH_take (i := 15) (v := ?vz15) rfl (by kernel_rfl) (by kernel_rfl) (by kernel_rfl) (fun _ _ _ h => h) (Or.inl ⟨by rfl, ?hyz15⟩) (by first | assumption | exact trivial) ?restz15
        case hyz15 => intro W hSW; go_simp; try (with_reducible rfl)
        simp only [Act.put, List.getElem_toArray, List.getElem_cons_succ, List.getElem_cons_zero, List.setIfInBounds_toArray, List.set_cons_zero, List.set_cons_succ]
        refine wpAnyH_take (i := 16) (v := ?vz16) rfl (by kernel_rfl) (by kernel_rfl) (by kernel_rfl) (fun _ _ _ h => h) (Or.inl ⟨by rfl, ?hyz16⟩) (by first | assumption | exact trivial) ?restz16
        case hyz16 => intro W hSW; go_simp; try (with_reducible rfl)
        simp only [Act.put, List.getElem_toArray, List.getElem_cons_succ, List.getElem_cons_zero, List.setIfInBounds_toArray, List.set_cons_zero, List.set_cons_succ]
        refine wpAnyH_take (i := 17) (v := .bool true) rfl (by kernel_rfl) (by kernel_rfl) (by kernel_rfl) (fun _ _ _ h => h) (Or.inl ⟨by rfl, ?_⟩) (by first | assumption | exact trivial) ?_
        · intro W hSW; go_simp; try (with_reducible rfl)
        simp only [Act.put, List.getElem_toArray, List.getElem_cons_succ, List.getElem_cons_zero, List.setIfInBounds_toArray, List.set_cons_zero, List.set_cons_succ]
        refine wpAnyH_ready (rs := [18]) (by kernel_rfl) (by simp) ?_
        refine AllReadyH.cons rfl (fun K hK => ?_) AllReadyH.nil
        go_simp
        go_wp2_with (go_at_call 11; refine (awake_any _).mono ?_; rintro e w6 ⟨rfl, hb6'⟩)
        refine hK.out _ _ (S0.trans (hb6'.mono S0.size)) (fun hHeld => ?_)
        clear hK K
        refine wpAnyH_take (i := 19) (v := ?vz17) rfl (by kernel_rfl) (by kernel_rfl) (by kernel_rfl) (fun _ _ _ h => h) (Or.inl ⟨by rfl, ?hyz17⟩) (by first | assumption | exact trivial) ?restz17
        case hyz17 => intro W hSW; go_simp; try (with_reducible rfl)
        simp only [Act.put, List.getElem_toArray, List.getElem_cons_succ, List.getElem_cons_zero, List.setIfInBounds_toArray, List.set_cons_zero, List.set_cons_succ]
        refine wpAnyH_take (i := 20) (v := ?vz18) rfl (by kernel_rfl) (by kernel_rfl) (by kernel_rfl) (fun _ _ _ h => h) (Or.inl ⟨by rfl, ?hyz18⟩) (by first | assumption | exact trivial) ?restz18
        case hyz18 => intro W hSW; go_simp; try (with_reducible rfl)
        simp only [Act.put, List.getElem_toArray, List.getElem_cons_succ, List.getElem_cons_zero, List.setIfInBounds_toArray, List.set_cons_zero, List.set_cons_succ]
        refine wpAnyH_done (by kernel_rfl) ?_ _
        go_wp2
        go_ret
        exact ⟨rfl, BW4.out.trans ((S0.trans (hb6'.mono S0.size)).mono BW4.out.size)⟩
      · obtain ⟨k2, hk2⟩ : ∃ k2, k2 = k := ⟨_, rfl⟩
        have hGk : G = k := by omega
        subst hGk
        have z1 : G ≤ c4 := by omega
        have z2 : G ≤ c2 := by omega
        have z3 : (G : Int) ≤ (c4 : Int) := by omega
        have z4 : (G : Int) ≤ (c2 : Int) := by omega
        have r1 : ((G : Int) == (G : Int)) = true := by simp
        clear hne hk2 hge hgle
        go_wp2
        go_quiet (first
          | (go_at_call 16; (with_reducible exact (TS.out _).mono fun _ _ h => h)))
        go_wp2
        have S0 : Below w4.heap.size w4 (w4.drewN nq).drew := (below_drewN (Below.refl w4.heap.size w4) nq).drew
        refine wp_region_held_drew (S := fun W => Below w4.heap.size w4 W) (by kernel_rfl) S0 (fun hHeld => ?_)
        refine wpAnyH_take (i := 0) (v := ?vz19) rfl (by kernel_rfl) (by kernel_rfl) (by kernel_rfl) (fun _ _ _ h => h) (Or.inl ⟨by rfl, ?hyz19⟩) (by first | assumption | exact trivial) ?restz19
        case hyz19 => intro W hSW; go_simp; try (with_reducible rfl)
        simp only [Act.put, List.getElem_toArray, List.getElem_cons_succ, List.getElem_cons_zero, List.setIfInBounds_toArray, List.set_cons_zero, List.set_cons_succ]
        refine wpAnyH_take (i := 1) (v := ?vz20) rfl (by kernel_rfl) (by kernel_rfl) (by kernel_rfl) (fun _ _ _ h => h) (Or.inl ⟨by rfl, ?hyz20⟩) (by first | assumption | exact trivial) ?restz20
        case hyz20 => intro W hSW; go_simp; try (with_reducible rfl)
        simp only [Act.put, List.getElem_toArray, List.getElem_cons_succ, List.getElem_cons_zero, List.setIfInBounds_toArray, List.set_cons_zero, List.set_cons_succ]
        refine wpAnyH_take (i := 2) (v := ?vz21) rfl (by kernel_rfl) (by kernel_rfl) (by kernel_rfl) (fun _ _ _ h => h) (Or.inl ⟨by rfl, ?hyz21⟩) (by first | assumption | exact trivial) ?restz21
        case hyz21 => intro W hSW; go_simp; try (with_reducible rfl)
        simp only [Act.put, List.getElem_toArray, List.getElem_cons_succ, List.getElem_cons_zero, List.setIfInBounds_toArray, List.set_cons_zero, List.set_cons_succ]
        refine wpAnyH_take (i := 3) (v := ?vz22) rfl (by kernel_rfl) (by kernel_rfl) (by kernel_rfl) (fun _ _ _ h => h) (Or.inl ⟨by rfl, ?hyz22⟩) (by first | assumption | exact trivial) ?restz22
        case hyz22 => intro W hSW; go_simp; try (with_reducible rfl)
        simp only [Act.put, List.getElem_toArray, List.getElem_cons_succ, List.getElem_cons_zero, List.setIfInBounds_toArray, List.set_cons_zero, List.set_cons_succ]
        refine wpAnyH_take (i := 4) (v := .bool true) rfl (by kernel_rfl) (by kernel_rfl) (by kernel_rfl) (fun _ _ _ h => h) (Or.inl ⟨by rfl, ?_⟩) (by first | assumption | exact trivial) ?_
        · intro W hSW; go_simp; try (with_reducible rfl)
        simp only [Act.put, List.getElem_toArray, List.getElem_cons_succ, List.getElem_cons_zero, List.setIfInBounds_toArray, List.set_cons_zero, List.set_cons_succ]
        refine wpAnyH_take (i := 5) (v := undef) rfl (by kernel_rfl) (by kernel_rfl) (by kernel_rfl) (fun _ _ _ h => h) (Or.inr ⟨by rfl, rfl⟩) (by first | assumption | exact trivial) ?restz23
        simp only [Act.put, List.getElem_toArray, List.getElem_cons_succ, List.getElem_cons_zero, List.setIfInBounds_toArray, List.set_cons_zero, List.set_cons_succ]
        refine wpAnyH_take (i := 6) (v := undef) rfl (by kernel_rfl) (by kernel_rfl) (by kernel_rfl) (fun _ _ _ h => h) (Or.inr ⟨by rfl, rfl⟩) (by first | assumption | exact trivial) ?restz24
        simp only [Act.put, List.getElem_toArray, List.getElem_cons_succ, List.getElem_cons_zero, List.setIfInBounds_toArray, List.set_cons_zero, List.set_cons_succ]
        refine wpAnyH_take (i := 7) (v := undef) rfl (by kernel_rfl) (by kernel_rfl) (by kernel_rfl) (fun _ _ _ h => h) (Or.inr ⟨by rfl, rfl⟩) (by first | assumption | exact trivial) ?restz25
        simp only [Act.put, List.getElem_toArray, List.getElem_cons_succ, List.getElem_cons_zero, List.setIfInBounds_toArray, List.set_cons_zero, List.set_cons_succ]
        refine wpAnyH_take (i := 8) (v := undef) rfl (by kernel_rfl) (by kernel_rfl) (by kernel_rfl) (fun _ _ _ h => h) (Or.inr ⟨by rfl, rfl⟩) (by first | assumption | exact trivial) ?restz26
        simp only [Act.put, List.getElem_toArray, List.getElem_cons_succ, List.getElem_cons_zero, List.setIfInBounds_toArray, List.set_cons_zero, List.set_cons_succ]
        refine wpAnyH_take (i := 9) (v := undef) rfl (by kernel_rfl) (by kernel_rfl) (by kernel_rfl) (fun _ _ _ h => h) (Or.inr ⟨by rfl, rfl⟩) (by first | assumption | exact trivial) ?restz27
        simp only [Act.put, List.getElem_toArray, List.getElem_cons_succ, List.getElem_cons_zero, List.setIfInBounds_toArray, List.set_cons_zero, List.set_cons_succ]
        refine wpAnyH_take (i := 10) (v := undef) rfl (by kernel_rfl) (by kernel_rfl) (by kernel_rfl) (fun _ _ _ h => h) (Or.inr ⟨by rfl, rfl⟩) (by first | assumption | exact trivial) ?restz28
        simp only [Act.put, List.getElem_toArray, List.getElem_cons_succ, List.getElem_cons_zero, List.setIfInBounds_toArray, List.set_cons_zero, List.set_cons_succ]
        refine wpAnyH_take (i := 11) (v := undef) rfl (by kernel_rfl) (by kernel_rfl) (by kernel_rfl) (fun _ _ _ h => h) (Or.inr ⟨by rfl, rfl⟩) (by first | assumption | exact trivial) ?restz29
        simp only [Act.put, List.getElem_toArray, List.getElem_cons_succ, List.getElem_cons_zero, List.setIfInBounds_toArray, List.set_cons_zero, List.set_cons_succ]
        refine wpAnyH_take (i := 12) (v := undef) rfl (by kernel_rfl) (by kernel_rfl) (by kernel_rfl) (fun _ _ _ h => h) (Or.inr ⟨by rfl, rfl⟩) (by first | assumption | exact trivial) ?restz30
        simp only [Act.put, List.getElem_toArray, List.getElem_cons_succ, List.getElem_cons_zero, List.setIfInBounds_toArray, List.set_cons_zero, List.set_cons_succ]
        refine wpAnyH_take (i := 13) (v := undef) rfl (by kernel_rfl) (by kernel_rfl) (by kernel_rfl) (fun _ _ _ h => h) (Or.inr ⟨by rfl, rfl⟩) (by first | assumption | exact trivial) ?restz31
        simp only [Act.put, List.getElem_toArray, List.getElem_cons_succ, List.getElem_cons_zero, List.setIfInBounds_toArray, List.set_cons_zero, List.set_cons_succ]
        refine wpAnyH_take (i := 14) (v := undef) rfl (by kernel_rfl) (by kernel_rfl) (by kernel_rfl) (fun _ _ _ h => h) (Or.inr ⟨by rfl, rfl⟩) (by first | assumption | exact trivial) ?restz32
        simp only [Act.put, List.getElem_toArray, List.getElem_cons_succ, List.getElem_cons_zero, List.setIfInBounds_toArray, List.set_cons_zero, List.set_cons_succ]
        refine wpAnyH_take (i := 15) (v := undef) rfl (by kernel_rfl) (by kernel_rfl) (by kernel_rfl) (fun _ _ _ h => h) (Or.inr ⟨by rfl, rfl⟩) (by first | assumption | exact trivial) ?restz33
        simp only [Act.put, List.getElem_toArray, List.getElem_cons_succ, List.getElem_cons_zero, List.setIfInBounds_toArray, List.set_cons_zero, List.set_cons_succ]
        refine wpAnyH_take (i := 16) (v := ?vz34) rfl (by kernel_rfl) (by kernel_rfl) (by kernel_rfl) (fun _ _ _ h => h) (Or.inl ⟨by rfl, ?hyz34⟩) (by first | assumption | exact trivial) ?restz34
        case hyz34 => intro W hSW; go_simp; try (with_reducible rfl)
        simp only [Act.put, List.getElem_toArray, List.getElem_cons_succ, List.getElem_cons_zero, List.setIfInBounds_toArray, List.set_cons_zero, List.set_cons_succ]
        refine wpAnyH_take (i := 17) (v := .bool true) rfl (by kernel_rfl) (by kernel_rfl) (by kernel_rfl) (fun _ _ _ h => h) (Or.inl ⟨by rfl, ?_⟩) (by first | assumption | exact trivial) ?_
        · intro W hSW; go_simp; try (with_reducible rfl)
        simp only [Act.put, List.getElem_toArray, List.getElem_cons_succ, List.getElem_cons_zero, List.setIfInBounds_toArray, List.set_cons_zero, List.set_cons_succ]
        refine wpAnyH_ready (rs := [18]) (by kernel_rfl) (by simp) ?_
        refine AllReadyH.cons rfl (fun K hK => ?_) AllReadyH.nil
        go_simp
        go_wp2_with (go_at_call 11; refine (awake_any _).mono ?_; rintro e w6 ⟨rfl, hb6'⟩)
        refine hK.out _ _ (S0.trans (hb6'.mono S0.size)) (fun hHeld => ?_)
        clear hK K
        refine wpAnyH_take (i := 19) (v := ?vz35) rfl (by kernel_rfl) (by kernel_rfl) (by kernel_rfl) (fun _ _ _ h => h) (Or.inl ⟨by rfl, ?hyz35⟩) (by first | assumption | exact trivial) ?restz35
        case hyz35 => intro W hSW; go_simp; try (with_reducible rfl)
        simp only [Act.put, List.getElem_toArray, List.getElem_cons_succ, List.getElem_cons_zero, List.setIfInBounds_toArray, List.set_cons_zero, List.set_cons_succ]
        refine wpAnyH_take (i := 20) (v := ?vz36) rfl (by kernel_rfl) (by kernel_rfl) (by kernel_rfl) (fun _ _ _ h => h) (Or.inl ⟨by rfl, ?hyz36⟩) (by first | assumption | exact trivial) ?restz36
        case hyz36 => intro W hSW; go_simp; try (with_reducible rfl)
        simp only [Act.put, List.getElem_toArray, List.getElem_cons_succ, List.getElem_cons_zero, List.setIfInBounds_toArray, List.set_cons_zero, List.set_cons_succ]
        refine wpAnyH_done (by kernel_rfl) ?_ _
        go_wp2
        go_ret
        exact ⟨rfl, BW4.out.trans ((S0.trans (hb6'.mono S0.size)).mono BW4.out.size)⟩
theorem turns_law {H : Type} (a : Option Addr) (len cap : Nat) (ls : List (List Nat)) (at_ mask : Int) (w : World) {d : DataW H} (w0 : len = ls.length ∧ len ≤ 9223372036854775807 ∧ Me.Lst w w.heap.size a ls ∧ Me.Nils w a ls ∧ ls.flatten.length + ls.length ≤ Rows.uptoBulk d) (c0 : Rows.uptoBulk d ≤ 1048576) (ws : (Lit.int .i64 at_).wf = true) (wm : (Lit.int .u8 mask).wf = true) :
    Calls Try.prog 8 #[.slice a len cap, .int .i64 at_, .int .u8 mask] w fun e w' => e = .returned (.bool true) ∧ Below w.heap.size w w' := by
  obtain ⟨rfl, hll, hlst, hnil, hbk⟩ := w0
  obtain ⟨mk, rfl, hmk⟩ := u8_nat wm
  by_cases h : (flatR (fitL ls)).length = 0 ∨ mk = 0
  · exact turns_none (H := H) a cap ls at_ mk w hlst hnil hll (by omega) h
  · exact turns_some (H := H) a cap ls at_ mk w hlst hnil hll (by omega) (by omega) (by omega) hmk
end Go.Proofs.Ytcdijhenfddmcaa.Rc
