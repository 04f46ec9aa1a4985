/- The document's CheckState: it answers what From does. -/
import Derived.Test.YtfnlhfelpdkieaaGreatZ27
import Derived.Test.YtfnlhfelpdkieaaGreatSoFrN
import Derived.Test.YtfnlhfelpdkieaaGreatSoFrK
import Derived.Test.YtfnlhfelpdkieaaGreatZ25
namespace Go.Proofs.YtfnlhfelpdkieaaGreat.So
open Go.RowKit
open Go.Proofs.YtfnlhfelpdkieaaGreat.Me Go.Proofs.YtfnlhfelpdkieaaGreat.Sb
set_option linter.unusedVariables false
set_option linter.unusedSimpArgs false

theorem build_b4 (A : Option Addr) (n c : Nat) (w : World) : (Instr.build 37 #[(4, .slice A n c)]).run Tryz.prog w = .ok (.agg #[.int .i64 0, .int .i64 0, .int .i64 0, .int .i64 0, .int .i64 0, .slice none 0 0, .slice A n c, .int .i64 0, .slice none 0 0]) w := by kernel_rfl
theorem org_of {me : Int} {ms : List Se.Mr} {i : Nat} (hi : i < ms.length) (h : ((Se.mrAt ms i).o == me) = true) : orgB me ms = true := by
  unfold orgB
  refine List.any_eq_true.2 ⟨_, ?_, h⟩
  rw [Se.mrAt_get hi]
  exact List.getElem_mem _
theorem org_no {me : Int} {ms : List Se.Mr} (h : ∀ j, j < ms.length → ((Se.mrAt ms j).o == me) = false) : orgB me ms = false := by
  unfold orgB
  refine List.any_eq_false.2 fun m hm => ?_
  obtain ⟨j, hj, rfl⟩ := List.mem_iff_getElem.1 hm
  have := h j hj
  rw [Se.mrAt_get hj] at this
  rw [this]; simp
set_option maxRecDepth 100000 in
set_option maxHeartbeats 32000000 in
theorem RCheckState_any (q : Fq) (AN AH AM : Option Addr) (cN cH cM : Nat) (w : World) (hq : Hid (FqAt w q AN AH AM cM)) (hmz : Hid (Se.Msz cM q.P)) (hHc : q.H.length ≤ cH) (z : Nat) (hzz : frmN q = z) :
    Calls Tryz.prog 21 #[.agg #[.int .i64 q.qh, .int .i64 q.qb, .int .i64 q.qg], .agg #[.int .i64 q.me, .int .i64 q.ep, .slice AN q.N.length cN, .slice AH q.H.length cH, .slice AM q.P.length cM]] w fun e w' => e = .returned (.int .i64 (z : Int)) ∧ Hid (Below w.heap.size w w') := by
  have hb1 : Below w.heap.size w (w.alloc (.cells #[.int .i64 q.qh, .int .i64 q.qb, .int .i64 q.qg] 23)) := Me.below_alloc (Below.refl _ _)
  have hx1 := heap_alloc_new w (.cells #[.int .i64 q.qh, .int .i64 q.qb, .int .i64 q.qg] 23 (0, 0))
  obtain ⟨V1, hV1⟩ : ∃ V, w.alloc (.cells #[.int .i64 q.qh, .int .i64 q.qb, .int .i64 q.qg] 23) = V := ⟨_, rfl⟩
  have hs1 : V1.heap.size = w.heap.size + 1 := by rw [← hV1]; simp
  rw [hV1] at hb1 hx1
  have hb2 : Below V1.heap.size V1 (V1.alloc (.cells #[.int .i64 q.me, .int .i64 q.ep, .slice AN q.N.length cN, .slice AH q.H.length cH, .slice AM q.P.length cM] 59)) := Me.below_alloc (Below.refl _ _)
  have hx2 := heap_alloc_new V1 (.cells #[.int .i64 q.me, .int .i64 q.ep, .slice AN q.N.length cN, .slice AH q.H.length cH, .slice AM q.P.length cM] 59 (0, 0))
  obtain ⟨V, hV⟩ : ∃ V, V1.alloc (.cells #[.int .i64 q.me, .int .i64 q.ep, .slice AN q.N.length cN, .slice AH q.H.length cH, .slice AM q.P.length cM] 59) = V := ⟨_, rfl⟩
  rw [hV] at hb2 hx2
  have HLv : Hid (∀ W, Below V.heap.size V W → W.heap[w.heap.size]? = some (.cells #[.int .i64 q.qh, .int .i64 q.qb, .int .i64 q.qg] 23 (0, 0)) ∧ W.heap[w.heap.size + 1]? = some (.cells #[.int .i64 q.me, .int .i64 q.ep, .slice AN q.N.length cN, .slice AH q.H.length cH, .slice AM q.P.length cM] 59 (0, 0)) ∧ Below w.heap.size w W) := fun W hW => by
    have k := go_on hb1 hb2
    have hx1' := (hb2.block _ (Array.getElem?_eq_some_iff.1 hx1).1).trans hx1
    rw [hs1] at hx2
    exact ⟨(hW.block _ (Array.getElem?_eq_some_iff.1 hx1').1).trans hx1', (hW.block _ (Array.getElem?_eq_some_iff.1 hx2).1).trans hx2, go_on k hW⟩
  have HFq : Hid (∀ W, Below V.heap.size V W → FqAt W q AN AH AM cM) := fun W hW => hq.out.below (HLv.out W hW).2.2
  have HV : Hid ((w.alloc (.cells #[.int .i64 q.qh, .int .i64 q.qb, .int .i64 q.qg] 23)).alloc (.cells #[.int .i64 q.me, .int .i64 q.ep, .slice AN q.N.length cN, .slice AH q.H.length cH, .slice AM q.P.length cM] 59) = V) := by show _ = _; rw [hV1, hV]
  have HS1 : Hid ((w.alloc (.cells #[.int .i64 q.qh, .int .i64 q.qb, .int .i64 q.qg] 23)).heap.size = w.heap.size + 1) := by show _ = _; rw [hV1]; exact hs1
  clear hV1 hs1 hb1 hx1 hb2 hx2 hV hq
  obtain ⟨me, qh, qb, qg, ep, N, H, P⟩ := q
  simp only at HLv HFq HV HS1 hmz hHc ⊢
  obtain ⟨y0, y1, y2⟩ := quota_cells (HLv.out V (Below.refl _ _)).1
  obtain ⟨x0, x1, x2, x3, x4⟩ := state_cells (HLv.out V (Below.refl _ _)).2.1
  by_cases hno : ¬ NewOk me qh qb qg
  · have HF : Hid (z = 1) := by show _ = _; rw [← hzz]; unfold frmN; rw [if_pos hno]
    have HN := Lib.hid (fun W => RNew_no me qh qb qg W hno)
    unfold rs0 at HN
    obtain ⟨LN, hLN⟩ : ∃ x, N.length = x := ⟨_, rfl⟩
    obtain ⟨LH, hLH⟩ : ∃ x, H.length = x := ⟨_, rfl⟩
    obtain ⟨LP, hLP⟩ : ∃ x, P.length = x := ⟨_, rfl⟩
    rw [hLN, hLH, hLP] at HLv HV ⊢
    rw [hLN] at x2
    rw [hLH] at x3
    rw [hLP] at x4
    clear hLN hLH hLP HFq hzz hno hmz hHc
    go_enter Tryz.func21, Tryz.ntmps21
    go_wp2_with (first
      | (rw [HV.out])
      | (go_at_call 8; refine (HN.out _).mono ?_; rintro e w1 ⟨rfl, b1⟩)
      | (refine wpList_store_row rfl 37 (.tmp 5) (.tmp 14) rfl w1.heap.size #[.int .i64 0, .int .i64 0, .int .i64 0, .int .i64 0, .int .i64 0, .slice none 0 0, .slice none 0 0, .int .i64 0, .slice none 0 0] rfl rfl 37 _ (heap_alloc_new w1 _) (by kernel_rfl) rfl (by kernel_rfl) ?_))
    go_ret
    have hb2 : Below w1.heap.size w1 ((w1.alloc (.cells #[.int .i64 0, .int .i64 0, .int .i64 0, .int .i64 0, .int .i64 0, .slice none 0 0, .slice none 0 0, .int .i64 0, .slice none 0 0] 37)).setRow w1.heap.size #[.int .i64 0, .int .i64 0, .int .i64 0, .int .i64 0, .int .i64 0, .slice none 0 0, .slice none 0 0, .int .i64 0, .slice none 0 0]) := Sb.below_setRow _ (Me.below_alloc (Below.refl _ _)) (Nat.le_refl _)
    exact ⟨by rw [HF.out]; rfl, (HLv.out _ (go_on b1.out hb2)).2.2⟩
  have hno : NewOk me qh qb qg := Decidable.not_not.1 hno
  have HN := Lib.hid (fun W => RNew_ok me qh qb qg W hno)
  unfold rsc at HN
  have HCm : Hid (∀ W, Below V.heap.size V W → Calls Tryz.prog 57 #[.int .i64 qg, .slice AM P.length cM] W fun e w' => e = .returned (.int .i64 (Se.ckE qg (P.map Se.Pm.m) : Int)) ∧ Hid (Below W.heap.size W w')) := fun W hW => Se.CheckMarks_any qg AM P.length cM P W (HFq.out W hW).m hmz
  have HNx : Hid (∀ W, Below V.heap.size V W → Calls Tryz.prog 58 #[.agg #[.int .i64 me, .int .i64 ep, .slice AN N.length cN, .slice AH H.length cH, .slice AM P.length cM]] W fun e w' => e = .returned (.bool (decide (0 ≤ ep ∧ ep ≤ 65535) && nxOk me ep N)) ∧ Hid (Below W.heap.size W w')) := fun W hW => RNexts_any me ep AN cN N _ _ W (HFq.out W hW).n (HFq.out W hW).nl
  have HHo : Hid ((decide (0 ≤ ep ∧ ep ≤ 65535) && nxOk me ep N) = true → ∀ W, Below V.heap.size V W → Calls Tryz.prog 59 #[.agg #[.int .i64 me, .int .i64 ep, .slice AN N.length cN, .slice AH H.length cH, .slice AM P.length cM]] W fun e w' => e = .returned (.bool (hdOk me ep (cntOf N) H)) ∧ Hid (Below W.heap.size W w')) := fun hx W hW => RHolds_any me ep AN AH cN cH N H _ W (HFq.out W hW).n (HFq.out W hW).nl (by
    unfold nxOk at hx
    simp only [Bool.and_eq_true] at hx
    exact hx.2.1) (HFq.out W hW).h (HFq.out W hW).hl hHc
  have hrg : rgB me ep N H (P.map Se.Pm.m) = ((decide (0 ≤ ep ∧ ep ≤ 65535) && nxOk me ep N) && hdOk me ep (cntOf N) H && !orgB me (P.map Se.Pm.m)) := rfl
  have HBt : Hid (rgB me ep N H (P.map Se.Pm.m) = true → ¬ qh < H.length → ∀ W, Below V.heap.size V W → Calls Tryz.prog 41 #[.agg #[.int .i64 0, .int .i64 0, .int .i64 0, .int .i64 0, .int .i64 0, .slice none 0 0, .slice AH H.length cH, .int .i64 0, .slice none 0 0]] W fun e w' => e = .returned (.int .i64 (bytesOf H)) ∧ Hid (Below W.heap.size W w')) := fun hr hl W hW => RBytesQ_any 0 0 0 0 0 0 (.slice none 0 0) (.slice none 0 0) AH cH H W (HFq.out W hW).h (hd48 (q := ⟨me, qh, qb, qg, ep, N, H, P⟩) hr) (by have := hno.h1; omega)
  have HRw : Hid (∀ W, Below V.heap.size V W → Se.RowsM W AM P.length (P.map Se.Pm.m)) := fun W hW => (Se.rowsM (HFq.out W hW).m (HFq.out W hW).ml rfl).2.2
  have HMl : Hid ((P.map Se.Pm.m).length = P.length) := by show _ = _; simp
  have hPl : P.length ≤ 3000000000000 := (HFq.out V (Below.refl _ _)).ml.len
  have hz : z = if Se.ckE qg (P.map Se.Pm.m) = 2 ∨ rgB me ep N H (P.map Se.Pm.m) = false then 2 else if Se.ckE qg (P.map Se.Pm.m) ≠ 0 ∨ qh < H.length ∨ qb < bytesOf H then 6 else 0 := by
    rw [← hzz]
    unfold frmN
    rw [if_neg (fun h => h hno)]
    rfl
  have hck := ckE_of (ms := P.map Se.Pm.m) hno.g0 hno.g1
  have hfc3 : Se.ckE qg (P.map Se.Pm.m) = 2 ∨ Se.ckE qg (P.map Se.Pm.m) = 6 ∨ Se.ckE qg (P.map Se.Pm.m) = 0 := by rcases hck with h | h | h <;> omega
  obtain ⟨ms, hms⟩ : ∃ x, P.map Se.Pm.m = x := ⟨_, rfl⟩
  rw [hms] at HCm hrg HBt HRw HMl hz hfc3
  obtain ⟨fc, hfc⟩ : ∃ x, Se.ckE qg ms = x := ⟨_, rfl⟩
  obtain ⟨r, hr⟩ : ∃ x, rgB me ep N H ms = x := ⟨_, rfl⟩
  obtain ⟨r1, hr1⟩ : ∃ x, (decide (0 ≤ ep ∧ ep ≤ 65535) && nxOk me ep N) = x := ⟨_, rfl⟩
  obtain ⟨r2, hr2⟩ : ∃ x, hdOk me ep (cntOf N) H = x := ⟨_, rfl⟩
  obtain ⟨by0, hby⟩ : ∃ x, bytesOf H = x := ⟨_, rfl⟩
  obtain ⟨LN, hLN⟩ : ∃ x, N.length = x := ⟨_, rfl⟩
  obtain ⟨LH, hLH⟩ : ∃ x, H.length = x := ⟨_, rfl⟩
  obtain ⟨LP, hLP⟩ : ∃ x, P.length = x := ⟨_, rfl⟩
  rw [hfc] at HCm hz hfc3
  rw [hr] at HBt hz hrg
  rw [hr1] at HNx HHo hrg
  rw [hr2] at HHo hrg
  rw [hby] at HBt hz
  rw [hLN] at HNx HHo
  rw [hLH] at HNx HHo HBt hz
  rw [hLP] at HNx HHo HCm HRw HMl hPl
  rw [hLN, hLH, hLP] at HLv HV
  rw [hLN] at x2
  rw [hLH] at x3
  rw [hLP] at x4
  rw [hLN, hLH, hLP]
  have Hz := Lib.hid hz
  have HRg := Lib.hid hrg
  have HFc := Lib.hid hfc3
  clear hz hck hfc hr hr1 hr2 hby hLN hLH hLP HFq hzz hno hmz hHc hrg hfc3 hms
  go_enter Tryz.func21, Tryz.ntmps21
  go_wp2_with (first
    | (rw [HV.out])
    | (go_at_call 8; refine (HN.out _).mono ?_; rintro e w1 ⟨rfl, b1⟩)
    | (refine wpList_store_row rfl 37 (.tmp 5) (.tmp 14) rfl w1.heap.size #[.int .i64 me, .int .i64 qh, .int .i64 qb, .int .i64 qg, .int .i64 0, .slice none 0 0, .slice none 0 0, .int .i64 qg, .slice none 0 0] rfl rfl 37 _ (heap_alloc_new w1 _) (by kernel_rfl) rfl (rs_one _ _ _ _ _ _ _ _ _ _ _ _ _ _ _) ?_
       obtain ⟨V2, hV2⟩ : ∃ V, (w1.alloc (.cells #[.int .i64 0, .int .i64 0, .int .i64 0, .int .i64 0, .int .i64 0, .slice none 0 0, .slice none 0 0, .int .i64 0, .slice none 0 0] 37)).setRow w1.heap.size #[.int .i64 me, .int .i64 qh, .int .i64 qb, .int .i64 qg, .int .i64 0, .slice none 0 0, .slice none 0 0, .int .i64 qg, .slice none 0 0] = V := ⟨_, rfl⟩
       have hb2 : Below w1.heap.size w1 V2 := by rw [← hV2]; exact Sb.below_setRow _ (Me.below_alloc (Below.refl _ _)) (Nat.le_refl _)
       rw [hV2]
       have B2 := Lib.hid (go_on b1.out hb2)
       clear hV2 hb2))
  clear x0 x1 x2 x3 x4 y0 y1 y2
  go_loopw [7] (fun v7 wr => ∃ i : Nat, i ≤ LP ∧ v7 = .int .i64 i ∧ Hid (∀ j, j < i → ((Se.mrAt ms j).o == me) = false) ∧ Hid (Below V.heap.size V wr)) (fun k _ => LP - (intOf k).toNat)
  case atStart => exact ⟨0, Nat.zero_le _, rfl, fun j hj => absurd hj (by omega), B2⟩
  case round =>
    obtain ⟨i, hi, rfl, hok, HB⟩ := hrel
    obtain ⟨k1, k2, _⟩ := HLv.out _ HB.out
    obtain ⟨y0, y1, y2⟩ := quota_cells k1
    obtain ⟨x0, x1, x2, x3, x4⟩ := state_cells k2
    clear k1 k2
    by_cases hlt : i < LP
    · obtain ⟨g, off, pA, pc, rfl, hg, ⟨c0, c1, c2, c3⟩, _⟩ := HRw.out wr HB.out i hlt
      have g1 : (i : Int) < (LP : Int) := by omega
      have g2 : ¬ ((LP : Int) ≤ (i : Int)) := by omega
      have g3 : (i : Int) ≤ 9223372036854775806 := by omega
      obtain ⟨mo, hmo⟩ : ∃ m, (Se.mrAt ms i).o = m := ⟨_, rfl⟩
      rw [hmo] at c0
      cases hmk : (mo == me) with
      | false =>
        have HOK : Hid (∀ j, j < i + 1 → ((Se.mrAt ms j).o == me) = false) := fun j hj => by
          by_cases e : j = i
          · subst e; rw [hmo]; exact hmk
          · exact hok.out j (by omega)
        clear hok hmo c1 c2 c3 hg
        go_wp2
        go_quiet (fail)
        go_wp2
        go_roundw
        case rel => exact ⟨i + 1, by omega, by go_num, HOK, Me.below_drewN HB.out _⟩
        case measure => simp [intOf]; omega
      | true =>
        have HF : Hid (z = 2) := by
          show _ = _
          have ho := org_of (me := me) (ms := ms) (i := i) (by have := HMl.out; omega) (by rw [hmo]; exact hmk)
          have hg2 := HRg.out
          rw [ho] at hg2
          rw [Hz.out, if_pos (.inr (by rw [hg2]; simp))]
        clear hok hmo c1 c2 c3 hg
        go_wp2
        go_quiet (fail)
        go_wp2
        go_ret
        exact ⟨by rw [HF.out]; rfl, (HLv.out _ (Me.below_drewN HB.out _)).2.2⟩
    · obtain rfl : i = LP := by omega
      have g1 : ¬ (i : Int) < (i : Int) := by omega
      have ho := org_no (me := me) (ms := ms) (fun j hj => hok.out j (by have := HMl.out; omega))
      have hg2 := HRg.out
      rw [ho, Bool.not_false, Bool.and_true] at hg2
      have HG2 := Lib.hid hg2
      clear ho hg2 hok HRw HRg HMl HN
      cases r1 with
      | false =>
        have HF : Hid (z = 2) := by show _ = _; rw [Hz.out, if_pos (.inr (by rw [HG2.out]; rfl))]
        clear Hz HFc HBt HHo HG2
        go_wp2_with (first
          | (go_at_call 57; refine (HCm.out _ HB.out).mono ?_; rintro e w3 ⟨rfl, b3⟩; have B3 := Lib.hid (go_on HB.out b3.out); obtain ⟨k1, k2, _⟩ := HLv.out _ B3.out; clear x0 x1 x2 x3 x4 y0 y1 y2; obtain ⟨x0, x1, x2, x3, x4⟩ := state_cells k2; clear k1 k2)
          | (go_at_call 58; refine (HNx.out _ B3.out).mono ?_; rintro e w4 ⟨rfl, b4⟩; have B4 := Lib.hid (go_on B3.out b4.out); obtain ⟨k1, k2, _⟩ := HLv.out _ B4.out; clear x0 x1 x2 x3 x4; obtain ⟨x0, x1, x2, x3, x4⟩ := state_cells k2; clear k1 k2))
        go_ret
        exact ⟨by rw [HF.out]; rfl, (HLv.out _ B4.out).2.2⟩
      | true =>
        have HHo1 := Lib.hid (HHo.out rfl)
        clear HHo
        cases r2 with
        | false =>
          have HF : Hid (z = 2) := by show _ = _; rw [Hz.out, if_pos (.inr (by rw [HG2.out]; rfl))]
          clear Hz HFc HBt HG2
          go_wp2_with (first
            | (go_at_call 57; refine (HCm.out _ HB.out).mono ?_; rintro e w3 ⟨rfl, b3⟩; have B3 := Lib.hid (go_on HB.out b3.out); obtain ⟨k1, k2, _⟩ := HLv.out _ B3.out; clear x0 x1 x2 x3 x4 y0 y1 y2; obtain ⟨x0, x1, x2, x3, x4⟩ := state_cells k2; clear k1 k2)
            | (go_at_call 58; refine (HNx.out _ B3.out).mono ?_; rintro e w4 ⟨rfl, b4⟩; have B4 := Lib.hid (go_on B3.out b4.out); obtain ⟨k1, k2, _⟩ := HLv.out _ B4.out; clear x0 x1 x2 x3 x4; obtain ⟨x0, x1, x2, x3, x4⟩ := state_cells k2; clear k1 k2)
            | (go_at_call 59; refine (HHo1.out _ B4.out).mono ?_; rintro e w5 ⟨rfl, b5⟩; have B5 := Lib.hid (go_on B4.out b5.out)))
          go_ret
          exact ⟨by rw [HF.out]; rfl, (HLv.out _ B5.out).2.2⟩
        | true =>
          have hrt : r = true := by rw [HG2.out]; rfl
          have hz := Hz.out
          have HBt1 := Lib.hid (HBt.out hrt)
          rw [hrt] at hz
          clear HG2 HBt
          by_cases hf2 : fc = 2
          · have HF : Hid (z = 2) := by show _ = _; rw [hz, if_pos (.inl hf2)]
            subst hf2
            simp only [show ((2 : Nat) : Int) = 2 from rfl] at HCm
            clear hz HFc HBt1 hrt Hz
            go_wp2_with (first
              | (go_at_call 57; refine (HCm.out _ HB.out).mono ?_; rintro e w3 ⟨rfl, b3⟩; have B3 := Lib.hid (go_on HB.out b3.out); obtain ⟨k1, k2, _⟩ := HLv.out _ B3.out; clear x0 x1 x2 x3 x4 y0 y1 y2; obtain ⟨x0, x1, x2, x3, x4⟩ := state_cells k2; clear k1 k2)
              | (go_at_call 58; refine (HNx.out _ B3.out).mono ?_; rintro e w4 ⟨rfl, b4⟩; have B4 := Lib.hid (go_on B3.out b4.out); obtain ⟨k1, k2, _⟩ := HLv.out _ B4.out; clear x0 x1 x2 x3 x4; obtain ⟨x0, x1, x2, x3, x4⟩ := state_cells k2; clear k1 k2)
              | (go_at_call 59; refine (HHo1.out _ B4.out).mono ?_; rintro e w5 ⟨rfl, b5⟩; have B5 := Lib.hid (go_on B4.out b5.out)))
            go_ret
            exact ⟨by rw [HF.out]; rfl, (HLv.out _ B5.out).2.2⟩
          · rw [if_neg (fun h => h.elim hf2 (fun h => by cases h))] at hz
            have hfb : ((fc : Int) == 2) = false := by simpa using fun e : (fc : Int) = 2 => hf2 (by omega)
            have hf60 : fc = 6 ∨ fc = 0 := by rcases HFc.out with h | h | h; exact absurd h hf2; exact .inl h; exact .inr h
            have HF6 := Lib.hid hf60
            have Hz6 := Lib.hid hz
            clear hz HFc hrt Hz hf2 hf60
            go_wp2_with (first
              | (go_at_call 57; refine (HCm.out _ HB.out).mono ?_; rintro e w3 ⟨rfl, b3⟩; have B3 := Lib.hid (go_on HB.out b3.out); obtain ⟨k1, k2, _⟩ := HLv.out _ B3.out; clear x0 x1 x2 x3 x4 y0 y1 y2; obtain ⟨x0, x1, x2, x3, x4⟩ := state_cells k2; clear k1 k2)
              | (go_at_call 58; refine (HNx.out _ B3.out).mono ?_; rintro e w4 ⟨rfl, b4⟩; have B4 := Lib.hid (go_on B3.out b4.out); obtain ⟨k1, k2, _⟩ := HLv.out _ B4.out; clear x0 x1 x2 x3 x4; obtain ⟨x0, x1, x2, x3, x4⟩ := state_cells k2; clear k1 k2)
              | (go_at_call 59; refine (HHo1.out _ B4.out).mono ?_; rintro e w5 ⟨rfl, b5⟩; have B5 := Lib.hid (go_on B4.out b5.out)))
            clear x0 x1 x2 x3 x4 hfb
            have S0 : Below V.heap.size V w5.drew := B5.out.drew
            refine wp_region_held_drew (S := fun W => Below V.heap.size V W) (by kernel_rfl) S0 (fun hHeld => ?_)
            rcases HF6.out with h6 | h6
            · have HF : Hid (z = 6) := by show _ = _; rw [Hz6.out, if_pos (.inl (by omega))]
              subst h6
              refine wpAnyH_take (i := 0) (v := .int .i64 6) rfl (by kernel_rfl) (by kernel_rfl) (by kernel_rfl) (fun _ _ _ h => h) (Or.inl ⟨by rfl, ?_⟩) (by first | assumption | exact trivial) ?_
              · intro W hSW; go_simp; try (with_reducible rfl)
              simp only [Act.put, List.getElem_toArray, List.getElem_cons_succ, List.getElem_cons_zero, List.setIfInBounds_toArray, List.set_cons_zero, List.set_cons_succ]
              refine wpAnyH_take (i := 1) (v := .bool true) rfl (by kernel_rfl) (by kernel_rfl) (by kernel_rfl) (fun _ _ _ h => h) (Or.inl ⟨by rfl, ?_⟩) (by first | assumption | exact trivial) ?_
              · intro W hSW; go_simp; try (with_reducible rfl)
              simp only [Act.put, List.getElem_toArray, List.getElem_cons_succ, List.getElem_cons_zero, List.setIfInBounds_toArray, List.set_cons_zero, List.set_cons_succ]
              refine wpAnyH_take (i := 2) (v := .bool true) rfl (by kernel_rfl) (by kernel_rfl) (by kernel_rfl) (fun _ _ _ h => h) (Or.inl ⟨by rfl, ?_⟩) (by first | assumption | exact trivial) ?_
              · intro W hSW; go_simp; try (with_reducible rfl)
              simp only [Act.put, List.getElem_toArray, List.getElem_cons_succ, List.getElem_cons_zero, List.setIfInBounds_toArray, List.set_cons_zero, List.set_cons_succ]
              refine wpAnyH_take (i := 3) (v := undef) rfl (by kernel_rfl) (by kernel_rfl) (by kernel_rfl) (fun _ _ _ h => h) (Or.inr ⟨by rfl, rfl⟩) (by first | assumption | exact trivial) ?restz1
              simp only [Act.put, List.getElem_toArray, List.getElem_cons_succ, List.getElem_cons_zero, List.setIfInBounds_toArray, List.set_cons_zero, List.set_cons_succ]
              refine wpAnyH_take (i := 4) (v := undef) rfl (by kernel_rfl) (by kernel_rfl) (by kernel_rfl) (fun _ _ _ h => h) (Or.inr ⟨by rfl, rfl⟩) (by first | assumption | exact trivial) ?restz2
              simp only [Act.put, List.getElem_toArray, List.getElem_cons_succ, List.getElem_cons_zero, List.setIfInBounds_toArray, List.set_cons_zero, List.set_cons_succ]
              refine wpAnyH_take (i := 5) (v := undef) rfl (by kernel_rfl) (by kernel_rfl) (by kernel_rfl) (fun _ _ _ h => h) (Or.inr ⟨by rfl, rfl⟩) (by first | assumption | exact trivial) ?restz3
              simp only [Act.put, List.getElem_toArray, List.getElem_cons_succ, List.getElem_cons_zero, List.setIfInBounds_toArray, List.set_cons_zero, List.set_cons_succ]
              refine wpAnyH_take (i := 6) (v := undef) rfl (by kernel_rfl) (by kernel_rfl) (by kernel_rfl) (fun _ _ _ h => h) (Or.inr ⟨by rfl, rfl⟩) (by first | assumption | exact trivial) ?restz4
              simp only [Act.put, List.getElem_toArray, List.getElem_cons_succ, List.getElem_cons_zero, List.setIfInBounds_toArray, List.set_cons_zero, List.set_cons_succ]
              refine wpAnyH_take (i := 7) (v := undef) rfl (by kernel_rfl) (by kernel_rfl) (by kernel_rfl) (fun _ _ _ h => h) (Or.inr ⟨by rfl, rfl⟩) (by first | assumption | exact trivial) ?restz5
              simp only [Act.put, List.getElem_toArray, List.getElem_cons_succ, List.getElem_cons_zero, List.setIfInBounds_toArray, List.set_cons_zero, List.set_cons_succ]
              refine wpAnyH_take (i := 8) (v := undef) rfl (by kernel_rfl) (by kernel_rfl) (by kernel_rfl) (fun _ _ _ h => h) (Or.inr ⟨by rfl, rfl⟩) (by first | assumption | exact trivial) ?restz6
              simp only [Act.put, List.getElem_toArray, List.getElem_cons_succ, List.getElem_cons_zero, List.setIfInBounds_toArray, List.set_cons_zero, List.set_cons_succ]
              refine wpAnyH_take (i := 9) (v := .bool true) rfl (by kernel_rfl) (by kernel_rfl) (by kernel_rfl) (fun _ _ _ h => h) (Or.inl ⟨by rfl, ?_⟩) (by first | assumption | exact trivial) ?_
              · intro W hSW; go_simp; try (with_reducible rfl)
              simp only [Act.put, List.getElem_toArray, List.getElem_cons_succ, List.getElem_cons_zero, List.setIfInBounds_toArray, List.set_cons_zero, List.set_cons_succ]
              refine wpAnyH_take (i := 10) (v := .bool true) rfl (by kernel_rfl) (by kernel_rfl) (by kernel_rfl) (fun _ _ _ h => h) (Or.inl ⟨by rfl, ?_⟩) (by first | assumption | exact trivial) ?_
              · intro W hSW; go_simp; try (with_reducible rfl)
              simp only [Act.put, List.getElem_toArray, List.getElem_cons_succ, List.getElem_cons_zero, List.setIfInBounds_toArray, List.set_cons_zero, List.set_cons_succ]
              refine wpAnyH_take (i := 11) (v := undef) rfl (by kernel_rfl) (by kernel_rfl) (by kernel_rfl) (fun _ _ _ h => h) (Or.inr ⟨by rfl, rfl⟩) (by first | assumption | exact trivial) ?restz7
              simp only [Act.put, List.getElem_toArray, List.getElem_cons_succ, List.getElem_cons_zero, List.setIfInBounds_toArray, List.set_cons_zero, List.set_cons_succ]
              refine wpAnyH_take (i := 12) (v := undef) rfl (by kernel_rfl) (by kernel_rfl) (by kernel_rfl) (fun _ _ _ h => h) (Or.inr ⟨by rfl, rfl⟩) (by first | assumption | exact trivial) ?restz8
              simp only [Act.put, List.getElem_toArray, List.getElem_cons_succ, List.getElem_cons_zero, List.setIfInBounds_toArray, List.set_cons_zero, List.set_cons_succ]
              refine wpAnyH_take (i := 13) (v := undef) rfl (by kernel_rfl) (by kernel_rfl) (by kernel_rfl) (fun _ _ _ h => h) (Or.inr ⟨by rfl, rfl⟩) (by first | assumption | exact trivial) ?restz9
              simp only [Act.put, List.getElem_toArray, List.getElem_cons_succ, List.getElem_cons_zero, List.setIfInBounds_toArray, List.set_cons_zero, List.set_cons_succ]
              refine wpAnyH_take (i := 14) (v := undef) rfl (by kernel_rfl) (by kernel_rfl) (by kernel_rfl) (fun _ _ _ h => h) (Or.inr ⟨by rfl, rfl⟩) (by first | assumption | exact trivial) ?restz10
              simp only [Act.put, List.getElem_toArray, List.getElem_cons_succ, List.getElem_cons_zero, List.setIfInBounds_toArray, List.set_cons_zero, List.set_cons_succ]
              refine wpAnyH_take (i := 15) (v := undef) rfl (by kernel_rfl) (by kernel_rfl) (by kernel_rfl) (fun _ _ _ h => h) (Or.inr ⟨by rfl, rfl⟩) (by first | assumption | exact trivial) ?restz11
              simp only [Act.put, List.getElem_toArray, List.getElem_cons_succ, List.getElem_cons_zero, List.setIfInBounds_toArray, List.set_cons_zero, List.set_cons_succ]
              refine wpAnyH_take (i := 16) (v := undef) rfl (by kernel_rfl) (by kernel_rfl) (by kernel_rfl) (fun _ _ _ h => h) (Or.inr ⟨by rfl, rfl⟩) (by first | assumption | exact trivial) ?restz12
              simp only [Act.put, List.getElem_toArray, List.getElem_cons_succ, List.getElem_cons_zero, List.setIfInBounds_toArray, List.set_cons_zero, List.set_cons_succ]
              refine wpAnyH_take (i := 17) (v := undef) rfl (by kernel_rfl) (by kernel_rfl) (by kernel_rfl) (fun _ _ _ h => h) (Or.inr ⟨by rfl, rfl⟩) (by first | assumption | exact trivial) ?restz13
              simp only [Act.put, List.getElem_toArray, List.getElem_cons_succ, List.getElem_cons_zero, List.setIfInBounds_toArray, List.set_cons_zero, List.set_cons_succ]
              refine wpAnyH_take (i := 18) (v := .bool true) rfl (by kernel_rfl) (by kernel_rfl) (by kernel_rfl) (fun _ _ _ h => h) (Or.inl ⟨by rfl, ?_⟩) (by first | assumption | exact trivial) ?_
              · intro W hSW; go_simp; try (with_reducible rfl)
              simp only [Act.put, List.getElem_toArray, List.getElem_cons_succ, List.getElem_cons_zero, List.setIfInBounds_toArray, List.set_cons_zero, List.set_cons_succ]
              refine wpAnyH_done (by kernel_rfl) ?_ _
              go_wp2
              go_ret
              exact ⟨by rw [HF.out]; rfl, (HLv.out _ S0).2.2⟩
            · subst h6
              refine wpAnyH_take (i := 0) (v := .int .i64 0) rfl (by kernel_rfl) (by kernel_rfl) (by kernel_rfl) (fun _ _ _ h => h) (Or.inl ⟨by rfl, ?_⟩) (by first | assumption | exact trivial) ?_
              · intro W hSW; go_simp; try (with_reducible rfl)
              simp only [Act.put, List.getElem_toArray, List.getElem_cons_succ, List.getElem_cons_zero, List.setIfInBounds_toArray, List.set_cons_zero, List.set_cons_succ]
              refine wpAnyH_take (i := 1) (v := .bool false) rfl (by kernel_rfl) (by kernel_rfl) (by kernel_rfl) (fun _ _ _ h => h) (Or.inl ⟨by rfl, ?_⟩) (by first | assumption | exact trivial) ?_
              · intro W hSW; go_simp; try (with_reducible rfl)
              simp only [Act.put, List.getElem_toArray, List.getElem_cons_succ, List.getElem_cons_zero, List.setIfInBounds_toArray, List.set_cons_zero, List.set_cons_succ]
              refine wpAnyH_take (i := 2) (v := .bool false) rfl (by kernel_rfl) (by kernel_rfl) (by kernel_rfl) (fun _ _ _ h => h) (Or.inl ⟨by rfl, ?_⟩) (by first | assumption | exact trivial) ?_
              · intro W hSW; go_simp; try (with_reducible rfl)
              simp only [Act.put, List.getElem_toArray, List.getElem_cons_succ, List.getElem_cons_zero, List.setIfInBounds_toArray, List.set_cons_zero, List.set_cons_succ]
              refine wpAnyH_take (i := 3) (v := .pointer (some ⟨w.heap.size + 1, 3, none⟩)) rfl (by kernel_rfl) (by kernel_rfl) (by kernel_rfl) (fun _ _ _ h => h) (Or.inl ⟨by rfl, ?_⟩) (by first | assumption | exact trivial) ?_
              · intro W hSW; go_simp; try (with_reducible rfl)
              simp only [Act.put, List.getElem_toArray, List.getElem_cons_succ, List.getElem_cons_zero, List.setIfInBounds_toArray, List.set_cons_zero, List.set_cons_succ]
              refine wpAnyH_take (i := 4) (v := .slice AH LH cH) rfl (by kernel_rfl) (by kernel_rfl) (by kernel_rfl) (fun _ _ _ h => h) (Or.inl ⟨by rfl, ?_⟩) (by first | assumption | exact trivial) ?_
              · intro W hSW; obtain ⟨x0, x1, x2, x3, x4⟩ := state_cells (HLv.out _ hSW).2.1; go_simp; try (with_reducible rfl)
              simp only [Act.put, List.getElem_toArray, List.getElem_cons_succ, List.getElem_cons_zero, List.setIfInBounds_toArray, List.set_cons_zero, List.set_cons_succ]
              refine wpAnyH_take (i := 5) (v := .int .i64 (LH : Int)) rfl (by kernel_rfl) (by kernel_rfl) (by kernel_rfl) (fun _ _ _ h => h) (Or.inl ⟨by rfl, ?_⟩) (by first | assumption | exact trivial) ?_
              · intro W hSW; go_simp; try (with_reducible rfl)
              simp only [Act.put, List.getElem_toArray, List.getElem_cons_succ, List.getElem_cons_zero, List.setIfInBounds_toArray, List.set_cons_zero, List.set_cons_succ]
              refine wpAnyH_take (i := 6) (v := .pointer (some ⟨w.heap.size, 0, none⟩)) rfl (by kernel_rfl) (by kernel_rfl) (by kernel_rfl) (fun _ _ _ h => h) (Or.inl ⟨by rfl, ?_⟩) (by first | assumption | exact trivial) ?_
              · intro W hSW; go_simp; try (with_reducible rfl)
              simp only [Act.put, List.getElem_toArray, List.getElem_cons_succ, List.getElem_cons_zero, List.setIfInBounds_toArray, List.set_cons_zero, List.set_cons_succ]
              refine wpAnyH_take (i := 7) (v := .int .i64 qh) rfl (by kernel_rfl) (by kernel_rfl) (by kernel_rfl) (fun _ _ _ h => h) (Or.inl ⟨by rfl, ?_⟩) (by first | assumption | exact trivial) ?_
              · intro W hSW; obtain ⟨y0, y1, y2⟩ := quota_cells (HLv.out _ hSW).1; go_simp; try (with_reducible rfl)
              simp only [Act.put, List.getElem_toArray, List.getElem_cons_succ, List.getElem_cons_zero, List.setIfInBounds_toArray, List.set_cons_zero, List.set_cons_succ]
              by_cases h1 : qh < (LH : Int)
              · have HF : Hid (z = 6) := by show _ = _; rw [Hz6.out, if_pos (.inr (.inl h1))]
                refine wpAnyH_take (i := 8) (v := .bool true) rfl (by kernel_rfl) (by kernel_rfl) (by kernel_rfl) (fun _ _ _ h => h) (Or.inl ⟨by rfl, ?_⟩) (by first | assumption | exact trivial) ?_
                · intro W hSW; go_simp; try (with_reducible rfl)
                simp only [Act.put, List.getElem_toArray, List.getElem_cons_succ, List.getElem_cons_zero, List.setIfInBounds_toArray, List.set_cons_zero, List.set_cons_succ]
                refine wpAnyH_take (i := 9) (v := .bool true) rfl (by kernel_rfl) (by kernel_rfl) (by kernel_rfl) (fun _ _ _ h => h) (Or.inl ⟨by rfl, ?_⟩) (by first | assumption | exact trivial) ?_
                · intro W hSW; go_simp; try (with_reducible rfl)
                simp only [Act.put, List.getElem_toArray, List.getElem_cons_succ, List.getElem_cons_zero, List.setIfInBounds_toArray, List.set_cons_zero, List.set_cons_succ]
                refine wpAnyH_take (i := 10) (v := .bool true) rfl (by kernel_rfl) (by kernel_rfl) (by kernel_rfl) (fun _ _ _ h => h) (Or.inl ⟨by rfl, ?_⟩) (by first | assumption | exact trivial) ?_
                · intro W hSW; go_simp; try (with_reducible rfl)
                simp only [Act.put, List.getElem_toArray, List.getElem_cons_succ, List.getElem_cons_zero, List.setIfInBounds_toArray, List.set_cons_zero, List.set_cons_succ]
                refine wpAnyH_take (i := 11) (v := undef) rfl (by kernel_rfl) (by kernel_rfl) (by kernel_rfl) (fun _ _ _ h => h) (Or.inr ⟨by rfl, rfl⟩) (by first | assumption | exact trivial) ?restz14
                simp only [Act.put, List.getElem_toArray, List.getElem_cons_succ, List.getElem_cons_zero, List.setIfInBounds_toArray, List.set_cons_zero, List.set_cons_succ]
                refine wpAnyH_take (i := 12) (v := undef) rfl (by kernel_rfl) (by kernel_rfl) (by kernel_rfl) (fun _ _ _ h => h) (Or.inr ⟨by rfl, rfl⟩) (by first | assumption | exact trivial) ?restz15
                simp only [Act.put, List.getElem_toArray, List.getElem_cons_succ, List.getElem_cons_zero, List.setIfInBounds_toArray, List.set_cons_zero, List.set_cons_succ]
                refine wpAnyH_take (i := 13) (v := undef) rfl (by kernel_rfl) (by kernel_rfl) (by kernel_rfl) (fun _ _ _ h => h) (Or.inr ⟨by rfl, rfl⟩) (by first | assumption | exact trivial) ?restz16
                simp only [Act.put, List.getElem_toArray, List.getElem_cons_succ, List.getElem_cons_zero, List.setIfInBounds_toArray, List.set_cons_zero, List.set_cons_succ]
                refine wpAnyH_take (i := 14) (v := undef) rfl (by kernel_rfl) (by kernel_rfl) (by kernel_rfl) (fun _ _ _ h => h) (Or.inr ⟨by rfl, rfl⟩) (by first | assumption | exact trivial) ?restz17
                simp only [Act.put, List.getElem_toArray, List.getElem_cons_succ, List.getElem_cons_zero, List.setIfInBounds_toArray, List.set_cons_zero, List.set_cons_succ]
                refine wpAnyH_take (i := 15) (v := undef) rfl (by kernel_rfl) (by kernel_rfl) (by kernel_rfl) (fun _ _ _ h => h) (Or.inr ⟨by rfl, rfl⟩) (by first | assumption | exact trivial) ?restz18
                simp only [Act.put, List.getElem_toArray, List.getElem_cons_succ, List.getElem_cons_zero, List.setIfInBounds_toArray, List.set_cons_zero, List.set_cons_succ]
                refine wpAnyH_take (i := 16) (v := undef) rfl (by kernel_rfl) (by kernel_rfl) (by kernel_rfl) (fun _ _ _ h => h) (Or.inr ⟨by rfl, rfl⟩) (by first | assumption | exact trivial) ?restz19
                simp only [Act.put, List.getElem_toArray, List.getElem_cons_succ, List.getElem_cons_zero, List.setIfInBounds_toArray, List.set_cons_zero, List.set_cons_succ]
                refine wpAnyH_take (i := 17) (v := undef) rfl (by kernel_rfl) (by kernel_rfl) (by kernel_rfl) (fun _ _ _ h => h) (Or.inr ⟨by rfl, rfl⟩) (by first | assumption | exact trivial) ?restz20
                simp only [Act.put, List.getElem_toArray, List.getElem_cons_succ, List.getElem_cons_zero, List.setIfInBounds_toArray, List.set_cons_zero, List.set_cons_succ]
                refine wpAnyH_take (i := 18) (v := .bool true) rfl (by kernel_rfl) (by kernel_rfl) (by kernel_rfl) (fun _ _ _ h => h) (Or.inl ⟨by rfl, ?_⟩) (by first | assumption | exact trivial) ?_
                · intro W hSW; go_simp; try (with_reducible rfl)
                simp only [Act.put, List.getElem_toArray, List.getElem_cons_succ, List.getElem_cons_zero, List.setIfInBounds_toArray, List.set_cons_zero, List.set_cons_succ]
                refine wpAnyH_done (by kernel_rfl) ?_ _
                go_wp2
                go_ret
                exact ⟨by rw [HF.out]; rfl, (HLv.out _ S0).2.2⟩
              · have H1 := Lib.hid h1
                have HBt2 := Lib.hid (HBt1.out (by omega))
                refine wpAnyH_take (i := 8) (v := .bool false) rfl (by kernel_rfl) (by kernel_rfl) (by kernel_rfl) (fun _ _ _ h => h) (Or.inl ⟨by rfl, ?_⟩) (by first | assumption | exact trivial) ?_
                · intro W hSW; go_simp; try (with_reducible rfl)
                simp only [Act.put, List.getElem_toArray, List.getElem_cons_succ, List.getElem_cons_zero, List.setIfInBounds_toArray, List.set_cons_zero, List.set_cons_succ]
                refine wpAnyH_take (i := 9) (v := .bool false) rfl (by kernel_rfl) (by kernel_rfl) (by kernel_rfl) (fun _ _ _ h => h) (Or.inl ⟨by rfl, ?_⟩) (by first | assumption | exact trivial) ?_
                · intro W hSW; go_simp; try (with_reducible rfl)
                simp only [Act.put, List.getElem_toArray, List.getElem_cons_succ, List.getElem_cons_zero, List.setIfInBounds_toArray, List.set_cons_zero, List.set_cons_succ]
                refine wpAnyH_take (i := 10) (v := .bool false) rfl (by kernel_rfl) (by kernel_rfl) (by kernel_rfl) (fun _ _ _ h => h) (Or.inl ⟨by rfl, ?_⟩) (by first | assumption | exact trivial) ?_
                · intro W hSW; go_simp; try (with_reducible rfl)
                simp only [Act.put, List.getElem_toArray, List.getElem_cons_succ, List.getElem_cons_zero, List.setIfInBounds_toArray, List.set_cons_zero, List.set_cons_succ]
                refine wpAnyH_take (i := 11) (v := .pointer (some ⟨w.heap.size + 1, 3, none⟩)) rfl (by kernel_rfl) (by kernel_rfl) (by kernel_rfl) (fun _ _ _ h => h) (Or.inl ⟨by rfl, ?_⟩) (by first | assumption | exact trivial) ?_
                · intro W hSW; go_simp; try (with_reducible rfl)
                simp only [Act.put, List.getElem_toArray, List.getElem_cons_succ, List.getElem_cons_zero, List.setIfInBounds_toArray, List.set_cons_zero, List.set_cons_succ]
                refine wpAnyH_take (i := 12) (v := .slice AH LH cH) rfl (by kernel_rfl) (by kernel_rfl) (by kernel_rfl) (fun _ _ _ h => h) (Or.inl ⟨by rfl, ?_⟩) (by first | assumption | exact trivial) ?_
                · intro W hSW; obtain ⟨x0, x1, x2, x3, x4⟩ := state_cells (HLv.out _ hSW).2.1; go_simp; try (with_reducible rfl)
                simp only [Act.put, List.getElem_toArray, List.getElem_cons_succ, List.getElem_cons_zero, List.setIfInBounds_toArray, List.set_cons_zero, List.set_cons_succ]
                refine wpAnyH_take (i := 13) (v := .agg #[.int .i64 0, .int .i64 0, .int .i64 0, .int .i64 0, .int .i64 0, .slice none 0 0, .slice AH LH cH, .int .i64 0, .slice none 0 0]) rfl (by kernel_rfl) (by kernel_rfl) (by kernel_rfl) (fun _ _ _ h => h) (Or.inl ⟨by rfl, ?_⟩) (by first | assumption | exact trivial) ?_
                · intro W hSW; have bb := build_b4 AH LH cH W; go_simp; try (with_reducible rfl)
                simp only [Act.put, List.getElem_toArray, List.getElem_cons_succ, List.getElem_cons_zero, List.setIfInBounds_toArray, List.set_cons_zero, List.set_cons_succ]
                refine wpAnyH_take (i := 15) (v := .pointer (some ⟨w.heap.size, 1, none⟩)) rfl (by kernel_rfl) (by kernel_rfl) (by kernel_rfl) (fun _ _ _ h => h) (Or.inl ⟨by rfl, ?_⟩) (by first | assumption | exact trivial) ?_
                · intro W hSW; go_simp; try (with_reducible rfl)
                simp only [Act.put, List.getElem_toArray, List.getElem_cons_succ, List.getElem_cons_zero, List.setIfInBounds_toArray, List.set_cons_zero, List.set_cons_succ]
                refine wpAnyH_take (i := 16) (v := .int .i64 qb) rfl (by kernel_rfl) (by kernel_rfl) (by kernel_rfl) (fun _ _ _ h => h) (Or.inl ⟨by rfl, ?_⟩) (by first | assumption | exact trivial) ?_
                · intro W hSW; obtain ⟨y0, y1, y2⟩ := quota_cells (HLv.out _ hSW).1; go_simp; try (with_reducible rfl)
                simp only [Act.put, List.getElem_toArray, List.getElem_cons_succ, List.getElem_cons_zero, List.setIfInBounds_toArray, List.set_cons_zero, List.set_cons_succ]
                refine wpAnyH_ready (rs := [14]) (by kernel_rfl) (by simp) ?_
                refine AllReadyH.cons rfl (fun K hK => ?_) AllReadyH.nil
                go_simp
                go_wp2_with (go_at_call 41; refine (HBt2.out _ S0).mono ?_; rintro e w6 ⟨rfl, b6⟩)
                have S6 := go_on S0 b6.out
                refine hK.out _ _ (S6) (fun hHeld => ?_)
                clear hK K
                by_cases h2 : qb < by0
                · have HF : Hid (z = 6) := by show _ = _; rw [Hz6.out, if_pos (.inr (.inr h2))]
                  refine wpAnyH_take (i := 17) (v := .bool true) rfl (by kernel_rfl) (by kernel_rfl) (by kernel_rfl) (fun _ _ _ h => h) (Or.inl ⟨by rfl, ?_⟩) (by first | assumption | exact trivial) ?_
                  · intro W hSW; go_simp; try (with_reducible rfl)
                  simp only [Act.put, List.getElem_toArray, List.getElem_cons_succ, List.getElem_cons_zero, List.setIfInBounds_toArray, List.set_cons_zero, List.set_cons_succ]
                  refine wpAnyH_take (i := 18) (v := .bool true) rfl (by kernel_rfl) (by kernel_rfl) (by kernel_rfl) (fun _ _ _ h => h) (Or.inl ⟨by rfl, ?_⟩) (by first | assumption | exact trivial) ?_
                  · intro W hSW; go_simp; try (with_reducible rfl)
                  simp only [Act.put, List.getElem_toArray, List.getElem_cons_succ, List.getElem_cons_zero, List.setIfInBounds_toArray, List.set_cons_zero, List.set_cons_succ]
                  refine wpAnyH_done (by kernel_rfl) ?_ _
                  go_wp2
                  go_ret
                  exact ⟨by rw [HF.out]; rfl, (HLv.out _ S6).2.2⟩
                · have HF : Hid (z = 0) := by show _ = _; rw [Hz6.out, if_neg (fun h => h.elim (fun h => h rfl) fun h => h.elim (fun h => by have := H1.out; omega) h2)]
                  refine wpAnyH_take (i := 17) (v := .bool false) rfl (by kernel_rfl) (by kernel_rfl) (by kernel_rfl) (fun _ _ _ h => h) (Or.inl ⟨by rfl, ?_⟩) (by first | assumption | exact trivial) ?_
                  · intro W hSW; go_simp; try (with_reducible rfl)
                  simp only [Act.put, List.getElem_toArray, List.getElem_cons_succ, List.getElem_cons_zero, List.setIfInBounds_toArray, List.set_cons_zero, List.set_cons_succ]
                  refine wpAnyH_take (i := 18) (v := .bool false) rfl (by kernel_rfl) (by kernel_rfl) (by kernel_rfl) (fun _ _ _ h => h) (Or.inl ⟨by rfl, ?_⟩) (by first | assumption | exact trivial) ?_
                  · intro W hSW; go_simp; try (with_reducible rfl)
                  simp only [Act.put, List.getElem_toArray, List.getElem_cons_succ, List.getElem_cons_zero, List.setIfInBounds_toArray, List.set_cons_zero, List.set_cons_succ]
                  refine wpAnyH_done (by kernel_rfl) ?_ _
                  go_wp2
                  go_ret
                  exact ⟨by rw [HF.out]; rfl, (HLv.out _ S6).2.2⟩
end Go.Proofs.YtfnlhfelpdkieaaGreat.So
