/- A message in its box; a contract over what a drawn region holds. -/
import Derived.Test.YtfnlhfelpdkieaaGreatZ21
import Derived.Test.YtfnlhfelpdkieaaGreatZ22
import Derived.Test.YtfnlhfelpdkieaaGreatZ7
import Derived.Test.YtfnlhfelpdkieaaGreatZ15
namespace Go.Proofs.YtfnlhfelpdkieaaGreat.Mg
open Go.RowKit
open Go.Proofs.YtfnlhfelpdkieaaGreat.Me
set_option linter.unusedVariables false
set_option linter.unusedSimpArgs false
/-- A call's contract, over what a drawn region holds. -/
theorem held {f : FuncId} {args : Array Value} {E : Ending} {W1 : World} {S : World → Prop} (hX : ∀ W, Below W1.heap.size W1 W → S W) (hS : ∀ W, S W → Below W1.heap.size W1 W) (h : ∀ W, Calls Tryz.prog f args W fun e w' => e = E ∧ Hid (Below W.heap.size W w')) :
    Hid (∀ W, S W → Calls Tryz.prog f args W fun e w' => e = E ∧ S w') := fun W hW =>
  (h W).mono fun _ _ ⟨he, hb⟩ => ⟨he, hX _ ((hS W hW).trans (hb.out.mono (hS W hW).size))⟩
/-- The cells of a message's box. -/
def Bx (i : Id4) (A : Option Addr) (n c b : Nat) (W : World) : Prop := W.cell? ⟨b, 0, none⟩ = some (.int .i64 i.o) ∧ W.cell? ⟨b, 1, none⟩ = some (.int .i64 i.d) ∧ W.cell? ⟨b, 2, none⟩ = some (.int .i64 i.e) ∧ W.cell? ⟨b, 3, none⟩ = some (.int .i64 i.c) ∧ W.cell? ⟨b, 4, none⟩ = some (.slice A n c)
theorem bx_new (i : Id4) (A : Option Addr) (n c : Nat) (w W1 : World) (h : w.alloc (.cells (msgC i A n c) 46 (0, 0)) = W1) : Below w.heap.size w W1 ∧ W1.heap.size = w.heap.size + 1 ∧ ∀ W, Below W1.heap.size W1 W → Bx i A n c w.heap.size W := by
  subst h
  exact ⟨Me.below_alloc (Below.refl _ _), by simp, fun W hW => by
    obtain ⟨x0, x1, x2, x3, x4, _⟩ := box5 i A n c w W hW
    exact ⟨x0, x1, x2, x3, x4⟩⟩
end Go.Proofs.YtfnlhfelpdkieaaGreat.Mg
/- From's helper heldIsRight. -/
namespace Go.Proofs.YtfnlhfelpdkieaaGreat.So
open Go.RowKit
open Go.Proofs.YtfnlhfelpdkieaaGreat.Me Go.Proofs.YtfnlhfelpdkieaaGreat.Sb
set_option linter.unusedVariables false
set_option linter.unusedSimpArgs false

theorem mk_map2 (W : World) : (Instr.makeMap 158 none).run Tryz.prog W = .ok (.map (some W.heap.size)) (W.alloc (.map #[] 0)) := by kernel_rfl
theorem wpList_putK {w w' : World} {ops : Array Oper} {rest : List Oper} {o : Oper} {a : Act} {Q : Exit → Act → World → Prop} (hg : o.guard = none) (m x v : Operand) (ho : o.op = .mapUpdate 158 m x v) (M X U : Value) (hm : a.eval m = M) (hx : a.eval x = X) (hv : a.eval v = U)
    (hr : (Instr.mapUpdate 158 M X U).run Tryz.prog w = .ok () w') (h : wpList Tryz.prog ops Q rest (a.put o.dst undef) w') : wpList Tryz.prog ops Q (o :: rest) a w := by
  refine wpList_plain hg fun K hK => ?_
  unfold Oper.wp execOp
  simp only [ho, Sem.run_bind, Sem.run_pure, Result.andThen_ok, hm, hx, hv, hr]
  exact hK _ _ h
/-- Which messages a node may hold. -/
def hdOk (me ep : Int) (f : Nat → Int) (H : List It) : Bool := decide ((∀ x ∈ H, hdB me ep f x = true) ∧ (H.map It.i).Nodup)
set_option maxRecDepth 100000 in
set_option maxHeartbeats 32000000 in
theorem heldIsRight_any (me ep : Int) (AN AH : Option Addr) (cN cH : Nat) (N : Ns) (H : List It) (vM : Value) (w : World) (hN : Hid (Nq w AN N)) (hd : Hid (∀ p ∈ N, 0 ≤ p.1 ∧ p.1 < 64)) (hNl : N.length ≤ 1000000) (hH : Hid (Mq w AH H)) (hHl : H.length ≤ 10000000000000) :
    Calls Tryz.prog 82 #[.agg #[.int .i64 me, .int .i64 ep, .slice AN N.length cN, .slice AH H.length cH, vM]] w fun e w' => e = .returned (.bool (hdOk me ep (cntOf N) H)) ∧ Hid (Below w.heap.size w w') := by
  have hB : Below w.heap.size w (w.alloc (.cells #[.int .i64 me, .int .i64 ep, .slice AN N.length cN, .slice AH H.length cH, vM] 59)) := Me.below_alloc (Below.refl _ _)
  have hX : (w.alloc (.cells #[.int .i64 me, .int .i64 ep, .slice AN N.length cN, .slice AH H.length cH, vM] 59)).heap[w.heap.size]? = some (.cells #[.int .i64 me, .int .i64 ep, .slice AN N.length cN, .slice AH H.length cH, vM] 59 (0, 0)) := heap_alloc_new w _
  obtain ⟨V0, hV0⟩ : ∃ V, w.alloc (.cells #[.int .i64 me, .int .i64 ep, .slice AN N.length cN, .slice AH H.length cH, vM] 59) = V := ⟨_, rfl⟩
  rw [hV0] at hB hX
  have HCo := Lib.hid (countersOf_any AN cN N V0 (Lib.hid (hN.out.below hB)) hd hNl)
  have HCk := Lib.hid (fun i A n c W => Mg.CheckMsg_any i A n c W)
  have HFt := Lib.hid (fun i W => fits_any i me ep W)
  obtain ⟨r, hr⟩ : ∃ r, hdOk me ep (cntOf N) H = r := ⟨_, rfl⟩
  have HR : Hid (hdOk me ep (cntOf N) H = r) := hr
  obtain ⟨f, hf⟩ : ∃ f, cntOf N = f := ⟨_, rfl⟩
  rw [hf] at HCo HR
  obtain ⟨L, hL⟩ : ∃ L, H.length = L := ⟨_, rfl⟩
  have HL := Lib.hid hL
  obtain ⟨LN, hLN⟩ : ∃ L, N.length = L := ⟨_, rfl⟩
  rw [hr]
  rw [hL] at hHl hX hV0
  rw [hLN] at HCo hX hV0
  rw [hL, hLN]
  have HB := Lib.hid hB
  have HX := Lib.hid hX
  have HV0 := Lib.hid hV0
  have HM0 : Hid (∀ W, Below w.heap.size w W → Mq W AH H) := fun W hW => hH.out.below hW
  obtain ⟨x0, x1, x2, x3, x4⟩ := state_cells hX
  clear hL hLN hB hX hV0 hr hf hN hd hNl hH
  go_enter Tryz.func82, Tryz.ntmps82
  go_wp2_with (first
    | (rw [HV0.out])
    | (go_at_call 56; refine HCo.out.mono ?_; rintro e w1 ⟨rfl, b1⟩)
    | (refine Mi.allocTo rfl (.pointer (some ⟨_, 0, none⟩)) (.cells (lastV fun _ => 0) 76 (0, 0)) (alloc_cnt _ _ rfl _) ?_)
    | (refine wpList_store_row rfl 76 (.tmp 3) (.tmp 9) rfl w1.heap.size (lastV f) rfl rfl 76 _ (heap_alloc_new w1 _) (size64 _) (by rw [lastV_size, lastV_size]) (lastV_one _) ?_
       obtain ⟨V1, hV1⟩ : ∃ V, (w1.alloc (.cells (lastV fun _ => 0) 76)).setRow w1.heap.size (lastV f) = V := ⟨_, rfl⟩
       have hb1 : Below w1.heap.size w1 V1 := by rw [← hV1]; exact Sb.below_setRow _ (Me.below_alloc (Below.refl _ _)) (Nat.le_refl _)
       have hc1 : Cn V1 w1.heap.size f := by rw [← hV1]; exact setRow_heap _ _ _ _ _ _ (heap_alloc_new w1 _)
       rw [hV1]
       have HB1 := Lib.hid (go_on b1.out hb1)
       have HC1 := Lib.hid hc1
       clear hV1 hb1 hc1 x0 x1 x2 x3 x4
       have HX1 := Lib.hid ((HB1.out.block _ (Array.getElem?_eq_some_iff.1 HX.out).1).trans HX.out)
       obtain ⟨x0, x1, x2, x3, x4⟩ := state_cells HX1.out)
    | (simp only [mk_map2, Result.andThen_ok]
       obtain ⟨V2, hV2⟩ : ∃ V, V1.alloc (.map #[] 0) = V := ⟨_, rfl⟩
       have hb2 : Below V1.heap.size V1 V2 := by rw [← hV2]; exact Me.below_alloc (Below.refl _ _)
       have hk2 : Ks V2 V1.heap.size [] := by rw [← hV2]; exact Ks.made V1
       rw [hV2]
       have HB2 := Lib.hid (go_on HB1.out hb2)
       have HC2 := Lib.hid ((hb2.block _ (Array.getElem?_eq_some_iff.1 HC1.out).1).trans HC1.out)
       have HK2 := Lib.hid hk2
       have HX2 := Lib.hid ((hb2.block _ (Array.getElem?_eq_some_iff.1 HX1.out).1).trans HX1.out)
       clear hV2 hb2 hk2 x0 x1 x2 x3 x4
       obtain ⟨x0, x1, x2, x3, x4⟩ := state_cells HX2.out))
  have hcb : Hid (w.heap.size < w1.heap.size ∧ w1.heap.size < V1.heap.size) := ⟨by have h1 := (Array.getElem?_eq_some_iff.1 HX.out).1; have h2 := b1.out.size; omega, (Array.getElem?_eq_some_iff.1 HC1.out).1⟩
  obtain ⟨cb, hcbe⟩ : ∃ x, w1.heap.size = x := ⟨_, rfl⟩
  obtain ⟨mb, hmbe⟩ : ∃ x, V1.heap.size = x := ⟨_, rfl⟩
  rw [hcbe, hmbe] at hcb ⊢
  rw [hcbe] at HC2
  rw [hmbe] at HK2
  have HBw := Lib.hid (go_on HB.out HB2.out)
  clear HX1 HC1 HB1 HB2 HX b1 hcbe hmbe x0 x1 x2 x3 x4 HCo HV0
  go_loopw [14] (fun v14 wr => ∃ i : Nat, i ≤ L ∧ v14 = .int .i64 i ∧ Hid (∀ x ∈ H.take i, hdB me ep f x = true) ∧ Hid (Ks wr mb (setI ((H.take i).map It.i))) ∧ Hid (Cn wr cb f) ∧ Hid (wr.heap[w.heap.size]? = some (.cells #[.int .i64 me, .int .i64 ep, .slice AN LN cN, .slice AH L cH, vM] 59 (0, 0))) ∧ Hid (Below w.heap.size w wr)) (fun k _ => L - (intOf k).toNat)
  case atStart => exact ⟨0, Nat.zero_le _, rfl, (fun x hx => by simp at hx), HK2, HC2, HX2, HBw⟩
  case round =>
    obtain ⟨i, hi, rfl, HA, HK, HC, HXr, HBr⟩ := hrel
    obtain ⟨x0, x1, x2, x3, x4⟩ := state_cells HXr.out
    by_cases hlt : i < L
    · obtain ⟨x, hx⟩ : ∃ x, H[i]? = some x := ⟨_, List.getElem?_eq_getElem (by have := HL.out; omega)⟩
      obtain ⟨g, off, R, cr, rfl, hg, ⟨c0, c1, c2, c3, c4⟩, _⟩ := HM0.out wr HBr.out i x hx
      have ht : H.take (i + 1) = H.take i ++ [x] := by rw [List.take_add_one, hx]; rfl
      have hxm := List.mem_of_getElem? hx
      have HFalse : Hid (hdB me ep f x = false → r = false) := fun h => by
        rw [← HR.out]
        exact decide_eq_false fun h2 => by rw [h2.1 x hxm] at h; cases h
      have HTrue : Hid (hdB me ep f x = true → ∀ y ∈ H.take (i + 1), hdB me ep f y = true) := fun h y hy => by
        rw [ht] at hy
        rcases List.mem_append.1 hy with hy | hy
        · exact HA.out y hy
        · obtain rfl : y = x := by simpa using hy
          exact h
      have HSt : Hid (setI ((H.take (i + 1)).map It.i) = addI (setI ((H.take i).map It.i)) x.i) := by
        show _ = _
        rw [ht, List.map_append]
        exact setI_snoc _ _
      have hbx : hdB me ep f x = decide (Mg.msgN x.i x.p.length = 0 ∧ fitsB x.i me ep = true ∧ ¬ (x.i.o = me ∧ x.i.e = ep ∧ f x.i.d.toNat < x.i.c)) := rfl
      obtain ⟨⟨o, d, ee, cc⟩, p⟩ := x
      simp only at c0 c1 c2 c3 c4 hbx
      obtain ⟨n, hn⟩ : ∃ n, p.length = n := ⟨_, rfl⟩
      rw [hn] at c4 hbx
      have g1 : (i : Int) < (L : Int) := by omega
      have g2 : ¬ ((L : Int) ≤ (i : Int)) := by omega
      have g3 : (i : Int) ≤ 9223372036854775806 := by omega
      obtain ⟨V, hV⟩ : ∃ V, wr.alloc (.cells #[.int .i64 o, .int .i64 d, .int .i64 ee, .int .i64 cc, .slice R n cr] 46) = V := ⟨_, rfl⟩
      have hbv : Below wr.heap.size wr V := by rw [← hV]; exact Me.below_alloc (Below.refl _ _)
      have hxv : V.heap[wr.heap.size]? = some (.cells #[.int .i64 o, .int .i64 d, .int .i64 ee, .int .i64 cc, .slice R n cr] 46 (0, 0)) := by rw [← hV]; exact heap_alloc_new wr _
      have HV := Lib.hid hV
      have HLv : Hid (∀ W, Below V.heap.size V W → W.heap[wr.heap.size]? = some (.cells #[.int .i64 o, .int .i64 d, .int .i64 ee, .int .i64 cc, .slice R n cr] 46 (0, 0)) ∧ Cn W cb f ∧ Ks W mb (setI ((H.take i).map It.i)) ∧ W.heap[w.heap.size]? = some (.cells #[.int .i64 me, .int .i64 ep, .slice AN LN cN, .slice (some ⟨g, off, none⟩) L cH, vM] 59 (0, 0)) ∧ Below w.heap.size w W) := fun W hW => by
        have k := hbv.trans (hW.mono hbv.size)
        exact ⟨(hW.block _ (Array.getElem?_eq_some_iff.1 hxv).1).trans hxv, (k.block _ (Array.getElem?_eq_some_iff.1 HC.out).1).trans HC.out, HK.out.keep (k.block _ HK.out.lt), (k.block _ (Array.getElem?_eq_some_iff.1 HXr.out).1).trans HXr.out, go_on HBr.out k⟩
      obtain ⟨z0, z1, z2, z3, z4⟩ := msg_cells hxv
      have HCk1 := Lib.hid (fun W => HCk.out ⟨o, d, ee, cc⟩ R n cr W)
      have HFt1 := Lib.hid (fun W => HFt.out ⟨o, d, ee, cc⟩ W)
      simp only [Mg.msgC, Mg.idC] at HCk1 HFt1
      clear hV hbv hxv HCk HFt HA HK HC ht hxm x0 x1 x2 x3 x4
      by_cases h0 : Mg.msgN ⟨o, d, ee, cc⟩ n = 0
      · have hri : Mg.Right ⟨o, d, ee, cc⟩ := (msgN_zero h0).1
        have hd0 := hri.d0
        have hd1 := hri.d1
        rw [h0, show ((0 : Nat) : Int) = 0 from rfl] at HCk1
        cases hft : fitsB ⟨o, d, ee, cc⟩ me ep with
        | false =>
          have HF : Hid (r = false) := HFalse.out (by rw [hbx]; exact decide_eq_false fun h => by rw [hft] at h; cases h.2.1)
          rw [hft] at HFt1
          clear h0 hri hd0 hd1 hft hbx hx hn
          go_wp2_with (first
            | (rw [HV.out])
            | (go_at_call 77; refine (HCk1.out _).mono ?_; rintro e w3 ⟨rfl, b3⟩; obtain ⟨k1, _, _, k4, _⟩ := HLv.out w3 b3.out; clear z0 z1 z2 z3 z4; obtain ⟨z0, z1, z2, z3, z4⟩ := msg_cells k1; obtain ⟨x0, x1, x2, x3, x4⟩ := state_cells k4; clear k1 k4)
            | (go_at_call 79; refine (HFt1.out _).mono ?_; rintro e w4 ⟨rfl, b4⟩; have B4 := Lib.hid (go_on b3.out b4.out)))
          go_ret
          exact ⟨by rw [HF.out]; rfl, (HLv.out _ B4.out).2.2.2.2⟩
        | true =>
          simp only at hd0 hd1
          obtain ⟨dn, hdn⟩ : ∃ k : Nat, d = (k : Int) := ⟨d.toNat, by omega⟩
          subst hdn
          have hdn : dn < 64 := by omega
          have htn : ((dn : Int)).toNat = dn := by omega
          rw [hft] at HFt1
          rw [htn] at hbx
          have hfit := fit_right hri
          have hSl : (setI ((H.take i).map It.i)).length ≤ 100000000000000 := by
            have h1 := (setI_len ((H.take i).map It.i)).1
            rw [List.length_map, List.length_take] at h1
            omega
          have HFit := Lib.hid hfit
          have HSl := Lib.hid hSl
          have HDn := Lib.hid hdn
          have hcase : ((o == me) = false ∧ hdB me ep f ⟨⟨o, (dn : Int), ee, cc⟩, p⟩ = true) ∨ ((o == me) = true ∧ (ee == ep) = false ∧ hdB me ep f ⟨⟨o, (dn : Int), ee, cc⟩, p⟩ = true) ∨ ((o == me) = true ∧ (ee == ep) = true ∧ decide (f dn < cc) = false ∧ hdB me ep f ⟨⟨o, (dn : Int), ee, cc⟩, p⟩ = true) ∨ ((o == me) = true ∧ (ee == ep) = true ∧ decide (f dn < cc) = true ∧ hdB me ep f ⟨⟨o, (dn : Int), ee, cc⟩, p⟩ = false) := by
            rw [hbx]
            by_cases e1 : o = me
            · by_cases e2 : ee = ep
              · by_cases e3 : f dn < cc
                · refine .inr (.inr (.inr ⟨by simpa using e1, by simpa using e2, by simpa using e3, decide_eq_false fun h => h.2.2 ⟨e1, e2, e3⟩⟩))
                · refine .inr (.inr (.inl ⟨by simpa using e1, by simpa using e2, by simpa using e3, decide_eq_true ⟨h0, hft, fun h => e3 h.2.2⟩⟩))
              · exact .inr (.inl ⟨by simpa using e1, by simpa using e2, decide_eq_true ⟨h0, hft, fun h => e2 h.2.1⟩⟩)
            · exact .inl ⟨by simpa using e1, decide_eq_true ⟨h0, hft, fun h => e1 h.1⟩⟩
          clear h0 hri hd0 hd1 hft hbx hx hn hfit hSl htn
          rcases hcase with ⟨e1, hT⟩ | ⟨e1, e2, hT⟩ | ⟨e1, e2, e3, hT⟩ | ⟨e1, e2, e3, hT⟩
          case inr.inr.inr =>
            have HF := Lib.hid (HFalse.out hT)
            clear hT
            go_wp2_with (first
              | (rw [HV.out])
              | (go_at_call 77; refine (HCk1.out _).mono ?_; rintro e w3 ⟨rfl, b3⟩; obtain ⟨k1, _, _, k4, _⟩ := HLv.out w3 b3.out; clear z0 z1 z2 z3 z4; obtain ⟨z0, z1, z2, z3, z4⟩ := msg_cells k1; obtain ⟨x0, x1, x2, x3, x4⟩ := state_cells k4; clear k1 k4)
              | (go_at_call 79; refine (HFt1.out _).mono ?_; rintro e w4 ⟨rfl, b4⟩; have B4 := Lib.hid (go_on b3.out b4.out); obtain ⟨k1, k2, _, k4, _⟩ := HLv.out w4 B4.out; clear z0 z1 z2 z3 z4 x0 x1 x2 x3 x4; obtain ⟨z0, z1, z2, z3, z4⟩ := msg_cells k1; obtain ⟨x0, x1, x2, x3, x4⟩ := state_cells k4; have y := k2.cell HDn.out; clear k1 k2 k4))
            go_quiet (fail)
            go_wp2
            go_ret
            exact ⟨by rw [HF.out]; rfl, (HLv.out _ (go_on B4.out (Me.below_drewN (Below.refl _ _) nq))).2.2.2.2⟩
          all_goals
            have HT := Lib.hid (HTrue.out hT)
            clear hT
            go_wp2_with (first
              | (rw [HV.out])
              | (go_at_call 77; refine (HCk1.out _).mono ?_; rintro e w3 ⟨rfl, b3⟩; obtain ⟨k1, _, _, k4, _⟩ := HLv.out w3 b3.out; clear z0 z1 z2 z3 z4; obtain ⟨z0, z1, z2, z3, z4⟩ := msg_cells k1; obtain ⟨x0, x1, x2, x3, x4⟩ := state_cells k4; clear k1 k4)
              | (go_at_call 79; refine (HFt1.out _).mono ?_; rintro e w4 ⟨rfl, b4⟩; have B4 := Lib.hid (go_on b3.out b4.out); obtain ⟨k1, k2, _, k4, _⟩ := HLv.out w4 B4.out; clear z0 z1 z2 z3 z4 x0 x1 x2 x3 x4; obtain ⟨z0, z1, z2, z3, z4⟩ := msg_cells k1; obtain ⟨x0, x1, x2, x3, x4⟩ := state_cells k4; have y := k2.cell HDn.out; clear k1 k2 k4))
            go_quiet (fail)
            have hb5 := Me.below_drewN (Below.refl w4.heap.size w4) nq
            obtain ⟨V5, hV5⟩ : ∃ V, w4.drewN nq = V := ⟨_, rfl⟩
            rw [hV5] at hb5 ⊢
            obtain ⟨k1, k2, k3, k4, k5⟩ := HLv.out V5 (go_on B4.out hb5)
            clear z0 z1 z2 z3 z4 x0 x1 x2 x3 x4 y hV5 hb5
            obtain ⟨z0, z1, z2, z3, z4⟩ := msg_cells k1
            obtain ⟨w6, hr6, hk6, hb6, hz6⟩ := k3.put HSl.out HFit.out
            have K2 := Lib.hid (hb6.at_ k2 (by have := hcb.out; omega))
            have K4 := Lib.hid (hb6.at_ k4 (by have := hcb.out; omega))
            have K5 := Lib.hid (k5.trans (hb6.below k5.size fun q hq => by have := hcb.out; omega))
            have K6 := Lib.hid hk6
            have HR6 := Lib.hid hr6
            simp only [Mg.idC] at HR6
            clear k1 k2 k3 k4 k5 hk6 hb6 hz6 hr6
            go_wp2_with (refine wpList_putK rfl (.tmp 56) (.tmp 58) (.tmp 59) rfl (.map (some mb)) (.agg #[.int .i64 o, .int .i64 (dn : Int), .int .i64 ee, .int .i64 cc]) (.agg #[]) rfl rfl rfl HR6.out ?_)
            go_roundw
            case rel => exact ⟨i + 1, by omega, by go_num, HT, (by show Ks _ _ _; rw [HSt.out]; exact K6.out), K2, K4, K5⟩
            case measure => simp [intOf]; omega
      · have HF : Hid (r = false) := HFalse.out (by rw [hbx]; exact decide_eq_false fun h => h0 h.1)
        have hnz := Mg.nz h0
        obtain ⟨mN, hmN⟩ : ∃ k, Mg.msgN ⟨o, d, ee, cc⟩ n = k := ⟨_, rfl⟩
        rw [hmN] at HCk1 hnz
        have hnb : ((mN : Int) != 0) = true := by rw [bne, hnz]; rfl
        clear h0 hmN hbx hx hn
        go_wp2_with (first
          | (rw [HV.out])
          | (go_at_call 77; refine (HCk1.out _).mono ?_; rintro e w3 ⟨rfl, b3⟩))
        go_ret
        exact ⟨by rw [HF.out]; rfl, (HLv.out _ b3.out).2.2.2.2⟩
    · obtain rfl : i = L := by omega
      have hall : H.take i = H := List.take_of_length_le (by have := HL.out; omega)
      rw [hall] at HA HK
      have g1 : ¬ (i : Int) < (i : Int) := by omega
      have hlen := setI_len (H.map It.i)
      rw [List.length_map, HL.out] at hlen
      have HLe : Hid (∀ W : World, W.heap[mb]? = wr.heap[mb]? → (Builtin.len_ #[158] 3 #[.map (some mb)]).run Tryz.prog W = .ok (.int .i64 ((setI (H.map It.i)).length : Int)) W) := fun W hW => HK.out.len _ W hW
      obtain ⟨q, hq⟩ : ∃ q, (setI (H.map It.i)).length = q := ⟨_, rfl⟩
      rw [hq] at HLe hlen
      have hF : r = ((q : Int) == (i : Int)) := by
        rw [← HR.out]
        unfold hdOk
        by_cases e : q = i
        · rw [decide_eq_true ⟨HA.out, hlen.2.1 e⟩, e]
          exact (beq_self_eq_true _).symm
        · rw [decide_eq_false fun h => e (hlen.2.2 h.2)]
          symm
          simpa using fun e2 : (q : Int) = (i : Int) => e (by omega)
      have HF := Lib.hid hF
      clear hF hlen hq hall HA HK HR
      go_wp2_with (simp only [HLe.out wr rfl, Result.andThen_ok])
      go_ret
      exact ⟨by rw [HF.out]; try rfl, HBr⟩
end Go.Proofs.YtfnlhfelpdkieaaGreat.So
