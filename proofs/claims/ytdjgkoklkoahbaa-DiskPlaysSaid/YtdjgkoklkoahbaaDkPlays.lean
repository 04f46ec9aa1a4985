/- The walk of the law DiskPlays. -/
import Derived.Test.YtdjgkoklkoahbaaDkPlI
namespace Go.Proofs.Ytdjgkoklkoahbaa.Dk
open Go.RowKit
open Go.Proofs.Ytdjgkoklkoahbaa.Me Go.Proofs.Ytdjgkoklkoahbaa.Hd
set_option linter.unusedVariables false
set_option linter.unusedSimpArgs false

section
variable {s gw g1 : Nat} {w W V : World} {G G' : Nat → Prop} {D mb : Nat} {st st' : St} {v v' : Value} {z : Array Value}
theorem PlI.new {n : Nat} {w1 w2 : World} (hd : Df s w1 (s + 1) s (newS n)) (b1 : Below s w w1) (b2 : Below w1.heap.size w1 w2) :
    PlI s w2.heap.size w (fun k => s ≤ k ∧ k < w1.heap.size) (s + 1) s (newS n) (.slice none 0 0) (w2.alloc (.cells (rcs (newS n) (.slice none 0 0)) 29)) := by
  have b3 : Below w1.heap.size w1 (w2.alloc (.cells (rcs (newS n) (.slice none 0 0)) 29)) := b2.alloc b2.size _
  have hle : s ≤ w1.heap.size := hd.lt
  refine ⟨⟨(hd.dq.mono fun k hk hg => ⟨hg, hk⟩ : Dq (fun k => s ≤ k ∧ k < w1.heap.size) w1 (s + 1) s (newS n)).below b3, hd.ok, Fv.nil _ _, fun k hk => Nat.lt_of_lt_of_le hk.2 b3.size⟩, heap_alloc_new w2 _, fun hg => ?_, fun k hk => hk.1, b1.trans (b3.mono hle), Nat.le_trans hle b2.size⟩
  have := b2.size
  have := hg.2
  omega
theorem PlI.aft {w5 : World} (h : PlI s gw w G D mb st v W) (hb : But G W w5) : w5.heap[gw]? = some (.cells (rcs st v) 29 (0, 0)) ∧ Below s w w5 := by
  refine ⟨hb.at_ h.x h.ng, h.b.trans ⟨hb.os, hb.tape, hb.output, hb.size, fun k hk => hb.same k (Nat.lt_of_lt_of_le hk h.le) fun hg => ?_⟩⟩
  have := h.gs k hg
  omega
theorem PlI.one {w5 : World} (h : PlI s gw w G D mb st v W) (hp : Pz G' w5 D mb st' v') (hs : ∀ k, k < W.heap.size → G' k → G k) (hb : But G W w5) :
    PV s gw w5.heap.size w G' D mb st v st' v' zD (w5.alloc (.cells zD 29)) := by
  obtain ⟨q1, q2⟩ := h.aft hb
  have hlt : gw < w5.heap.size := Nat.lt_of_lt_of_le h.lt hb.size
  have b1 : Below w5.heap.size w5 (w5.alloc (.cells zD 29)) := Me.below_alloc (Below.refl _ _)
  have hsz : s ≤ w5.heap.size := Nat.le_trans h.le hb.size
  refine ⟨hp.below b1, (b1.block _ hlt).trans q1, heap_alloc_new w5 _, fun hg => h.ng (hs _ h.lt hg), fun hg => Nat.lt_irrefl _ (hp.lt _ hg), fun k hk => ?_, q2.trans (b1.mono hsz), h.sg, hsz, by omega⟩
  by_cases e : k < W.heap.size
  · exact h.gs k (hs k e hk)
  · have := h.le; omega
theorem PlI.two {w5 : World} (h : PlI s gw w G D mb st v W) (hp : Pz G' w5 D mb st' v') (hs : ∀ k, k < (W.alloc (.cells zD 29)).heap.size → G' k → G k) (hb : But G (W.alloc (.cells zD 29)) w5) :
    PV s gw W.heap.size w G' D mb st v st' v' zD w5 := by
  have h2 := h.below (Me.below_alloc (Below.refl _ W) : Below W.heap.size W (W.alloc (.cells zD 29)))
  obtain ⟨q1, q2⟩ := h2.aft hb
  have hgl : ¬ G W.heap.size := fun hg => Nat.lt_irrefl _ (h.p.lt _ hg)
  refine ⟨hp, q1, hb.at_ (heap_alloc_new W _) hgl, fun hg => h.ng (hs _ h2.lt hg), fun hg => hgl (hs _ (by simp) hg), fun k hk => ?_, q2, h.sg, h.le, by have := h.lt; omega⟩
  by_cases e : k < (W.alloc (.cells zD 29)).heap.size
  · exact h.gs k (hs k e hk)
  · have := h2.le; omega
theorem rcs0 {u : Value} (h : (rcs st v)[0]? = some u) : ∃ k z, u = .int k z := ⟨.i64, (st.limit : Int), by simpa [rcs] using h.symm⟩
theorem zD0 {u : Value} (h : zD[0]? = some u) : ∃ k z, u = .int k z := ⟨.i64, 0, by simpa [zD] using h.symm⟩
theorem PV.put (h : PV s gw g1 w G D mb st v st' v' zD V) (cs : Array Value) : PV s gw g1 w G D mb st v st' v' cs (V.setRow g1 cs) :=
  ⟨h.p.row h.ny (h.p.fv.ne h.y fun _ => zD0) cs, (setRow_other _ _ _ _ h.ne).trans h.x, setRow_heap _ _ _ _ _ _ h.y, h.nx, h.ny, h.gs, below_row h.b h.sy cs, h.sg, h.sy, h.ne⟩
theorem PV.done (h : PV s gw g1 w G D mb st v st' v' z V) : PlI s gw w G D mb st' v' (V.setRow gw (rcs st' v')) :=
  ⟨h.p.row h.nx (h.p.fv.ne h.x fun _ => rcs0) _, setRow_heap _ _ _ _ _ _ h.x, h.nx, h.gs, below_row h.b h.sg _, h.sg⟩
end
set_option maxRecDepth 100000 in
set_option maxHeartbeats 8000000 in
theorem plays_ok (n : Nat) (h1 : 1 ≤ n) (h2 : n ≤ 1048576) (A : Option Addr) (cap : Nat) (ls : List DAc) (w : World) (hlc : ls.length ≤ cap) (hm : cap ≤ 9223372036854775807) (hacts : Hid (Acts w A ls)) :
    Calls Try.prog 3 #[.int .i64 n, .slice A ls.length cap] w fun e w' => e = .returned (.bool true) ∧ Below w.heap.size w w' := by
  have kc := fun (w : World) (C : Array Value) (n c : Nat) => Lib.run_convert_bytes_const (P := Try.prog) w 33 5 C n c Try.underlying33 Try.underlying5
  have N := Lib.hid (New_f n h1 h2 w)
  have RN := Lib.hid (fun W => RNew_any n h1 h2 W)
  have HA := hacts
  have HAW := Lib.hid awake_any
  obtain ⟨L, hL⟩ : ∃ L, ls.length = L := ⟨_, rfl⟩
  have HL := Lib.hid hL
  rw [hL] at hlc ⊢
  obtain ⟨s, hs⟩ : ∃ s, w.heap.size = s := ⟨_, rfl⟩
  have HS := Lib.hid hs
  rw [hs] at N ⊢
  clear hL hs h1 h2 hacts
  go_enter Try.func3, Try.ntmps3
  go_wp2_with (first
    | (go_at_call 9; refine N.out.mono ?_; rintro e w1 ⟨rfl, H1, B1⟩)
    | (go_at_call 10; refine (RN.out _).mono ?_; rintro e w2 ⟨rfl, B2⟩))
  have HI0 := Lib.hid (PlI.new (w := w) H1.out B1.out B2.out)
  unfold rcs newS leftI at HI0
  simp only [if_true, Bool.false_eq_true, if_false] at HI0
  obtain ⟨X, hX⟩ : ∃ X, w2.alloc (.cells #[.int .i64 (n : Int), .slice none 0 0, .int .i64 (-1), .bool false] 29) = X := ⟨_, rfl⟩
  rw [hX] at HI0 ⊢
  obtain ⟨gw, hgw⟩ : ∃ gw, w2.heap.size = gw := ⟨_, rfl⟩
  rw [hgw] at HI0 ⊢
  clear hX hgw B2 N RN
  go_loopw [5, 9, 10, 11, 12] (fun d i _ _ _ wr => ∃ (k : Nat) (G : Nat → Prop) (D mb : Nat) (st : St) (A' : Option Addr) (n' c' : Nat), k ≤ L ∧ d = .pointer (some ⟨D, 0, none⟩) ∧ i = .int .i64 k ∧ Hid (PlI s gw w G D mb st (.slice A' n' c') wr)) (fun _ i _ _ _ _ => L - (intOf i).toNat)
  case atStart => exact ⟨0, _, s + 1, s, _, none, 0, 0, Nat.zero_le _, rfl, rfl, HI0⟩
  case round =>
    obtain ⟨k, G, D, mb, st, A', n', c', hk, rfl, rfl, hpl⟩ := hrel
    clear HI0 H1 B1
    by_cases hlt : k < L
    · by_cases h100 : (k : Int) < 100
      · obtain ⟨b, off, r, sl, rfl, hbb, hi, hcells⟩ := HA.out.at' (j := k) (by rw [HL.out]; exact hlt)
        obtain ⟨⟨kd, nm, to, p, an, kp⟩, hac⟩ : ∃ a, acAt ls k = a := ⟨_, rfl⟩
        rw [hac] at hcells hi
        rw [HS.out] at hcells
        obtain ⟨R, cr⟩ := r
        obtain ⟨Kp, ck⟩ := sl
        simp only at hcells
        have HCL := Lib.hid hcells
        have HII : Hid (∀ W, Below s w W → AcIn W ⟨kd, nm, to, p, an, kp⟩ (R, cr) (Kp, ck)) := fun W hW => hi.below (by rw [HS.out]; exact hW)
        have HST := Lib.hid (fun (W : World) (G : Nat → Prop) (D mb : Nat) (hP : PlI s gw w G D mb st (.slice A' n' c') W) => step_all W D mb st A' n' c' hP.p kd nm to p an kp (R, cr) (Kp, ck) (HII.out W hP.b))
        have d0 := (hcells wr hpl.out.b).1
        have g1 : (k : Int) < (L : Int) := by omega
        have g0 : (0 : Int) ≤ (k : Int) := by omega
        clear hac hcells hi hbb
        by_cases h9 : kd = 9
        · subst h9
          have FK := Lib.hid (Fork_any wr D mb st hpl.out.p.dq hpl.out.p.ok)
          have CR := Lib.hid (fun (W : World) (hW : Below wr.heap.size wr W) => Crash_any2 W D mb st (hpl.out.p.dq.below hW) hpl.out.p.ok none 0 [] (Mi.Rd.nil _ _ _) (Nat.le_refl _) (by decide) (fun h0 => absurd h0 (by simp)))
          have AP : Hid (∀ (W : World) (G2 : Nat → Prop), Dq G2 W D mb (crashS st []) → Calls Try.prog 14 #[.pointer (some ⟨D, 0, none⟩), .string ⟨#[111, 116, 104, 101, 114]⟩, .slice (some ⟨W.heap.size, 0, none⟩) 1 1] (W.alloc (.cells #[.int .u8 120] 5 (1, 2))) fun e w' => (∃ c : Nat, e = .returned (.int .i64 (c : Int))) ∧ Hid (But G2 (W.alloc (.cells #[.int .u8 120] 5 (1, 2))) w')) := fun W G2 hd => by
            have hb : Below W.heap.size W (W.alloc (.cells #[.int .u8 120] 5 (1, 2))) := Me.below_alloc (Below.refl _ _)
            have hq : Me.Rd (W.alloc (.cells #[.int .u8 120] 5 (1, 2))) (W.alloc (.cells #[.int .u8 120] 5 (1, 2))).heap.size (some ⟨W.heap.size, 0, none⟩) [120] := (Me.rd_lit (w := W) (r := [120]) (by decide) 5 (1, 2)).more (by simp)
            refine (Append_any (W.alloc (.cells #[.int .u8 120] 5 (1, 2))) D mb (crashS st []) (hd.below hb) (hpl.out.p.ok.crash []) [111, 116, 104, 101, 114] (some ⟨W.heap.size, 0, none⟩) 1 [120] hq (fun e => by cases e) (by decide)).mono ?_
            rintro e w' ⟨q1, _, q3⟩
            exact ⟨⟨_, q1⟩, q3⟩
          go_wp2_with (first
            | (go_at_call 12; refine FK.out.mono ?_; rintro e w2 ⟨rfl, hf2, hb2⟩)
            | (go_at_call 13; refine (CR.out w2 hb2.out).mono ?_; rintro e w3 ⟨rfl, hd3, hb3⟩)
            | (go_at_call 14; refine (AP.out w3 _ hd3.out).mono ?_; rintro e w4 ⟨⟨cx, rfl⟩, hb4⟩))
          have hpf := hpl.out.fork hf2.out hb2.out hb3.out (Me.below_alloc (Below.refl _ _)) hb4.out
          have HPX := Lib.hid hpf
          have hszw : Hid (wr.heap.size = wr.heap.size) := rfl
          obtain ⟨Dx, hDx⟩ : ∃ Dx, wr.heap.size = Dx := ⟨_, rfl⟩
          obtain ⟨Gx, hGx⟩ : ∃ Gx : Nat → Prop, (fun k => wr.heap.size ≤ k ∧ k < w2.heap.size) = Gx := ⟨_, rfl⟩
          rw [hGx] at HPX
          rw [hDx] at HPX ⊢
          clear hpf hGx hDx FK CR AP hf2 hb2 hd3 hb3 hb4 hpl d0 hszw kc
          have HPD : Hid (PlI s gw w Gx Dx (Dx + 1) st (.slice A' n' c') w4.drew) := HPX.out.below ((Below.refl _ w4).drew)
          have HPE : Hid (PlI s gw w Gx Dx (Dx + 1) st (.slice A' n' c') (w4.drew.alloc (.cells zD 29))) := HPD.out.below (Me.below_alloc (Below.refl _ _))
          refine wp_region_held_drew (S := fun W => W.heap[gw]? = some (.cells (rcs st (.slice A' n' c')) 29 (0, 0)) ∧ Below s w W) (by kernel_rfl) ⟨HPD.out.x, HPD.out.b⟩ (fun hHeld => ?_)
          refine wpAnyH_take (i := 0) (v := ?vz1) rfl (by kernel_rfl) (by kernel_rfl) (by kernel_rfl) (fun _ _ _ h => h) (Or.inl ⟨by rfl, ?hyz1⟩) (by first | assumption | exact trivial) ?restz1
          case hyz1 => intro W hSW; go_simp; try (with_reducible rfl)
          simp only [Act.put, List.getElem_toArray, List.getElem_cons_succ, List.getElem_cons_zero, List.setIfInBounds_toArray, List.set_cons_zero, List.set_cons_succ]
          refine wpAnyH_take (i := 1) (v := ?vz2) rfl (by kernel_rfl) (by kernel_rfl) (by kernel_rfl) (fun _ _ _ h => h) (Or.inl ⟨by rfl, ?hyz2⟩) (by first | assumption | exact trivial) ?restz2
          case hyz2 => intro W hSW; obtain ⟨r0, r1, r2, r3⟩ := row_cells4 hSW.1; go_simp; try (with_reducible rfl)
          simp only [Act.put, List.getElem_toArray, List.getElem_cons_succ, List.getElem_cons_zero, List.setIfInBounds_toArray, List.set_cons_zero, List.set_cons_succ]
          refine wpAnyH_take (i := 2) (v := ?vz3) rfl (by kernel_rfl) (by kernel_rfl) (by kernel_rfl) (fun _ _ _ h => h) (Or.inl ⟨by rfl, ?hyz3⟩) (by first | assumption | exact trivial) ?restz3
          case hyz3 => intro W hSW; go_simp; try (with_reducible rfl)
          simp only [Act.put, List.getElem_toArray, List.getElem_cons_succ, List.getElem_cons_zero, List.setIfInBounds_toArray, List.set_cons_zero, List.set_cons_succ]
          refine wpAnyH_take (i := 3) (v := ?vz4) rfl (by kernel_rfl) (by kernel_rfl) (by kernel_rfl) (fun _ _ _ h => h) (Or.inl ⟨by rfl, ?hyz4⟩) (by first | assumption | exact trivial) ?restz4
          case hyz4 => intro W hSW; go_simp; try (with_reducible rfl)
          simp only [Act.put, List.getElem_toArray, List.getElem_cons_succ, List.getElem_cons_zero, List.setIfInBounds_toArray, List.set_cons_zero, List.set_cons_succ]
          refine wpAnyH_take (i := 4) (v := ?vz5) rfl (by kernel_rfl) (by kernel_rfl) (by kernel_rfl) (fun _ _ _ h => h) (Or.inl ⟨by rfl, ?hyz5⟩) (by first | assumption | exact trivial) ?restz5
          case hyz5 => intro W hSW; go_simp; try (with_reducible rfl)
          simp only [Act.put, List.getElem_toArray, List.getElem_cons_succ, List.getElem_cons_zero, List.setIfInBounds_toArray, List.set_cons_zero, List.set_cons_succ]
          refine wpAnyH_take (i := 5) (v := ?vz6) rfl (by kernel_rfl) (by kernel_rfl) (by kernel_rfl) (fun _ _ _ h => h) (Or.inl ⟨by rfl, ?hyz6⟩) (by first | assumption | exact trivial) ?restz6
          case hyz6 => intro W hSW; obtain ⟨x0, x1, x2, x3, x4, x5⟩ := HCL.out W hSW.2; go_simp; try (with_reducible rfl)
          simp only [Act.put, List.getElem_toArray, List.getElem_cons_succ, List.getElem_cons_zero, List.setIfInBounds_toArray, List.set_cons_zero, List.set_cons_succ]
          refine wpAnyH_ready (rs := [6, 10]) (by kernel_rfl) (by simp) ?_
          refine AllReadyH.cons rfl (fun K hK => ?pa) (AllReadyH.cons rfl (fun K hK => ?pb) AllReadyH.nil)
          case pa =>
            go_simp
            go_wp2_with (go_at_call 15; refine (HST.out w4.drew Gx Dx (Dx + 1) HPD.out).mono ?_; rintro e w5 ⟨st', A2, n2, c2, G', rfl, hp5, hs5, hb5⟩)
            have S1 := HPD.out.aft hb5.out
            have hv := HPD.out.one hp5.out hs5.out hb5.out
            refine hK.out _ _ (S1) (fun hHeld => ?_)
            clear hK K
            refine wpAnyH_take (i := 7) (v := ?vz7) rfl (by kernel_rfl) (by kernel_rfl) (by kernel_rfl) (fun _ _ _ h => h) (Or.inl ⟨by rfl, ?hyz7⟩) (by first | assumption | exact trivial) ?restz7
            case hyz7 => intro W hSW; go_simp; try (with_reducible rfl)
            simp only [Act.put, List.getElem_toArray, List.getElem_cons_succ, List.getElem_cons_zero, List.setIfInBounds_toArray, List.set_cons_zero, List.set_cons_succ]
            refine wpAnyH_take (i := 8) (v := ?vz8) rfl (by kernel_rfl) (by kernel_rfl) (by kernel_rfl) (fun _ _ _ h => h) (Or.inl ⟨by rfl, ?hyz8⟩) (by first | assumption | exact trivial) ?restz8
            case hyz8 => intro W hSW; go_simp; try (with_reducible rfl)
            simp only [Act.put, List.getElem_toArray, List.getElem_cons_succ, List.getElem_cons_zero, List.setIfInBounds_toArray, List.set_cons_zero, List.set_cons_succ]
            refine wpAnyH_take (i := 9) (v := ?vz9) rfl (by kernel_rfl) (by kernel_rfl) (by kernel_rfl) (fun _ _ _ h => h) (Or.inl ⟨by rfl, ?hyz9⟩) (by first | assumption | exact trivial) ?restz9
            case hyz9 => intro W hSW; go_simp; try (with_reducible rfl)
            simp only [Act.put, List.getElem_toArray, List.getElem_cons_succ, List.getElem_cons_zero, List.setIfInBounds_toArray, List.set_cons_zero, List.set_cons_succ]
            refine wpAnyH_ready (rs := [10]) (by kernel_rfl) (by simp) ?_
            refine AllReadyH.cons rfl (fun K hK => ?_) AllReadyH.nil
            go_simp
            unfold zD at hv
            obtain ⟨V, hV⟩ : ∃ V, w5.alloc (.cells #[.int .i64 0, .slice none 0 0, .int .i64 0, .bool false] 29) = V := ⟨_, rfl⟩
            obtain ⟨g1', hg1'⟩ : ∃ g, w5.heap.size = g := ⟨_, rfl⟩
            rw [hV] at hv
            rw [hg1'] at hv
            have HV : Hid (PV s gw g1' w G' Dx (Dx + 1) st (.slice A' n' c') st' (.slice A2 n2 c2) zD V) := hv
            refine hK.out _ _ ((by rw [hV]; exact ⟨HV.out.x, HV.out.b⟩)) (fun hHeld => ?_)
            clear hK K
            rw [hV, hg1']
            clear hv hV hg1' S1 hp5 hs5 hb5 HPD HPE HPX HST HII HCL
            refine wpAnyH_ready (rs := [11]) (by kernel_rfl) (by simp) ?_
            refine AllReadyH.cons rfl (fun K hK => ?_) AllReadyH.nil
            rw [if_pos (by kernel_rfl)]
            refine wp_store_row 29 (.tmp 11) (.tmp 71) rfl g1' (rcs st' (.slice A2 n2 c2)) rfl (by rfl) 29 _ HV.out.y (by kernel_rfl) rfl (rcs_one _ _ _ _) ?_
            simp only [Act.put, List.getElem_toArray, List.getElem_cons_succ, List.getElem_cons_zero, List.setIfInBounds_toArray, List.set_cons_zero, List.set_cons_succ]
            have HJ := Lib.hid (HV.out.put (rcs st' (.slice A2 n2 c2)))
            refine hK.out _ _ (⟨HJ.out.x, HJ.out.b⟩) (fun hHeld => ?_)
            clear hK K
            refine wpAnyH_take (i := 12) (v := ?vz10) rfl (by kernel_rfl) (by kernel_rfl) (by kernel_rfl) (fun _ _ _ h => h) (Or.inl ⟨by rfl, ?hyz10⟩) (by first | assumption | exact trivial) ?restz10
            case hyz10 => intro W hSW; go_simp; try (with_reducible rfl)
            simp only [Act.put, List.getElem_toArray, List.getElem_cons_succ, List.getElem_cons_zero, List.setIfInBounds_toArray, List.set_cons_zero, List.set_cons_succ]
            refine wpAnyH_done (by kernel_rfl) ?_ _
            obtain ⟨V2, hV2⟩ : ∃ V2, V.setRow g1' (rcs st' (.slice A2 n2 c2)) = V2 := ⟨_, rfl⟩
            rw [hV2] at HJ ⊢
            clear hV2 HV
            obtain ⟨y0, y1, y2, y3⟩ := row_cells4 HJ.out.y
            go_wp2_with (first
              | (refine wpList_store_row rfl 29 (.tmp 7) (.tmp 73) rfl gw (rcs st' (.slice A2 n2 c2)) rfl rfl 29 _ HJ.out.x (by kernel_rfl) rfl (rcs_one _ _ _ _) ?_; have hI := HJ.out.done; obtain ⟨wq, hwq⟩ : ∃ wq, V2.setRow gw (rcs st' (.slice A2 n2 c2)) = wq := ⟨_, rfl⟩; rw [hwq] at hI ⊢; have HI2 := Lib.hid hI; clear hwq hI y0 y1 y2 y3; obtain ⟨y0, y1, y2, y3⟩ := row_cells4 HI2.out.x; have HAS := Lib.hid (as_any wq Dx (Dx + 1) st' _ HI2.out.p))
              | (go_at_call 16; refine HAS.out.mono ?_; rintro e w9 ⟨rfl, hb9⟩))
            go_roundw
            case rel => exact ⟨k + 1, G', Dx, (Dx + 1), st', A2, n2, c2, by omega, rfl, by go_num, HI2.out.below hb9.out⟩
            case measure => simp [intOf]; omega
          case pb =>
            go_simp
            refine hK.out _ _ (⟨HPE.out.x, HPE.out.b⟩) (fun hHeld => ?_)
            clear hK K
            refine wpAnyH_ready (rs := [6]) (by kernel_rfl) (by simp) ?_
            refine AllReadyH.cons rfl (fun K hK => ?_) AllReadyH.nil
            go_simp
            go_wp2_with (go_at_call 15; refine (HST.out (w4.drew.alloc (.cells zD 29)) Gx Dx (Dx + 1) HPE.out).mono ?_; rintro e V ⟨st', A2, n2, c2, G', rfl, hp5, hs5, hb5⟩)
            have hv := HPD.out.two hp5.out hs5.out hb5.out
            have HV0 := Lib.hid hv
            obtain ⟨g1', hg1'⟩ : ∃ g, w4.heap.size = g := ⟨_, rfl⟩
            have HV : Hid (PV s gw g1' w G' Dx (Dx + 1) st (.slice A' n' c') st' (.slice A2 n2 c2) zD V) := by rw [← hg1']; exact HV0.out
            refine hK.out _ _ (⟨HV.out.x, HV.out.b⟩) (fun hHeld => ?_)
            clear hK K
            refine wpAnyH_take (i := 7) (v := ?vz11) rfl (by kernel_rfl) (by kernel_rfl) (by kernel_rfl) (fun _ _ _ h => h) (Or.inl ⟨by rfl, ?hyz11⟩) (by first | assumption | exact trivial) ?restz11
            case hyz11 => intro W hSW; go_simp; try (with_reducible rfl)
            simp only [Act.put, List.getElem_toArray, List.getElem_cons_succ, List.getElem_cons_zero, List.setIfInBounds_toArray, List.set_cons_zero, List.set_cons_succ]
            refine wpAnyH_take (i := 8) (v := ?vz12) rfl (by kernel_rfl) (by kernel_rfl) (by kernel_rfl) (fun _ _ _ h => h) (Or.inl ⟨by rfl, ?hyz12⟩) (by first | assumption | exact trivial) ?restz12
            case hyz12 => intro W hSW; go_simp; try (with_reducible rfl)
            simp only [Act.put, List.getElem_toArray, List.getElem_cons_succ, List.getElem_cons_zero, List.setIfInBounds_toArray, List.set_cons_zero, List.set_cons_succ]
            refine wpAnyH_take (i := 9) (v := ?vz13) rfl (by kernel_rfl) (by kernel_rfl) (by kernel_rfl) (fun _ _ _ h => h) (Or.inl ⟨by rfl, ?hyz13⟩) (by first | assumption | exact trivial) ?restz13
            case hyz13 => intro W hSW; go_simp; try (with_reducible rfl)
            simp only [Act.put, List.getElem_toArray, List.getElem_cons_succ, List.getElem_cons_zero, List.setIfInBounds_toArray, List.set_cons_zero, List.set_cons_succ]
            rw [hg1']
            clear hv HV0 hg1' hp5 hs5 hb5 HPD HPE HPX HST HII HCL
            refine wpAnyH_ready (rs := [11]) (by kernel_rfl) (by simp) ?_
            refine AllReadyH.cons rfl (fun K hK => ?_) AllReadyH.nil
            rw [if_pos (by kernel_rfl)]
            refine wp_store_row 29 (.tmp 11) (.tmp 71) rfl g1' (rcs st' (.slice A2 n2 c2)) rfl (by rfl) 29 _ HV.out.y (by kernel_rfl) rfl (rcs_one _ _ _ _) ?_
            simp only [Act.put, List.getElem_toArray, List.getElem_cons_succ, List.getElem_cons_zero, List.setIfInBounds_toArray, List.set_cons_zero, List.set_cons_succ]
            have HJ := Lib.hid (HV.out.put (rcs st' (.slice A2 n2 c2)))
            refine hK.out _ _ (⟨HJ.out.x, HJ.out.b⟩) (fun hHeld => ?_)
            clear hK K
            refine wpAnyH_take (i := 12) (v := ?vz14) rfl (by kernel_rfl) (by kernel_rfl) (by kernel_rfl) (fun _ _ _ h => h) (Or.inl ⟨by rfl, ?hyz14⟩) (by first | assumption | exact trivial) ?restz14
            case hyz14 => intro W hSW; go_simp; try (with_reducible rfl)
            simp only [Act.put, List.getElem_toArray, List.getElem_cons_succ, List.getElem_cons_zero, List.setIfInBounds_toArray, List.set_cons_zero, List.set_cons_succ]
            refine wpAnyH_done (by kernel_rfl) ?_ _
            obtain ⟨V2, hV2⟩ : ∃ V2, V.setRow g1' (rcs st' (.slice A2 n2 c2)) = V2 := ⟨_, rfl⟩
            rw [hV2] at HJ ⊢
            clear hV2 HV
            obtain ⟨y0, y1, y2, y3⟩ := row_cells4 HJ.out.y
            go_wp2_with (first
              | (refine wpList_store_row rfl 29 (.tmp 7) (.tmp 73) rfl gw (rcs st' (.slice A2 n2 c2)) rfl rfl 29 _ HJ.out.x (by kernel_rfl) rfl (rcs_one _ _ _ _) ?_; have hI := HJ.out.done; obtain ⟨wq, hwq⟩ : ∃ wq, V2.setRow gw (rcs st' (.slice A2 n2 c2)) = wq := ⟨_, rfl⟩; rw [hwq] at hI ⊢; have HI2 := Lib.hid hI; clear hwq hI y0 y1 y2 y3; obtain ⟨y0, y1, y2, y3⟩ := row_cells4 HI2.out.x; have HAS := Lib.hid (as_any wq Dx (Dx + 1) st' _ HI2.out.p))
              | (go_at_call 16; refine HAS.out.mono ?_; rintro e w9 ⟨rfl, hb9⟩))
            go_roundw
            case rel => exact ⟨k + 1, G', Dx, (Dx + 1), st', A2, n2, c2, by omega, rfl, by go_num, HI2.out.below hb9.out⟩
            case measure => simp [intOf]; omega
        · have e9 : (kd == 9) = false := by simpa using h9
          have HPX := hpl
          go_wp2
          clear d0 hpl h9 kc
          have HPD : Hid (PlI s gw w G D mb st (.slice A' n' c') wr.drew) := HPX.out.below ((Below.refl _ wr).drew)
          have HPE : Hid (PlI s gw w G D mb st (.slice A' n' c') (wr.drew.alloc (.cells zD 29))) := HPD.out.below (Me.below_alloc (Below.refl _ _))
          refine wp_region_held_drew (S := fun W => W.heap[gw]? = some (.cells (rcs st (.slice A' n' c')) 29 (0, 0)) ∧ Below s w W) (by kernel_rfl) ⟨HPD.out.x, HPD.out.b⟩ (fun hHeld => ?_)
          refine wpAnyH_take (i := 0) (v := ?vz15) rfl (by kernel_rfl) (by kernel_rfl) (by kernel_rfl) (fun _ _ _ h => h) (Or.inl ⟨by rfl, ?hyz15⟩) (by first | assumption | exact trivial) ?restz15
          case hyz15 => intro W hSW; go_simp; try (with_reducible rfl)
          simp only [Act.put, List.getElem_toArray, List.getElem_cons_succ, List.getElem_cons_zero, List.setIfInBounds_toArray, List.set_cons_zero, List.set_cons_succ]
          refine wpAnyH_take (i := 1) (v := ?vz16) rfl (by kernel_rfl) (by kernel_rfl) (by kernel_rfl) (fun _ _ _ h => h) (Or.inl ⟨by rfl, ?hyz16⟩) (by first | assumption | exact trivial) ?restz16
          case hyz16 => intro W hSW; obtain ⟨r0, r1, r2, r3⟩ := row_cells4 hSW.1; go_simp; try (with_reducible rfl)
          simp only [Act.put, List.getElem_toArray, List.getElem_cons_succ, List.getElem_cons_zero, List.setIfInBounds_toArray, List.set_cons_zero, List.set_cons_succ]
          refine wpAnyH_take (i := 2) (v := ?vz17) rfl (by kernel_rfl) (by kernel_rfl) (by kernel_rfl) (fun _ _ _ h => h) (Or.inl ⟨by rfl, ?hyz17⟩) (by first | assumption | exact trivial) ?restz17
          case hyz17 => intro W hSW; go_simp; try (with_reducible rfl)
          simp only [Act.put, List.getElem_toArray, List.getElem_cons_succ, List.getElem_cons_zero, List.setIfInBounds_toArray, List.set_cons_zero, List.set_cons_succ]
          refine wpAnyH_take (i := 3) (v := ?vz18) rfl (by kernel_rfl) (by kernel_rfl) (by kernel_rfl) (fun _ _ _ h => h) (Or.inl ⟨by rfl, ?hyz18⟩) (by first | assumption | exact trivial) ?restz18
          case hyz18 => intro W hSW; go_simp; try (with_reducible rfl)
          simp only [Act.put, List.getElem_toArray, List.getElem_cons_succ, List.getElem_cons_zero, List.setIfInBounds_toArray, List.set_cons_zero, List.set_cons_succ]
          refine wpAnyH_take (i := 4) (v := ?vz19) rfl (by kernel_rfl) (by kernel_rfl) (by kernel_rfl) (fun _ _ _ h => h) (Or.inl ⟨by rfl, ?hyz19⟩) (by first | assumption | exact trivial) ?restz19
          case hyz19 => intro W hSW; go_simp; try (with_reducible rfl)
          simp only [Act.put, List.getElem_toArray, List.getElem_cons_succ, List.getElem_cons_zero, List.setIfInBounds_toArray, List.set_cons_zero, List.set_cons_succ]
          refine wpAnyH_take (i := 5) (v := ?vz20) rfl (by kernel_rfl) (by kernel_rfl) (by kernel_rfl) (fun _ _ _ h => h) (Or.inl ⟨by rfl, ?hyz20⟩) (by first | assumption | exact trivial) ?restz20
          case hyz20 => intro W hSW; obtain ⟨x0, x1, x2, x3, x4, x5⟩ := HCL.out W hSW.2; go_simp; try (with_reducible rfl)
          simp only [Act.put, List.getElem_toArray, List.getElem_cons_succ, List.getElem_cons_zero, List.setIfInBounds_toArray, List.set_cons_zero, List.set_cons_succ]
          refine wpAnyH_ready (rs := [6, 10]) (by kernel_rfl) (by simp) ?_
          refine AllReadyH.cons rfl (fun K hK => ?pa) (AllReadyH.cons rfl (fun K hK => ?pb) AllReadyH.nil)
          case pa =>
            go_simp
            go_wp2_with (go_at_call 15; refine (HST.out wr.drew G D mb HPD.out).mono ?_; rintro e w5 ⟨st', A2, n2, c2, G', rfl, hp5, hs5, hb5⟩)
            have S1 := HPD.out.aft hb5.out
            have hv := HPD.out.one hp5.out hs5.out hb5.out
            refine hK.out _ _ (S1) (fun hHeld => ?_)
            clear hK K
            refine wpAnyH_take (i := 7) (v := ?vz21) rfl (by kernel_rfl) (by kernel_rfl) (by kernel_rfl) (fun _ _ _ h => h) (Or.inl ⟨by rfl, ?hyz21⟩) (by first | assumption | exact trivial) ?restz21
            case hyz21 => intro W hSW; go_simp; try (with_reducible rfl)
            simp only [Act.put, List.getElem_toArray, List.getElem_cons_succ, List.getElem_cons_zero, List.setIfInBounds_toArray, List.set_cons_zero, List.set_cons_succ]
            refine wpAnyH_take (i := 8) (v := ?vz22) rfl (by kernel_rfl) (by kernel_rfl) (by kernel_rfl) (fun _ _ _ h => h) (Or.inl ⟨by rfl, ?hyz22⟩) (by first | assumption | exact trivial) ?restz22
            case hyz22 => intro W hSW; go_simp; try (with_reducible rfl)
            simp only [Act.put, List.getElem_toArray, List.getElem_cons_succ, List.getElem_cons_zero, List.setIfInBounds_toArray, List.set_cons_zero, List.set_cons_succ]
            refine wpAnyH_take (i := 9) (v := ?vz23) rfl (by kernel_rfl) (by kernel_rfl) (by kernel_rfl) (fun _ _ _ h => h) (Or.inl ⟨by rfl, ?hyz23⟩) (by first | assumption | exact trivial) ?restz23
            case hyz23 => intro W hSW; go_simp; try (with_reducible rfl)
            simp only [Act.put, List.getElem_toArray, List.getElem_cons_succ, List.getElem_cons_zero, List.setIfInBounds_toArray, List.set_cons_zero, List.set_cons_succ]
            refine wpAnyH_ready (rs := [10]) (by kernel_rfl) (by simp) ?_
            refine AllReadyH.cons rfl (fun K hK => ?_) AllReadyH.nil
            go_simp
            unfold zD at hv
            obtain ⟨V, hV⟩ : ∃ V, w5.alloc (.cells #[.int .i64 0, .slice none 0 0, .int .i64 0, .bool false] 29) = V := ⟨_, rfl⟩
            obtain ⟨g1', hg1'⟩ : ∃ g, w5.heap.size = g := ⟨_, rfl⟩
            rw [hV] at hv
            rw [hg1'] at hv
            have HV : Hid (PV s gw g1' w G' D mb st (.slice A' n' c') st' (.slice A2 n2 c2) zD V) := hv
            refine hK.out _ _ ((by rw [hV]; exact ⟨HV.out.x, HV.out.b⟩)) (fun hHeld => ?_)
            clear hK K
            rw [hV, hg1']
            clear hv hV hg1' S1 hp5 hs5 hb5 HPD HPE HPX HST HII HCL
            refine wpAnyH_ready (rs := [11]) (by kernel_rfl) (by simp) ?_
            refine AllReadyH.cons rfl (fun K hK => ?_) AllReadyH.nil
            rw [if_pos (by kernel_rfl)]
            refine wp_store_row 29 (.tmp 11) (.tmp 71) rfl g1' (rcs st' (.slice A2 n2 c2)) rfl (by rfl) 29 _ HV.out.y (by kernel_rfl) rfl (rcs_one _ _ _ _) ?_
            simp only [Act.put, List.getElem_toArray, List.getElem_cons_succ, List.getElem_cons_zero, List.setIfInBounds_toArray, List.set_cons_zero, List.set_cons_succ]
            have HJ := Lib.hid (HV.out.put (rcs st' (.slice A2 n2 c2)))
            refine hK.out _ _ (⟨HJ.out.x, HJ.out.b⟩) (fun hHeld => ?_)
            clear hK K
            refine wpAnyH_take (i := 12) (v := ?vz24) rfl (by kernel_rfl) (by kernel_rfl) (by kernel_rfl) (fun _ _ _ h => h) (Or.inl ⟨by rfl, ?hyz24⟩) (by first | assumption | exact trivial) ?restz24
            case hyz24 => intro W hSW; go_simp; try (with_reducible rfl)
            simp only [Act.put, List.getElem_toArray, List.getElem_cons_succ, List.getElem_cons_zero, List.setIfInBounds_toArray, List.set_cons_zero, List.set_cons_succ]
            refine wpAnyH_done (by kernel_rfl) ?_ _
            obtain ⟨V2, hV2⟩ : ∃ V2, V.setRow g1' (rcs st' (.slice A2 n2 c2)) = V2 := ⟨_, rfl⟩
            rw [hV2] at HJ ⊢
            clear hV2 HV
            obtain ⟨y0, y1, y2, y3⟩ := row_cells4 HJ.out.y
            go_wp2_with (first
              | (refine wpList_store_row rfl 29 (.tmp 7) (.tmp 73) rfl gw (rcs st' (.slice A2 n2 c2)) rfl rfl 29 _ HJ.out.x (by kernel_rfl) rfl (rcs_one _ _ _ _) ?_; have hI := HJ.out.done; obtain ⟨wq, hwq⟩ : ∃ wq, V2.setRow gw (rcs st' (.slice A2 n2 c2)) = wq := ⟨_, rfl⟩; rw [hwq] at hI ⊢; have HI2 := Lib.hid hI; clear hwq hI y0 y1 y2 y3; obtain ⟨y0, y1, y2, y3⟩ := row_cells4 HI2.out.x; have HAS := Lib.hid (as_any wq D mb st' _ HI2.out.p))
              | (go_at_call 16; refine HAS.out.mono ?_; rintro e w9 ⟨rfl, hb9⟩))
            go_roundw
            case rel => exact ⟨k + 1, G', D, mb, st', A2, n2, c2, by omega, rfl, by go_num, HI2.out.below hb9.out⟩
            case measure => simp [intOf]; omega
          case pb =>
            go_simp
            refine hK.out _ _ (⟨HPE.out.x, HPE.out.b⟩) (fun hHeld => ?_)
            clear hK K
            refine wpAnyH_ready (rs := [6]) (by kernel_rfl) (by simp) ?_
            refine AllReadyH.cons rfl (fun K hK => ?_) AllReadyH.nil
            go_simp
            go_wp2_with (go_at_call 15; refine (HST.out (wr.drew.alloc (.cells zD 29)) G D mb HPE.out).mono ?_; rintro e V ⟨st', A2, n2, c2, G', rfl, hp5, hs5, hb5⟩)
            have hv := HPD.out.two hp5.out hs5.out hb5.out
            have HV0 := Lib.hid hv
            obtain ⟨g1', hg1'⟩ : ∃ g, wr.heap.size = g := ⟨_, rfl⟩
            have HV : Hid (PV s gw g1' w G' D mb st (.slice A' n' c') st' (.slice A2 n2 c2) zD V) := by rw [← hg1']; exact HV0.out
            refine hK.out _ _ (⟨HV.out.x, HV.out.b⟩) (fun hHeld => ?_)
            clear hK K
            refine wpAnyH_take (i := 7) (v := ?vz25) rfl (by kernel_rfl) (by kernel_rfl) (by kernel_rfl) (fun _ _ _ h => h) (Or.inl ⟨by rfl, ?hyz25⟩) (by first | assumption | exact trivial) ?restz25
            case hyz25 => intro W hSW; go_simp; try (with_reducible rfl)
            simp only [Act.put, List.getElem_toArray, List.getElem_cons_succ, List.getElem_cons_zero, List.setIfInBounds_toArray, List.set_cons_zero, List.set_cons_succ]
            refine wpAnyH_take (i := 8) (v := ?vz26) rfl (by kernel_rfl) (by kernel_rfl) (by kernel_rfl) (fun _ _ _ h => h) (Or.inl ⟨by rfl, ?hyz26⟩) (by first | assumption | exact trivial) ?restz26
            case hyz26 => intro W hSW; go_simp; try (with_reducible rfl)
            simp only [Act.put, List.getElem_toArray, List.getElem_cons_succ, List.getElem_cons_zero, List.setIfInBounds_toArray, List.set_cons_zero, List.set_cons_succ]
            refine wpAnyH_take (i := 9) (v := ?vz27) rfl (by kernel_rfl) (by kernel_rfl) (by kernel_rfl) (fun _ _ _ h => h) (Or.inl ⟨by rfl, ?hyz27⟩) (by first | assumption | exact trivial) ?restz27
            case hyz27 => intro W hSW; go_simp; try (with_reducible rfl)
            simp only [Act.put, List.getElem_toArray, List.getElem_cons_succ, List.getElem_cons_zero, List.setIfInBounds_toArray, List.set_cons_zero, List.set_cons_succ]
            rw [hg1']
            clear hv HV0 hg1' hp5 hs5 hb5 HPD HPE HPX HST HII HCL
            refine wpAnyH_ready (rs := [11]) (by kernel_rfl) (by simp) ?_
            refine AllReadyH.cons rfl (fun K hK => ?_) AllReadyH.nil
            rw [if_pos (by kernel_rfl)]
            refine wp_store_row 29 (.tmp 11) (.tmp 71) rfl g1' (rcs st' (.slice A2 n2 c2)) rfl (by rfl) 29 _ HV.out.y (by kernel_rfl) rfl (rcs_one _ _ _ _) ?_
            simp only [Act.put, List.getElem_toArray, List.getElem_cons_succ, List.getElem_cons_zero, List.setIfInBounds_toArray, List.set_cons_zero, List.set_cons_succ]
            have HJ := Lib.hid (HV.out.put (rcs st' (.slice A2 n2 c2)))
            refine hK.out _ _ (⟨HJ.out.x, HJ.out.b⟩) (fun hHeld => ?_)
            clear hK K
            refine wpAnyH_take (i := 12) (v := ?vz28) rfl (by kernel_rfl) (by kernel_rfl) (by kernel_rfl) (fun _ _ _ h => h) (Or.inl ⟨by rfl, ?hyz28⟩) (by first | assumption | exact trivial) ?restz28
            case hyz28 => intro W hSW; go_simp; try (with_reducible rfl)
            simp only [Act.put, List.getElem_toArray, List.getElem_cons_succ, List.getElem_cons_zero, List.setIfInBounds_toArray, List.set_cons_zero, List.set_cons_succ]
            refine wpAnyH_done (by kernel_rfl) ?_ _
            obtain ⟨V2, hV2⟩ : ∃ V2, V.setRow g1' (rcs st' (.slice A2 n2 c2)) = V2 := ⟨_, rfl⟩
            rw [hV2] at HJ ⊢
            clear hV2 HV
            obtain ⟨y0, y1, y2, y3⟩ := row_cells4 HJ.out.y
            go_wp2_with (first
              | (refine wpList_store_row rfl 29 (.tmp 7) (.tmp 73) rfl gw (rcs st' (.slice A2 n2 c2)) rfl rfl 29 _ HJ.out.x (by kernel_rfl) rfl (rcs_one _ _ _ _) ?_; have hI := HJ.out.done; obtain ⟨wq, hwq⟩ : ∃ wq, V2.setRow gw (rcs st' (.slice A2 n2 c2)) = wq := ⟨_, rfl⟩; rw [hwq] at hI ⊢; have HI2 := Lib.hid hI; clear hwq hI y0 y1 y2 y3; obtain ⟨y0, y1, y2, y3⟩ := row_cells4 HI2.out.x; have HAS := Lib.hid (as_any wq D mb st' _ HI2.out.p))
              | (go_at_call 16; refine HAS.out.mono ?_; rintro e w9 ⟨rfl, hb9⟩))
            go_roundw
            case rel => exact ⟨k + 1, G', D, mb, st', A2, n2, c2, by omega, rfl, by go_num, HI2.out.below hb9.out⟩
            case measure => simp [intOf]; omega
      · have g1 : (k : Int) < (L : Int) := by omega
        go_wp2_with (go_at_call 11; refine (HAW.out _).mono ?_; rintro e w9 ⟨rfl, hb9⟩)
        go_ret
        exact ⟨rfl, hpl.out.b.trans (hb9.out.mono hpl.out.le)⟩
    · have g1 : ¬ (k : Int) < (L : Int) := by omega
      go_wp2_with (go_at_call 11; refine (HAW.out _).mono ?_; rintro e w9 ⟨rfl, hb9⟩)
      go_ret
      exact ⟨rfl, hpl.out.b.trans (hb9.out.mono hpl.out.le)⟩
theorem dplays (n : Int) (A : Option Addr) (len cap : Nat) (ls : List DAc) (w : World) (w0 : (Lit.int .i64 n).wf = true) (w1 : len = ls.length ∧ len ≤ cap ∧ cap ≤ 9223372036854775807 ∧ Acts w A ls) :
    Calls Try.prog 3 #[.int .i64 n, .slice A len cap] w fun e w' => e = .returned (.bool true) ∧ Below w.heap.size w w' := by
  obtain ⟨rfl, hlc, hm, ha⟩ := w1
  by_cases h : n < 1 ∨ 1048576 < n
  · exact plays_bad n h _ w
  · obtain ⟨q, rfl⟩ : ∃ q : Nat, n = q := ⟨n.toNat, by omega⟩
    exact plays_ok q (by omega) (by omega) A cap ls w hlc hm ha
end Go.Proofs.Ytdjgkoklkoahbaa.Dk
