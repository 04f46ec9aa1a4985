/- The law HopPuts. -/
import Derived.Test.YtohfoieibgmmdaaHpCopied
import Derived.Test.YtohfoieibgmmdaaHpWoke
import Derived.Test.YtohfoieibgmmdaaMgOwn
namespace Go.Proofs.Ytohfoieibgmmdaa.Hp
open Go.RowKit Go.Shelf
open Go.Proofs.Ytohfoieibgmmdaa.Me Go.Proofs.Ytohfoieibgmmdaa.Sb Go.Proofs.Ytohfoieibgmmdaa.Mg
set_option linter.unusedVariables false
set_option linter.unusedSimpArgs false

theorem own_bs {W : World} {B0 : Nat} {A : Option Addr} {n c : Nat} {l : List Nat} (h : Me.Own W B0 (.slice A n c) l) (hl : ∀ z ∈ l, z < 256) (hn : l.length = n) : (l.length ≤ c ∧ c ≤ 9223372036854775807) ∧ Hid (BySlice W A n c l) := by
  obtain ⟨A', c', e', p1, p2, _⟩ := h.held hl
  simp only [Value.slice.injEq] at e'
  obtain ⟨rfl, rfl, rfl⟩ := e'
  obtain ⟨r1, r2, _, _⟩ := Hd.own_rd h hl
  exact ⟨⟨p1, p2⟩, rfl, p1, p2, r1, r2⟩
theorem own_ri {W : World} {B0 : Nat} {A : Option Addr} {n c : Nat} {l : List Int} (h : Mi.Own W B0 (.slice A n c) l) : Hid (Mi.Rd W W.heap.size A l) := by
  obtain ⟨A', c', e', _, _, r, _⟩ := h.form
  simp only [Value.slice.injEq] at e'
  obtain ⟨rfl, rfl, rfl⟩ := e'
  exact r
theorem own_neT {V : World} {B D T : Nat} {v : Value} {l : List Nat} {old : Array Value} {f : Nat × Nat} (h : Me.Own V B v l) (hD : V.heap[D]? = some (.cells old T f)) (hT : 5 ≠ T) : v.ownBlock ≠ some D := fun e => own_ne_tyH h hD hT e.symm
set_option maxRecDepth 100000 in
set_option maxHeartbeats 4000000 in
theorem putsL (k n : Int) (i : Id4) (A : Option Addr) (l : List Nat) (dc : Nat) (B : Option Addr) (cs : List Int) (cc : Nat) (w : World) (hi : MsIn w A l.length dc l ∧ CoIn w B cs cc) :
    Calls Try.prog 3 #[.agg (hopC k n i A l.length dc B cs.length cc)] w fun e w' => e = .returned (.bool true) ∧ Below w.heap.size w w' := by
  have HI := Lib.hid hi
  have HX := Lib.hid (box8 k n i A l.length dc B cs.length cc w)
  have hbw : Below w.heap.size w (w.alloc (.cells (hopC k n i A l.length dc B cs.length cc) 29 (0, 0))) := Me.below_alloc (Below.refl _ _)
  have HLb : Hid (∀ z ∈ l, z < 256) := hi.1.1.2.2.2.1.1
  have HLp : Hid (∀ z ∈ putH k n i l cs, z < 256) := putH_lt HLb.out
  have hcl : cs.length ≤ 9223372036854775806 := by have h1 := hi.2.1.2.1; have h2 := hi.2.2; omega
  have HC := Lib.hid (fun W (hW : Below w.heap.size w W) => copied_any k n i A l.length dc l B cs cc W (hi.1.below hW) ⟨⟨rfl, hi.2.1.2.1, hi.2.1.2.2.1, (hi.2.1.2.2.2.1.below hW).more hW.size, hi.2.1.2.2.2.2.1, hi.2.1.2.2.2.2.2⟩, hi.2.2⟩)
  have HK := Lib.hid (fun (A2 : Option Addr) (c2 : Nat) (B2 : Option Addr) (d2 : Nat) W (h : Hid (Mi.Rd W W.heap.size B2 cs)) => Check_any k n i A2 l.length c2 B2 cs d2 W h hcl)
  have HP := Lib.hid (fun (A2 : Option Addr) (c2 : Nat) (B2 : Option Addr) (d2 : Nat) W (h1 : Hid (BySlice W A2 l.length c2 l)) (h : Hid (Mi.Rd W W.heap.size B2 cs)) => Put_any k n i A2 l.length c2 l B2 cs d2 W h1 h hcl)
  have HRP := Lib.hid (fun W (hW : Below w.heap.size w W) => RPut_any k n i A l.length dc l B cs cc W (hi.1.below hW) ((hi.2.1.2.2.2.1.below hW).more hW.size) hcl)
  have HRK := Lib.hid (fun W (hW : Below w.heap.size w W) => RCheck_any k n i A l.length dc l B cs cc W (hi.1.below hW) ((hi.2.1.2.2.2.1.below hW).more hW.size) hcl)
  have hLN : l.length ≤ 140737488351232 := by have h1 := hi.1.1.2.1; have h2 := hi.1.2; omega
  obtain ⟨lp, hlp⟩ : ∃ x, putH k n i l cs = x := ⟨_, rfl⟩
  obtain ⟨zp, hzp⟩ : ∃ x, hopN k n i l.length cs = x := ⟨_, rfl⟩
  simp only [hlp, hzp] at HP HRP HLp HK HRK
  obtain ⟨L, hL⟩ : ∃ L, l.length = L := ⟨_, rfl⟩
  obtain ⟨N, hN⟩ : ∃ N, cs.length = N := ⟨_, rfl⟩
  have HL := Lib.hid hL
  rw [hL, hN] at HX hbw HC ⊢
  simp only [hL, hN] at HK HP HRP HRK
  rw [hL] at hLN
  have HNn := Lib.hid hN
  clear hi hlp hzp hcl hL hN
  obtain ⟨o, d, ee, c⟩ := i
  simp only [hopC] at HX HC HK HP HRP HRK hbw ⊢
  obtain ⟨W0, hW0⟩ : ∃ W, w.alloc (.cells #[.int .i64 k, .int .i64 n, .int .i64 o, .int .i64 d, .int .i64 ee, .int .i64 c, .slice A L dc, .slice B N cc] 29 (0, 0)) = W := ⟨_, rfl⟩
  have HW0 := Lib.hid hW0
  rw [hW0] at HX hbw
  have HBW := Lib.hid hbw
  clear hW0 hbw
  obtain ⟨⟨x0, x1, x2, x3, x4, x5, x6, x7⟩, _⟩ := HX.out W0 (Below.refl _ _)
  go_enter Try.func3, Try.ntmps3
  go_wp2_with (first
    | (rw [HW0.out])
    | (go_at_call 9; refine (HC.out _ HBW.out).mono ?_; rintro e w1 ⟨A2, c2, B2, d2, rfl, ho1, hi1, b1⟩; simp only [hopC]; obtain ⟨W2, hW2⟩ : ∃ W, w1.alloc (.cells #[.int .i64 k, .int .i64 n, .int .i64 o, .int .i64 d, .int .i64 ee, .int .i64 c, .slice A2 L c2, .slice B2 N d2] 29 (0, 0)) = W := ⟨_, rfl⟩; have HW2 := Lib.hid hW2; have hG2 : W2.heap[w1.heap.size]? = some (.cells #[.int .i64 k, .int .i64 n, .int .i64 o, .int .i64 d, .int .i64 ee, .int .i64 c, .slice A2 L c2, .slice B2 N d2] 29 (0, 0)) := (by rw [← hW2]; exact heap_alloc_new w1 _); have hb12 : Below w1.heap.size w1 W2 := (by rw [← hW2]; exact Me.below_alloc (Below.refl _ _)); clear hW2; have HO2 : Hid (Me.Own W2 W0.heap.size (.slice A2 L c2) l) := own_belowV ho1.out hb12; have HI2 : Hid (Mi.Own W2 W0.heap.size (.slice B2 N d2) cs) := hi1.out.below hb12; have HB2 : Hid (Below W0.heap.size W0 W2) := b1.out.trans (hb12.mono b1.out.size); obtain ⟨y0, y1, y2, y3, y4, y5, y6, y7⟩ := hx_row (i := ⟨o, d, ee, c⟩) hG2; have HG2 := Lib.hid hG2; clear hG2 hb12; obtain ⟨hf2, HBs⟩ := own_bs HO2.out HLb.out HL.out; have HRi : Hid (Mi.Rd W2 W2.heap.size B2 cs) := own_ri HI2.out)
    | (rw [HW2.out])
    | (go_at_call 10; refine (HK.out A2 c2 B2 d2 _ HRi).mono ?_; rintro e w3 ⟨rfl, b3⟩; have HBs3 : Hid (BySlice w3 A2 L c2 l) := by_below HBs.out b3.out; have HRi3 : Hid (Mi.Rd w3 w3.heap.size B2 cs) := (HRi.out.below b3.out).more b3.out.size; have HG3 : Hid (w3.heap[w1.heap.size]? = some (.cells #[.int .i64 k, .int .i64 n, .int .i64 o, .int .i64 d, .int .i64 ee, .int .i64 c, .slice A2 L c2, .slice B2 N d2] 29 (0, 0))) := (b3.out.block _ (Array.getElem?_eq_some_iff.1 HG2.out).1).trans HG2.out; obtain ⟨u0, u1, u2, u3, u4, u5, u6, u7⟩ := hx_row (i := ⟨o, d, ee, c⟩) HG3.out; have HO3 : Hid (Me.Own w3 W0.heap.size (.slice A2 L c2) l) := own_belowV HO2.out b3.out; have HB3 : Hid (Below W0.heap.size W0 w3) := HB2.out.trans (b3.out.mono HB2.out.size))
    | (go_at_call 11; refine (HP.out A2 c2 B2 d2 _ HBs3 HRi3).mono ?_; rintro e w4 ⟨A4, c4, rfl, HO4, b4⟩))
  have HG4 : Hid (w4.heap[w1.heap.size]? = some (.cells #[.int .i64 k, .int .i64 n, .int .i64 o, .int .i64 d, .int .i64 ee, .int .i64 c, .slice A2 L c2, .slice B2 N d2] 29 (0, 0))) := (b4.out.block _ (Array.getElem?_eq_some_iff.1 HG3.out).1).trans HG3.out
  have hO1 : Me.Own w4 W0.heap.size (.slice A2 L c2) l := own_belowV HO3.out b4.out
  have hB4 : Below W0.heap.size W0 w4 := HB3.out.trans (b4.out.mono HB3.out.size)
  have hlt1 : ∀ x, (Value.slice A2 L c2).ownBlock = some x → W0.heap.size ≤ x ∧ x < w3.heap.size := fun x e => World.ownsRow.lt HO3.out x e
  have hneD : (Value.slice A2 L c2).ownBlock ≠ some w1.heap.size := own_neT hO1 HG4.out (by decide)
  have HGi : Hid (Giv w4 (.slice A2 L c2) L) := ⟨l, HL.out, HLb.out, own_base (B' := 0) hO1 fun _ _ => Nat.zero_le _⟩
  have HDC : Hid (∀ W, But (fun x => (Value.slice A2 L c2).ownBlock = some x) w4 W → W.cell? ⟨w1.heap.size, 6, none⟩ = some (.slice A2 L c2)) := fun W hW => (hx_row (i := ⟨o, d, ee, c⟩) (hW.at_ HG4.out hneD)).2.2.2.2.2.2.1
  have HBB : Hid (∀ W, But (fun x => (Value.slice A2 L c2).ownBlock = some x) w4 W → Below W0.heap.size W0 W) := fun W hW => hB4.trans (hW.below hB4.size fun x e => (hlt1 x e).1)
  have C2 : Hid (∀ W, But (fun x => (Value.slice A2 L c2).ownBlock = some x) w4 W → (convert 24 9 (.slice A4 lp.length c4)).run Try.prog W = .ok (.string (strOf lp)) W) := fun W hW => by
    have o2 := own_same HO4.out fun x e hk => hW.same x hk fun e' => by have := (hlt1 x e').2; have := (World.ownsRow.lt HO4.out x e).1; omega
    obtain ⟨r1, r2, _, _⟩ := Hd.own_rd o2 HLp.out
    exact conv_rd W _ A4 lp c4 r1 r2
  have HND := Lib.hid hneD
  clear hO1 hneD hlt1 hB4 HO4 b4 b3 HO3 HB3 HBs3 HRi3 HG3 HBs HRi HO2 HI2 HB2 HG2 HG4 x0 x1 x2 x3 x4 x5 x6 x7 y0 y1 y2 y3 y4 y5 y6 y7 u0 u1 u2 u3 u4 u5 u6 u7 HC HK HP HW2 hf2 b1 ho1 hi1
  obtain ⟨D, hD⟩ : ∃ D, w1.heap.size = D := ⟨_, rfl⟩
  rw [hD] at HND HDC
  simp only [hD]
  clear hD
  go_loopw [7] (fun v wr => ∃ j : Nat, j ≤ L ∧ v = .int .i64 j ∧ Hid (Giv wr (.slice A2 L c2) L) ∧ Hid (But (fun x => (Value.slice A2 L c2).ownBlock = some x) w4 wr)) (fun v _ => L - (intOf v).toNat)
  case atStart => exact ⟨0, Nat.zero_le _, rfl, HGi.out, But.refl _ _⟩
  case round =>
    obtain ⟨j, hj, rfl, HGV, HBT⟩ := hrel
    have z4 := HDC.out wr HBT.out
    by_cases hlt : j < L
    · obtain ⟨g, y, rfl, hy, hc1, hf1, hob⟩ := HGV.out.cell hlt
      have HOB := Lib.hid hob
      have ht := turn8 hy
      have HT := Lib.hid ht
      have HY : Hid (255 - y < 256) := by show _ < _; omega
      have hDg : ¬ D = g := fun e => HND.out (by rw [hob, e])
      have HDg := Lib.hid hDg
      have ht2 : (255 - (y : Int)) % 256 = ((255 - y : Nat) : Int) := by omega
      have hkL : (j : Int) < (L : Int) := by omega
      clear hob hDg
      go_wp2
      have S0 : wr.drew.cell? ⟨D, 6, none⟩ = some (.slice (some ⟨g, 0, none⟩) L c2) := z4
      have hc2 : wr.drew.cell? ⟨g, j, none⟩ = some (.int .u8 (y : Int)) := hc1
      have hf2 : wr.drew.frozen? ⟨g, j, none⟩ = false := hf1
      refine wp_region_held_drew (S := fun W => W.cell? ⟨D, 6, none⟩ = some (.slice (some ⟨g, 0, none⟩) L c2)) (by kernel_rfl) S0 (fun hHeld => ?_)
      refine wpAnyH_take (i := 0) (v := .pointer (some ⟨D, 2, none⟩)) rfl (by kernel_rfl) (by kernel_rfl) (by kernel_rfl) (fun _ _ _ h => h) (Or.inl ⟨by rfl, ?_⟩) (by first | assumption | exact trivial) ?_
      · intro W hSW; go_simp; try (with_reducible rfl)
      simp only [Act.put, List.getElem_toArray, List.getElem_cons_succ, List.getElem_cons_zero, List.setIfInBounds_toArray, List.set_cons_zero, List.set_cons_succ]
      refine wpAnyH_take (i := 1) (v := .pointer (some ⟨D, 6, none⟩)) rfl (by kernel_rfl) (by kernel_rfl) (by kernel_rfl) (fun _ _ _ h => h) (Or.inl ⟨by rfl, ?_⟩) (by first | assumption | exact trivial) ?_
      · intro W hSW; go_simp; try (with_reducible rfl)
      simp only [Act.put, List.getElem_toArray, List.getElem_cons_succ, List.getElem_cons_zero, List.setIfInBounds_toArray, List.set_cons_zero, List.set_cons_succ]
      refine wpAnyH_take (i := 2) (v := .slice (some ⟨g, 0, none⟩) L c2) rfl (by kernel_rfl) (by kernel_rfl) (by kernel_rfl) (fun _ _ _ h => h) (Or.inl ⟨by rfl, ?_⟩) (by first | assumption | exact trivial) ?_
      · intro W hSW; have q := hSW; go_simp; try (with_reducible rfl)
      simp only [Act.put, List.getElem_toArray, List.getElem_cons_succ, List.getElem_cons_zero, List.setIfInBounds_toArray, List.set_cons_zero, List.set_cons_succ]
      refine wpAnyH_take (i := 3) (v := .int .i64 (j : Int)) rfl (by kernel_rfl) (by kernel_rfl) (by kernel_rfl) (fun _ _ _ h => h) (Or.inl ⟨by rfl, ?_⟩) (by first | assumption | exact trivial) ?_
      · intro W hSW; go_simp; try (with_reducible rfl)
      simp only [Act.put, List.getElem_toArray, List.getElem_cons_succ, List.getElem_cons_zero, List.setIfInBounds_toArray, List.set_cons_zero, List.set_cons_succ]
      refine wpAnyH_take (i := 4) (v := .pointer (some ⟨D, 2, none⟩)) rfl (by kernel_rfl) (by kernel_rfl) (by kernel_rfl) (fun _ _ _ h => h) (Or.inl ⟨by rfl, ?_⟩) (by first | assumption | exact trivial) ?_
      · intro W hSW; go_simp; try (with_reducible rfl)
      simp only [Act.put, List.getElem_toArray, List.getElem_cons_succ, List.getElem_cons_zero, List.setIfInBounds_toArray, List.set_cons_zero, List.set_cons_succ]
      refine wpAnyH_take (i := 5) (v := .pointer (some ⟨D, 6, none⟩)) rfl (by kernel_rfl) (by kernel_rfl) (by kernel_rfl) (fun _ _ _ h => h) (Or.inl ⟨by rfl, ?_⟩) (by first | assumption | exact trivial) ?_
      · intro W hSW; go_simp; try (with_reducible rfl)
      simp only [Act.put, List.getElem_toArray, List.getElem_cons_succ, List.getElem_cons_zero, List.setIfInBounds_toArray, List.set_cons_zero, List.set_cons_succ]
      refine wpAnyH_take (i := 6) (v := .slice (some ⟨g, 0, none⟩) L c2) rfl (by kernel_rfl) (by kernel_rfl) (by kernel_rfl) (fun _ _ _ h => h) (Or.inl ⟨by rfl, ?_⟩) (by first | assumption | exact trivial) ?_
      · intro W hSW; have q := hSW; go_simp; try (with_reducible rfl)
      simp only [Act.put, List.getElem_toArray, List.getElem_cons_succ, List.getElem_cons_zero, List.setIfInBounds_toArray, List.set_cons_zero, List.set_cons_succ]
      refine wpAnyH_take (i := 7) (v := .int .i64 (j : Int)) rfl (by kernel_rfl) (by kernel_rfl) (by kernel_rfl) (fun _ _ _ h => h) (Or.inl ⟨by rfl, ?_⟩) (by first | assumption | exact trivial) ?_
      · intro W hSW; go_simp; try (with_reducible rfl)
      simp only [Act.put, List.getElem_toArray, List.getElem_cons_succ, List.getElem_cons_zero, List.setIfInBounds_toArray, List.set_cons_zero, List.set_cons_succ]
      refine wpAnyH_take (i := 8) (v := .pointer (some ⟨g, j, none⟩)) rfl (by kernel_rfl) (by kernel_rfl) (by kernel_rfl) (fun _ _ _ h => h) (Or.inl ⟨by rfl, ?_⟩) (by first | assumption | exact trivial) ?_
      · intro W hSW; go_simp; try (with_reducible rfl)
      simp only [Act.put, List.getElem_toArray, List.getElem_cons_succ, List.getElem_cons_zero, List.setIfInBounds_toArray, List.set_cons_zero, List.set_cons_succ]
      refine wpAnyH_ready (rs := [9]) (by kernel_rfl) (by simp) ?_
      refine AllReadyH.cons rfl (fun K hK => ?_) AllReadyH.nil
      go_simp
      refine hK.out _ _ (S0) (fun hHeld => ?_)
      clear hK K
      refine wpAnyH_take (i := 10) (v := .int .u8 ((255 - y : Nat) : Int)) rfl (by kernel_rfl) (by kernel_rfl) (by kernel_rfl) (fun _ _ _ h => h) (Or.inl ⟨by rfl, ?_⟩) (by first | assumption | exact trivial) ?_
      · intro W hSW; go_simp; try (with_reducible rfl)
      simp only [Act.put, List.getElem_toArray, List.getElem_cons_succ, List.getElem_cons_zero, List.setIfInBounds_toArray, List.set_cons_zero, List.set_cons_succ]
      refine wpAnyH_take (i := 11) (v := .pointer (some ⟨g, j, none⟩)) rfl (by kernel_rfl) (by kernel_rfl) (by kernel_rfl) (fun _ _ _ h => h) (Or.inl ⟨by rfl, ?_⟩) (by first | assumption | exact trivial) ?_
      · intro W hSW; go_simp; try (with_reducible rfl)
      simp only [Act.put, List.getElem_toArray, List.getElem_cons_succ, List.getElem_cons_zero, List.setIfInBounds_toArray, List.set_cons_zero, List.set_cons_succ]
      refine wpAnyH_ready (rs := [12]) (by kernel_rfl) (by simp) ?_
      refine AllReadyH.cons rfl (fun K hK => ?_) AllReadyH.nil
      go_simp
      refine hK.out _ _ (((World.cell?_of_block (w := wr.drew) (Below.heap_setCell wr.drew ⟨g, j, none⟩ _ D HDg.out)).trans S0)) (fun hHeld => ?_)
      clear hK K
      refine wpAnyH_done (by kernel_rfl) ?_ _
      have HN : Hid (Giv (wr.setCell ⟨g, j, none⟩ (.int .u8 ((255 - y : Nat) : Int))).drew (.slice (some ⟨g, 0, none⟩) L c2) L) := Giv.put (w := wr.drew) HGV.out HY.out
      have HT2 : Hid (But (fun x => (Value.slice (some ⟨g, 0, none⟩) L c2).ownBlock = some x) w4 (wr.setCell ⟨g, j, none⟩ (.int .u8 ((255 - y : Nat) : Int))).drew) := But.set (X := wr.drew) ⟨HBT.out.os, HBT.out.tape, HBT.out.output, HBT.out.size, HBT.out.same⟩ (.inl HOB.out) _
      obtain ⟨W9, hW9⟩ : ∃ W, (wr.setCell ⟨g, j, none⟩ (.int .u8 ((255 - y : Nat) : Int))).drew = W := ⟨_, rfl⟩
      rw [hW9] at HN HT2
      try rw [hW9]
      clear hW9 S0 hc2 hf2 hc1 hf1 z4
      go_wp2
      go_roundw
      case rel => exact ⟨j + 1, by omega, by go_num, HN.out, HT2.out⟩
      case measure => simp [intOf]; omega
    · obtain rfl : j = L := by omega
      have hbw0 := HBB.out wr HBT.out
      have HB0 := Lib.hid hbw0
      obtain ⟨⟨x0, x1, x2, x3, x4, x5, x6, x7⟩, bw⟩ := HX.out wr hbw0
      have HBw := Lib.hid bw
      clear hbw0 bw hlt hj
      go_wp2_with (first
        | (go_at_call 12; refine (HRP.out _ HBw.out).mono ?_; rintro e w5 ⟨A5, c5, rfl, HO5, HB5⟩; have hb5 := Lib.hid (HB0.out.trans (HB5.out.mono HB0.out.size)); obtain ⟨⟨x0, x1, x2, x3, x4, x5, x6, x7⟩, bw⟩ := HX.out w5 hb5.out; have HBw5 := Lib.hid bw; clear bw)
        | (go_at_call 13; refine (HRK.out _ HBw5.out).mono ?_; rintro e w6 ⟨rfl, HB6⟩; have hb6 := Lib.hid (hb5.out.trans (HB6.out.mono hb5.out.size)); have h56 := HB5.out.trans (HB6.out.mono HB5.out.size); have k2 := C2.out w6 (HBT.out.trans (But.of_below (S := fun _ => False) h56) fun _ _ e => e.elim); have k5 := conv_own HO5.out HLp.out HB6.out)
        | (go_at_call 14; refine (awake_any _).mono ?_; rintro e w7 ⟨rfl, HB7⟩))
      go_ret
      exact ⟨rfl, HBW.out.trans ((hb6.out.trans (HB7.out.mono hb6.out.size)).mono HBW.out.size)⟩
end Go.Proofs.Ytohfoieibgmmdaa.Hp
