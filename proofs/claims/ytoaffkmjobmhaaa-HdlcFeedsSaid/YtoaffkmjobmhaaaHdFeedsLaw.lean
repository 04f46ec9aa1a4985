/- The walk of the law HdlcFeeds. -/
import Derived.Test.YtoaffkmjobmhaaaHdFS
namespace Go.Proofs.Ytoaffkmjobmhaaa.Hd
open Go.RowKit
open Go.Proofs.Ytoaffkmjobmhaaa.Me Go.Proofs.Ytoaffkmjobmhaaa.St
open Go.Proofs.Ytoaffkmjobmhaaa.Cr (addL rightB)
set_option linter.unusedVariables false
set_option linter.unusedSimpArgs false

/-- All that was there stays. -/
def KeptW (w0 W : World) : Prop := Below w0.heap.size w0 W
theorem KeptW.block {w0 W : World} (h : KeptW w0 W) : ∀ k, k < w0.heap.size → W.heap[k]? = w0.heap[k]? := Below.block h
set_option maxRecDepth 100000 in
set_option maxHeartbeats 4000000 in
theorem feeds {H : Type} (Al : Option Addr) (lenl capl : Nat) (ls : List (List Nat)) (w : World) {d : DataW H} (w0 : lenl = ls.length ∧ lenl ≤ 9223372036854775807 ∧ Me.Lst w w.heap.size Al ls ∧ Me.Nils w Al ls ∧ ls.flatten.length + ls.length ≤ Rows.uptoBulk d) :
    Calls Try.prog 4 #[.slice Al lenl capl] w fun e w' => e = .returned (.bool true) ∧ Below w.heap.size w w' := by
  obtain ⟨rfl, hll, hlst, hnil, _⟩ := w0
  have HL := Lib.hid hlst
  have HNl := Lib.hid hnil
  have HN := Lib.hid (New_any w)
  clear hlst hnil
  go_enter Try.func4, Try.ntmps4
  go_wp2_with (go_at_call 13; refine HN.out.mono ?_; rintro e w1 ⟨rfl, hd1, hb1⟩)
  have hlt1 := hd1.out.lt
  have HFS : Hid (FS w w1.heap.size newD none 0 none 0 (w1.alloc (.cells #[.bool true, .slice none 0 0, .int .i64 0, .int .i64 0, .int .i64 0, .int .i64 0, .int .i64 0] 34))) :=
    ⟨hd1.out.alloc _, Me.Own.nil _ _, (fun j hj => by cases hj), heap_alloc_new w1 _, Me.Own.nil _ _, (fun a ha => by cases ha), below_alloc hb1.out, hlt1⟩
  obtain ⟨W0, hW0⟩ : ∃ W0, w1.alloc (.cells #[.bool true, .slice none 0 0, .int .i64 0, .int .i64 0, .int .i64 0, .int .i64 0, .int .i64 0] 34) = W0 := ⟨_, rfl⟩
  obtain ⟨E, hE⟩ : ∃ E, w1.heap.size = E := ⟨_, rfl⟩
  rw [hW0, hE] at HFS
  rw [hW0, hE]
  clear hW0 hE hd1 hb1 hlt1 HN
  go_loopw [5] (fun i wr => ∃ (k : Nat) (d : Dec) (A1 : Option Addr) (c1 : Nat) (A2 : Option Addr) (c2 : Nat), k ≤ ls.length ∧ i = .int .i64 k ∧ Good d ∧ tot d.met ≤ 3000 * k ∧ k ≤ 30 ∧ FS w E d A1 c1 A2 c2 wr) (fun i _ => ls.length - (intOf i).toNat)
  case atStart => exact ⟨0, newD, none, 0, none, 0, Nat.zero_le _, rfl, Good.new, by decide, by decide, HFS.out⟩
  case round =>
    obtain ⟨k, d, A1, c1, A2, c2, hk, rfl, hg, htot, h30, hfs⟩ := hrel
    have HF := Lib.hid hfs
    have HG := Lib.hid hg
    clear hfs hg
    by_cases hlt : k < ls.length ∧ k < 30
    · obtain ⟨hlt, h30'⟩ := hlt
      have b0 := HF.out.B
      obtain ⟨b, off, R, cr, rfl, r1, r2, r3, r4, r5⟩ := row_conv HL.out HNl.out hlt
      have hcell := (b0.cell (p := ⟨b, off + k, none⟩) (World.block_lt_of_cell? w _ r1)).trans r1
      obtain ⟨r, hr⟩ : ∃ r, lsAt ls k = r := ⟨_, rfl⟩
      rw [hr] at hcell r1 r2 r4 r5
      have HC := Lib.hid (cut_any R cr r wr r2)
      have hp3 : (r.take 3000).length ≤ 3000 := by simp; omega
      have HR : Hid (Rd w w.heap.size R (r.take 3000)) := r4.take 3000
      have HA : Hid (R = none → (r.take 3000).length = 0 ∧ cr = 0) := fun e => by have := r5 e; rw [List.length_take]; omega
      obtain ⟨p, hpd⟩ : ∃ p, r.take 3000 = p := ⟨_, rfl⟩
      rw [hpd] at HC hp3 HR HA
      have HB0 := Lib.hid b0
      have hk2 : (k : Int) < 30 := by omega
      obtain ⟨gg1, gg2, gg3⟩ := HG.out.feed p HR.out.1
      have HPB := Lib.hid HR.out.1
      have FD := fun (w3 : World) (h3 : Below wr.heap.size wr w3) (A3 : Option Addr) (c3 : Nat) (ho3 : Me.Own w3 wr.heap.size (.slice A3 p.length c3) p) =>
        Feed_any w3 w.heap.size d A1 c1 ((h3.block _ HF.out.D.lt).trans HF.out.D) (own_same HF.out.O fun k _ hk => h3.block k hk) HG.out A3 c3 p (own_rd ho3 HPB.out).1 (fun a ha e => by have h1 := (ho3.lt a.block (by rw [ha]; rfl)).1; have h2 := own_lt HF.out.O _ e; omega) (by omega) (by omega)
      have RF := fun (w4 : World) (hi : Hid (Rd w4 w4.heap.size A2 d.inn)) (hA : Hid (A2 = none → d.inn.length = 0 ∧ c2 = 0)) (hAl : Hid (∀ a, A2 = some a → a.block < w4.heap.size)) (hr : Hid (Rd w4 w4.heap.size R p)) => RFeed_any w4 d A2 c2 hi hA hAl HG.out R cr p hr (by omega) (by omega)
      have HTB := Lib.hid (told_bytes_any HG.out HPB.out)
      obtain ⟨d', hd'⟩ : ∃ d', (feedD rightB d p).1 = d' := ⟨_, rfl⟩
      obtain ⟨ts, hts⟩ : ∃ ts, (feedD rightB d p).2 = ts := ⟨_, rfl⟩
      rw [hd'] at gg1 gg2
      rw [hts] at gg3 HTB
      simp only [hd', hts] at FD RF
      have HFD := Lib.hid FD
      have HRF := Lib.hid RF
      have HG' := Lib.hid gg1
      have htot' : tot d'.met ≤ 3000 * (k + 1) := by omega
      clear FD RF hd' hts hpd hr r1 r2 r3 r4 r5 b0 gg1
      go_wp2_with (first
        | (go_at_call 14; refine HC.out.mono ?_; rintro e w' ⟨rfl, rfl⟩)
        | (at_builtin; refine app8 rfl (.tmp 31) (.tmp 32) rfl wr.heap.size w.heap.size _ [] p rfl (Own.lit (Below.refl _ wr)) (below_alloc (Below.refl _ wr)) (by simp) R cr rfl (HR.out.below (below_alloc HB0.out)) HA.out (by simp; omega) ?_; intro v3 w3 ho3 hb3 _; rw [List.nil_append] at ho3; obtain ⟨A3, c3, rfl, _, _, _⟩ := ho3.held HPB.out; have HO3 := Lib.hid ho3; have HB3 := Lib.hid hb3; have Q1 := Lib.hid (HFD.out w3 hb3 A3 c3 ho3); clear ho3 hb3)
        | (go_at_call 15; refine Q1.out.mono ?_; rintro e w4 ⟨vr, rfl, hfn⟩; obtain ⟨m1, m2, m3, m4, m5⟩ := HF.out.mid HG.out HB3.out hfn.out; have M1 := Lib.hid m1; have M2 := Lib.hid m2; have M3 := Lib.hid m3; have M4 := Lib.hid m4; have M5 := Lib.hid m5; have M6 : Hid (Rd w4 w4.heap.size R p) := (HR.out.below m1).more m1.size; clear m1 m2 m3 m4 m5)
        | (refine wpList_load_row rfl 34 (.tmp 4) rfl E rfl 34 _ (0, 0) _ M2.out Try.underlying34 rfl (by kernel_rfl) ?_)
        | (go_at_call 16; refine (HRF.out w4 M3 M4 M5 M6).mono ?_; rintro e w5 ⟨A2', c2', vw, he, hIn, hRw, hB5⟩; unfold rval at he; subst he; have HE5 : Hid (∀ o, (w5.alloc o).heap[E]? = some (.cells (rcells d (.slice A2 d.inn.length c2)) 34 (0, 0))) := fun o => (Below.heap_alloc w5 o E (Nat.lt_of_lt_of_le (Array.getElem?_eq_some_iff.1 M2.out).1 hB5.out.size)).trans ((hB5.out.block E (Array.getElem?_eq_some_iff.1 M2.out).1).trans M2.out))
        | (refine wpList_store_row rfl 34 (.tmp 4) (.tmp 43) rfl E (rcells d' (.slice A2' d'.inn.length c2')) rfl rfl 34 _ (HE5.out _) (by kernel_rfl) rfl (rc_one _ _ _ _) ?_))
      have HST : Hid (∀ w7, But (fun k => (Value.slice A3 p.length c3).ownBlock = some k) ((w5.alloc (.cells #[.bool d'.hunts, .slice A2' d'.inn.length c2', .int .i64 (d'.met.good : Int), .int .i64 (d'.met.bad : Int), .int .i64 (d'.met.short : Int), .int .i64 (d'.met.long : Int), .int .i64 (d'.met.broken : Int)] 34)).setRow E (rcells d' (.slice A2' d'.inn.length c2'))) w7 → ∃ A1' c1', FS w E d' A1' c1' A2' c2' w7 ∧ Rws (fun _ => True) w7 vr ts ∧ Rws (fun _ => True) w7 vw ts) := fun w7 h7 =>
        HF.out.step HB3.out hfn.out hIn.out hRw.out hB5.out (below_alloc (Below.refl _ w5)) (but_row _ _ _) (setRow_heap _ _ _ _ _ _ (HE5.out _)) h7 fun k e => HO3.out.lt k e
      have HGV0 : Hid (Giv ((w5.alloc (.cells #[.bool d'.hunts, .slice A2' d'.inn.length c2', .int .i64 (d'.met.good : Int), .int .i64 (d'.met.bad : Int), .int .i64 (d'.met.short : Int), .int .i64 (d'.met.long : Int), .int .i64 (d'.met.broken : Int)] 34)).setRow E (rcells d' (.slice A2' d'.inn.length c2'))) (.slice A3 p.length c3) p.length) := by
        obtain ⟨A1', c1', e1, e2, e3, e4, e5⟩ := hfn.out
        refine ⟨p, rfl, HPB.out, own_base (B' := 0) (own_same HO3.out fun k hk hk' => ?_) fun _ _ => Nat.zero_le _⟩
        have h3 := HO3.out.lt k hk
        have hEl := HF.out.lt
        have hDl := HF.out.D.lt
        have s4 := e4.size
        have s5 := hB5.out.size
        have hl := HE5.out (.cells #[.bool d'.hunts, .slice A2' d'.inn.length c2', .int .i64 (d'.met.good : Int), .int .i64 (d'.met.bad : Int), .int .i64 (d'.met.short : Int), .int .i64 (d'.met.long : Int), .int .i64 (d'.met.broken : Int)] 34)
        refine (setRow_other _ _ _ _ (by omega)).trans ((Below.heap_alloc _ _ _ (by omega)).trans ((hB5.out.block k (by omega)).trans (e4.same k hk' fun hs => ?_)))
        rcases hs with hs | hs
        · omega
        · have := own_lt HF.out.O _ hs; omega
      obtain ⟨w6, hw6⟩ : ∃ w6, (w5.alloc (.cells #[.bool d'.hunts, .slice A2' d'.inn.length c2', .int .i64 (d'.met.good : Int), .int .i64 (d'.met.bad : Int), .int .i64 (d'.met.short : Int), .int .i64 (d'.met.long : Int), .int .i64 (d'.met.broken : Int)] 34)).setRow E (rcells d' (.slice A2' d'.inn.length c2')) = w6 := ⟨_, rfl⟩
      rw [hw6] at HST HGV0 ⊢
      clear hw6 hfn hIn hRw hB5 HE5 M2 M3 M4 M5 M6 Q1 HFD HRF HC HB3 HO3
      go_loopw [11] (fun i wr => ∃ j : Nat, j ≤ p.length ∧ i = .int .i64 j ∧ Giv wr (.slice A3 p.length c3) p.length ∧ But (fun k => (Value.slice A3 p.length c3).ownBlock = some k) w6 wr) (fun i _ => p.length - (intOf i).toNat)
      case atStart => exact ⟨0, Nat.zero_le _, rfl, HGV0.out, But.refl _ _⟩
      case round =>
        obtain ⟨j, hj, rfl, hgv, hbt⟩ := hrel
        have HGV := Lib.hid hgv
        have HBT := Lib.hid hbt
        clear hgv hbt
        by_cases hjl : j < p.length
        · obtain ⟨g, y, rfl, hy, hc1, hf1, hob⟩ := HGV.out.cell hjl
          have HOB := Lib.hid hob
          have ht := turn8 hy
          have HY : Hid (255 - y < 256) := by show _ < _; omega
          have HT := Lib.hid ht
          clear hob
          go_wp2
          go_roundw
          case rel =>
            refine ⟨j + 1, by omega, by go_num, ?_⟩
            have e : (255 : Int) - (y : Int) = ((255 - y : Nat) : Int) := by omega
            first
              | exact ⟨by rw [e]; exact HGV.out.put HY.out, HBT.out.set (.inl HOB.out) _⟩
              | exact ⟨by rw [HT.out]; exact HGV.out.put HY.out, HBT.out.set (.inl HOB.out) _⟩
              | exact ⟨HGV.out.put HY.out, HBT.out.set (.inl HOB.out) _⟩
          case measure => simp [intOf]; omega
        · obtain ⟨A1', c1', fs7, rw1, rw2⟩ := HST.out wr HBT.out
          obtain ⟨A8, c8, rfl, _, _, q3, q4, _⟩ := rw1.lst HTB.out
          obtain ⟨A9, c9, rfl, _, _, q3', q4', _⟩ := rw2.lst HTB.out
          have HFS7 := Lib.hid fs7
          have HSM := Lib.hid (Same_any wr.drew A8 A9 c8 c9 ts ts q3 q4 q3' q4' (by omega))
          have I1 := fun (W : World) (h : Hid (Dblk W w.heap.size d' (.slice A1' d'.inn.length c1'))) => Inside_any W w.heap.size d' A1' c1' h
          have I2 := fun (W : World) => RInside_any W d' A2' c2'
          obtain ⟨iv, hiv⟩ : ∃ iv : Int, (if d'.hunts then -1 else (d'.inn.length : Int)) = iv := ⟨_, rfl⟩
          simp only [hiv] at I1 I2
          have HI1 := Lib.hid I1
          have HI2 := Lib.hid I2
          clear I1 I2 hiv
          clear fs7 rw1 rw2 q3 q4 q3' q4' HST HGV HGV0 HBT
          go_wp2
          have S0 : KeptW wr wr.drew := (Below.refl _ wr).drew
          refine wp_region_held_drew (S := KeptW wr) (by kernel_rfl) S0 (fun hHeld => ?_)
          refine wpAnyH_take (i := 0) (v := ?v0) rfl (by kernel_rfl) (by kernel_rfl) (by kernel_rfl) (fun _ _ _ h => h) (Or.inl ⟨by rfl, ?hy0⟩) (by assumption) ?rest0
          case hy0 => intro W hSW; go_simp; try (with_reducible rfl)
          simp only [Act.put, List.getElem_toArray, List.getElem_cons_succ, List.getElem_cons_zero, List.setIfInBounds_toArray, List.set_cons_zero, List.set_cons_succ]
          refine wpAnyH_take (i := 1) (v := ?v1) rfl (by kernel_rfl) (by kernel_rfl) (by kernel_rfl) (fun _ _ _ h => h) (Or.inl ⟨by rfl, ?hy1⟩) (by assumption) ?rest1
          case hy1 => intro W hSW; go_simp; try (with_reducible rfl)
          simp only [Act.put, List.getElem_toArray, List.getElem_cons_succ, List.getElem_cons_zero, List.setIfInBounds_toArray, List.set_cons_zero, List.set_cons_succ]
          refine wpAnyH_ready (rs := [2]) (by kernel_rfl) (by simp) ?_
          refine AllReadyH.cons rfl (fun K hK => ?_) AllReadyH.nil
          go_simp
          go_wp2_with (go_at_call 17; refine HSM.out.mono ?_; rintro e w8 ⟨rfl, hb8⟩)
          have S8 : KeptW wr w8 := Below.trans S0 (Below.mono hb8.out (Below.size S0))
          refine hK.out _ _ S8 (fun hHeld => ?_)
          clear hK K
          refine wpAnyH_take (i := 3) (v := ?v3) rfl (by kernel_rfl) (by kernel_rfl) (by kernel_rfl) (fun _ _ _ h => h) (Or.inl ⟨by rfl, ?hy3⟩) (by assumption) ?rest3
          case hy3 => intro W hSW; go_simp; try (with_reducible rfl)
          simp only [Act.put, List.getElem_toArray, List.getElem_cons_succ, List.getElem_cons_zero, List.setIfInBounds_toArray, List.set_cons_zero, List.set_cons_succ]
          refine wpAnyH_take (i := 4) (v := ?v4) rfl (by kernel_rfl) (by kernel_rfl) (by kernel_rfl) (fun _ _ _ h => h) (Or.inl ⟨by rfl, ?hy4⟩) (by assumption) ?rest4
          case hy4 => intro W hSW; go_simp; try (with_reducible rfl)
          simp only [Act.put, List.getElem_toArray, List.getElem_cons_succ, List.getElem_cons_zero, List.setIfInBounds_toArray, List.set_cons_zero, List.set_cons_succ]
          refine wpAnyH_take (i := 5) (v := ?v5) rfl (by kernel_rfl) (by kernel_rfl) (by kernel_rfl) (fun _ _ _ h => h) (Or.inl ⟨by rfl, ?hy5⟩) (by assumption) ?rest5
          case hy5 => intro W hSW; go_simp; try (with_reducible rfl)
          simp only [Act.put, List.getElem_toArray, List.getElem_cons_succ, List.getElem_cons_zero, List.setIfInBounds_toArray, List.set_cons_zero, List.set_cons_succ]
          refine wpAnyH_take (i := 7) (v := ?v7) rfl (by kernel_rfl) (by kernel_rfl) (by kernel_rfl) (fun _ _ _ h => h) (Or.inl ⟨by rfl, ?hy7⟩) (by assumption) ?rest7
          case hy7 => intro W hSW; go_simp; try (with_reducible rfl)
          simp only [Act.put, List.getElem_toArray, List.getElem_cons_succ, List.getElem_cons_zero, List.setIfInBounds_toArray, List.set_cons_zero, List.set_cons_succ]
          refine wpAnyH_take (i := 8) (v := ?v8) rfl (by kernel_rfl) (by kernel_rfl) (by kernel_rfl) (fun _ _ _ h => h) (Or.inl ⟨by rfl, ?hy8⟩) (by assumption) ?rest8
          case hy8 => intro W hSW; obtain ⟨⟨n0, n1, n2, n3, n4, n5, n6⟩, _⟩ := cells7_all ((KeptW.block hSW E HFS7.out.lt).trans HFS7.out.R); go_simp; try (with_reducible rfl)
          simp only [Act.put, List.getElem_toArray, List.getElem_cons_succ, List.getElem_cons_zero, List.setIfInBounds_toArray, List.set_cons_zero, List.set_cons_succ]
          refine wpAnyH_ready (rs := [6]) (by kernel_rfl) (by simp) ?_
          refine AllReadyH.cons rfl (fun K hK => ?_) AllReadyH.nil
          go_simp
          go_wp2_with (go_at_call 18; refine (Stats_any w8 w.heap.size _ _ (HFS7.out.below S8).D).mono ?_; rintro e w9 ⟨he, hb9⟩; unfold mval at he; subst he)
          have S9 : KeptW wr w9 := Below.trans S8 (Below.mono hb9.out (Below.size S8))
          refine hK.out _ _ S9 (fun hHeld => ?_)
          clear hK K
          refine wpAnyH_take (i := 9) (v := ?v9) rfl (by kernel_rfl) (by kernel_rfl) (by kernel_rfl) (fun _ _ _ h => h) (Or.inl ⟨by rfl, ?hy9⟩) (by assumption) ?rest9
          case hy9 => intro W hSW; go_simp; try (with_reducible rfl)
          simp only [Act.put, List.getElem_toArray, List.getElem_cons_succ, List.getElem_cons_zero, List.setIfInBounds_toArray, List.set_cons_zero, List.set_cons_succ]
          refine wpAnyH_take (i := 10) (v := ?v10) rfl (by kernel_rfl) (by kernel_rfl) (by kernel_rfl) (fun _ _ _ h => h) (Or.inl ⟨by rfl, ?hy10⟩) (by assumption) ?rest10
          case hy10 => intro W hSW; go_simp; try (with_reducible rfl)
          simp only [Act.put, List.getElem_toArray, List.getElem_cons_succ, List.getElem_cons_zero, List.setIfInBounds_toArray, List.set_cons_zero, List.set_cons_succ]
          refine wpAnyH_take (i := 11) (v := ?v11) rfl (by kernel_rfl) (by kernel_rfl) (by kernel_rfl) (fun _ _ _ h => h) (Or.inl ⟨by rfl, ?hy11⟩) (by assumption) ?rest11
          case hy11 => intro W hSW; go_simp; try (with_reducible rfl)
          simp only [Act.put, List.getElem_toArray, List.getElem_cons_succ, List.getElem_cons_zero, List.setIfInBounds_toArray, List.set_cons_zero, List.set_cons_succ]
          refine wpAnyH_take (i := 12) (v := ?v12) rfl (by kernel_rfl) (by kernel_rfl) (by kernel_rfl) (fun _ _ _ h => h) (Or.inl ⟨by rfl, ?hy12⟩) (by assumption) ?rest12
          case hy12 => intro W hSW; go_simp; try (with_reducible rfl)
          simp only [Act.put, List.getElem_toArray, List.getElem_cons_succ, List.getElem_cons_zero, List.setIfInBounds_toArray, List.set_cons_zero, List.set_cons_succ]
          refine wpAnyH_take (i := 14) (v := ?v14) rfl (by kernel_rfl) (by kernel_rfl) (by kernel_rfl) (fun _ _ _ h => h) (Or.inl ⟨by rfl, ?hy14⟩) (by assumption) ?rest14
          case hy14 => intro W hSW; obtain ⟨⟨n0, n1, n2, n3, n4, n5, n6⟩, _⟩ := cells7_all ((KeptW.block hSW E HFS7.out.lt).trans HFS7.out.R); go_simp; try (with_reducible rfl)
          simp only [Act.put, List.getElem_toArray, List.getElem_cons_succ, List.getElem_cons_zero, List.setIfInBounds_toArray, List.set_cons_zero, List.set_cons_succ]
          refine wpAnyH_ready (rs := [13]) (by kernel_rfl) (by simp) ?_
          refine AllReadyH.cons rfl (fun K hK => ?_) AllReadyH.nil
          go_simp
          go_wp2_with (go_at_call 19; refine (HI1.out w9 (HFS7.out.below S9).D).mono ?_; rintro e w10 ⟨rfl, rfl⟩; have hb10 : Hid (Below w9.heap.size w9 w9) := Below.refl _ _)
          have S10 : KeptW wr w9 := Below.trans S9 (Below.mono hb10.out (Below.size S9))
          refine hK.out _ _ S10 (fun hHeld => ?_)
          clear hK K
          refine wpAnyH_ready (rs := [15]) (by kernel_rfl) (by simp) ?_
          refine AllReadyH.cons rfl (fun K hK => ?_) AllReadyH.nil
          go_simp
          go_wp2_with (go_at_call 20; refine (HI2.out w9).mono ?_; rintro e w11 ⟨rfl, hb11⟩)
          have S11 : KeptW wr w11 := Below.trans S10 (Below.mono hb11.out (Below.size S10))
          refine hK.out _ _ S11 (fun hHeld => ?_)
          clear hK K
          refine wpAnyH_take (i := 16) (v := ?v16) rfl (by kernel_rfl) (by kernel_rfl) (by kernel_rfl) (fun _ _ _ h => h) (Or.inl ⟨by rfl, ?hy16⟩) (by assumption) ?rest16
          case hy16 => intro W hSW; go_simp; try (with_reducible rfl)
          simp only [Act.put, List.getElem_toArray, List.getElem_cons_succ, List.getElem_cons_zero, List.setIfInBounds_toArray, List.set_cons_zero, List.set_cons_succ]
          refine wpAnyH_take (i := 17) (v := ?v17) rfl (by kernel_rfl) (by kernel_rfl) (by kernel_rfl) (fun _ _ _ h => h) (Or.inl ⟨by rfl, ?hy17⟩) (by assumption) ?rest17
          case hy17 => intro W hSW; go_simp; try (with_reducible rfl)
          simp only [Act.put, List.getElem_toArray, List.getElem_cons_succ, List.getElem_cons_zero, List.setIfInBounds_toArray, List.set_cons_zero, List.set_cons_succ]
          refine wpAnyH_done (by kernel_rfl) ?_ _
          go_wp2
          go_roundw
          case rel => exact ⟨k + 1, d', A1', c1', A2', c2', by omega, by go_num, HG'.out, htot', by omega, HFS7.out.below S11⟩
          case measure => simp [intOf]; omega
    · have hex : ¬ ((k : Int) < (ls.length : Int)) ∨ ¬ ((k : Int) < 30) := by omega
      have AW := Lib.hid (awake_below (Lib.hid HF.out.B))
      by_cases hkl : k < ls.length
      · have h30' : ¬ ((k : Int) < 30) := by omega
        have hkl' : (k : Int) < (ls.length : Int) := by omega
        clear hex hlt hkl
        go_wp2_with (go_at_call 12; refine AW.out.mono ?_; rintro e w5 ⟨rfl, hb5⟩)
        go_ret
        exact ⟨rfl, hb5.out⟩
      · have hkl' : ¬ ((k : Int) < (ls.length : Int)) := by omega
        clear hex hlt hkl
        go_wp2_with (go_at_call 12; refine AW.out.mono ?_; rintro e w5 ⟨rfl, hb5⟩)
        go_ret
        exact ⟨rfl, hb5.out⟩
end Go.Proofs.Ytoaffkmjobmhaaa.Hd
