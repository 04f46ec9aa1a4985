/- Tick's walk. -/
import Derived.Test.YtkanebolfmpnfaaRtAct
namespace Go.Proofs.Ytkanebolfmpnfaa.Rt
open Go.RowKit Go.Maps
open Go.Proofs.Ytkanebolfmpnfaa.Sb
set_option linter.unusedVariables false
set_option linter.unusedSimpArgs false

/-- A table with other news. -/
def Tb.with (t : Tb) (kept : Nat → Option Nw) : Tb := ⟨t.self, t.nbs, t.age, t.set, kept⟩
set_option maxRecDepth 100000 in
set_option maxHeartbeats 4000000 in
theorem Tick_any (w : World) (D mb : Nat) (v : Value) (t : Tb) (h : Hid (Tq w D mb v t)) (ok : Hid t.Ok) :
    Calls Try.prog 24 #[.pointer (some ⟨D, 0, none⟩)] w fun e w' => e = .returned (.int .i64 0) ∧ Hid (Tq w' D mb v (t.with (tickK t.age t.heard))) ∧ Hid (But (fun k => k = mb) w w') := by
  have HHd := Lib.hid (Heard_any w D mb v t h)
  have hmb := h.out.ltm
  go_enter Try.func24, Try.ntmps24
  go_wp2_with (go_at_call 14; refine HHd.out.mono ?_; rintro e w1 ⟨u, rfl, ho, hb1⟩; obtain ⟨A, c, rfl, hrl⟩ := Rl.of ho.out (Nat.le_refl w.heap.size); have HRL := Lib.hid hrl; clear hrl ho)
  have hlen : (fromsI t.heard).length = (froms t.heard).length := by simp [fromsI]
  rw [hlen]
  obtain ⟨n, hn⟩ : ∃ n, (froms t.heard).length = n := ⟨_, rfl⟩
  have hn64 : n ≤ 64 := by rw [← hn]; exact froms_len _
  have HN : Hid ((froms t.heard).length = n) := hn
  rw [hn]
  clear hn hlen
  have HT0 : Hid (Tq w1 D mb v (t.with (tkL t.age t.heard []))) := h.out.below hb1.out
  have HB0 : Hid (But (fun k => k = mb) w w1) := But.of_below hb1.out
  go_loopw [11] (fun k wr => ∃ i : Nat, i ≤ n ∧ k = .int .i64 i ∧ Hid (Tq wr D mb v (t.with (tkL t.age t.heard ((froms t.heard).take i)))) ∧ Hid (But (fun k => k = mb) w wr) ∧ Hid (Rl wr w.heap.size A (fromsI t.heard))) (fun k _ => n - (intOf k).toNat)
  case atStart => exact ⟨0, Nat.zero_le _, rfl, HT0, HB0, HRL⟩
  case round =>
    obtain ⟨i, hi, rfl, HT, HB, HR⟩ := hrel
    clear HT0 HB0 HRL HHd hb1
    by_cases hlt : i < n
    · obtain ⟨b, off, rfl, hb1, hb2, hcell⟩ := HR.out i (by rw [show (fromsI t.heard).length = (froms t.heard).length by simp [fromsI], HN.out]; exact hlt)
      obtain ⟨f, hf⟩ : ∃ f, (froms t.heard)[i]? = some f := ⟨_, List.getElem?_eq_getElem (by rw [HN.out]; exact hlt)⟩
      have hat : Mi.at_ (fromsI t.heard) i = (f : Int) := by simp [Mi.at_, fromsI, hf]
      rw [hat] at hcell
      obtain ⟨hf64, hfs⟩ := mem_froms.1 (List.mem_of_getElem? hf)
      obtain ⟨p, hp⟩ := Option.isSome_iff_exists.1 hfs
      obtain ⟨_, _, hs⟩ := ok.out.heard f p hf64 hp
      have hage := ok.out.age
      have hnd : (froms t.heard).Nodup := (froms_lt t.heard).imp fun h => by omega
      have htk : (froms t.heard).take (i + 1) = (froms t.heard).take i ++ [f] := by rw [List.take_add_one, hf]; rfl
      have hnf : f ∉ (froms t.heard).take i := by
        have h1 := List.Sublist.nodup (List.take_sublist (i + 1) (froms t.heard)) hnd
        rw [htk, List.nodup_append] at h1
        exact fun hf => h1.2.2 f hf f (by simp) rfl
      have hkf : tkL t.age t.heard ((froms t.heard).take i) f = some p := by
        rw [tkL_at t.age _ _ (List.Sublist.nodup (List.take_sublist i (froms t.heard)) hnd), if_neg hnf, hp]
      have HS : Hid (tkL t.age t.heard ((froms t.heard).take (i + 1)) = if p.s + 1 < t.age then putK (tkL t.age t.heard ((froms t.heard).take i)) f ⟨p.c, p.s + 1⟩ else delK (tkL t.age t.heard ((froms t.heard).take i)) f) := by
        show _ = _
        rw [htk, tkL_snoc]
        unfold tk1
        rw [hkf]
      obtain ⟨KP, hK⟩ : ∃ KP, tkL t.age t.heard ((froms t.heard).take i) = KP := ⟨_, rfl⟩
      rw [hK] at HT hkf HS
      have c67 := HT.out.c67
      have hl0 := HT.out.mp.get hf64 hkf (W := wr) rfl
      have HN1 : Hid (Nb (wr.alloc (.cells (ncs n0) 91)) wr.heap.size n0) := heap_alloc_new wr _
      have HN2 : Hid (Nb ((wr.alloc (.cells (ncs n0) 91)).setRow wr.heap.size (ncs p)) wr.heap.size p) := setRow_heap _ _ _ _ _ _ HN1.out
      have HB2 : Hid (Below wr.heap.size wr ((wr.alloc (.cells (ncs n0) 91)).setRow wr.heap.size (ncs p))) := Sb.below_setRow _ (Mi.below_alloc (Below.refl _ _)) (Nat.le_refl _)
      have d1 := HN2.out.cellS
      have d2 := HN2.out.frozen 64
      have HN3 : Hid (Nb (((wr.alloc (.cells (ncs n0) 91)).setRow wr.heap.size (ncs p)).setCell ⟨wr.heap.size, 64, none⟩ (.int .i64 ((p.s + 1 : Nat) : Int))) wr.heap.size ⟨p.c, p.s + 1⟩) := HN2.out.setS (p.s + 1)
      have HB3 : Hid (Below wr.heap.size wr (((wr.alloc (.cells (ncs n0) 91)).setRow wr.heap.size (ncs p)).setCell ⟨wr.heap.size, 64, none⟩ (.int .i64 ((p.s + 1 : Nat) : Int)))) := HB2.out.setCell (p := ⟨wr.heap.size, 64, none⟩) (Nat.le_refl _) _
      have e3 := HN3.out.cellS
      have a3 := (HT.out.below HB3.out).c2
      have m3 := (HT.out.below HB3.out).c67
      have hage2 : (t.with KP).age = t.age := rfl
      rw [hage2] at a3
      have hps : (p.s : Int) + 1 = ((p.s + 1 : Nat) : Int) := by omega
      obtain ⟨s1, hs1⟩ : ∃ s1 : Nat, p.s + 1 = s1 := ⟨_, rfl⟩
      have hs2 : (p.s : Int) = (s1 : Int) - 1 := by omega
      have hs3 : s1 ≤ 64 ∧ 1 ≤ s1 := by omega
      rw [hs1] at HS HN3 HB3 e3 a3 m3
      rw [hs2] at d1
      have hcl := hcell
      clear hK hat hf hfs hp hnd htk hnf hps hs1 hs2 hkf
      go_wp2_with (first
        | (refine Mi.allocTo rfl (.pointer (some ⟨_, 0, none⟩)) (.cells (ncs n0) 91 (0, 0)) (alloc_news _ _ rfl _) ?_)
        | (refine wpList_store_row rfl 91 (.tmp 5) (.tmp 20) rfl wr.heap.size (ncs p) rfl rfl 91 _ HN1.out (size65 _) (by simp only [ncs_size]) (ncs_one _) ?_))
      obtain ⟨W3, hW3⟩ : ∃ W3, ((wr.alloc (.cells (ncs n0) 91)).setRow wr.heap.size (ncs p)).setCell ⟨wr.heap.size, 64, none⟩ (.int .i64 (s1 : Int)) = W3 := ⟨_, rfl⟩
      rw [hW3] at HN3 HB3 e3 a3 m3 ⊢
      clear hW3 HN1 HN2 HB2 d1 d2 hl0 c67 hcell hcl HN hs hage hs3
      obtain ⟨ag, hag⟩ : ∃ ag : Nat, t.age = ag := ⟨_, rfl⟩
      rw [hag] at HS a3
      have HAG : Hid (t.age = ag) := hag
      have hsz : wr.heap.size < W3.heap.size := HN3.out.lt
      by_cases hl2 : s1 < ag
      · rw [if_pos hl2] at HS
        have q1 : (s1 : Int) < (ag : Int) := by omega
        have q2 : decide ((s1 : Int) < (ag : Int)) = true := decide_eq_true q1
        clear hl2 hag
        go_quiet (fail)
        go_wp2
        have HB4 : Hid (Below wr.heap.size wr (W3.drewN nq).drew) := (HB3.out.trans ⟨rfl, rfl, rfl, Nat.le_refl _, fun _ _ => rfl⟩)
        refine wp_region_held_drew (S := fun W => W.cell? ⟨D, 67, none⟩ = some (.map (some mb)) ∧ Nb W wr.heap.size ⟨p.c, s1⟩) (by kernel_rfl) ⟨(HT.out.below HB4.out).c67, HN3.out⟩ (fun hHeld => ?_)
        refine wpAnyH_take (i := 0) (v := .pointer (some ⟨D, 0, none⟩)) rfl (by kernel_rfl) (by kernel_rfl) (by kernel_rfl) (fun _ _ _ h => h) (Or.inl ⟨by rfl, ?_⟩) (by first | assumption | exact trivial) ?_
        · intro W hSW; go_simp; try (with_reducible rfl)
        simp only [Act.put, List.getElem_toArray, List.getElem_cons_succ, List.getElem_cons_zero, List.setIfInBounds_toArray, List.set_cons_zero, List.set_cons_succ]
        refine wpAnyH_take (i := 1) (v := .pointer (some ⟨D, 0, none⟩)) rfl (by kernel_rfl) (by kernel_rfl) (by kernel_rfl) (fun _ _ _ h => h) (Or.inl ⟨by rfl, ?_⟩) (by first | assumption | exact trivial) ?_
        · intro W hSW; go_simp; try (with_reducible rfl)
        simp only [Act.put, List.getElem_toArray, List.getElem_cons_succ, List.getElem_cons_zero, List.setIfInBounds_toArray, List.set_cons_zero, List.set_cons_succ]
        refine wpAnyH_take (i := 2) (v := .pointer (some ⟨D, 67, none⟩)) rfl (by kernel_rfl) (by kernel_rfl) (by kernel_rfl) (fun _ _ _ h => h) (Or.inl ⟨by rfl, ?_⟩) (by first | assumption | exact trivial) ?_
        · intro W hSW; go_simp; try (with_reducible rfl)
        simp only [Act.put, List.getElem_toArray, List.getElem_cons_succ, List.getElem_cons_zero, List.setIfInBounds_toArray, List.set_cons_zero, List.set_cons_succ]
        refine wpAnyH_take (i := 3) (v := .map (some mb)) rfl (by kernel_rfl) (by kernel_rfl) (by kernel_rfl) (fun _ _ _ h => h) (Or.inl ⟨by rfl, ?_⟩) (by first | assumption | exact trivial) ?_
        · intro W hSW; have q := hSW.1; go_simp; try (with_reducible rfl)
        simp only [Act.put, List.getElem_toArray, List.getElem_cons_succ, List.getElem_cons_zero, List.setIfInBounds_toArray, List.set_cons_zero, List.set_cons_succ]
        refine wpAnyH_take (i := 4) (v := .int .i64 (f : Int)) rfl (by kernel_rfl) (by kernel_rfl) (by kernel_rfl) (fun _ _ _ h => h) (Or.inl ⟨by rfl, ?_⟩) (by first | assumption | exact trivial) ?_
        · intro W hSW; go_simp; try (with_reducible rfl)
        simp only [Act.put, List.getElem_toArray, List.getElem_cons_succ, List.getElem_cons_zero, List.setIfInBounds_toArray, List.set_cons_zero, List.set_cons_succ]
        refine wpAnyH_take (i := 5) (v := .agg (ncs ⟨p.c, s1⟩)) rfl (by kernel_rfl) (by kernel_rfl) (by kernel_rfl) (fun _ _ _ h => h) (yieldsIf_load_news (by rfl) (.tmp 5) rfl wr.heap.size rfl ⟨p.c, s1⟩ (fun W hW => hW.2)) (by first | assumption | exact trivial) ?_
        simp only [Act.put, List.getElem_toArray, List.getElem_cons_succ, List.getElem_cons_zero, List.setIfInBounds_toArray, List.set_cons_zero, List.set_cons_succ]
        refine wpAnyH_ready (rs := [6]) (by kernel_rfl) (by simp) ?_
        refine AllReadyH.cons rfl (fun K hK => ?_) AllReadyH.nil
        refine putW (.tmp 35) (.tmp 36) (.tmp 37) rfl mb KP f ⟨p.c, s1⟩ rfl rfl rfl ((HT.out.below HB4.out).mp) hf64 ?_
        intro w7 hm7 hb7 hs7
        have HT7 : Hid (Tq w7 D mb v (t.with (tkL t.age t.heard ((froms t.heard).take (i + 1))))) := by
          rw [HAG.out, HS.out]
          exact (HT.out.below HB4.out).map hm7 hb7
        have HB7 : Hid (But (fun k => k = mb) w w7) := (HB.out.trans (But.of_below (S := fun k => k = mb) HB4.out) fun _ _ e => e).trans hb7 fun _ _ e => e
        have hN7 : Nb w7 wr.heap.size ⟨p.c, s1⟩ := (hb7.same _ hsz (by have := HB.out.size; omega)).trans HN3.out
        have HR7 : Hid (Rl w7 w.heap.size (some ⟨b, off, none⟩) (fromsI t.heard)) := HR.out.keep (Nat.le_trans HB4.out.size hb7.size) fun b' h1 h2 => (hb7.same b' (Nat.lt_of_lt_of_le h2 HB4.out.size) (by omega)).trans (HB4.out.block b' h2)
        clear hm7 hb7 hs7
        refine hK.out _ _ (⟨HT7.out.c67, hN7⟩) (fun hHeld => ?_)
        clear hK K
        refine wpAnyH_done (by kernel_rfl) ?_ _
        go_wp2
        go_roundw
        case rel => exact ⟨i + 1, by omega, by go_num, HT7, HB7, HR7⟩
        case measure => simp [intOf]; omega
      · rw [if_neg hl2] at HS
        have q1 : ¬ (s1 : Int) < (ag : Int) := by omega
        have q2 : decide ((s1 : Int) < (ag : Int)) = false := decide_eq_false q1
        clear hl2 hag
        go_quiet (fail)
        have HB4 : Hid (Below wr.heap.size wr (W3.drewN nq)) := (HB3.out.trans ⟨rfl, rfl, rfl, Nat.le_refl _, fun _ _ => rfl⟩)
        have m4 := (HT.out.below HB4.out).c67
        go_wp2_with (refine wpList_plain rfl fun K2 hK2 => delW (.tmp 41) (.tmp 42) rfl mb KP f rfl rfl ((HT.out.below HB4.out).mp) hf64 ?_; intro w7 hm7 hb7 hs7; refine hK2 _ _ ?_)
        have HT7 : Hid (Tq w7 D mb v (t.with (tkL t.age t.heard ((froms t.heard).take (i + 1))))) := by
          rw [HAG.out, HS.out]
          exact (HT.out.below HB4.out).map hm7 hb7
        have HB7 : Hid (But (fun k => k = mb) w w7) := (HB.out.trans (But.of_below (S := fun k => k = mb) HB4.out) fun _ _ e => e).trans hb7 fun _ _ e => e
        have HR7 : Hid (Rl w7 w.heap.size (some ⟨b, off, none⟩) (fromsI t.heard)) := HR.out.keep (Nat.le_trans HB4.out.size hb7.size) fun b' h1 h2 => (hb7.same b' (Nat.lt_of_lt_of_le h2 HB4.out.size) (by omega)).trans (HB4.out.block b' h2)
        go_roundw
        case rel => exact ⟨i + 1, by omega, by go_num, HT7, HB7, HR7⟩
        case measure => simp [intOf]; omega
    · obtain rfl : i = n := by omega
      have HT2 : Hid (Tq wr D mb v (t.with (tickK t.age t.heard))) := by
        have := HT.out
        rw [List.take_of_length_le (by rw [HN.out]; exact Nat.le_refl _)] at this
        exact this.tick
      go_wp2
      go_ret
      exact ⟨rfl, HT2, HB⟩
end Go.Proofs.Ytkanebolfmpnfaa.Rt
