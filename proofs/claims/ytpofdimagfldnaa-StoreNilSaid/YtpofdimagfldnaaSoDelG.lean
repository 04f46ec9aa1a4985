/- slices.DeleteFunc with release's closure. -/
import Derived.Test.YtpofdimagfldnaaSoDelF
namespace Go.Proofs.Ytpofdimagfldnaa.So
open Go.RowKit
open Go.Proofs.Ytpofdimagfldnaa.Me Go.Proofs.Ytpofdimagfldnaa.Sb
set_option linter.unusedVariables false
set_option linter.unusedSimpArgs false

theorem id_one (o d e c : Int) : (#[.int .i64 o, .int .i64 d, .int .i64 e, .int .i64 c] : Array Value).all (·.oneCell') = true := by simp [Value.oneCell']
set_option maxRecDepth 100000 in
set_option maxHeartbeats 16000000 in
theorem DeleteFunc_any (g c X : Nat) (a : List Mg.Id4) (i : Mg.Id4) (b : List Mg.Id4) (w : World) (N M NB : Nat) (hM : a.length = M) (hNB : b.length = NB) (hN : N = M + NB + 1) (hNb : N ≤ 1000) (ha : i ∉ a) (hb : i ∉ b) (hXg : X ≠ g) (hNc : N ≤ c) (hK : Hid (Ki w 0 (.slice (some ⟨g, 0, none⟩) N c) (a ++ i :: b))) (hX : Hid (w.heap[X]? = some (.cells (Mg.idC i) 28 (0, 0)))) :
    Calls Try.prog 72 #[.slice (some ⟨g, 0, none⟩) N c, .func (.func 73) #[] #[.pointer (some ⟨X, 0, none⟩)]] w fun e w' => e = .returned (.slice (some ⟨g, 0, none⟩) (M + NB) c) ∧ Hid (Ki w' 0 (.slice (some ⟨g, 0, none⟩) (M + NB) c) (a ++ b)) ∧ Hid (But (fun k => k = g) w w') := by
  have eg : ∀ args w, (callFunc 73 args).run Try.prog w = .ok (.enter 73 args) w := enters_of Try.func73 (by kernel_rfl) rfl
  have HIx := Lib.hid (IndexFunc_any g c X a i b w N M (by simp; omega) hM hNb ha hK hX)
  have HX : Hid (∀ W, But (fun k => k = g) w W → Hid (W.heap[X]? = some (.cells (Mg.idC i) 28 (0, 0)))) := fun W hW => hW.at_ hX.out hXg
  have HK0 : Hid (∀ W, Below w.heap.size w W → Ki W 0 (.slice (some ⟨g, 0, none⟩) N c) (mv a i b 0)) := fun W hW => by
    rw [mv_zero]
    exact ki_at hK.out fun x e => hW.block x (Ki.lt hK.out e).2
  have HLen : Hid (∀ k, k ≤ NB → (mv a i b k).length = N) := fun k hk => by rw [mv_len a i b (by omega)]; omega
  have HGet : Hid (∀ k, k < NB → idAt (mv a i b k) (M + 1 + k) = idAt b k) := fun k hk => by rw [← hM]; exact mv_get a i b (by omega)
  have HSet : Hid (∀ k, k < NB → (mv a i b k).set (M + k) (idAt b k) = mv a i b (k + 1)) := fun k hk => by rw [← hM]; exact mv_set a i b (by omega)
  have HEnd : Hid ((mv a i b NB).take (M + NB) = a ++ b) := by show _ = _; rw [← hM, ← hNB]; exact mv_end a i b
  have HNe : Hid (∀ k, k < NB → idAt b k ≠ i) := fun k hk e => hb (by
    unfold idAt at e
    rw [List.getD_eq_getElem?_getD, List.getElem?_eq_getElem (by omega)] at e
    simp at e
    rw [← e]
    exact List.getElem_mem _)
  have HN := Lib.hid hN
  have hMN : M < N := by omega
  have m1 : ¬ (M : Int) = -1 := by omega
  have m2 : ((M : Int) == -1) = false := by simp
  obtain ⟨L, hL⟩ : ∃ L, a ++ b = L := ⟨_, rfl⟩
  obtain ⟨mvk, hmvk⟩ : ∃ f, mv a i b = f := ⟨_, rfl⟩
  have HgX := Lib.hid hXg
  rw [hmvk] at HK0 HLen HGet HSet HEnd
  rw [hL] at HEnd ⊢
  obtain ⟨bk, hbk⟩ : ∃ f, idAt b = f := ⟨_, rfl⟩
  rw [hbk] at HGet HSet HNe
  clear hK hX ha hb hL hmvk hbk hM hNB hN m1 hXg
  go_enter Try.func72, Try.ntmps72
  go_wp2_with (go_at_call 97; refine HIx.out.mono ?_; rintro e w1 ⟨rfl, hb1⟩)
  have HKs := Lib.hid (HK0.out w1 hb1.out)
  have HBs : Hid (But (fun k => k = g) w w1) := But.of_below hb1.out
  clear HIx HK0 hb1
  go_loopw [5, 6] (fun v5 v6 wr => ∃ k q j : Nat, k ≤ NB ∧ v5 = .int .i64 (q : Int) ∧ v6 = .int .i64 (j : Int) ∧ Hid (q = M + k ∧ j = M + 1 + k) ∧ Hid (Ki wr 0 (.slice (some ⟨g, 0, none⟩) N c) (mvk k)) ∧ Hid (But (fun k => k = g) w wr)) (fun _ v6 _ => N - (intOf v6).toNat)
  case atStart => exact ⟨0, M, M + 1, Nat.zero_le _, rfl, by simp, ⟨by omega, by omega⟩, HKs, HBs⟩
  case round =>
    obtain ⟨k, q, j, hk, rfl, rfl, HQ, HK, HB⟩ := hrel
    by_cases hlt : k < NB
    · have hq := HQ.out
      have hn := HN.out
      have g1 : (j : Int) < (N : Int) := by omega
      have g2 : ¬ (N : Int) ≤ (j : Int) := by omega
      have g3 : (q : Int) < (N : Int) := by omega
      have g4 : ¬ (N : Int) ≤ (q : Int) := by omega
      have hj : j = M + 1 + k := hq.2
      obtain ⟨e0, e1, e2, e3⟩ := HK.out.cells (k := j) (by rw [HLen.out k hk]; omega)
      rw [hj, HGet.out k hlt, ← hj] at e0 e1 e2 e3
      have hne := HNe.out k hlt
      have hst := HSet.out k hlt
      obtain ⟨x, hx⟩ : ∃ x, bk k = x := ⟨_, rfl⟩
      rw [hx] at e0 e1 e2 e3 hne hst
      have HSt := Lib.hid hst
      have HF : Hid (∀ W, But (fun k => k = g) w W → Calls Try.prog 73 #[.agg (Mg.idC x), .pointer (some ⟨X, 0, none⟩)] W fun e w' => e = .returned (.bool false) ∧ Hid (Below W.heap.size W w')) := fun W hW => same_no X i x W hne (HX.out W hW)
      obtain ⟨o, d, ee, cc⟩ := x
      simp only [Mg.idC] at HF e0 e1 e2 e3
      have hg : g < wr.heap.size := (Ki.lt HK.out rfl).2
      have HG := Lib.hid hg
      obtain ⟨V, hV⟩ : ∃ V, (wr.alloc (.cells #[.int .i64 0, .int .i64 0, .int .i64 0, .int .i64 0] 28)).setRow wr.heap.size #[.int .i64 o, .int .i64 d, .int .i64 ee, .int .i64 cc] = V := ⟨_, rfl⟩
      have hbV : Below wr.heap.size wr V := by rw [← hV]; exact Sb.below_setRow _ (Me.below_alloc (Below.refl _ _)) (Nat.le_refl _)
      have hxV : V.heap[wr.heap.size]? = some (.cells #[.int .i64 o, .int .i64 d, .int .i64 ee, .int .i64 cc] 28 (0, 0)) := by rw [← hV]; exact setRow_heap _ _ _ _ _ _ (heap_alloc_new wr _)
      have HV := Lib.hid hV
      have HBV := Lib.hid hbV
      have HXV := Lib.hid hxV
      have HBw : Hid (But (fun k => k = g) w V) := HB.out.trans (But.of_below (S := fun k => k = g) hbV) fun _ _ h => h
      clear hV hbV hxV hq hn hj hx hne hst hg
      go_wp2_with (refine wpList_store_row rfl 28 (.tmp 7) (.tmp 25) rfl wr.heap.size #[.int .i64 o, .int .i64 d, .int .i64 ee, .int .i64 cc] rfl rfl 28 _ (heap_alloc_new wr _) (by kernel_rfl) rfl (id_one _ _ _ _) ?_; rw [HV.out]; obtain ⟨y0, y1, y2, y3⟩ := id_cells HXV.out)
      go_at_call 73
      refine (HF.out V HBw.out).mono ?_
      rintro e w3 ⟨rfl, hb3⟩
      have hb13 := Lib.hid (HBV.out.trans (hb3.out.mono HBV.out.size))
      have hx3 := (hb3.out.block _ (Array.getElem?_eq_some_iff.1 HXV.out).1).trans HXV.out
      clear y0 y1 y2 y3
      obtain ⟨y0, y1, y2, y3⟩ := id_cells hx3
      have HK3 : Hid (Ki w3 0 (.slice (some ⟨g, 0, none⟩) N c) (mvk k)) := ki_at HK.out fun x e => hb13.out.block x (Ki.lt HK.out e).2
      have HTh : Hid (w3.there g (q * 4) (#[Value.int .i64 o, .int .i64 d, .int .i64 ee, .int .i64 cc] : Array Value).size) := HK3.out.there (k := q) (by rw [HLen.out k hk]; omega)
      clear e0 e1 e2 e3 hx3 HV
      go_wp2_with (refine wpList_store_mid rfl 28 (.tmp 33) (.tmp 32) rfl g (q * 4) #[.int .i64 o, .int .i64 d, .int .i64 ee, .int .i64 cc] rfl rfl ?ht (by kernel_rfl) (id_one _ _ _ _) ?_)
      case ht => exact HTh.out
      go_roundw
      case rel =>
        refine ⟨k + 1, q + 1, j + 1, hlt, by go_num, by go_num, by have := HQ.out; exact ⟨by omega, by omega⟩, ?_, ?_⟩
        · have := HK3.out.set (k := q) (by rw [HLen.out k hk]; omega) ⟨o, d, ee, cc⟩
          rw [HQ.out.1, HSt.out] at this
          rw [← HQ.out.1] at this
          exact this
        · exact (HB.out.trans (But.of_below (S := fun k => k = g) hb13.out) fun _ _ h => h).trans (but_setCells w3 g (q * 4) _).1 fun _ _ h => h
      case measure => simp [intOf]; omega
    · obtain rfl : k = NB := by omega
      obtain ⟨rfl, hj⟩ := HQ.out
      have hn := HN.out
      have hj2 : j = M + k + 1 := by omega
      subst hj2
      obtain rfl : N = M + k + 1 := by omega
      have HTh : Hid (wr.there g ((M + k) * 4) 4) := HK.out.there (k := M + k) (by rw [HLen.out k (Nat.le_refl _)]; omega)
      have HFin : Hid (Ki (wr.setCells g ((M + k) * 4) (idc zeroI)) 0 (.slice (some ⟨g, 0, none⟩) (M + k) c) L) := by
        have h1 := HK.out.first (k := M + k) (by rw [HLen.out k (Nat.le_refl _)]; omega)
        rw [HEnd.out] at h1
        refine h1.behind ?_
        rw [← HEnd.out, List.length_take]
        omega
      have HBf : Hid (But (fun k => k = g) w (wr.setCells g ((M + k) * 4) (idc zeroI))) := HB.out.trans (but_setCells wr g _ _).1 fun _ _ h => h
      obtain ⟨q, hq⟩ : ∃ q, M + k = q := ⟨_, rfl⟩
      rw [hq] at HTh HFin HBf hNc hNb ⊢
      have hcl : ∀ ty, (Builtin.clear_ #[56] ty #[.slice (some ⟨g, q * 4, none⟩) 1 (c - q)]).run Try.prog wr = .ok (.tuple #[]) (wr.setCells g (q * 4) (idc zeroI)) := fun ty => run_clear_one wr ty g (q * 4) (c - q) HTh.out
      have c1 : ¬ c = q := by omega
      have c2 : ¬ (c : Int) < (q : Int) := by omega
      have c3 : ¬ ((q : Int) + 1 < (q : Int)) := by omega
      have c4 : ¬ ((q : Int) < 0) := by omega
      have HQE := Lib.hid hq
      clear hq hn hj HK HB HQ HLen HGet HSet HEnd HNe HX
      go_wp2
      go_ret
      rw [HQE.out]
      exact ⟨rfl, HFin.out, HBf.out⟩
end Go.Proofs.Ytpofdimagfldnaa.So
