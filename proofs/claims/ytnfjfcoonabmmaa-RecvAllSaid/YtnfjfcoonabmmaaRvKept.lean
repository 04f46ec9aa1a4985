/- The contracts of a receiver's Kept and Missing. -/
import Derived.Test.YtnfjfcoonabmmaaRvKeys
import Derived.Test.YtnfjfcoonabmmaaWSort
import Derived.Test.YtnfjfcoonabmmaaSnUnder
namespace Go.Proofs.Ytnfjfcoonabmmaa.Rv
open Go.RowKit
open Go.Proofs.Ytnfjfcoonabmmaa.Me Go.Proofs.Ytnfjfcoonabmmaa.Hd Go.Proofs.Ytnfjfcoonabmmaa.Sn Go.Proofs.Ytnfjfcoonabmmaa.It
set_option linter.unusedVariables false
set_option linter.unusedSimpArgs false
attribute [local go_sem] Oper.semAt_some

/-- Behind the append and the store of a round. -/
theorem step_keepM {B M g : Nat} {X Y : World} {v v' u : Value} {l l' : List Int} (hB : g < B) (hbox : Boxed X g 28 v) (ho : Mi.Own X (B + M) v l) (hg : X.grownBy Y v.ownBlock) (ho' : Mi.Own Y (B + M) v' l') :
    Boxed Y g 28 v ∧ KeepR B M X (Y.setCell ⟨g, 0, none⟩ v') ∧ Acc g (B + M) l' (Y.setCell ⟨g, 0, none⟩ v') ∧ ∀ b, b < B → b ≠ g → b < X.heap.size → (Y.setCell ⟨g, 0, none⟩ v').heap[b]? = X.heap[b]? := by
  have hne : ∀ b, b < B + M → some b ≠ v.ownBlock := fun b hb e => by have := (World.ownsRow.lt ho b e.symm).1; omega
  have hY : Boxed Y g 28 v := hbox.kept hg (fun e => by exact hne g (by omega) e)
  refine ⟨hY, ?_, ⟨v', hY.set v', ho'.same fun k hk _ => ?_⟩, fun b hb hn hX => ?_⟩
  · refine ⟨Nat.le_trans hg.size (by simp), fun r h1 h2 h3 => ?_⟩
    exact (Below.heap_setCell Y _ _ r (by show r ≠ g; omega)).trans (hg.block r h3 (hne r (by omega)))
  · exact Below.heap_setCell Y _ _ k (by have := (World.ownsRow.lt ho' k hk).1; show k ≠ g; omega)
  · exact (Below.heap_setCell Y _ _ b hn).trans (hg.block b hX (hne b (by omega)))
/-- Some kept numbers, each once. -/
structure Good (kept : Nat → Option (List Nat)) (L : List Int) : Prop where
  all : ∀ x ∈ L, ∃ n : Nat, n < 128 ∧ x = (n : Int) ∧ (kept n).isSome = true
  nd : L.Nodup
theorem Good.nil (kept : Nat → Option (List Nat)) : Good kept [] := ⟨by simp, by simp⟩
theorem Good.step {kept : Nat → Option (List Nat)} {L L' : List Int} {v : Value} (h : Good kept L) (hs : stepK kept L v L') : Good kept L' := by
  obtain ⟨n, h1, h2, _, h4, rfl⟩ := hs
  refine ⟨fun x hx => ?_, ?_⟩
  · rcases List.mem_append.mp hx with hx | hx
    · exact h.all x hx
    · exact ⟨n, h1, by simpa using hx, h2⟩
  · rw [List.nodup_append]
    exact ⟨h.nd, by simp, fun a ha b hb e => h4 (by simp at hb; rw [← hb, ← e]; exact ha)⟩
theorem Good.le {kept : Nat → Option (List Nat)} {L : List Int} (h : Good kept L) : L.length ≤ 128 := by
  have := nodup_le 128 (L.map Int.toNat) (by
    rw [List.nodup_iff_pairwise_ne, List.pairwise_map]
    refine (List.Pairwise.and_mem.1 (List.nodup_iff_pairwise_ne.1 h.nd)).imp fun {a b} q e => q.2.2 ?_
    obtain ⟨m, _, rfl, _⟩ := h.all a q.1
    obtain ⟨n, _, rfl, _⟩ := h.all b q.2.1
    simp at e; omega) (fun x hx => by
      obtain ⟨y, hy, rfl⟩ := List.mem_map.1 hx
      obtain ⟨n, hn, rfl, _⟩ := h.all y hy
      simpa using hn)
  simpa using this
theorem Good.has {kept : Nat → Option (List Nat)} {L : List Int} (h : Good kept L) (hf : finK kept L) {n : Int} (h0 : 0 ≤ n) (h1 : n < 128) : Wn.has L n = (kept n.toNat).isSome := by
  obtain ⟨m, rfl⟩ : ∃ m : Nat, n = (m : Int) := ⟨n.toNat, by omega⟩
  rw [Int.toNat_natCast]
  cases hk : (kept m).isSome with
  | true => exact List.any_eq_true.2 ⟨(m : Int), hf m (by omega) hk, by simp; omega⟩
  | false =>
    refine List.any_eq_false.2 fun x hx e => ?_
    obtain ⟨k, hk1, rfl, hk2⟩ := h.all x hx
    have e' : ((k : Int) % 128 = (m : Int)) := by simpa using e
    obtain rfl : k = m := by omega
    rw [hk] at hk2; cases hk2
theorem pick_congr {p q : Int → Bool} (h : ∀ n : Int, 0 ≤ n → n < 128 → p n = q n) (base : Int) (m : Nat) : Wn.pick p base m = Wn.pick q base m := by
  unfold Wn.pick
  refine List.filter_congr fun x hx => ?_
  obtain ⟨i, _, rfl⟩ := List.mem_map.1 hx
  exact h _ (by omega) (by omega)
def keysV (kb : Nat) : Value := .func (.func 49) #[] #[.pointer (some ⟨kb, 0, none⟩)]
theorem Keys_any (mb : Nat) (w : World) : Calls Try.prog 41 #[.map (some mb)] w fun e w' => e = .returned (keysV w.heap.size) ∧ w' = w.alloc (.cells #[.map (some mb)] 54) := by
  go_enter Try.func41, Try.ntmps41
  go_wp2
  go_ret
  exact ⟨rfl, rfl⟩
/-- What a call answers that makes a new list of all kept numbers. -/
def NewK (w : World) (kept : Nat → Option (List Nat)) (e : Ending) (w' : World) : Prop := ∃ v L, e = .returned v ∧ Hid (Mi.Own w' w.heap.size v L) ∧ Hid (Below w.heap.size w w') ∧ Good kept L ∧ finK kept L
set_option maxHeartbeats 2000000 in
theorem AppendSeq_keys {E : Nat → Prop} (kb mb : Nat) (w0 w : World) (kept : Nat → Option (List Nat)) (hM : Mp E w0 mb kept) (h1 : Hid (Boxed w kb 54 (.map (some mb)))) (h2 : Hid (w.heap[mb]? = w0.heap[mb]?)) : Calls Try.prog 47 #[.slice none 0 0, keysV kb] w (NewK w kept) := by
  have hs1 := h1.out.lt
  have hs2 : mb < w.heap.size := by
    obtain ⟨es, c, hm⟩ := hM.isMap
    exact (Array.getElem?_eq_some_iff.1 (h2.out.trans hm)).1
  have hIt := Keys_iter kb mb w0 kept hM
  unfold keysV
  refine (callsIn_wide (n := 0)).1 (callsIn_of_wp_marks Try.func47 rfl trivial ?_ rfl)
  simp only [Try.ntmps47, List.size_toArray, List.length_cons, List.length_nil, Nat.reduceAdd, Nat.reduceSub, Array.replicate_succ, Array.replicate_zero, List.push_toArray, List.append_toArray, List.nil_append, List.cons_append]
  refine wpIn_wide.2 ?_
  go_wp2
  have q1 := Boxed.new w 28 (.slice none 0 0)
  have q2 := h1.out.alloc (.cells #[.slice none 0 0] 28)
  have qb : Below w.heap.size w (w.alloc (.cells #[.slice none 0 0] 28)) := Mi.below_alloc (Below.refl _ _)
  have q3 : (w.alloc (.cells #[.slice none 0 0] 28)).heap[mb]? = w0.heap[mb]? := (qb.block mb hs2).trans h2.out
  obtain ⟨n, hn⟩ : ∃ n, w.heap.size = n := ⟨_, rfl⟩
  have qs : (w.alloc (.cells #[.slice none 0 0] 28)).heap.size = n + 1 := by simp [hn]
  obtain ⟨W0, hW0⟩ : ∃ W0, w.alloc (.cells #[.slice none 0 0] 28) = W0 := ⟨_, rfl⟩
  rw [hn] at q1 hs1 hs2
  rw [hW0] at q1 q2 q3 qb qs ⊢
  have HNN := Lib.hid hn
  have hwn : w.heap.size ≤ n := by omega
  have hwn2 : n ≤ w.heap.size := by omega
  rw [hn] at ⊢
  clear hW0 hn
  refine range_blockS (gf := 49) (lb := #[.pointer (some ⟨kb, 0, none⟩)]) rfl (enters_of Try.func49 (by kernel_rfl) rfl) hIt
    (fun L X => (Boxed X kb 54 (.map (some mb)) ∧ X.heap[mb]? = w0.heap[mb]?) ∧ Good kept L ∧ (Acc n (W0.heap.size + 3) L X ∧ Below w.heap.size w X))
    (fun _ => False)
    (fun X => ∃ L, finK kept L ∧ Good kept L ∧ Acc n (W0.heap.size + 3) L X ∧ Below w.heap.size w X)
    (fun k X Y row h hg hr => ⟨⟨h.1.1.kept hg (fun e => by have := hr _ e.symm; omega), (hg.block mb (by have := h.2.2.2.size; omega) (fun e => by have := hr _ e.symm; omega)).trans h.1.2⟩, h.2.1, Acc.abid (by omega) X Y row h.2.2.1 hg hr, abid_low (by omega) X Y row h.2.2.2 hg hr⟩)
    (fun _ _ _ h _ _ => h)
    (fun k X h => ⟨h.1.1.cell, h.1.2⟩)
    ⟨⟨q2, q3⟩, Good.nil _, ⟨_, q1, Mi.Own.nil _ _⟩, qb⟩ (fun L X hf h => ⟨L, hf, h.2⟩) (fun X h => h.elim) ?_ ?_
  · intro l' L v L' X0 hst _ _
    obtain ⟨j, hj1, hj2, rfl, hj3, rfl⟩ := hst
    gi_wp2
    refine ⟨trivial, ?_⟩
    rintro X ⟨⟨hx3, hx2⟩, hgd, ⟨v, hbx, hov⟩, hbl⟩ hsX
    have c2 := hbx.cell
    have hpl := hgd.le
    have HGD := Lib.hid (hgd.step ⟨j, hj1, hj2, rfl, hj3, rfl⟩)
    have HX3 := Lib.hid hx3
    have HX2 := Lib.hid hx2
    have HBX := Lib.hid hbx
    have HOV := Lib.hid hov
    have HBL := Lib.hid hbl
    have HSX : Hid (W0.heap.size + 3 ≤ X.heap.size) := by show _ ≤ _; omega
    have HMB : Hid (mb < X.heap.size) := by have := hbl.size; show _ < _; omega
    have HQ : Hid ((L.length + 1) * 8 ≤ 140737488355328) := by show _ ≤ _; omega
    clear hx3 hx2 hgd hbx hov hbl hsX hpl q1 q2 q3 hIt hj1 hj2 hj3
    gi_wp2_with (refine Mi.app1In (wl := X) rfl (.tmp 8) (.tmp 10) rfl (W0.heap.size + 3) v L (j : Int) rfl rfl HOV.out HSX.out _ rfl rfl HQ.out ?_; intro v2 Y ho2 hg2; obtain ⟨A2, cc2, rfl, _, _, _, _, _⟩ := Mi.Own.form ho2; obtain ⟨m2, hm2⟩ : ∃ m2, (L ++ [(j : Int)]).length = m2 := ⟨_, rfl⟩; rw [hm2] at ho2; obtain ⟨s1, s2, s3, s4⟩ := step_keepM (M := 3) (u := .slice A2 m2 cc2) (by omega) HBX.out HOV.out hg2 ho2; have c3 := s1.cell; have f3 := s1.frozen; have S2 := Lib.hid s2; have S3 := Lib.hid s3; have S4 := Lib.hid s4; have HG2 := Lib.hid hg2; clear s1 s2 s3 s4 ho2 hg2)
    refine ⟨S2.out, ⟨⟨(S4.out _ (by omega) (by omega) HX3.out.lt).trans HX3.out, (S4.out mb (by omega) (by omega) HMB.out).trans HX2.out⟩, HGD.out, S3.out, ?_⟩⟩
    exact (HBL.out.grown HG2.out HBL.out.size fun k e => by have := (World.ownsRow.lt HOV.out k e).1; omega).setCell (p := ⟨n, 0, none⟩) (by show _ ≤ n; omega) _
  · rintro X ⟨L, hfin, hgd, ⟨v, hbx, hov⟩, hbl⟩ hD
    rw [qs] at hD
    have c2 := hbx.cell
    have HOV := Lib.hid hov
    have HBL := Lib.hid hbl
    clear hbx hov hbl q1 q2 q3 hIt
    go_wp2
    refine ⟨by simp, .inl ⟨_, _, rfl, run_takeDeferred hD, ?_⟩⟩
    refine ⟨_, results_tmp rfl _ _ _, _, L, rfl, ?_, ?_, hgd, hfin⟩
    · refine (HOV.out.same fun k hk _ => ?_).base fun k hk => ?_
      · exact World.putObj_heap_other (by have := (World.ownsRow.lt HOV.out k hk).1; omega)
      · have := (World.ownsRow.lt HOV.out k hk).1; omega
    · exact HBL.out.grown (grownBy_putObj' _ _ _) HBL.out.size fun k e => by cases e; omega
theorem Collect_keys {E : Nat → Prop} (kb mb : Nat) (w0 w : World) (kept : Nat → Option (List Nat)) (hM : Mp E w0 mb kept) (h1 : Hid (Boxed w kb 54 (.map (some mb)))) (h2 : Hid (w.heap[mb]? = w0.heap[mb]?)) : Calls Try.prog 35 #[keysV kb] w (NewK w kept) := by
  have HA := Lib.hid (AppendSeq_keys kb mb w0 w kept hM h1 h2)
  unfold keysV at HA ⊢
  go_enter Try.func35, Try.ntmps35
  go_wp2_with (go_at_call 47; refine HA.out.mono ?_; rintro e w' ⟨v, L, rfl, ho, hb, hg, hf⟩; have HGF := Lib.hid (And.intro hg hf); clear hg hf)
  go_ret
  exact ⟨v, L, rfl, ho, hb, HGF.out.1, HGF.out.2⟩
theorem numsR_le (r : Rcv) : (numsR r).length ≤ 128 := Wn.pick_le _ _ _
theorem nums_of {r : Rcv} {L : List Int} (hg : Good r.kept L) (hf : finK r.kept L) : Wn.pick (Wn.has L) (r.waits : Int) 128 = numsR r := pick_congr (fun n h0 h1 => hg.has hf h0 h1) _ _
set_option maxHeartbeats 2000000 in
theorem Kept_any {E : Nat → Prop} (w : World) (D mb : Nat) (r : Rcv) (h : Hid (Rq E w D mb r)) : Calls Try.prog 20 #[.pointer (some ⟨D, 0, none⟩)] w (Wn.NewI w (numsR r)) := by
  have c1 := h.out.c1
  have c2 := h.out.c2
  have HD := Lib.hid h.out.lt
  have HDm := Lib.hid h.out.ltm
  have HK := Lib.hid (fun W => Keys_any mb W)
  have HC := Lib.hid (fun (kb : Nat) (W : World) (h1 : Hid (Boxed W kb 54 (.map (some mb)))) (h2 : Hid (W.heap[mb]? = w.heap[mb]?)) => Collect_keys kb mb w W r.kept h.out.mp h1 h2)
  have HS := Lib.hid (fun (A : Option Addr) (c : Nat) (L : List Int) (W : World) (hr : Hid (Mi.Rd W W.heap.size A L)) (hc : L.length ≤ 9223372036854775807) => Wn.Sort_any (r.waits : Int) A c L W hr hc)
  have HN := Lib.hid (fun (L : List Int) (hg : Good r.kept L) (hf : finK r.kept L) => nums_of hg hf)
  go_enter Try.func20, Try.ntmps20
  go_wp2
  have S0 : KeptN w w.drew := (Below.refl _ w).drew
  refine wp_region_held_drew (S := KeptN w) (by kernel_rfl) S0 (fun hHeld => ?_)
  refine wpAnyH_take (i := 0) (v := ?vz1) rfl (by kernel_rfl) (by kernel_rfl) (by kernel_rfl) (fun _ _ _ h => h) (Or.inl ⟨by rfl, ?hyz1⟩) (by first | assumption | exact trivial) ?restz1
  case hyz1 => intro W hSW; go_simp; try (with_reducible rfl)
  simp only [Act.put, List.getElem_toArray, List.getElem_cons_succ, List.getElem_cons_zero, List.setIfInBounds_toArray, List.set_cons_zero, List.set_cons_succ]
  refine wpAnyH_take (i := 1) (v := ?vz2) rfl (by kernel_rfl) (by kernel_rfl) (by kernel_rfl) (fun _ _ _ h => h) (Or.inl ⟨by rfl, ?hyz2⟩) (by first | assumption | exact trivial) ?restz2
  case hyz2 => intro W hSW; go_simp; try (with_reducible rfl)
  simp only [Act.put, List.getElem_toArray, List.getElem_cons_succ, List.getElem_cons_zero, List.setIfInBounds_toArray, List.set_cons_zero, List.set_cons_succ]
  refine wpAnyH_take (i := 2) (v := ?vz3) rfl (by kernel_rfl) (by kernel_rfl) (by kernel_rfl) (fun _ _ _ h => h) (Or.inl ⟨by rfl, ?hyz3⟩) (by first | assumption | exact trivial) ?restz3
  case hyz3 => intro W hSW; go_simp; try (with_reducible rfl)
  simp only [Act.put, List.getElem_toArray, List.getElem_cons_succ, List.getElem_cons_zero, List.setIfInBounds_toArray, List.set_cons_zero, List.set_cons_succ]
  refine wpAnyH_take (i := 3) (v := ?vz4) rfl (by kernel_rfl) (by kernel_rfl) (by kernel_rfl) (fun _ _ _ h => h) (Or.inl ⟨by rfl, ?hyz4⟩) (by first | assumption | exact trivial) ?restz4
  case hyz4 => intro W hSW; have q1 := (KeptN.cell hSW HD.out 1).trans c1; go_simp; try (with_reducible rfl)
  simp only [Act.put, List.getElem_toArray, List.getElem_cons_succ, List.getElem_cons_zero, List.setIfInBounds_toArray, List.set_cons_zero, List.set_cons_succ]
  refine wpAnyH_take (i := 4) (v := ?vz5) rfl (by kernel_rfl) (by kernel_rfl) (by kernel_rfl) (fun _ _ _ h => h) (Or.inl ⟨by rfl, ?hyz5⟩) (by first | assumption | exact trivial) ?restz5
  case hyz5 => intro W hSW; go_simp; try (with_reducible rfl)
  simp only [Act.put, List.getElem_toArray, List.getElem_cons_succ, List.getElem_cons_zero, List.setIfInBounds_toArray, List.set_cons_zero, List.set_cons_succ]
  refine wpAnyH_take (i := 5) (v := ?vz6) rfl (by kernel_rfl) (by kernel_rfl) (by kernel_rfl) (fun _ _ _ h => h) (Or.inl ⟨by rfl, ?hyz6⟩) (by first | assumption | exact trivial) ?restz6
  case hyz6 => intro W hSW; go_simp; try (with_reducible rfl)
  simp only [Act.put, List.getElem_toArray, List.getElem_cons_succ, List.getElem_cons_zero, List.setIfInBounds_toArray, List.set_cons_zero, List.set_cons_succ]
  refine wpAnyH_take (i := 6) (v := ?vz7) rfl (by kernel_rfl) (by kernel_rfl) (by kernel_rfl) (fun _ _ _ h => h) (Or.inl ⟨by rfl, ?hyz7⟩) (by first | assumption | exact trivial) ?restz7
  case hyz7 => intro W hSW; go_simp; try (with_reducible rfl)
  simp only [Act.put, List.getElem_toArray, List.getElem_cons_succ, List.getElem_cons_zero, List.setIfInBounds_toArray, List.set_cons_zero, List.set_cons_succ]
  refine wpAnyH_take (i := 7) (v := ?vz8) rfl (by kernel_rfl) (by kernel_rfl) (by kernel_rfl) (fun _ _ _ h => h) (Or.inl ⟨by rfl, ?hyz8⟩) (by first | assumption | exact trivial) ?restz8
  case hyz8 => intro W hSW; have q2 := (KeptN.cell hSW HD.out 2).trans c2; go_simp; try (with_reducible rfl)
  simp only [Act.put, List.getElem_toArray, List.getElem_cons_succ, List.getElem_cons_zero, List.setIfInBounds_toArray, List.set_cons_zero, List.set_cons_succ]
  refine wpAnyH_ready (rs := [8]) (by kernel_rfl) (by simp) ?_
  refine AllReadyH.cons rfl (fun K hK => ?_) AllReadyH.nil
  go_simp
  go_wp2_with (go_at_call 41; refine (HK.out _).mono ?_; rintro e w' ⟨rfl, rfl⟩)
  have S1 : KeptN w (w.drew.alloc (.cells #[.map (some mb)] 54)) := S0.alloc (Below.size S0) _
  refine hK.out _ _ (S1) (fun hHeld => ?_)
  clear hK K
  refine wpAnyH_ready (rs := [9]) (by kernel_rfl) (by simp) ?_
  refine AllReadyH.cons rfl (fun K hK => ?_) AllReadyH.nil
  go_simp
  go_wp2_with (go_at_call 35; refine (HC.out w.heap.size (w.drew.alloc (.cells #[.map (some mb)] 54)) (Boxed.new w.drew _ _) (Below.block S1 mb HDm.out)).mono ?_; rintro e w5 ⟨v5, L, rfl, ho5, hb5, hg5, hf5⟩)
  have hs : w.heap.size ≤ (w.drew.alloc (.cells #[.map (some mb)] 54)).heap.size := Below.size S1
  have S5 : KeptN w w5 := Below.trans S1 (hb5.out.mono hs)
  have HNL := HN.out L hg5 hf5
  have hle := hg5.le
  obtain ⟨A5, c5, rfl, _, _, hr5, _, _⟩ := Mi.Own.form ho5.out
  have HSS := Lib.hid (HS.out A5 c5 L w5 (Lib.hid hr5) (by omega))
  rw [HNL] at HSS
  refine hK.out _ _ (S5) (fun hHeld => ?_)
  clear hK K
  refine wpAnyH_ready (rs := [10]) (by kernel_rfl) (by simp) ?_
  refine AllReadyH.cons rfl (fun K hK => ?_) AllReadyH.nil
  go_simp
  go_wp2_with (go_at_call 40; refine HSS.out.mono ?_; rintro e w6 ⟨v6, rfl, ho6, hb6⟩)
  have hs5 : w.heap.size ≤ w5.heap.size := Below.size S5
  have S6 : KeptN w w6 := Below.trans S5 (hb6.out.mono hs5)
  refine hK.out _ _ (S6) (fun hHeld => ?_)
  clear hK K
  refine wpAnyH_take (i := 11) (v := ?vz9) rfl (by kernel_rfl) (by kernel_rfl) (by kernel_rfl) (fun _ _ _ h => h) (Or.inl ⟨by rfl, ?hyz9⟩) (by first | assumption | exact trivial) ?restz9
  case hyz9 => intro W hSW; go_simp; try (with_reducible rfl)
  simp only [Act.put, List.getElem_toArray, List.getElem_cons_succ, List.getElem_cons_zero, List.setIfInBounds_toArray, List.set_cons_zero, List.set_cons_succ]
  refine wpAnyH_done (by kernel_rfl) ?_ _
  have HO6 : Hid (Mi.Own w6 w.heap.size v6 (numsR r)) := ho6.out.base fun k e => Nat.le_trans hs5 (World.ownsRow.lt ho6.out k e).1
  have HB6 : Hid (Below w.heap.size w w6) := S6
  clear ho6 hb6 hs5 ho5 hb5 hr5 hs
  go_wp2
  go_ret
  exact ⟨v6, rfl, HO6, HB6⟩
theorem last_at {l : List Int} (h : 0 < l.length) : l.getLastD 0 = Mi.at_ l (l.length - 1) := by
  unfold Mi.at_
  rw [List.getLastD_eq_getLast?, List.getLast?_eq_getElem?, List.getD_eq_getElem?_getD]
set_option maxHeartbeats 2000000 in
theorem Missing_any {E : Nat → Prop} (w : World) (D mb : Nat) (r : Rcv) (h : Hid (Rq E w D mb r)) : Calls Try.prog 10 #[.pointer (some ⟨D, 0, none⟩)] w (Wn.NewI w (missR r)) := by
  have c1 := h.out.c1
  have HD := Lib.hid h.out.lt
  have HK := Lib.hid (Kept_any w D mb r h)
  have h128 := numsR_le r
  by_cases h0 : numsR r = []
  · have HE : Hid (missR r = []) := by show _ = _; unfold missR; rw [if_pos h0]
    rw [h0] at HK
    clear h0 h128 c1
    go_enter Try.func10, Try.ntmps10
    go_wp2_with (go_at_call 20; refine HK.out.mono ?_; rintro e w1 ⟨v1, rfl, ho1, hb1⟩; obtain ⟨A1, d1, rfl, _, _, _, _, _⟩ := Mi.Own.form ho1.out; clear ho1)
    go_ret
    exact ⟨_, rfl, by rw [HE.out]; exact Mi.Own.nil _ _, hb1⟩
  · have hpos : 0 < (numsR r).length := List.length_pos_iff.2 h0
    have hl := last_at hpos
    have HE : Hid (missR r = Wn.pick (fun n => !Wn.has (numsR r) n) (r.waits : Int) ((((numsR r).getLastD 0) - (r.waits : Int)) % 128).toNat) := by show _ = _; unfold missR; rw [if_neg h0]
    obtain ⟨L, hL⟩ : ∃ L, numsR r = L := ⟨_, rfl⟩
    rw [hL] at hl HE HK hpos h128
    rw [hl] at HE
    obtain ⟨x, hx⟩ : ∃ x, Mi.at_ L (L.length - 1) = x := ⟨_, rfl⟩
    rw [hx] at HE
    have HM := Lib.hid (fun (A : Option Addr) (c : Nat) (W : World) (hr : Hid (Mi.Rd W W.heap.size A L)) => Wn.Missing_any (r.waits : Int) x A c L W hr (by omega))
    have HX := Lib.hid hx
    have HP := Lib.hid hpos
    obtain ⟨n, hn⟩ : ∃ n, L.length = n := ⟨_, rfl⟩
    have HNN := Lib.hid hn
    rw [hn] at h128 hpos
    have g1 : ((n : Int) == 0) = false := beq_eq_false_iff_ne.mpr (by omega)
    obtain ⟨m, hm⟩ : ∃ m, n - 1 = m := ⟨_, rfl⟩
    have gw : IntKind.i64.wrap ((n : Int) - 1) = (m : Int) := (Mi.fits' (Mi.small (by omega) (by omega))).trans (by omega)
    have gw' : wrap64 ((n : Int) - 1) = (m : Int) := (Mi.fits (Mi.small (by omega) (by omega))).trans (by omega)
    have g3 : (m : Int) < (n : Int) := by omega
    have HMN := Lib.hid hm
    clear hm
    clear h0 hl hL hx hn
    go_enter Try.func10, Try.ntmps10
    go_wp2_with (go_at_call 20; refine HK.out.mono ?_; rintro e w1 ⟨v1, rfl, ho1, hb1⟩; obtain ⟨A1, d1, rfl, _, _, hr1, _, _⟩ := Mi.Own.form ho1.out; obtain ⟨b, off, rfl, hbB, hcs⟩ := hr1 HP.out; have hc1 := hcs (L.length - 1) (by have := HP.out; omega); rw [HX.out, HNN.out, HMN.out] at hc1; have HC1 := Lib.hid hc1; have HR1 := Lib.hid hr1; have HBB := Lib.hid hbB; rw [HNN.out]; clear hcs hc1 hr1 hbB)
    have e1 := (KeptN.cell hb1.out HD.out 1).trans c1
    have HD1 : Hid (D < w1.heap.size) := Nat.lt_of_lt_of_le HD.out hb1.out.size
    refine wp_region_held_drew (S := KeptN w1) (by kernel_rfl) ((Below.refl _ w1).drew) (fun hHeld => ?_)
    refine wpAnyH_take (i := 0) (v := ?vz10) rfl (by kernel_rfl) (by kernel_rfl) (by kernel_rfl) (fun _ _ _ h => h) (Or.inl ⟨by rfl, ?hyz10⟩) (by first | assumption | exact trivial) ?restz10
    case hyz10 => intro W hSW; go_simp; try (with_reducible rfl)
    simp only [Act.put, List.getElem_toArray, List.getElem_cons_succ, List.getElem_cons_zero, List.setIfInBounds_toArray, List.set_cons_zero, List.set_cons_succ]
    refine wpAnyH_take (i := 1) (v := ?vz11) rfl (by kernel_rfl) (by kernel_rfl) (by kernel_rfl) (fun _ _ _ h => h) (Or.inl ⟨by rfl, ?hyz11⟩) (by first | assumption | exact trivial) ?restz11
    case hyz11 => intro W hSW; go_simp; try (with_reducible rfl)
    simp only [Act.put, List.getElem_toArray, List.getElem_cons_succ, List.getElem_cons_zero, List.setIfInBounds_toArray, List.set_cons_zero, List.set_cons_succ]
    refine wpAnyH_take (i := 2) (v := ?vz12) rfl (by kernel_rfl) (by kernel_rfl) (by kernel_rfl) (fun _ _ _ h => h) (Or.inl ⟨by rfl, ?hyz12⟩) (by first | assumption | exact trivial) ?restz12
    case hyz12 => intro W hSW; go_simp; try (with_reducible rfl)
    simp only [Act.put, List.getElem_toArray, List.getElem_cons_succ, List.getElem_cons_zero, List.setIfInBounds_toArray, List.set_cons_zero, List.set_cons_succ]
    refine wpAnyH_take (i := 3) (v := ?vz13) rfl (by kernel_rfl) (by kernel_rfl) (by kernel_rfl) (fun _ _ _ h => h) (Or.inl ⟨by rfl, ?hyz13⟩) (by first | assumption | exact trivial) ?restz13
    case hyz13 => intro W hSW; have q1 := (KeptN.cell hSW HD1.out 1).trans e1; go_simp; try (with_reducible rfl)
    simp only [Act.put, List.getElem_toArray, List.getElem_cons_succ, List.getElem_cons_zero, List.setIfInBounds_toArray, List.set_cons_zero, List.set_cons_succ]
    refine wpAnyH_take (i := 4) (v := ?vz14) rfl (by kernel_rfl) (by kernel_rfl) (by kernel_rfl) (fun _ _ _ h => h) (Or.inl ⟨by rfl, ?hyz14⟩) (by first | assumption | exact trivial) ?restz14
    case hyz14 => intro W hSW; go_simp; try (with_reducible rfl)
    simp only [Act.put, List.getElem_toArray, List.getElem_cons_succ, List.getElem_cons_zero, List.setIfInBounds_toArray, List.set_cons_zero, List.set_cons_succ]
    refine wpAnyH_take (i := 5) (v := ?vz15) rfl (by kernel_rfl) (by kernel_rfl) (by kernel_rfl) (fun _ _ _ h => h) (Or.inl ⟨by rfl, ?hyz15⟩) (by first | assumption | exact trivial) ?restz15
    case hyz15 => intro W hSW; go_simp; try (with_reducible rfl)
    simp only [Act.put, List.getElem_toArray, List.getElem_cons_succ, List.getElem_cons_zero, List.setIfInBounds_toArray, List.set_cons_zero, List.set_cons_succ]
    refine wpAnyH_take (i := 6) (v := ?vz16) rfl (by kernel_rfl) (by kernel_rfl) (by kernel_rfl) (fun _ _ _ h => h) (Or.inl ⟨by rfl, ?hyz16⟩) (by first | assumption | exact trivial) ?restz16
    case hyz16 => intro W hSW; go_simp; try (with_reducible rfl)
    simp only [Act.put, List.getElem_toArray, List.getElem_cons_succ, List.getElem_cons_zero, List.setIfInBounds_toArray, List.set_cons_zero, List.set_cons_succ]
    refine wpAnyH_take (i := 7) (v := ?vz17) rfl (by kernel_rfl) (by kernel_rfl) (by kernel_rfl) (fun _ _ _ h => h) (Or.inl ⟨by rfl, ?hyz17⟩) (by first | assumption | exact trivial) ?restz17
    case hyz17 => intro W hSW; go_simp; try (with_reducible rfl)
    simp only [Act.put, List.getElem_toArray, List.getElem_cons_succ, List.getElem_cons_zero, List.setIfInBounds_toArray, List.set_cons_zero, List.set_cons_succ]
    refine wpAnyH_take (i := 8) (v := ?vz18) rfl (by kernel_rfl) (by kernel_rfl) (by kernel_rfl) (fun _ _ _ h => h) (Or.inl ⟨by rfl, ?hyz18⟩) (by first | assumption | exact trivial) ?restz18
    case hyz18 => intro W hSW; go_simp; try (with_reducible rfl)
    simp only [Act.put, List.getElem_toArray, List.getElem_cons_succ, List.getElem_cons_zero, List.setIfInBounds_toArray, List.set_cons_zero, List.set_cons_succ]
    refine wpAnyH_take (i := 9) (v := ?vz19) rfl (by kernel_rfl) (by kernel_rfl) (by kernel_rfl) (fun _ _ _ h => h) (Or.inl ⟨by rfl, ?hyz19⟩) (by first | assumption | exact trivial) ?restz19
    case hyz19 => intro W hSW; have q9 := (KeptN.cell hSW HBB.out (off + m)).trans HC1.out; go_simp; try (with_reducible rfl)
    simp only [Act.put, List.getElem_toArray, List.getElem_cons_succ, List.getElem_cons_zero, List.setIfInBounds_toArray, List.set_cons_zero, List.set_cons_succ]
    refine wpAnyH_take (i := 10) (v := ?vz20) rfl (by kernel_rfl) (by kernel_rfl) (by kernel_rfl) (fun _ _ _ h => h) (Or.inl ⟨by rfl, ?hyz20⟩) (by first | assumption | exact trivial) ?restz20
    case hyz20 => intro W hSW; go_simp; try (with_reducible rfl)
    simp only [Act.put, List.getElem_toArray, List.getElem_cons_succ, List.getElem_cons_zero, List.setIfInBounds_toArray, List.set_cons_zero, List.set_cons_succ]
    refine wpAnyH_ready (rs := [11]) (by kernel_rfl) (by simp) ?_
    refine AllReadyH.cons rfl (fun K hK => ?_) AllReadyH.nil
    have HRW : Hid (Mi.Rd w1.drew w1.drew.heap.size (some ⟨b, off, none⟩) L) := HR1.out.below ((Below.refl _ w1).drew)
    have HMM := Lib.hid (HM.out _ d1 w1.drew HRW)
    rw [HNN.out, ← HE.out] at HMM
    go_simp
    go_wp2_with (go_at_call 29; refine HMM.out.mono ?_; rintro e w2 ⟨v2, rfl, ho2, hb2⟩)
    have S2 : KeptN w1 w2 := Below.trans ((Below.refl _ w1).drew) hb2.out
    refine hK.out _ _ (S2) (fun hHeld => ?_)
    clear hK K
    refine wpAnyH_take (i := 12) (v := ?vz21) rfl (by kernel_rfl) (by kernel_rfl) (by kernel_rfl) (fun _ _ _ h => h) (Or.inl ⟨by rfl, ?hyz21⟩) (by first | assumption | exact trivial) ?restz21
    case hyz21 => intro W hSW; go_simp; try (with_reducible rfl)
    simp only [Act.put, List.getElem_toArray, List.getElem_cons_succ, List.getElem_cons_zero, List.setIfInBounds_toArray, List.set_cons_zero, List.set_cons_succ]
    refine wpAnyH_done (by kernel_rfl) ?_ _
    have hs : w.heap.size ≤ w1.heap.size := hb1.out.size
    have HO2 : Hid (Mi.Own w2 w.heap.size v2 (missR r)) := ho2.out.base fun k e => Nat.le_trans hs (World.ownsRow.lt ho2.out k e).1
    have HB2 : Hid (Below w.heap.size w w2) := hb1.out.trans (Below.mono S2 hs)
    clear ho2 hb2 hs S2 HRW HMM e1
    go_wp2
    go_ret
    exact ⟨v2, rfl, HO2, HB2⟩
end Go.Proofs.Ytnfjfcoonabmmaa.Rv
