/- The contracts of window's Sort and Missing. -/
import Derived.Test.YtnfjfcoonabmmaaWIter
import Derived.Test.YtnfjfcoonabmmaaWAmong
import Derived.Test.YtnfjfcoonabmmaaWRef
namespace Go.Proofs.Ytnfjfcoonabmmaa.Wn
open Go.RowKit
open Go.Proofs.Ytnfjfcoonabmmaa.Mi Go.Proofs.Ytnfjfcoonabmmaa.It
set_option linter.unusedVariables false
set_option linter.unusedSimpArgs false
attribute [local go_sem] Oper.semAt_some

/-- A box holds a slice of the call's own, from block B on, with these numbers. -/
def Acc (g B : Nat) (l : List Int) (X : World) : Prop := ∃ v, Boxed X g 28 v ∧ Mi.Own X B v l
theorem Acc.abid {g B M : Nat} {l : List Int} (hg : g < B) : Abid B M (Acc g (B + M) l) := fun X Y row ⟨v, hb, ho⟩ hgr hr => by
  refine ⟨v, hb.kept hgr (fun e => by have := hr g e.symm; omega), ho.kept hgr ?_⟩
  cases hv : v.ownBlock with
  | none => exact .inl rfl
  | some b => exact .inr (fun e => by have h1 := (World.ownsRow.lt ho b hv).1; have := hr b e.symm; omega)
theorem Abid.tr {g B M : Nat} {l : List Int} (hg : g < B) : Abid B M fun X => Tr X g l := fun X Y row h hgr hr => (hgr.block g h.lt (fun e => by have := hr g e.symm; omega)).trans h
theorem Abid.low {w : World} {B M : Nat} (hB : w.heap.size ≤ B) : Abid B M fun X => Below w.heap.size w X := fun X Y row h hgr hr => h.grown hgr h.size fun k e => by have := hr k e; omega
theorem EachB.of {X : World} {bs bb : Nat} {size base : Int} (h1 : Boxed X bs 3 (.int .i64 size)) (h2 : Boxed X bb 3 (.int .i64 base)) : EachB bs bb size base X := ⟨h1.cell, h2.cell⟩
theorem tr_setRow {w : World} {g : Nat} {l : List Int} (h : Tr w g []) : Tr (w.setRow g (row l)) g l := setRow_heap _ _ _ _ _ _ h
/-- Behind the append and the store of a round. -/
theorem step_keep {B g : Nat} {X Y : World} {v v' u : Value} {l l' : List Int} (hB : g < B) (hbox : Boxed X g 28 v) (ho : Mi.Own X (B + 2) v l) (hg : X.grownBy Y v.ownBlock) (ho' : Mi.Own Y (B + 2) v' l') :
    Boxed Y g 28 v ∧ KeepR B (2 + 0) X (Y.setCell ⟨g, 0, none⟩ v') ∧ Acc g (B + 2) l' (Y.setCell ⟨g, 0, none⟩ v') ∧ ∀ b, b < B → b ≠ g → b < X.heap.size → (Y.setCell ⟨g, 0, none⟩ v').heap[b]? = X.heap[b]? := by
  have hne : ∀ b, b < B + 2 → some b ≠ v.ownBlock := fun b hb e => by have := (World.ownsRow.lt ho b e.symm).1; omega
  have hY : Boxed Y g 28 v := hbox.kept hg (fun e => by exact hne g (by omega) e)
  refine ⟨hY, ?_, ⟨v', hY.set v', ho'.same fun k hk _ => ?_⟩, fun b hb hn hX => ?_⟩
  · refine ⟨Nat.le_trans hg.size (by simp), fun r h1 h2 h3 => ?_⟩
    exact (Below.heap_setCell Y _ _ r (by show r ≠ g; omega)).trans (hg.block r h3 (hne r (by omega)))
  · exact Below.heap_setCell Y _ _ k (by have := (World.ownsRow.lt ho' k hk).1; show k ≠ g; omega)
  · exact (Below.heap_setCell Y _ _ b hn).trans (hg.block b hX (hne b (by omega)))
set_option maxHeartbeats 2000000 in
theorem Sort_any (base : Int) (A : Option Addr) (c : Nat) (l : List Int) (w : World) (hr : Hid (Rd w w.heap.size A l)) (hc : l.length ≤ 9223372036854775807) : Calls Try.prog 40 #[.int .i64 base, .slice A l.length c] w (NewI w (pick (has l) base 128)) := by
  have hM := Lib.hid (among_any A c w.heap.size l w hr (Nat.le_refl _) hc)
  have hE := Lib.hid (fun (w1 : World) => Each_any base 128 w1)
  have hRR := Lib.hid hr
  refine (callsIn_wide (n := 0)).1 (callsIn_of_wp_marks Try.func40 rfl trivial ?_ rfl)
  simp only [Try.ntmps40, List.size_toArray, List.length_cons, List.length_nil, Nat.reduceAdd, Nat.reduceSub, Array.replicate_succ, Array.replicate_zero, List.push_toArray, List.append_toArray, List.nil_append, List.cons_append]
  refine wpIn_wide.2 ?_
  go_wp2_with (first
    | (go_at_call 44; refine hM.out.mono ?_; rintro e w1 ⟨rfl, hb1⟩)
    | (refine allocTo rfl (.pointer (some ⟨_, 0, none⟩)) (.cells (row []) 55 (0, 0)) (alloc_row _ _ rfl _) ?_)
    | (refine wpList_store_row rfl 55 (.tmp 5) (.tmp 9) rfl w1.heap.size (row l) rfl rfl 55 _ (heap_alloc_new w1 _) (size128 l) (by rw [row_size, row_size]) (row_one l) ?_)
    | (go_at_call 36; refine (hE.out _).mono ?_; rintro e w2 ⟨rfl, rfl⟩))
  obtain ⟨n, hn⟩ : ∃ n, w1.heap.size = n := ⟨_, rfl⟩
  have ht0 : Tr ((w1.alloc (.cells (row []) 55)).setRow w1.heap.size (row l)) w1.heap.size l := tr_setRow (heap_alloc_new w1 _)
  have hb0 : Below w.heap.size w ((w1.alloc (.cells (row []) 55)).setRow w1.heap.size (row l)) := (below_alloc hb1.out).trans ⟨rfl, rfl, rfl, by simp [World.setRow], fun k hk => setRow_other _ _ k _ (by have := hb1.out.size; omega)⟩
  have hs0 : ((w1.alloc (.cells (row []) 55)).setRow w1.heap.size (row l)).heap.size = w1.heap.size + 1 := by simp [World.setRow]
  obtain ⟨V0, hV0⟩ : ∃ V0, (w1.alloc (.cells (row []) 55)).setRow w1.heap.size (row l) = V0 := ⟨_, rfl⟩
  rw [hV0] at ht0 hb0 hs0 ⊢
  have hwn : w.heap.size ≤ w1.heap.size := hb1.out.size
  clear hV0 hb1 hM
  rw [hn] at ht0 hs0 hwn ⊢
  have q1 := ((Boxed.new V0 28 (.slice none 0 0)).alloc (.cells #[.int .i64 base] 3)).alloc (.cells #[.int .i64 128] 3)
  have q2 := (Boxed.new (V0.alloc (.cells #[.slice none 0 0] 28)) 3 (.int .i64 base)).alloc (.cells #[.int .i64 128] 3)
  have q3 := Boxed.new ((V0.alloc (.cells #[.slice none 0 0] 28)).alloc (.cells #[.int .i64 base] 3)) 3 (.int .i64 128)
  have qb : Below V0.heap.size V0 (((V0.alloc (.cells #[.slice none 0 0] 28)).alloc (.cells #[.int .i64 base] 3)).alloc (.cells #[.int .i64 128] 3)) := below_alloc (below_alloc (below_alloc (Below.refl _ _)))
  have qs : (((V0.alloc (.cells #[.slice none 0 0] 28)).alloc (.cells #[.int .i64 base] 3)).alloc (.cells #[.int .i64 128] 3)).heap.size = n + 4 := by simp [hs0]
  simp only [World.size_alloc, hs0] at q1 q2 q3
  obtain ⟨W0, hW0⟩ : ∃ W0, ((V0.alloc (.cells #[.slice none 0 0] 28)).alloc (.cells #[.int .i64 base] 3)).alloc (.cells #[.int .i64 128] 3) = W0 := ⟨_, rfl⟩
  rw [hW0] at q1 q2 q3 qb qs ⊢
  have t0 : Tr W0 n l := ht0.below qb (by omega)
  have b0 : Below w.heap.size w W0 := hb0.trans (qb.mono hb0.size)
  clear hW0 ht0 hb0 qb hs0 hE
  have hcut : cut 128 = 128 := by decide
  have hIt := Each_iter (n + 1 + 1 + 1) (n + 1 + 1) 128 base
  rw [hcut] at hIt
  refine range_block (gf := 48) (lb := #[.pointer (some ⟨n + 1 + 1 + 1, 0, none⟩), .pointer (some ⟨n + 1 + 1, 0, none⟩)]) rfl (enters_of Try.func48 (by kernel_rfl) rfl) hIt
    (fun k X => (Tr X n l ∧ (Boxed X (n + 1 + 1 + 1) 3 (.int .i64 128) ∧ Boxed X (n + 1 + 1) 3 (.int .i64 base))) ∧ (Acc (n + 1) (W0.heap.size + 2) (pick (has l) base k) X ∧ Below w.heap.size w X))
    (fun _ => False)
    (fun X => Acc (n + 1) (W0.heap.size + 2) (pick (has l) base 128) X ∧ Below w.heap.size w X)
    (fun k => Abid.and (Abid.and (Abid.tr (by omega)) (Abid.and (Abid.boxed (.inl (by omega))) (Abid.boxed (.inl (by omega))))) (Abid.and (Acc.abid (by omega)) (Abid.low (by omega))))
    (fun _ _ _ h _ _ => h)
    (fun k X h => EachB.of h.1.2.1 h.1.2.2) (fun k X hk hc' h => (hc' trivial).elim) (fun _ _ _ _ _ _ h _ _ => h) (fun _ _ _ _ _ h _ => h)
    ⟨⟨t0, q3, q2⟩, ⟨_, q1, Mi.Own.nil _ _⟩, b0⟩ (fun X h => h.2) (fun X h => h.elim) ?_ ?_
  · intro l' k v X0 hk _ _ rfl
    obtain ⟨j, hj⟩ : ∃ j : Nat, (base + (k : Int)) % 128 = (j : Int) := ⟨((base + (k : Int)) % 128).toNat, by omega⟩
    have hj2 : j < 128 := by omega
    have HS := Lib.hid (pick_step (p := has l) hj)
    have hpl := pick_le (has l) base k
    rw [hj]
    gi_wp2
    refine ⟨trivial, ?_⟩
    rintro X ⟨⟨ht, hx3, hx2⟩, ⟨v, hbx, hov⟩, hbl⟩ _ hsX
    have c1 := ht.cell hj2
    have c2 := hbx.cell
    obtain ⟨p, hp⟩ : ∃ p, pick (has l) base k = p := ⟨_, rfl⟩
    rw [hp] at HS hpl hov
    have HT := Lib.hid ht
    have HX3 := Lib.hid hx3
    have HX2 := Lib.hid hx2
    have HBX := Lib.hid hbx
    have HOV := Lib.hid hov
    have HBL := Lib.hid hbl
    have HSX := Lib.hid hsX
    have HQ : Hid ((p.length + 1) * 8 ≤ 140737488355328) := by show _ ≤ _; omega
    clear ht hx3 hx2 hbx hov hbl hsX hp hpl hj t0 b0 q1 q2 q3 hIt
    by_cases hh : has l (j : Nat) = true
    · have HS' : Hid (pick (has l) base (k + 1) = p ++ [(j : Int)]) := by show _ = _; rw [HS.out, if_pos hh]
      rw [hh] at c1
      clear hh HS
      gi_wp2_with (refine app1In (wl := X) rfl (.tmp 16) (.tmp 18) rfl (W0.heap.size + 2) v p (j : Int) rfl rfl HOV.out HSX.out _ rfl rfl HQ.out ?_; intro v2 Y ho2 hg2; obtain ⟨A2, cc2, rfl, _, _, _, _, _⟩ := Mi.Own.form ho2; obtain ⟨m2, hm2⟩ : ∃ m2, (p ++ [(j : Int)]).length = m2 := ⟨_, rfl⟩; rw [hm2] at ho2; obtain ⟨s1, s2, s3, s4⟩ := step_keep (u := v) (by omega) HBX.out HOV.out hg2 ho2; have S2 := Lib.hid s2; have S3 := Lib.hid s3; have S4 := Lib.hid s4; have HG2 := Lib.hid hg2; have y1 := s1.cell; have y2 := s1.frozen; clear s1 s2 s3 s4 ho2 hg2)
      refine ⟨S2.out, ⟨⟨(S4.out _ (by omega) (by omega) HT.out.lt).trans HT.out, (S4.out _ (by omega) (by omega) HX3.out.lt).trans HX3.out, (S4.out _ (by omega) (by omega) HX2.out.lt).trans HX2.out⟩, ?_, ?_⟩⟩
      · rw [HS'.out]; exact S3.out
      · exact (HBL.out.grown HG2.out HBL.out.size fun k e => by have := (World.ownsRow.lt HOV.out k e).1; omega).setCell (p := ⟨n + 1, 0, none⟩) (by show _ ≤ n + 1; omega) _
    · have HS' : Hid (pick (has l) base (k + 1) = p) := by show _ = _; rw [HS.out, if_neg hh]
      rw [show has l (j : Nat) = false by simpa using hh] at c1
      clear hh HS
      gi_wp2
      refine ⟨KeepR.refl _ _ _, ⟨⟨HT.out, HX3.out, HX2.out⟩, ⟨v, HBX.out, by rw [HS'.out]; exact HOV.out⟩, HBL.out⟩⟩
  · rintro X ⟨⟨v, hbx, hov⟩, hbl⟩ hD
    rw [qs] at hD
    have c2 := hbx.cell
    have HOV := Lib.hid hov
    have HBL := Lib.hid hbl
    clear hbx hov hbl t0 b0 q1 q2 q3 hIt
    go_wp2
    refine ⟨by simp, .inl ⟨_, _, rfl, run_takeDeferred hD, ?_⟩⟩
    refine ⟨_, results_tmp rfl _ _ _, _, rfl, ?_, ?_⟩
    · refine (HOV.out.same fun k hk _ => ?_).base fun k hk => ?_
      · exact World.putObj_heap_other (by have := (World.ownsRow.lt HOV.out k hk).1; omega)
      · have := (World.ownsRow.lt HOV.out k hk).1; omega
    · exact HBL.out.grown (grownBy_putObj' _ _ _) HBL.out.size fun k e => by cases e; omega
set_option maxHeartbeats 2000000 in
theorem Missing_any (base to : Int) (A : Option Addr) (c : Nat) (l : List Int) (w : World) (hr : Hid (Rd w w.heap.size A l)) (hc : l.length ≤ 9223372036854775807) : Calls Try.prog 29 #[.int .i64 base, .int .i64 to, .slice A l.length c] w (NewI w (pick (fun n => !has l n) base ((to - base) % 128).toNat)) := by
  have hM := Lib.hid (among_any A c w.heap.size l w hr (Nat.le_refl _) hc)
  have hWy := Lib.hid (fun (w1 : World) => Way_any base to w1)
  obtain ⟨s, hs⟩ : ∃ s, (to - base) % 128 = s := ⟨_, rfl⟩
  have hs0 : 0 ≤ s ∧ s < 128 := by omega
  rw [hs] at hWy ⊢
  clear hs
  obtain ⟨m, rfl⟩ : ∃ m : Nat, s = (m : Int) := ⟨s.toNat, by omega⟩
  have hm : m < 128 := by omega
  clear hs0
  rw [Int.toNat_natCast]
  have hE := Lib.hid (fun (w1 : World) => Each_any base m w1)
  have hRR := Lib.hid hr
  refine (callsIn_wide (n := 0)).1 (callsIn_of_wp_marks Try.func29 rfl trivial ?_ rfl)
  simp only [Try.ntmps29, List.size_toArray, List.length_cons, List.length_nil, Nat.reduceAdd, Nat.reduceSub, Array.replicate_succ, Array.replicate_zero, List.push_toArray, List.append_toArray, List.nil_append, List.cons_append]
  refine wpIn_wide.2 ?_
  go_wp2_with (first
    | (go_at_call 44; refine hM.out.mono ?_; rintro e w1 ⟨rfl, hb1⟩)
    | (refine allocTo rfl (.pointer (some ⟨_, 0, none⟩)) (.cells (row []) 55 (0, 0)) (alloc_row _ _ rfl _) ?_)
    | (refine wpList_store_row rfl 55 (.tmp 7) (.tmp 11) rfl w1.heap.size (row l) rfl rfl 55 _ (heap_alloc_new w1 _) (size128 l) (by rw [row_size, row_size]) (row_one l) ?_)
    | (go_at_call 39; refine (hWy.out _).mono ?_; rintro e w2 ⟨rfl, rfl⟩)
    | (go_at_call 36; refine (hE.out _).mono ?_; rintro e w2 ⟨rfl, rfl⟩))
  obtain ⟨n, hn⟩ : ∃ n, w1.heap.size = n := ⟨_, rfl⟩
  have ht0 : Tr ((w1.alloc (.cells (row []) 55)).setRow w1.heap.size (row l)) w1.heap.size l := tr_setRow (heap_alloc_new w1 _)
  have hb0 : Below w.heap.size w ((w1.alloc (.cells (row []) 55)).setRow w1.heap.size (row l)) := (below_alloc hb1.out).trans ⟨rfl, rfl, rfl, by simp [World.setRow], fun k hk => setRow_other _ _ k _ (by have := hb1.out.size; omega)⟩
  have hs1 : ((w1.alloc (.cells (row []) 55)).setRow w1.heap.size (row l)).heap.size = w1.heap.size + 1 := by simp [World.setRow]
  obtain ⟨V0, hV0⟩ : ∃ V0, (w1.alloc (.cells (row []) 55)).setRow w1.heap.size (row l) = V0 := ⟨_, rfl⟩
  rw [hV0] at ht0 hb0 hs1 ⊢
  have hwn : w.heap.size ≤ w1.heap.size := hb1.out.size
  clear hV0 hb1 hM
  rw [hn] at ht0 hs1 hwn ⊢
  have q1 := ((Boxed.new V0 28 (.slice none 0 0)).alloc (.cells #[.int .i64 base] 3)).alloc (.cells #[.int .i64 m] 3)
  have q2 := (Boxed.new (V0.alloc (.cells #[.slice none 0 0] 28)) 3 (.int .i64 base)).alloc (.cells #[.int .i64 m] 3)
  have q3 := Boxed.new ((V0.alloc (.cells #[.slice none 0 0] 28)).alloc (.cells #[.int .i64 base] 3)) 3 (.int .i64 m)
  have qb : Below V0.heap.size V0 (((V0.alloc (.cells #[.slice none 0 0] 28)).alloc (.cells #[.int .i64 base] 3)).alloc (.cells #[.int .i64 m] 3)) := below_alloc (below_alloc (below_alloc (Below.refl _ _)))
  have qs : (((V0.alloc (.cells #[.slice none 0 0] 28)).alloc (.cells #[.int .i64 base] 3)).alloc (.cells #[.int .i64 m] 3)).heap.size = n + 4 := by simp [hs1]
  simp only [World.size_alloc, hs1] at q1 q2 q3
  obtain ⟨W0, hW0⟩ : ∃ W0, ((V0.alloc (.cells #[.slice none 0 0] 28)).alloc (.cells #[.int .i64 base] 3)).alloc (.cells #[.int .i64 m] 3) = W0 := ⟨_, rfl⟩
  rw [hW0] at q1 q2 q3 qb qs ⊢
  have t0 : Tr W0 n l := ht0.below qb (by omega)
  have b0 : Below w.heap.size w W0 := hb0.trans (qb.mono hb0.size)
  clear hW0 ht0 hb0 qb hs1 hE
  have hcut : cut (m : Int) = m := by unfold cut; omega
  have hIt := Each_iter (n + 1 + 1 + 1) (n + 1 + 1) m base
  rw [hcut] at hIt
  refine range_block (gf := 48) (lb := #[.pointer (some ⟨n + 1 + 1 + 1, 0, none⟩), .pointer (some ⟨n + 1 + 1, 0, none⟩)]) rfl (enters_of Try.func48 (by kernel_rfl) rfl) hIt
    (fun k X => (Tr X n l ∧ (Boxed X (n + 1 + 1 + 1) 3 (.int .i64 m) ∧ Boxed X (n + 1 + 1) 3 (.int .i64 base))) ∧ (Acc (n + 1) (W0.heap.size + 2) (pick (fun n => !has l n) base k) X ∧ Below w.heap.size w X))
    (fun _ => False)
    (fun X => Acc (n + 1) (W0.heap.size + 2) (pick (fun n => !has l n) base m) X ∧ Below w.heap.size w X)
    (fun k => Abid.and (Abid.and (Abid.tr (by omega)) (Abid.and (Abid.boxed (.inl (by omega))) (Abid.boxed (.inl (by omega))))) (Abid.and (Acc.abid (by omega)) (Abid.low (by omega))))
    (fun _ _ _ h _ _ => h)
    (fun k X h => EachB.of h.1.2.1 h.1.2.2) (fun k X hk hc' h => (hc' trivial).elim) (fun _ _ _ _ _ _ h _ _ => h) (fun _ _ _ _ _ h _ => h)
    ⟨⟨t0, q3, q2⟩, ⟨_, q1, Mi.Own.nil _ _⟩, b0⟩ (fun X h => h.2) (fun X h => h.elim) ?_ ?_
  · intro l' k v X0 hk _ _ rfl
    obtain ⟨j, hj⟩ : ∃ j : Nat, (base + (k : Int)) % 128 = (j : Int) := ⟨((base + (k : Int)) % 128).toNat, by omega⟩
    have hj2 : j < 128 := by omega
    have HS := Lib.hid (pick_step (p := fun n => !has l n) hj)
    have hpl := pick_le (fun n => !has l n) base k
    rw [hj]
    gi_wp2
    refine ⟨trivial, ?_⟩
    rintro X ⟨⟨ht, hx3, hx2⟩, ⟨v, hbx, hov⟩, hbl⟩ _ hsX
    have c1 := ht.cell hj2
    have c2 := hbx.cell
    obtain ⟨p, hp⟩ : ∃ p, pick (fun n => !has l n) base k = p := ⟨_, rfl⟩
    rw [hp] at HS hpl hov
    have HT := Lib.hid ht
    have HX3 := Lib.hid hx3
    have HX2 := Lib.hid hx2
    have HBX := Lib.hid hbx
    have HOV := Lib.hid hov
    have HBL := Lib.hid hbl
    have HSX := Lib.hid hsX
    have HQ : Hid ((p.length + 1) * 8 ≤ 140737488355328) := by show _ ≤ _; omega
    clear ht hx3 hx2 hbx hov hbl hsX hp hpl hj t0 b0 q1 q2 q3 hIt
    by_cases hh : has l (j : Nat) = false
    · have HS' : Hid (pick (fun n => !has l n) base (k + 1) = p ++ [(j : Int)]) := by show _ = _; rw [HS.out, if_pos (by rw [hh]; rfl)]
      rw [hh] at c1
      clear hh HS
      gi_wp2_with (refine app1In (wl := X) rfl (.tmp 22) (.tmp 24) rfl (W0.heap.size + 2) v p (j : Int) rfl rfl HOV.out HSX.out _ rfl rfl HQ.out ?_; intro v2 Y ho2 hg2; obtain ⟨A2, cc2, rfl, _, _, _, _, _⟩ := Mi.Own.form ho2; obtain ⟨m2, hm2⟩ : ∃ m2, (p ++ [(j : Int)]).length = m2 := ⟨_, rfl⟩; rw [hm2] at ho2; obtain ⟨s1, s2, s3, s4⟩ := step_keep (u := v) (by omega) HBX.out HOV.out hg2 ho2; have S2 := Lib.hid s2; have S3 := Lib.hid s3; have S4 := Lib.hid s4; have HG2 := Lib.hid hg2; have y1 := s1.cell; have y2 := s1.frozen; clear s1 s2 s3 s4 ho2 hg2)
      refine ⟨S2.out, ⟨⟨(S4.out _ (by omega) (by omega) HT.out.lt).trans HT.out, (S4.out _ (by omega) (by omega) HX3.out.lt).trans HX3.out, (S4.out _ (by omega) (by omega) HX2.out.lt).trans HX2.out⟩, ?_, ?_⟩⟩
      · rw [HS'.out]; exact S3.out
      · exact (HBL.out.grown HG2.out HBL.out.size fun k e => by have := (World.ownsRow.lt HOV.out k e).1; omega).setCell (p := ⟨n + 1, 0, none⟩) (by show _ ≤ n + 1; omega) _
    · have HS' : Hid (pick (fun n => !has l n) base (k + 1) = p) := by show _ = _; rw [HS.out, if_neg (by simpa using hh)]
      rw [show has l (j : Nat) = true by simpa using hh] at c1
      clear hh HS
      gi_wp2
      refine ⟨KeepR.refl _ _ _, ⟨⟨HT.out, HX3.out, HX2.out⟩, ⟨v, HBX.out, by rw [HS'.out]; exact HOV.out⟩, HBL.out⟩⟩
  · rintro X ⟨⟨v, hbx, hov⟩, hbl⟩ hD
    rw [qs] at hD
    have c2 := hbx.cell
    have HOV := Lib.hid hov
    have HBL := Lib.hid hbl
    clear hbx hov hbl t0 b0 q1 q2 q3 hIt
    go_wp2
    refine ⟨by simp, .inl ⟨_, _, rfl, run_takeDeferred hD, ?_⟩⟩
    refine ⟨_, results_tmp rfl _ _ _, _, rfl, ?_, ?_⟩
    · refine (HOV.out.same fun k hk _ => ?_).base fun k hk => ?_
      · exact World.putObj_heap_other (by have := (World.ownsRow.lt HOV.out k hk).1; omega)
      · have := (World.ownsRow.lt HOV.out k hk).1; omega
    · exact HBL.out.grown (grownBy_putObj' _ _ _) HBL.out.size fun k e => by cases e; omega
end Go.Proofs.Ytnfjfcoonabmmaa.Wn
