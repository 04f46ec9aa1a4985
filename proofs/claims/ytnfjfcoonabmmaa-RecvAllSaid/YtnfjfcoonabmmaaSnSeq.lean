/- The contracts of slices.Collect over a window's numbers, and of a sender's Under. -/
import Derived.Test.YtnfjfcoonabmmaaSnAck
import Derived.Test.YtnfjfcoonabmmaaWIter
import Derived.Test.YtnfjfcoonabmmaaWList
namespace Go.Proofs.Ytnfjfcoonabmmaa.Sn
open Go.RowKit
open Go.Proofs.Ytnfjfcoonabmmaa.Mi Go.Proofs.Ytnfjfcoonabmmaa.It Go.Proofs.Ytnfjfcoonabmmaa.Wn
set_option linter.unusedVariables false
set_option linter.unusedSimpArgs false
attribute [local go_sem] Oper.semAt_some

/-- A box holds a slice of the call's own, from block B on, with these numbers. -/
def Acc (g B : Nat) (l : List Int) (X : World) : Prop := ∃ v, Boxed X g 28 v ∧ Mi.Own X B v l
theorem Acc.abid {g B M : Nat} {l : List Int} (hg : g < B) : Abid B M (Acc g (B + M) l) := fun X Y row ⟨v, hb, ho⟩ hgr hr => by
  refine ⟨v, hb.kept hgr (fun e => by have := hr g e.symm; omega), ho.kept hgr ?_⟩
  cases hv : v.ownBlock with
  | none => exact .inl rfl
  | some b => exact .inr (fun e => by have h1 := (World.ownsRow.lt ho b hv).1; have := hr b e.symm; omega)
theorem abid_low {w : World} {B M : Nat} (hB : w.heap.size ≤ B) : Abid B M fun X => Below w.heap.size w X := fun X Y row h hgr hr => h.grown hgr h.size fun k e => by have := hr k e; omega
theorem each_of {X : World} {bs bb : Nat} {size base : Int} (h1 : Boxed X bs 3 (.int .i64 size)) (h2 : Boxed X bb 3 (.int .i64 base)) : EachB bs bb size base X := ⟨h1.cell, h2.cell⟩
/-- Behind the append and the store of a round. -/
theorem step_keep {B g : Nat} {X Y : World} {v v' u : Value} {l l' : List Int} (hB : g < B) (hbox : Boxed X g 28 v) (ho : Mi.Own X (B + 2) v l) (hg : X.grownBy Y v.ownBlock) (ho' : Mi.Own Y (B + 2) v' l') :
    Boxed Y g 28 v ∧ KeepR B (2 + 0) X (Y.setCell ⟨g, 0, none⟩ v') ∧ Acc g (B + 2) l' (Y.setCell ⟨g, 0, none⟩ v') ∧ ∀ b, b < B → b ≠ g → b < X.heap.size → (Y.setCell ⟨g, 0, none⟩ v').heap[b]? = X.heap[b]? := by
  have hne : ∀ b, b < B + 2 → some b ≠ v.ownBlock := fun b hb e => by have := (World.ownsRow.lt ho b e.symm).1; omega
  have hY : Boxed Y g 28 v := hbox.kept hg (fun e => by exact hne g (by omega) e)
  refine ⟨hY, ?_, ⟨v', hY.set v', ho'.same fun k hk _ => ?_⟩, fun b hb hn hX => ?_⟩
  · refine ⟨Nat.le_trans hg.size (by simp), fun r h1 h2 h3 => ?_⟩
    exact (Below.heap_setCell Y _ _ r (by show r ≠ g; omega)).trans (hg.block r h3 (hne r (by omega)))
  · exact Below.heap_setCell Y _ _ k (by have := (World.ownsRow.lt ho' k hk).1; show k ≠ g; omega)
  · exact (Below.heap_setCell Y _ _ b hn).trans (hg.block b hX (hne b (by omega)))
set_option maxHeartbeats 2000000 in
theorem AppendSeq_any (size base : Int) (bs bb : Nat) (w : World) (h1 : Hid (Boxed w bs 3 (.int .i64 size))) (h2 : Hid (Boxed w bb 3 (.int .i64 base))) : Calls Try.prog 47 #[.slice none 0 0, eachV bs bb] w (NewI w (goes base (Wn.cut size))) := by
  have hs1 := h1.out.lt
  have hs2 := h2.out.lt
  unfold eachV
  refine (callsIn_wide (n := 0)).1 (callsIn_of_wp_marks Try.func47 rfl trivial ?_ rfl)
  simp only [Try.ntmps47, List.size_toArray, List.length_cons, List.length_nil, Nat.reduceAdd, Nat.reduceSub, Array.replicate_succ, Array.replicate_zero, List.push_toArray, List.append_toArray, List.nil_append, List.cons_append]
  refine wpIn_wide.2 ?_
  go_wp2
  have q1 := Boxed.new w 28 (.slice none 0 0)
  have q2 := h1.out.alloc (.cells #[.slice none 0 0] 28)
  have q3 := h2.out.alloc (.cells #[.slice none 0 0] 28)
  have qb : Below w.heap.size w (w.alloc (.cells #[.slice none 0 0] 28)) := Mi.below_alloc (Below.refl _ _)
  obtain ⟨n, hn⟩ : ∃ n, w.heap.size = n := ⟨_, rfl⟩
  have qs : (w.alloc (.cells #[.slice none 0 0] 28)).heap.size = n + 1 := by simp [hn]
  obtain ⟨W0, hW0⟩ : ∃ W0, w.alloc (.cells #[.slice none 0 0] 28) = W0 := ⟨_, rfl⟩
  rw [hn] at q1 hs1 hs2
  rw [hW0] at q1 q2 q3 qb qs ⊢
  have HNN := Lib.hid hn
  have hwn : w.heap.size ≤ n := by omega
  rw [hn] at ⊢
  clear hW0 hn
  have hIt := Each_iter bs bb size base
  refine range_block (gf := 48) (lb := #[.pointer (some ⟨bs, 0, none⟩), .pointer (some ⟨bb, 0, none⟩)]) rfl (enters_of Try.func48 (by kernel_rfl) rfl) hIt
    (fun k X => (Boxed X bs 3 (.int .i64 size) ∧ Boxed X bb 3 (.int .i64 base)) ∧ (Acc n (W0.heap.size + 2) (goes base k) X ∧ Below w.heap.size w X))
    (fun _ => False)
    (fun X => Acc n (W0.heap.size + 2) (goes base (Wn.cut size)) X ∧ Below w.heap.size w X)
    (fun k => Abid.and (Abid.and (Abid.boxed (.inl (by omega))) (Abid.boxed (.inl (by omega)))) (Abid.and (Acc.abid (by omega)) (abid_low (by omega))))
    (fun _ _ _ h _ _ => h)
    (fun k X h => each_of h.1.1 h.1.2) (fun k X hk hc' h => (hc' trivial).elim) (fun _ _ _ _ _ _ h _ _ => h) (fun _ _ _ _ _ h _ => h)
    ⟨⟨q2, q3⟩, ⟨_, q1, Mi.Own.nil _ _⟩, qb⟩ (fun X h => h.2) (fun X h => h.elim) ?_ ?_
  · intro l' k v X0 hk _ _ rfl
    obtain ⟨j, hj⟩ : ∃ j : Int, (base + (k : Int)) % 128 = j := ⟨_, rfl⟩
    have HS : Hid (goes base (k + 1) = goes base k ++ [j]) := by show _ = _; rw [goes_succ, hj]
    have hpl := goes_length base k
    have hc := cut_le size
    rw [hj]
    gi_wp2
    refine ⟨trivial, ?_⟩
    rintro X ⟨⟨hx3, hx2⟩, ⟨v, hbx, hov⟩, hbl⟩ _ hsX
    have c2 := hbx.cell
    obtain ⟨p, hp⟩ : ∃ p, goes base k = p := ⟨_, rfl⟩
    rw [hp] at HS hpl hov
    have HX3 := Lib.hid hx3
    have HX2 := Lib.hid hx2
    have HBX := Lib.hid hbx
    have HOV := Lib.hid hov
    have HBL := Lib.hid hbl
    have HSX := Lib.hid hsX
    have HQ : Hid ((p.length + 1) * 8 ≤ 140737488355328) := by show _ ≤ _; omega
    clear hx3 hx2 hbx hov hbl hsX hp hpl hj q1 q2 q3 hIt hc
    gi_wp2_with (refine app1In (wl := X) rfl (.tmp 8) (.tmp 10) rfl (W0.heap.size + 2) v p j rfl rfl HOV.out HSX.out _ rfl rfl HQ.out ?_; intro v2 Y ho2 hg2; obtain ⟨A2, cc2, rfl, _, _, _, _, _⟩ := Mi.Own.form ho2; obtain ⟨m2, hm2⟩ : ∃ m2, (p ++ [j]).length = m2 := ⟨_, rfl⟩; rw [hm2] at ho2; obtain ⟨s1, s2, s3, s4⟩ := step_keep (u := .slice A2 m2 cc2) (by omega) HBX.out HOV.out hg2 ho2; have c3 := s1.cell; have f3 := s1.frozen; have S2 := Lib.hid s2; have S3 := Lib.hid s3; have S4 := Lib.hid s4; have HG2 := Lib.hid hg2; clear s1 s2 s3 s4 ho2 hg2)
    refine ⟨S2.out, ⟨⟨(S4.out _ (by omega) (by omega) HX3.out.lt).trans HX3.out, (S4.out _ (by omega) (by omega) HX2.out.lt).trans HX2.out⟩, ?_, ?_⟩⟩
    · rw [HS.out]; exact S3.out
    · exact (HBL.out.grown HG2.out HBL.out.size fun k e => by have := (World.ownsRow.lt HOV.out k e).1; omega).setCell (p := ⟨n, 0, none⟩) (by show _ ≤ n; omega) _
  · rintro X ⟨⟨v, hbx, hov⟩, hbl⟩ hD
    rw [qs] at hD
    have c2 := hbx.cell
    have HOV := Lib.hid hov
    have HBL := Lib.hid hbl
    clear hbx hov hbl q1 q2 q3 hIt
    go_wp2
    refine ⟨by simp, .inl ⟨_, _, rfl, run_takeDeferred hD, ?_⟩⟩
    refine ⟨_, results_tmp rfl _ _ _, _, rfl, ?_, ?_⟩
    · refine (HOV.out.same fun k hk _ => ?_).base fun k hk => ?_
      · exact World.putObj_heap_other (by have := (World.ownsRow.lt HOV.out k hk).1; omega)
      · have := (World.ownsRow.lt HOV.out k hk).1; omega
    · exact HBL.out.grown (grownBy_putObj' _ _ _) HBL.out.size fun k e => by cases e; omega
theorem Collect_any (size base : Int) (bs bb : Nat) (w : World) (h1 : Hid (Boxed w bs 3 (.int .i64 size))) (h2 : Hid (Boxed w bb 3 (.int .i64 base))) : Calls Try.prog 35 #[eachV bs bb] w (NewI w (goes base (Wn.cut size))) := by
  have HA := Lib.hid (AppendSeq_any size base bs bb w h1 h2)
  unfold eachV at HA ⊢
  go_enter Try.func35, Try.ntmps35
  go_wp2_with (go_at_call 47; refine HA.out.mono ?_; rintro e w' ⟨v, rfl, ho, hb⟩)
  go_ret
  exact ⟨v, rfl, ho, hb⟩
end Go.Proofs.Ytnfjfcoonabmmaa.Sn
