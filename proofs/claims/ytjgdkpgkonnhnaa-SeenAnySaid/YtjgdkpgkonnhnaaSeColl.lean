/- slices.Collect of a set's map's keys: all places, each once. -/
import Derived.Test.YtjgdkpgkonnhnaaSeKeys
import Derived.Test.YtjgdkpgkonnhnaaSeRMem
namespace Go.Proofs.Ytjgdkpgkonnhnaa.Se
open Go.RowKit Go.Maps
open Go.Proofs.Ytjgdkpgkonnhnaa.Me Go.Proofs.Ytjgdkpgkonnhnaa.Sb Go.Proofs.Ytjgdkpgkonnhnaa.It
set_option linter.unusedVariables false
set_option linter.unusedSimpArgs false
attribute [local go_sem] Oper.semAt_some

abbrev Pls := List (Int × Int)
def plc (p : Int × Int) : List Value := [.int .i64 p.1, .int .i64 p.2]
def plsV (L : Pls) : List Value := L.flatMap plc
theorem plsV_snoc (L : Pls) (p : Int × Int) : plsV (L ++ [p]) = plsV L ++ plc p := by unfold plsV; rw [List.flatMap_append]; simp
theorem plsV_len (L : Pls) : (plsV L).length = L.length * 2 := by
  induction L with
  | nil => rfl
  | cons p r ih => unfold plsV at ih ⊢; rw [List.flatMap_cons, List.length_append, ih]; simp [plc]; omega
/-- A slice of places of the call's own. -/
def Kp (w : World) (B : Nat) (v : Value) (L : Pls) : Prop := w.ownsRow B 63 2 v L.length (plsV L)
theorem infoPl : (Try.prog.info? 63).map (fun i => (i.zero, i.size, i.bytes)) = some (some (.agg #[.int .i64 0, .int .i64 0]), 2, 16) := by kernel_rfl
theorem Kp.nil (w : World) (B : Nat) : Kp w B (.slice none 0 0) [] := ⟨rfl, .inl ⟨rfl, rfl⟩⟩
theorem Kp.lt {w : World} {B k : Nat} {v : Value} {L : Pls} (h : Kp w B v L) (hk : v.ownBlock = some k) : B ≤ k ∧ k < w.heap.size := World.ownsRow.lt h k hk
theorem Kp.form {w : World} {B : Nat} {v : Value} {L : Pls} (h : Kp w B v L) : ∃ A c, v = .slice A L.length c ∧ L.length ≤ c ∧ c ≤ 9223372036854775807 := by
  rcases h.2 with ⟨h1, h2⟩ | ⟨g, cap, cur, h1, h2, h3, h4, h5, h6, h7⟩
  · have : L = [] := by simpa using h2
    subst this
    exact ⟨none, 0, h1, Nat.le_refl _, Nat.zero_le _⟩
  · exact ⟨_, cap, h1, h4, by unfold maxLen at h5; omega⟩
theorem pl_new (w : World) (p : Int × Int) (T : TypeId) (fr : Nat × Nat) : ∀ j u, (plc p)[j]? = some u → (w.alloc (.cells #[.int .i64 p.1, .int .i64 p.2] T fr)).cell? ((⟨w.heap.size, 0, none⟩ : Addr).add j) = some u := by
  intro j u hu
  have h := cell_of_row (w.alloc (.cells #[.int .i64 p.1, .int .i64 p.2] T fr)) w.heap.size j #[.int .i64 p.1, .int .i64 p.2] T fr (heap_alloc_new w _)
  rw [add_mk, Nat.zero_add, h]
  simpa [plc] using hu
/-- A place appended in a round. -/
theorem appPlIn {F : Fence} {n : Nat} {w wl : World} {ops : Array Oper} {rest : List Oper} {o : Oper} {a : Act} {Q : Exit → Act → World → Prop} (hgd : o.guard = none) (s x : Operand)
    (ho : o.op = .call { callee := .builtin .append, args := #[s, x], argTypes := #[74, 74] })
    (B : Nat) (v : Value) (L : Pls) (p : Int × Int) (hs : a.eval s = v) (hw : w = wl.alloc (.cells #[.int .i64 p.1, .int .i64 p.2] 63)) (hown : Kp wl B v L) (hB : B ≤ wl.heap.size)
    (g : Nat) (hg : g = wl.heap.size) (hx : a.eval x = .slice (some ⟨g, 0, none⟩) 1 1) (hlen : L.length ≤ 1000000)
    (h : ∀ v' w', Kp w' B v' (L ++ [p]) → wl.grownBy w' v.ownBlock → wpListIn F n Try.prog ops Q rest (a.put o.dst v') w') : wpListIn F n Try.prog ops Q (o :: rest) a w := by
  obtain ⟨i0, hi, hz0, hz1, hz2⟩ := info_parts infoPl
  subst hw hg
  refine wpListIn_append_own_at (wl.alloc (.cells #[.int .i64 p.1, .int .i64 p.2] 63)) hgd s x 74 ho B 63 i0 (.agg #[.int .i64 0, .int .i64 0]) 2 16 Try.underlying74 hi hz0 hz1 hz2 rfl (by decide) v L.length (plsV L) hs (World.ownsRow.alloc hown _) ⟨wl.heap.size, 0, none⟩ 1 1 (plc p) hx rfl (pl_new wl p _ _) (by simp [plc, Value.oneCell']) (by unfold maxLen; omega) (by omega) (by simp; omega) ?_
  intro v' w' h1 h3 _ _
  refine h v' w' ?_ ⟨h3.os, h3.tape, h3.output, Nat.le_trans (by simp) h3.size, fun k hk hne => ?_⟩
  · unfold Kp
    rw [List.length_append, plsV_snoc]; exact h1
  · exact (h3.block k (by simp; omega) hne).trans (Below.heap_alloc wl _ k hk)
/-- The box of a list that grows. -/
def AccP (g B : Nat) (L : Pls) (X : World) : Prop := ∃ v, Boxed X g 74 v ∧ Kp X B v L
theorem AccP.abid {g B M : Nat} {L : Pls} (hg : g < B) : Abid B M (AccP g (B + M) L) := fun X Y row ⟨v, hb, ho⟩ hgr hr => by
  refine ⟨v, hb.kept hgr (fun e => by have := hr g e.symm; omega), World.ownsRow.kept ho hgr ?_⟩
  cases hv : v.ownBlock with
  | none => exact .inl rfl
  | some b => exact .inr (fun e => by have h1 := (ho.lt hv).1; have := hr b e.symm; omega)
theorem low_abid {w : World} {B M : Nat} (hB : w.heap.size ≤ B) : Abid B M fun X => Below w.heap.size w X := fun X Y row h hgr hr => h.grown hgr h.size fun k e => by have := hr k e; omega
theorem step_keepP {B M g : Nat} {X Y : World} {v v' : Value} {L L' : Pls} (hB : g < B) (hbox : Boxed X g 74 v) (ho : Kp X (B + M) v L) (hg : X.grownBy Y v.ownBlock) (ho' : Kp Y (B + M) v' L') :
    Boxed Y g 74 v ∧ KeepR B M X (Y.setCell ⟨g, 0, none⟩ v') ∧ AccP g (B + M) L' (Y.setCell ⟨g, 0, none⟩ v') ∧ ∀ b, b < B → b ≠ g → b < X.heap.size → (Y.setCell ⟨g, 0, none⟩ v').heap[b]? = X.heap[b]? := by
  have hne : ∀ b, b < B + M → some b ≠ v.ownBlock := fun b hb e => by have := (ho.lt e.symm).1; omega
  have hY : Boxed Y g 74 v := hbox.kept hg (fun e => by exact hne g (by omega) e)
  refine ⟨hY, ?_, ⟨v', hY.set v', own_same ho' fun k hk _ => ?_⟩, fun b hb hn hX => ?_⟩
  · refine ⟨Nat.le_trans hg.size (by simp), fun r h1 h2 h3 => ?_⟩
    exact (Below.heap_setCell Y _ _ r (by show r ≠ g; omega)).trans (hg.block r h3 (hne r (by omega)))
  · exact Below.heap_setCell Y _ _ k (by have := (ho'.lt hk).1; show k ≠ g; omega)
  · exact (Below.heap_setCell Y _ _ b hn).trans (hg.block b hX (hne b (by omega)))
/-- Some kept places, each once. -/
structure Good (kept : Int → Int → Option Mk) (n : Nat) (L : Pls) : Prop where
  all : ∀ p ∈ L, Pp p.1 p.2 ∧ kept p.1 p.2 ≠ none
  nd : L.Nodup
  le : L.length ≤ n
theorem Good.nil (kept : Int → Int → Option Mk) (n : Nat) : Good kept n [] := ⟨by simp, by simp, by simp⟩
theorem Good.step {kept : Int → Int → Option Mk} {n : Nat} {L L' : Pls} {v : Value} (h : Good kept n L) (hs : stepK kept n L v L') : Good kept n L' := by
  obtain ⟨p, h1, h2, _, h4, rfl, h5⟩ := hs
  refine ⟨fun x hx => ?_, ?_, by rw [List.length_append]; simp; omega⟩
  · rcases List.mem_append.mp hx with hx | hx
    · exact h.all x hx
    · obtain rfl : x = p := by simpa using hx
      exact ⟨h1, h2⟩
  · rw [List.nodup_append]
    exact ⟨h.nd, by simp, fun a ha b hb e => h4 (by simp at hb; rw [← hb, ← e]; exact ha)⟩
def keysV (kb : Nat) : Value := .func (.func 50) #[] #[.pointer (some ⟨kb, 0, none⟩)]
theorem Keys_any (mb : Nat) (w : World) : Calls Try.prog 37 #[.map (some mb)] w fun e w' => e = .returned (keysV w.heap.size) ∧ w' = w.alloc (.cells #[.map (some mb)] 59) := by
  go_enter Try.func37, Try.ntmps37
  go_wp2
  go_ret
  exact ⟨rfl, rfl⟩
/-- What a call answers that makes a new list of all kept places. -/
def NewP (w : World) (kept : Int → Int → Option Mk) (n : Nat) (e : Ending) (w' : World) : Prop := ∃ v L, e = .returned v ∧ Hid (Kp w' w.heap.size v L) ∧ Hid (Below w.heap.size w w') ∧ Good kept n L ∧ finK kept L
set_option maxHeartbeats 2000000 in
theorem AppendSeq_keys {t : Bool} (kb mb n : Nat) (w0 w : World) (kept : Int → Int → Option Mk) (hM : Mp w0 t mb n kept) (hn9 : n ≤ 1000) (h1 : Hid (Boxed w kb 59 (.map (some mb)))) (h2 : Hid (w.heap[mb]? = w0.heap[mb]?)) : Calls Try.prog 57 #[.slice none 0 0, keysV kb] w (NewP w kept n) := by
  have hs1 := h1.out.lt
  have hs2 : mb < w.heap.size := by
    obtain ⟨es, c, hm⟩ := hM.isMap
    exact (Array.getElem?_eq_some_iff.1 (h2.out.trans hm)).1
  have hIt := Keys_iter kb mb n w0 kept hM
  unfold keysV
  refine (callsIn_wide (n := 0)).1 (callsIn_of_wp_marks Try.func57 rfl trivial ?_ rfl)
  simp only [Try.ntmps57, List.size_toArray, List.length_cons, List.length_nil, Nat.reduceAdd, Nat.reduceSub, Array.replicate_succ, Array.replicate_zero, List.push_toArray, List.append_toArray, List.nil_append, List.cons_append]
  refine wpIn_wide.2 ?_
  go_wp2
  have q1 := Boxed.new w 74 (.slice none 0 0)
  have q2 := h1.out.alloc (.cells #[.slice none 0 0] 74)
  have qb : Below w.heap.size w (w.alloc (.cells #[.slice none 0 0] 74)) := Me.below_alloc (Below.refl _ _)
  have q3 : (w.alloc (.cells #[.slice none 0 0] 74)).heap[mb]? = w0.heap[mb]? := (qb.block mb hs2).trans h2.out
  obtain ⟨m, hm⟩ : ∃ m, w.heap.size = m := ⟨_, rfl⟩
  have qs : (w.alloc (.cells #[.slice none 0 0] 74)).heap.size = m + 1 := by simp [hm]
  obtain ⟨W0, hW0⟩ : ∃ W0, w.alloc (.cells #[.slice none 0 0] 74) = W0 := ⟨_, rfl⟩
  rw [hm] at q1 hs1 hs2
  rw [hW0] at q1 q2 q3 qb qs ⊢
  have HNN := Lib.hid hm
  have hwn : w.heap.size ≤ m := by omega
  have hwn2 : m ≤ w.heap.size := by omega
  rw [hm] at ⊢
  clear hW0 hm
  refine range_blockSB (gf := 50) (lb := #[.pointer (some ⟨kb, 0, none⟩)]) rfl (enters_of Try.func50 (by kernel_rfl) rfl) hIt
    (fun L X => (Boxed X kb 59 (.map (some mb)) ∧ X.heap[mb]? = w0.heap[mb]?) ∧ Good kept n L ∧ (AccP m (W0.heap.size + 3) L X ∧ Below w.heap.size w X))
    (fun _ => False)
    (fun X => ∃ L, finK kept L ∧ Good kept n L ∧ AccP m (W0.heap.size + 3) L X ∧ Below w.heap.size w X)
    (fun k X Y row h hg hr => ⟨⟨h.1.1.kept hg (fun e => by have := hr _ e.symm; omega), (hg.block mb (by have := h.2.2.2.size; omega) (fun e => by have := hr _ e.symm; omega)).trans h.1.2⟩, h.2.1, AccP.abid (by omega) X Y row h.2.2.1 hg hr, low_abid (by omega) X Y row h.2.2.2 hg hr⟩)
    (fun _ _ _ h _ _ => h)
    (fun k X h => ⟨h.1.1.cell, h.1.2⟩)
    ⟨⟨q2, q3⟩, Good.nil _ _, ⟨_, q1, Kp.nil _ _⟩, qb⟩ (fun L X hf h => ⟨L, hf, h.2⟩) (fun X h => h.elim) ?_ ?_
  · intro l' L v L' X0 hst hI0 hX0
    have hX1 : m + 1 + 3 ≤ X0.heap.size := by omega
    have HX0 := Lib.hid hX0
    have HGD := Lib.hid hI0.2.1
    clear hI0 hX0
    obtain ⟨p, hp1, hp2, rfl, hp3, rfl, hp4⟩ := hst
    have HGE : Hid (Good kept n (L ++ [p])) := HGD.out.step ⟨p, hp1, hp2, rfl, hp3, rfl, hp4⟩
    have hLn : L.length ≤ 1000000 := by omega
    have HLn := Lib.hid hLn
    clear hp1 hp2 hp3 hp4 hLn
    obtain ⟨o, e⟩ := p
    unfold plV
    have HB1 : Hid (Below X0.heap.size X0 (X0.alloc (.cells #[.int .i64 o, .int .i64 e] 63))) := Me.below_alloc (Below.refl _ _)
    have HB2 : Hid ((X0.alloc (.cells #[.int .i64 o, .int .i64 e] 63)).heap[X0.heap.size]? = some (.cells #[.int .i64 o, .int .i64 e] 63 (0, 0))) := heap_alloc_new X0 _
    obtain ⟨gx, hgx⟩ : ∃ gx, X0.heap.size = gx := ⟨_, rfl⟩
    have HGX := Lib.hid hgx
    have HX1 : Hid (m + 1 + 3 ≤ gx) := by show _ ≤ _; omega
    gi_wp2
    refine ⟨HB1.out, ?_⟩
    rintro X ⟨⟨hx3, hx2⟩, _, ⟨v, hbx, hov⟩, hbl⟩ hsX hsame
    have e1 : X.heap[gx]? = some (.cells #[.int .i64 o, .int .i64 e] 63 (0, 0)) := by
      rw [hsame gx (by have := HX1.out; omega), ← HGX.out]
      exact HB2.out
    have e2 : X.cell? ⟨gx, 0, none⟩ = some (.int .i64 o) := cell_of_row X gx 0 _ _ (0, 0) e1
    have e3 : X.cell? ⟨gx, 1, none⟩ = some (.int .i64 e) := cell_of_row X gx 1 _ _ (0, 0) e1
    have c2 := hbx.cell
    have HX3 := Lib.hid hx3
    have HX2 := Lib.hid hx2
    have HBX := Lib.hid hbx
    have HOV := Lib.hid hov
    have HBL := Lib.hid hbl
    have HSX : Hid (W0.heap.size + 3 ≤ X.heap.size) := by show _ ≤ _; omega
    have HMB : Hid (mb < X.heap.size) := by have := hbl.size; show _ < _; omega
    clear hx3 hx2 hbx hov hbl hsX q1 q2 q3 hIt hsame e1 HGX HB1 HB2 hgx HX0 HX1 HGD
    gi_wp2_with (refine appPlIn (wl := X) rfl (.tmp 8) (.tmp 10) rfl (W0.heap.size + 3) v L (o, e) rfl rfl HOV.out HSX.out _ rfl rfl HLn.out ?_; intro v2 Y ho2 hg2; obtain ⟨A2, cc2, rfl, _, _⟩ := Kp.form ho2; obtain ⟨m2, hm2⟩ : ∃ m2, (L ++ [(o, e)]).length = m2 := ⟨_, rfl⟩; rw [hm2] at ho2; obtain ⟨s1, s2, s3, s4⟩ := step_keepP (M := 3) (by omega) HBX.out HOV.out hg2 ho2; have c3 := s1.cell; have f3 := s1.frozen; have S2 := Lib.hid s2; have S3 := Lib.hid s3; have S4 := Lib.hid s4; have HG2 := Lib.hid hg2; clear s1 s2 s3 s4 ho2 hg2)
    refine ⟨S2.out, ⟨⟨(S4.out _ (by omega) (by omega) HX3.out.lt).trans HX3.out, (S4.out mb (by omega) (by omega) HMB.out).trans HX2.out⟩, HGE.out, S3.out, ?_⟩⟩
    exact (HBL.out.grown HG2.out HBL.out.size fun k e => by have := (HOV.out.lt e).1; omega).setCell (p := ⟨m, 0, none⟩) (by show _ ≤ m; omega) _
  · rintro X ⟨L, hfin, hgd, ⟨v, hbx, hov⟩, hbl⟩ hD
    rw [qs] at hD
    have c2 := hbx.cell
    have HOV := Lib.hid hov
    have HBL := Lib.hid hbl
    clear hbx hov hbl q1 q2 q3 hIt
    go_wp2
    refine ⟨by simp, .inl ⟨_, _, rfl, run_takeDeferred hD, ?_⟩⟩
    refine ⟨_, results_tmp rfl _ _ _, _, L, rfl, ?_, ?_, hgd, hfin⟩
    · refine own_base (own_same HOV.out fun k hk _ => ?_) fun k hk => ?_
      · exact World.putObj_heap_other (by have := (HOV.out.lt hk).1; omega)
      · have := (HOV.out.lt hk).1; omega
    · exact HBL.out.grown (grownBy_putObj' _ _ _) HBL.out.size fun k e => by cases e; omega
theorem Collect_keys {t : Bool} (kb mb n : Nat) (w0 w : World) (kept : Int → Int → Option Mk) (hM : Mp w0 t mb n kept) (hn9 : n ≤ 1000) (h1 : Hid (Boxed w kb 59 (.map (some mb)))) (h2 : Hid (w.heap[mb]? = w0.heap[mb]?)) : Calls Try.prog 48 #[keysV kb] w (NewP w kept n) := by
  have HA := Lib.hid (AppendSeq_keys kb mb n w0 w kept hM hn9 h1 h2)
  unfold keysV at HA ⊢
  go_enter Try.func48, Try.ntmps48
  go_wp2_with (go_at_call 57; refine HA.out.mono ?_; rintro e w' ⟨v, L, rfl, ho, hb, hg, hf⟩; have HGF := Lib.hid (And.intro hg hf); clear hg hf)
  go_ret
  exact ⟨v, L, rfl, ho, hb, HGF.out.1, HGF.out.2⟩
end Go.Proofs.Ytjgdkpgkonnhnaa.Se
