/- The walk of the law StuffWhole. -/
import Derived.Test.YtpnmigfgeieggaaStPartsLaw
import Derived.Test.YtpnmigfgeieggaaStWMath
import Derived.Test.YtpnmigfgeieggaaStApp
namespace Go.Proofs.Ytpnmigfgeieggaa.St
open Go.RowKit
open Go.Proofs.Ytpnmigfgeieggaa.Me Go.Proofs.Ytpnmigfgeieggaa.It
set_option linter.unusedVariables false
attribute [local go_sem] Oper.semAt_some

theorem But.rd {S : Nat → Prop} {w X : World} {B c : Nat} {A : Option Addr} {l : List Nat} (h : But S w X) (hh : Held w B A c l) (hS : ∀ b, B ≤ b → ¬ S b) : Rd X X.heap.size A l :=
  ⟨hh.1, fun hl => by
    obtain ⟨b, e, h1, h2, hc⟩ := hh.2.1 hl
    refine ⟨b, 0, e, Nat.lt_of_lt_of_le h2 h.size, fun i hi => ?_⟩
    rw [Nat.zero_add]
    exact (World.cell?_of_block (w := w) (a := ⟨b, i, none⟩) (h.same b h2 (hS b h1))).trans (hc i hi)⟩
theorem all_lt {zs : List Nat} (h : ∀ z ∈ zs, z < 256) (k : Nat) : ∀ z ∈ allTo zs k, z < 256 := fun z hz => h z (List.mem_of_mem_take hz)
/-- A slice of newer blocks is none of an elder one's. -/
theorem newer {w : World} {b T n : Nat} {v v' : Value} {xs : List Value} (h : w.ownsRow b T 1 v n xs) (hb : ∀ k, v'.ownBlock = some k → k < b) : v.ownBlock = none ∨ v.ownBlock ≠ v'.ownBlock := by
  cases hv : v.ownBlock with
  | none => exact .inl rfl
  | some g => exact .inr (fun e => by have h1 := (h.lt _ hv).1; have := hb g e.symm; omega)
theorem not_own {w : World} {b B T n : Nat} {v : Value} {xs : List Value} (h : w.ownsRow B T 1 v n xs) (hb : b < B) : some b ≠ v.ownBlock := fun e => by
  have := (h.lt b e.symm).1
  omega
/-- A box is stored into behind a step that turned nothing but a block of one's own. -/
theorem store_one {S : Nat → Prop} {w3 X X1 : World} {ba bn B : Nat} {ta tn : TypeId} {v0 v nv : Value} {l : List Nat} {row : Option Nat} (hX : But S w3 X) (hS : S ba) (ha : ba < w3.heap.size) (hne : bn ≠ ba) (hB : w3.heap.size ≤ B)
    (hg : X.grownBy X1 row) (hrow : ∀ r, row = some r → B ≤ r) (hM : w3.heap.size + (2 + 5) ≤ B) (k1 : Boxed X1 ba ta v0) (k2 : Boxed X1 bn tn nv) (ho : Me.Own X1 B v l) :
    But S w3 (X1.setCell ⟨ba, 0, none⟩ v) ∧ KeepR w3.heap.size (2 + 5) X (X1.setCell ⟨ba, 0, none⟩ v) ∧ Boxed (X1.setCell ⟨ba, 0, none⟩ v) ba ta v ∧ Boxed (X1.setCell ⟨ba, 0, none⟩ v) bn tn nv ∧ Me.Own (X1.setCell ⟨ba, 0, none⟩ v) B v l := by
  refine ⟨(hX.grown hg (fun r e => .inr (by have := hrow r e; omega))).grown (grownBy_setCell' X1 ba v) (fun r e => by cases e; exact .inl hS), ?_, k1.set v, k2.other hne v, own_kept ho (grownBy_setCell' X1 ba v) (fun r e => by cases e; omega)⟩
  exact (KeepR.of_grown hg fun r e => .inr (by have := hrow r e; omega)).trans (KeepR.of_grown (grownBy_setCell' X1 ba v) fun r e => by cases e; exact .inl ha)
theorem grown_alloc {X X1 : World} {o : Obj} {row : Option Nat} (h : (X.alloc o).grownBy X1 row) : X.grownBy X1 row :=
  ⟨h.os, h.tape, h.output, Nat.le_trans (by simp) h.size, fun b hb hne => (h.block b (by simp; omega) hne).trans (Below.heap_alloc X o b hb)⟩
theorem line_pre (ls : List (List Nat)) (j : Nat) : (lineL (ls.take j)).length ≤ (lineL ls).length := by
  conv => rhs; rw [← List.take_append_drop j ls, line_append, List.length_append]
  omega
theorem row_len {ls : List (List Nat)} {k : Nat} (h : k < ls.length) : (lsAt ls k).length ≤ ls.flatten.length := by
  have h1 := flat_len ls (k + 1)
  rw [flat_step h, List.length_append] at h1
  omega
set_option maxRecDepth 100000 in
set_option maxHeartbeats 8000000 in
theorem whole {H : Type} (A : Option Addr) (len cap : Nat) (z : List Nat) (Al : Option Addr) (lenl capl : Nat) (ls : List (List Nat)) (w : World) {d : DataW H} (w0 : BySlice w A len cap z) (c0 : cap ≤ 1048576)
    (w1 : lenl = ls.length ∧ lenl ≤ 9223372036854775807 ∧ Me.Lst w w.heap.size Al ls ∧ Me.Nils w Al ls ∧ ls.flatten.length + ls.length ≤ Rows.uptoBulk d) (c1 : Rows.uptoBulk d ≤ 1048576) :
    Calls Try.prog 9 #[.slice A len cap, .slice Al lenl capl] w fun e w' => e = .returned (.bool true) ∧ Below w.heap.size w w' := by
  obtain ⟨rfl, h1, h2, h3, hA⟩ := w0
  obtain ⟨rfl, l1, hlst, hnil, l2⟩ := w1
  have HA := Lib.hid hA
  have HR := Lib.hid h3
  have HLst := Lib.hid hlst
  have HNil := Lib.hid hnil
  have hzb := h3.1
  have hlb : z.length ≤ 1048576 := by omega
  have hll : ls.flatten.length + ls.length ≤ 1048576 := by omega
  have kf := func_nil
  have hbA : Hid (Below w.heap.size w ((w.alloc (.cells #[.slice none 0 0] 22)).alloc (.cells #[.int .i64 0] 3))) := below_alloc2 (below_alloc2 (Below.refl _ _))
  have bA0 : Hid (Boxed ((w.alloc (.cells #[.slice none 0 0] 22)).alloc (.cells #[.int .i64 0] 3)) w.heap.size 22 (.slice none 0 0)) := (Boxed.new w _ _).alloc _
  have bN0 : Hid (Boxed ((w.alloc (.cells #[.slice none 0 0] 22)).alloc (.cells #[.int .i64 0] 3)) (w.heap.size + 1) 3 (.int .i64 0)) := by
    have := Boxed.new (w.alloc (.cells #[.slice none 0 0] 22)) 3 (.int .i64 0)
    rwa [World.size_alloc] at this
  have hszA : Hid (((w.alloc (.cells #[.slice none 0 0] 22)).alloc (.cells #[.int .i64 0] 3)).heap.size = w.heap.size + 1 + 1) := by show _ = _; simp
  clear h3 hA hlst hnil
  refine (callsIn_wide (n := 0)).1 (callsIn_of_wp_marks Try.func9 rfl trivial ?_ rfl)
  simp only [Try.ntmps9, List.size_toArray, List.length_cons, List.length_nil, Nat.reduceAdd, Nat.reduceSub, Array.replicate_succ, Array.replicate_zero, List.push_toArray, List.append_toArray, List.nil_append, List.cons_append]
  refine wpIn_wide.2 ?_
  go_wp2_with (go_at_call 16; refine (Parts_any A cap w.heap.size z _ (HR.out.below hbA.out) HA hbA.out.size (by omega)).mono ?_; rintro e w3 ⟨bk, A3, c3, rfl, HX3, HH3, HB3, g3, g4, g5⟩)
  have hb3 : Below (w.heap.size + 1 + 1) ((w.alloc (.cells #[.slice none 0 0] 22)).alloc (.cells #[.int .i64 0] 3)) w3 := by rw [← hszA.out]; exact HB3.out
  have bA3 : Boxed w3 w.heap.size 22 (.slice none 0 0) := (hb3.block _ (by omega)).trans bA0.out
  have bN3 : Boxed w3 (w.heap.size + 1) 3 (.int .i64 0) := (hb3.block _ (by omega)).trans bN0.out
  have bel3 : Below w.heap.size w w3 := hbA.out.trans (hb3.mono (by omega))
  have hh3 : Held w3 (w.heap.size + 1 + 1) A3 c3 z := by rw [← hszA.out]; exact HH3.out
  have hbk : w.heap.size + 1 + 1 ≤ bk := by rw [← hszA.out]; exact g3
  have hw3 : w.heap.size + 1 + 1 ≤ w3.heap.size := by have := HX3.out.lt; omega
  clear bA0 bN0 hszA hb3 HB3 HH3 hbA g3
  refine range_block3 (gf := 21) (lb := #[.pointer (some ⟨bk, 0, none⟩)]) rfl (enters_of Try.func21 (by kernel_rfl) rfl) (parts_iter bk A3 c3 z (by omega) hzb hh3.2.2 g4)
    (fun k X => But (fun b => b = w.heap.size ∨ b = w.heap.size + 1) w3 X ∧ Boxed X (w.heap.size + 1) 3 (.int .i64 ((done z k).length : Int)) ∧ ∃ v, Boxed X w.heap.size 22 v ∧ Me.Own X (w3.heap.size + 2 + 5) v (allTo z k))
    (fun X => False)
    (fun X => But (fun b => b = w.heap.size ∨ b = w.heap.size + 1) w3 X ∧ Boxed X (w.heap.size + 1) 3 (.int .i64 ((done z (z.length + 1)).length : Int)) ∧ ∃ v, Boxed X w.heap.size 22 v ∧ Me.Own X (w3.heap.size + 2 + 5) v z)
    (fun k X Y row h hg hr => ⟨But.abid X Y row h.1 hg hr, h.2.1.kept hg (fun e => by have := hr _ e.symm; omega), by
      obtain ⟨v, q1, q2⟩ := h.2.2
      exact ⟨v, q1.kept hg (fun e => by have := hr _ e.symm; omega), own_kept q2 hg (fun r e => by have := hr r e; omega)⟩⟩)
    (fun _ _ _ h _ _ => h)
    (fun k X h => ⟨(h.1.boxed HX3.out (by omega)).cell, h.1.rd hh3 (fun b hb => by omega)⟩)
    (fun k X hk hc' h => ⟨h.1, by rw [done_skip hc']; exact h.2.1, by rw [all_skip hc']; exact h.2.2⟩)
    (fun B k v X Y r h hg hr => own_kept h hg (fun r' e => by cases e; exact hr))
    ⟨But.refl _ _, bN3, _, bA3, Me.Own.nil _ _⟩
    (fun X h => ⟨h.1, h.2.1, by rw [all_end z] at h; exact h.2.2⟩) (fun X h => h.elim) ?_ ?_
  · intro l' k x X0 W hk hcut hi0 hbW hv0 hs0
    obtain ⟨A6, c6, rfl, q6, q7, _⟩ := Me.Own.held hv0 (seg_lt hzb k)
    clear hbW hv0
    have hdc := done_cut hcut
    have hsl : (done z (k + 1)).length = (done z k).length + 1 := by rw [hdc]; simp
    have hsb := seg_lt hzb k
    have hrl : (seg z k).length ≤ 1048576 := by rw [seg_length (by omega)]; omega
    have hal := all_len z k
    have hab := all_lt hzb k
    have hnl := done_le z k
    have hfp := frm_pos z k
    gi_wp2
    refine ⟨trivial, ?_⟩
    rintro X hgX hv
    obtain ⟨hX0, hn0, va, hba0, hoa0⟩ := hi0
    have hX : But (fun b => b = w.heap.size ∨ b = w.heap.size + 1) w3 X := But.abid (M := 7) X0 X _ hX0 hgX (fun r e => by cases e; omega)
    have hn : Boxed X (w.heap.size + 1) 3 (.int .i64 ((done z k).length : Int)) := hn0.kept hgX (by simp; omega)
    have hba : Boxed X w.heap.size 22 va := hba0.kept hgX (by simp; omega)
    have hoa : Me.Own X (w3.heap.size + 2 + 5) va (allTo z k) := own_kept hoa0 hgX (fun r e => by cases e; omega)
    have hfr : ∀ g, va.ownBlock = some g → g < X0.heap.size := fun g e => (hoa0.lt g e).2
    have hBX : w3.heap.size + 2 + 5 ≤ X.heap.size := Nat.le_trans hs0 hgX.size
    obtain ⟨Aa, ca, rfl, q8, q9, hha⟩ := Me.Own.held hoa hab
    have hx6 := newer hv hfr
    have HOA := Lib.hid hoa
    have HV := Lib.hid hv
    have HX := Lib.hid hX
    have HBA := Lib.hid hba
    have HN := Lib.hid hn
    have HX6 := Lib.hid hx6
    obtain ⟨_, _, e6, _, _, hh6⟩ := Me.Own.held hv hsb
    cases e6
    have HRX := Lib.hid hh6.rd
    have HNX := Lib.hid hh6.2.2
    clear hh6
    have HV7 : Hid (Me.Own X (w3.heap.size + 2 + 5) (.slice A6 (seg z k).length c6) (seg z k)) := own_more hv hs0
    have hac := hba.cell
    have haf := hba.frozen
    have hnc := hn.cell
    have hnf := hn.frozen
    have HSL := Lib.hid hsl
    have HSB := Lib.hid hsb
    have HAB := Lib.hid hab
    rcases Nat.eq_zero_or_pos (frm z k) with hf0 | hfpos
    · have hnz : (done z k).length = 0 := by
        apply Classical.byContradiction
        intro hne
        have := hfp.mpr (by omega)
        omega
      have HALL := Lib.hid (all_first hcut hf0)
      rw [hnz] at hnc HSL
      obtain ⟨al, hald⟩ : ∃ al, allTo z k = al := ⟨_, rfl⟩
      obtain ⟨r, hrd⟩ : ∃ r, seg z k = r := ⟨_, rfl⟩
      rw [hald] at HOA hac hal HALL HAB HX6
      rw [hrd] at HV HV7 hrl HALL HSB HX6 HRX HNX
      rw [hrd]
      have HN0 : Hid (Boxed X (w.heap.size + 1) 3 (.int .i64 0)) := by have h := HN.out; rw [hnz] at h; exact h
      clear hoa hv hX hba hn hx6 hX0 hn0 hba0 hoa0 hfr hha hsl hab hsb hdc hfp hnl hnz HN
      have HFB : Hid (∀ y ∈ al ++ r, y < 256) := fun y hy => (List.mem_append.mp hy).elim (HAB.out y) (HSB.out y)
      gi_wp2_with (gi_at_builtin; refine app8In rfl (.tmp 27) (.tmp 28) rfl (w3.heap.size + 2 + 5) X.heap.size _ al r rfl HOA.out hBX A6 c6 rfl HRX.out HNX.out (by omega) ?_; intro v' X1 ho1 hg1; obtain ⟨A7, c7, rfl, p1, p2, _⟩ := Me.Own.held ho1 HFB.out; have k1 := HBA.out.kept hg1 (not_own HOA.out (by omega)); have k2 := HN0.out.kept hg1 (not_own HOA.out (by omega)); have k3 := k1.cell; have k4 := k1.frozen; have k5 := k2.cell; have k6 := k2.frozen; have HO1 := Lib.hid ho1; have HG1 := Lib.hid hg1; have K1 := Lib.hid k1; have K2 := Lib.hid k2; clear ho1 hg1 k1 k2)
      have hL : (al ++ r).length = al.length + r.length := List.length_append
      rw [hL] at HO1
      obtain ⟨t1, t2, t3, t4, t5⟩ := store_one (S := fun b => b = w.heap.size ∨ b = w.heap.size + 1) (v := .slice A7 (al.length + r.length) c7) HX.out (.inl rfl) (by omega) (by omega) (by omega) HG1.out (fun g e => (HOA.out.lt g e).1) (by omega) K1.out K2.out HO1.out
      have hg4 := grownBy_setCell' (X1.setCell ⟨w.heap.size, 0, none⟩ (.slice A7 (al.length + r.length) c7)) (w.heap.size + 1) (.int .i64 1)
      refine ⟨t2.trans (KeepR.of_grown hg4 fun r e => by cases e; omega), t1.grown hg4 (fun r e => by cases e; exact .inl (.inr rfl)), ?_, _, t3.other (by omega) _, ?_⟩
      · rw [HSL.out]; exact t4.set _
      · rw [HALL.out]; exact own_kept t5 hg4 (fun r e => by cases e; omega)
    · have hnp : 0 < (done z k).length := hfp.mp hfpos
      have HALL := Lib.hid (all_more (by omega) hcut hfpos)
      obtain ⟨n, hnd⟩ : ∃ n, (done z k).length = n := ⟨_, rfl⟩
      obtain ⟨al, hald⟩ : ∃ al, allTo z k = al := ⟨_, rfl⟩
      obtain ⟨r, hrd⟩ : ∃ r, seg z k = r := ⟨_, rfl⟩
      rw [hald] at HOA hac hal HALL HAB HX6
      rw [hrd] at HV HV7 hrl HALL HSB HX6 HRX HNX
      rw [hrd]
      rw [hnd] at hnc HSL HN hnp hnl
      clear hoa hv hX hba hn hx6 hX0 hn0 hba0 hoa0 hfr hha hsl hab hsb hdc hfp hfpos HRX
      have HFA : Hid (∀ y ∈ al ++ [126], y < 256) := fun y hy => (List.mem_append.mp hy).elim (HAB.out y) (fun h => by simp at h; omega)
      have HFB : Hid (∀ y ∈ al ++ [126] ++ r, y < 256) := fun y hy => (List.mem_append.mp hy).elim (HFA.out y) (HSB.out y)
      have hL1 : (al ++ [126]).length = al.length + 1 := by simp
      have HL1 := Lib.hid hL1
      have hnp2 : (0 : Int) < (n : Int) := by omega
      clear hL1
      have hal0 : Below X.heap.size X (X.alloc (.cells #[.int .u8 126] 5)) := (Below.refl _ _).alloc (Nat.le_refl _) _
      have HAL0 := Lib.hid hal0
      clear hal0
      gi_wp2_with (first
        | (gi_at_builtin; refine app8In rfl (.tmp 24) (.tmp 25) rfl (w3.heap.size + 2 + 5) (X.heap.size + 1) _ al [126] rfl (own_below_any HOA.out HAL0.out) (Nat.le_trans hBX HAL0.out.size) (some ⟨X.heap.size, 0, none⟩) 1 rfl (rd_lit (w := X) (r := [126]) (by simp) 5) (fun h => by cases h) (by simp; omega) ?_; intro v' X1 ho1 hg1; obtain ⟨A8, c8, rfl, p1, p2, _⟩ := Me.Own.held ho1 HFA.out; rw [HL1.out] at ho1 ⊢; have hg0 := grown_alloc hg1; have k1 := HBA.out.kept hg0 (not_own HOA.out (by omega)); have k2 := HN.out.kept hg0 (not_own HOA.out (by omega)); have k3 := k1.cell; have k4 := k1.frozen; have k5 := k2.cell; have k6 := k2.frozen; obtain ⟨t1, t2, t3, t4, t5⟩ := store_one (S := fun b => b = w.heap.size ∨ b = w.heap.size + 1) (v := .slice A8 (al.length + 1) c8) HX.out (.inl rfl) (by omega) (by omega) (by omega) hg0 (fun g e => (HOA.out.lt g e).1) (by omega) k1 k2 ho1; have hx1 : Me.Own X1 X0.heap.size (.slice A6 r.length c6) r := (own_below_any HV.out HAL0.out).kept hg1 HX6.out; have hx2 := own_kept hx1 (grownBy_setCell' X1 w.heap.size (.slice A8 (al.length + 1) c8)) (fun r e => by cases e; omega); have hsz1 : X.heap.size ≤ (X1.setCell ⟨w.heap.size, 0, none⟩ (.slice A8 (al.length + 1) c8)).heap.size := t2.size; have T1 := Lib.hid t1; have T2 := Lib.hid t2; have T3 := Lib.hid t3; have T4 := Lib.hid t4; have T5 := Lib.hid t5; have HX2 := Lib.hid hx2; obtain ⟨_, _, e7, _, _, hh7⟩ := Me.Own.held hx2 HSB.out; cases e7; have HRX2 := Lib.hid hh7.rd; clear ho1 hg1 k1 k2 t1 t2 t3 t4 t5 hx1 hx2 hh7 hg0)
        | (gi_at_builtin; refine app8In rfl (.tmp 27) (.tmp 28) rfl (w3.heap.size + 2 + 5) _ _ (al ++ [126]) r rfl T5.out (Nat.le_trans hBX hsz1) A6 c6 rfl HRX2.out HNX.out (by rw [HL1.out]; omega) ?_; intro v' X3 ho3 hg3; obtain ⟨A7, c7, rfl, p3, p4, _⟩ := Me.Own.held ho3 HFB.out; have m1 := T3.out.kept hg3 (not_own T5.out (by omega)); have m2 := T4.out.kept hg3 (not_own T5.out (by omega)); have m3 := m1.cell; have m4 := m1.frozen; have m5 := m2.cell; have m6 := m2.frozen; have HO3 := Lib.hid ho3; have HG3 := Lib.hid hg3; have M1 := Lib.hid m1; have M2 := Lib.hid m2; clear ho3 hg3 m1 m2))
      have hL3 : (al ++ [126] ++ r).length = al.length + (r.length + 1) := by simp
      rw [hL3] at HO3
      obtain ⟨t1, t2, t3, t4, t5⟩ := store_one (S := fun b => b = w.heap.size ∨ b = w.heap.size + 1) (v := .slice A7 (al.length + (r.length + 1)) c7) T1.out (.inl rfl) (by omega) (by omega) (by omega) HG3.out (fun g e => (T5.out.lt g e).1) (by omega) M1.out M2.out HO3.out
      have hg4 := grownBy_setCell' (X3.setCell ⟨w.heap.size, 0, none⟩ (.slice A7 (al.length + (r.length + 1)) c7)) (w.heap.size + 1) (.int .i64 ((n : Int) + 1))
      refine ⟨(T2.out.trans t2).trans (KeepR.of_grown hg4 fun r e => by cases e; omega), t1.grown hg4 (fun r e => by cases e; exact .inl (.inr rfl)), ?_, _, t3.other (by omega) _, ?_⟩
      · have hnn : ((done z (k + 1)).length : Int) = (n : Int) + 1 := by rw [HSL.out]; rfl
        rw [hnn]; exact t4.set _
      · rw [HALL.out]; exact own_kept t5 hg4 (fun r e => by cases e; omega)
  · rintro X ⟨hX, hn, va, hba, hoa⟩ hD
    obtain ⟨Aa, ca, rfl, q8, q9, hha⟩ := Me.Own.held hoa hzb
    have hnp := done_pos z
    obtain ⟨n, hnd⟩ : ∃ n, (done z (z.length + 1)).length = n := ⟨_, rfl⟩
    rw [hnd] at hn hnp
    have gB : Below w.heap.size w X := bel3.trans (hX.below (by omega) fun b hb => by omega)
    have hac := hba.cell
    have hnc := hn.cell
    have hnz : ((n : Int) == 0) = false := by simp; omega
    have k1 := conv_rd X _ Aa z ca hha.rd hha.2.2
    have k2 := conv_rd X w.heap.size A z cap (HR.out.below gB) HA.out
    have hDX : w3.heap.size < X.heap.size := (Array.getElem?_eq_some_iff.1 hD).1
    have GB := Lib.hid gB
    have HD := Lib.hid hD
    have HLX := Lib.hid (HLst.out.below gB (Nat.le_refl _))
    have HBs := Lib.hid (Me.Lst.bytes HLst.out)
    have hwX : w.heap.size ≤ X.heap.size := gB.size
    clear hX hn hba hoa hha HX3 bA3 bN3 bel3 hh3 g4 g5 gB hD q8 q9
    have hline := line_len ls
    have HLB : Hid (∀ y ∈ lineL ls, y < 256) := line_lt HBs.out
    go_wp2
    go_loopw [9, 10] (fun v i wr => ∃ k : Nat, k ≤ ls.length ∧ i = .int .i64 k ∧ Me.Own wr X.heap.size v (lineL (ls.take k)) ∧ Below X.heap.size X wr) (fun _ i _ => ls.length - (intOf i).toNat)
    case atStart => exact ⟨0, Nat.zero_le _, rfl, Me.Own.nil _ _, Below.refl _ _⟩
    case round =>
      obtain ⟨k, hk, rfl, hown, hbel⟩ := hrel
      have HO := Lib.hid hown
      have HBE := Lib.hid hbel
      clear hown hbel
      by_cases hlt : k < ls.length
      · obtain ⟨b, off, rfl, hbB, hcs⟩ := (HLX.out.below HBE.out hwX) (by omega)
        obtain ⟨A8, c8, hcell, hlc, hc2, hr⟩ := hcs k hlt
        have hrow := row_len hlt
        have hpre := line_pre ls (k + 1)
        have h2s := stuff_two (lsAt ls k)
        have HSt := Lib.hid (Stuff_any A8 c8 w.heap.size (lsAt ls k) wr hr (Nat.le_trans hwX HBE.out.size) (by omega))
        have hst := line_step hlt
        rw [hst, List.length_append, List.length_append] at hpre
        have HST := Lib.hid hst
        obtain ⟨r, hrd⟩ : ∃ r, lsAt ls k = r := ⟨_, rfl⟩
        rw [hrd] at hcell hlc HSt HST hpre h2s hrow
        obtain ⟨s, hsd⟩ : ∃ s, stuffL r = s := ⟨_, rfl⟩
        obtain ⟨p, hpd⟩ : ∃ p, lineL (ls.take k) = p := ⟨_, rfl⟩
        rw [hsd] at HSt HST hpre h2s
        rw [hpd] at HST HO hpre
        have e126 : ([126] : List Nat).length = 1 := rfl
        rw [e126] at hpre
        clear hcs hr hst e126
        go_wp2_with (first
          | (go_at_call 10; refine HSt.out.mono ?_; rintro e w6 ⟨A9, c9, rfl, q1, q2, HH9, HB9⟩; have HO6 := Lib.hid (own_go HO.out HB9.out); have HB6 : Hid (Below X.heap.size X w6) := HBE.out.trans (HB9.out.mono HBE.out.size))
          | (at_builtin; refine app8 rfl (.tmp 47) (.tmp 52) rfl X.heap.size w6.heap.size _ p s rfl HO6.out HB6.out HB6.out.size A9 c9 rfl HH9.out.rd HH9.out.2.2 (by omega) ?_; intro v7 w7 ho7 hb7 _; have HO7 := Lib.hid ho7; have HB7 := Lib.hid hb7; clear ho7 hb7)
          | (at_builtin; refine app8 rfl (.tmp 53) (.tmp 54) rfl X.heap.size (w7.heap.size + 1) _ (p ++ s) [126] rfl (HO7.out.alloc _) (below_alloc HB7.out) (Nat.le_trans HB7.out.size (by simp)) (some ⟨w7.heap.size, 0, none⟩) 1 rfl (rd_lit (w := w7) (r := [126]) (by simp) 5) (fun h => by cases h) (by simp; omega) ?_; intro v8 w8 ho8 hb8 _; have HO8 := Lib.hid ho8; have HB8 := Lib.hid hb8; clear ho8 hb8))
        go_roundw
        case rel => exact ⟨k + 1, by omega, by go_num, by rw [HST.out]; exact HO8.out, HB8.out⟩
        case measure => simp [intOf]; omega
      · have hkl : k = ls.length := by omega
        rw [hkl, List.take_length] at HO
        obtain ⟨A9, c9, rfl, q1, q2, hh9⟩ := Me.Own.held HO.out HLB.out
        have HPT := Lib.hid (line_parts ls HBs.out)
        obtain ⟨L, hLd⟩ : ∃ L, lineL ls = L := ⟨_, rfl⟩
        rw [hLd] at HO hh9 HPT hline q1 HLB
        rw [hLd]
        have hbP : Hid (Below wr.heap.size wr (wr.alloc (.cells #[.slice none 0 0] 33))) := (Below.refl _ _).alloc (Nat.le_refl _) _
        have bP0 := Boxed.new wr 33 (.slice none 0 0)
        have BP0 := Lib.hid bP0
        have DP := Lib.hid (Parts_any A9 c9 wr.heap.size L (wr.alloc (.cells #[.slice none 0 0] 33)) (hh9.rd.below hbP.out) hh9.2.2 hbP.out.size (by omega))
        clear bP0 hh9 HO
        go_wp2_with (go_at_call 16; refine DP.out.mono ?_; rintro e w5 ⟨bk5, A5, c5, rfl, HX5, HH5, HB5, p3, p4, p5⟩)
        have hszP : (wr.alloc (.cells #[.slice none 0 0] 33)).heap.size = wr.heap.size + 1 := by simp
        have hb5 : Below (wr.heap.size + 1) (wr.alloc (.cells #[.slice none 0 0] 33)) w5 := by rw [← hszP]; exact HB5.out
        have bP5 : Boxed w5 wr.heap.size 33 (.slice none 0 0) := (hb5.block _ (by omega)).trans BP0.out
        have hh5 : Held w5 (wr.heap.size + 1) A5 c5 L := by rw [← hszP]; exact HH5.out
        have hbk5 : wr.heap.size + 1 ≤ bk5 := by rw [← hszP]; exact p3
        have hw5 : wr.heap.size + 1 ≤ w5.heap.size := by have := HX5.out.lt; omega
        have hXr : X.heap.size ≤ wr.heap.size := HBE.out.size
        have bel5 : Below X.heap.size X w5 := HBE.out.trans ((hbP.out.mono hXr).trans (hb5.mono (by omega)))
        have BEL5 := Lib.hid bel5
        clear hszP hb5 HB5 HH5 BP0 hbP DP p3 bel5 HBE
        refine range_block3 (gf := 21) (lb := #[.pointer (some ⟨bk5, 0, none⟩)]) rfl (enters_of Try.func21 (by kernel_rfl) rfl) (parts_iter bk5 A5 c5 L (by omega) HLB.out hh5.2.2 p4)
          (fun k Y => But (fun b => b = wr.heap.size) w5 Y ∧ ∃ v, Boxed Y wr.heap.size 33 v ∧ RowsOf Y (w5.heap.size + 2 + 5) v (done L k))
          (fun Y => False)
          (fun Y => But (fun b => b = wr.heap.size) w5 Y ∧ ∃ v, Boxed Y wr.heap.size 33 v ∧ RowsOf Y (w5.heap.size + 2 + 5) v (ls.map stuffL ++ [[]]))
          (fun k Y Z row h hg hr => ⟨But.abid Y Z row h.1 hg hr, by
            obtain ⟨v, q1, q2⟩ := h.2
            exact ⟨v, q1.kept hg (fun e => by have := hr _ e.symm; omega), q2.kept hg (fun r e => by have := hr r e; omega)⟩⟩)
          (fun _ _ _ h _ _ => h)
          (fun k Y h => ⟨(h.1.boxed HX5.out (by omega)).cell, h.1.rd hh5 (fun b hb => by omega)⟩)
          (fun k Y hk hc' h => ⟨h.1, by rw [done_skip hc']; exact h.2⟩)
          (fun B k v Y Z r h hg hr => own_kept h hg (fun r' e => by cases e; exact hr))
          ⟨But.refl _ _, _, bP5, RowsOf.nil _ _⟩
          (fun Y h => ⟨h.1, by rw [← HPT.out]; exact h.2⟩) (fun Y h => h.elim) ?_ ?_
        · intro l' k' x Y0 W hk' hcut hi0 hbW hv0 hs0
          obtain ⟨A6, c6, rfl, q6, q7, _⟩ := Me.Own.held hv0 (seg_lt HLB.out k')
          clear hbW hv0
          have HDC := Lib.hid (done_cut hcut)
          have hsb := seg_lt HLB.out k'
          have hnl := done_le L k'
          have hdb := done_lt HLB.out k'
          gi_wp2
          refine ⟨trivial, ?_⟩
          rintro Y hgY hv
          obtain ⟨hY0, va, hba0, hoa0⟩ := hi0
          have hY : But (fun b => b = wr.heap.size) w5 Y := But.abid (M := 7) Y0 Y _ hY0 hgY (fun r e => by cases e; omega)
          have hba : Boxed Y wr.heap.size 33 va := hba0.kept hgY (by simp; omega)
          have hoa : RowsOf Y (w5.heap.size + 2 + 5) va (done L k') := hoa0.kept hgY (fun r e => by cases e; omega)
          have hBY : w5.heap.size + 2 + 5 ≤ Y.heap.size := Nat.le_trans hs0 hgY.size
          obtain ⟨Aa', ca', rfl, q8', _⟩ := hoa.form hdb
          have HV7 : Hid (Me.Own Y (w5.heap.size + 2 + 5) (.slice A6 (seg L k').length c6) (seg L k')) := own_more hv hs0
          have HOA := Lib.hid hoa
          have HY := Lib.hid hY
          have HBA := Lib.hid hba
          have hac := hba.cell
          have haf := hba.frozen
          have HSB := Lib.hid hsb
          have HDB := Lib.hid hdb
          obtain ⟨ps, hpsd⟩ : ∃ ps, done L k' = ps := ⟨_, rfl⟩
          obtain ⟨r, hrd⟩ : ∃ r, seg L k' = r := ⟨_, rfl⟩
          rw [hpsd] at HOA hac HDC HDB hnl
          rw [hrd] at HV7 HDC HSB
          rw [hrd]
          clear hv hY hba hoa hY0 hba0 hoa0 hsb hdb
          have HPB : Hid (∀ y ∈ ps ++ [r], ∀ u ∈ y, u < 256) := fun y hy => (List.mem_append.mp hy).elim (HDB.out y) (fun h => by simp at h; subst h; exact HSB.out)
          gi_wp2_with (gi_at_builtin; refine appRIn rfl (.tmp 62) (.tmp 64) rfl (w5.heap.size + 2 + 5) _ ps r A6 c6 rfl Y rfl HOA.out HV7.out hBY rfl (by omega) ?_; intro v' Y1 ho1 hg1 hlow; obtain ⟨A7, c7, rfl, _, _⟩ := ho1.form HPB.out; have hg0 := grown_alloc hg1; have k1 := HBA.out.kept hg0 (fun e => by have := hlow _ e.symm; omega); have k3 := k1.cell; have k4 := k1.frozen; have HO1 := Lib.hid ho1; have HG0 := Lib.hid hg0; have K1 := Lib.hid k1; have HLOW := Lib.hid hlow; clear ho1 hg1 k1 hg0 hlow)
          have hL : (ps ++ [r]).length = ps.length + 1 := by simp
          rw [hL] at HO1
          have hg4 := grownBy_setCell' Y1 wr.heap.size (.slice A7 (ps.length + 1) c7)
          refine ⟨(KeepR.of_grown HG0.out fun r e => .inr (by have := HLOW.out r e; omega)).trans (KeepR.of_grown hg4 fun r e => by cases e; omega), (HY.out.grown HG0.out (fun r e => .inr (by have := HLOW.out r e; omega))).grown hg4 (fun r e => by cases e; exact .inl rfl), _, K1.out.set _, ?_⟩
          rw [HDC.out]
          exact HO1.out.kept hg4 (fun r e => by cases e; omega)
        · rintro Y ⟨hY, vp, hbp, hop⟩ hD2
          have hpsb : ∀ r ∈ ls.map stuffL ++ [[]], ∀ y ∈ r, y < 256 := fun r hr => by
            rcases List.mem_append.mp hr with hr | hr
            · obtain ⟨q, hq, rfl⟩ := List.mem_map.mp hr
              exact stuff_lt (HBs.out q hq)
            · simp at hr; subst hr; simp
          have hN : (ls.map stuffL ++ [[]]).length = ls.length + 1 := by simp
          obtain ⟨Ap, cp, rfl, qp, hrows⟩ := hop.form hpsb
          rw [hN] at hbp hrows qp
          have hlast : lsAt (ls.map stuffL ++ [[]]) ls.length = [] := by
            have := lsAt_append_last (ls.map stuffL) []
            rwa [List.length_map] at this
          have hat : ∀ j, j < ls.length → lsAt (ls.map stuffL ++ [[]]) j = stuffL (lsAt ls j) := fun j hj => by
            rw [lsAt_append_left (by simpa using hj)]
            simp [lsAt, hj]
          obtain ⟨g, A0, cc0, rfl, hg, hcl, _⟩ := hrows ls.length (by omega)
          rw [hlast] at hcl
          have hcl0 : Y.cell? ⟨g, ls.length, none⟩ = some (.slice A0 0 cc0) := hcl
          have GY : Below X.heap.size X Y := BEL5.out.trans (hY.below (by omega) fun b e => by omega)
          have hpc := hbp.cell
          have yD : Y.heap[w3.heap.size]? = some (.deferred (some [])) := (GY.block _ hDX).trans HD.out
          have yB : Below w.heap.size w Y := GB.out.trans (GY.mono hwX)
          have HROWS := Lib.hid hrows
          have HAT := Lib.hid hat
          have YD := Lib.hid yD
          have YB := Lib.hid yB
          have HD2 := Lib.hid hD2
          have HBP := Lib.hid hbp
          have hlt3 : w3.heap.size < Y.heap.size := (Array.getElem?_eq_some_iff.1 yD).1
          have hlt5 : w5.heap.size < Y.heap.size := (Array.getElem?_eq_some_iff.1 hD2).1
          have hne35 : w3.heap.size < w5.heap.size := by omega
          clear hcl hop hrows hat hY hD2 yD yB hbp hlast hpsb hN BEL5 HX5 bP5 hh5 HPT
          obtain ⟨pb, hpb⟩ : ∃ pb, wr.heap.size = pb := ⟨_, rfl⟩
          rw [hpb] at HBP hpc ⊢
          go_wp2
          go_loopw [13] (fun i wq => ∃ k : Nat, k ≤ ls.length ∧ i = .int .i64 k ∧ Below Y.heap.size Y wq) (fun i _ => ls.length - (intOf i).toNat)
          case atStart => exact ⟨0, Nat.zero_le _, rfl, Below.refl _ _⟩
          case round =>
            obtain ⟨j, hj, rfl, hbq⟩ := hrel
            have HBQ := Lib.hid hbq
            have hpq := ((hbq.cell (p := ⟨pb, 0, none⟩) HBP.out.lt).trans HBP.out.cell)
            clear hbq
            by_cases hlt : j < ls.length
            · obtain ⟨g2, A7, c7, e2, hg2, hc7, hh7⟩ := HROWS.out j (by omega)
              cases e2
              rw [HAT.out j hlt] at hc7 hh7
              have hc7q := (HBQ.out.cell (p := ⟨g, j, none⟩) hg2).trans hc7
              have hrow := row_len hlt
              have h2s := stuff_two (lsAt ls j)
              have hmem : lsAt ls j ∈ ls := by simp [lsAt, hlt]
              have U := Unstuff_any A7 c7 wr.heap.size (stuffL (lsAt ls j)) wr (hh7.below HBQ.out).rd (Nat.le_refl _) (by omega)
              rw [unstuff_stuff (HBs.out _ hmem)] at U
              have HU := Lib.hid U
              -- the list's own row, at each later world
              have hl8 : ∀ w6, Below Y.heap.size Y w6 → ∃ b off A8 c8, Al = some ⟨b, off, none⟩ ∧ w6.cell? ⟨b, off + j, none⟩ = some (.slice A8 (lsAt ls j).length c8) ∧ (convert 22 9 (.slice A8 (lsAt ls j).length c8)).run Try.prog w6 = .ok (.string (strOf (lsAt ls j))) w6 := by
                intro w6 h6
                have b6 : Below w.heap.size w w6 := YB.out.trans (h6.mono YB.out.size)
                obtain ⟨b, off, e, hbB, hcs⟩ := HLst.out (by omega)
                obtain ⟨A8, c8, hcell, hlc, hc2, hr⟩ := hcs j hlt
                refine ⟨b, off, A8, c8, e, (b6.cell (p := ⟨b, off + j, none⟩) hbB).trans hcell, conv_rd w6 _ A8 _ c8 (hr.below b6) ?_⟩
                rintro rfl
                exact HNil.out b off e j hlt _ _ hcell
              have HL8 := Lib.hid hl8
              obtain ⟨b, off, A8, c8, rfl, hc8, _⟩ := hl8 wr HBQ.out
              obtain ⟨r, hrd⟩ : ∃ r, lsAt ls j = r := ⟨_, rfl⟩
              rw [hrd] at hc7q HU hc8 HL8 hrow
              obtain ⟨s, hsd⟩ : ∃ s, stuffL r = s := ⟨_, rfl⟩
              rw [hsd] at hc7q HU
              clear hl8 U hh7 hc7 hmem h2s
              go_wp2_with (go_at_call 14; refine HU.out.mono ?_; rintro e w6 ⟨A9', c9', rfl, q1', q2', HH9, HB9⟩)
              have b6 : Below Y.heap.size Y w6 := HBQ.out.trans (HB9.out.mono HBQ.out.size)
              have hcq : ∀ m, (convert 22 9 (.slice A9' r.length c9')).run Try.prog (w6.drewN m) = .ok (.string (strOf r)) (w6.drewN m) := fun m =>
                conv_rd (w6.drewN m) _ A9' r c9' (HH9.out.rd.below (below_drewN (Below.refl _ w6) m)) HH9.out.2.2
              obtain ⟨b', off', A8', c8', e', hc8', _⟩ := HL8.out w6 b6
              cases e'
              have hcl8 : ∀ m, (convert 22 9 (.slice A8' r.length c8')).run Try.prog (w6.drewN m) = .ok (.string (strOf r)) (w6.drewN m) := fun m => by
                obtain ⟨b2, off2, A2', c2', e2, hc2', hv2⟩ := HL8.out (w6.drewN m) (below_drewN b6 m)
                cases e2
                have h3 : (w6.drewN m).cell? ⟨b, off + j, none⟩ = w6.cell? ⟨b, off + j, none⟩ := rfl
                rw [h3, hc8'] at hc2'
                simp only [Option.some.injEq, Value.slice.injEq] at hc2'
                obtain ⟨rfl, _, rfl⟩ := hc2'
                exact hv2
              have B6 := Lib.hid b6
              clear b6 hc8 hc7q hpq HH9 HB9
              go_quiet (fail)
              go_wp2
              go_roundw
              case rel => exact ⟨j + 1, by omega, by go_num, below_drewN B6.out _⟩
              case measure => simp [intOf]; omega
            · have AW := Lib.hid (awake_any wr)
              go_wp2_with (go_at_call 13; refine AW.out.mono ?_; rintro e Z ⟨rfl, hZ⟩)
              have hZY : Below Y.heap.size Y Z := HBQ.out.trans (hZ.mono HBQ.out.size)
              have z1 : Z.heap[w5.heap.size]? = some (.deferred (some [])) := (hZY.block _ hlt5).trans HD2.out
              have z2 : (Z.putObj w5.heap.size (.deferred none)).heap[w3.heap.size]? = some (.deferred (some [])) := (World.putObj_heap_other (by omega)).trans ((hZY.block _ hlt3).trans YD.out)
              refine ⟨by simp, .inl ⟨_, _, rfl, run_takeDeferred z1, ?_⟩⟩
              refine ⟨by simp, .inl ⟨_, _, rfl, run_takeDeferred z2, ?_⟩⟩
              have k0 : Below w.heap.size w Z := YB.out.trans (hZY.mono YB.out.size)
              have k1 := k0.grown (grownBy_putObj' _ w5.heap.size (.deferred none)) k0.size (fun k e => by cases e; omega)
              have k2 := k1.grown (grownBy_putObj' _ w3.heap.size (.deferred none)) k1.size (fun k e => by cases e; omega)
              exact ⟨_, results_tmp rfl _ _ _, rfl, k2⟩
end Go.Proofs.Ytpnmigfgeieggaa.St
