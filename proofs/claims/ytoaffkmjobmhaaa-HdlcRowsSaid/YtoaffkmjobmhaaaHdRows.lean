/- The walk of the law HdlcRows. -/
import Derived.Test.YtoaffkmjobmhaaaHdInts
import Derived.Test.YtoaffkmjobmhaaaHdFinds
namespace Go.Proofs.Ytoaffkmjobmhaaa.Hd
open Go.RowKit
open Go.Proofs.Ytoaffkmjobmhaaa.Me Go.Proofs.Ytoaffkmjobmhaaa.St
open Go.Proofs.Ytoaffkmjobmhaaa.Cr (addL rightB)
set_option linter.unusedVariables false
set_option linter.unusedSimpArgs false

/-- A slice of one's own, whose elements are slices that lay in w0 with these bytes. -/
def Wnt (w0 : World) (W : World) (v : Value) (ps : List (List Nat)) : Prop :=
  ∃ vs : List Value, W.ownsRow w0.heap.size 22 1 v ps.length vs ∧ vs.length = ps.length ∧ ∀ j, j < ps.length → ∃ A c, vs[j]? = some (.slice A (lsAt ps j).length c) ∧ (lsAt ps j).length ≤ c ∧ c ≤ 9223372036854775807 ∧ Rd w0 w0.heap.size A (lsAt ps j) ∧ (A = none → (lsAt ps j).length = 0 ∧ c = 0)
theorem Wnt.same {w0 W W' : World} {v : Value} {ps : List (List Nat)} (h : Wnt w0 W v ps) (hk : ∀ k, v.ownBlock = some k → k < W.heap.size → W'.heap[k]? = W.heap[k]?) : Wnt w0 W' v ps := by
  obtain ⟨vs, h1, h2, h3⟩ := h
  exact ⟨vs, own_same h1 hk, h2, h3⟩
theorem Wnt.own {w0 W : World} {v : Value} {ps : List (List Nat)} (h : Wnt w0 W v ps) : ∀ k, v.ownBlock = some k → w0.heap.size ≤ k ∧ k < W.heap.size := by
  obtain ⟨vs, h1, h2, h3⟩ := h
  exact fun k hk => h1.lt k hk
theorem Wnt.form {w0 W : World} {v : Value} {ps : List (List Nat)} (h : Wnt w0 W v ps) (hb : Below w0.heap.size w0 W) : ∃ A c, v = .slice A ps.length c ∧ Lst W W.heap.size A ps ∧ Nils W A ps := by
  obtain ⟨vs, h1, h2, h3⟩ := h
  rcases h1.2 with ⟨rfl, e0⟩ | ⟨g, cap, cur, rfl, q2, q3, q4, q5, q6, q7⟩
  · obtain rfl : ps = [] := List.eq_nil_of_length_eq_zero e0
    exact ⟨none, 0, rfl, fun hl => absurd hl (by simp), fun _ _ _ j hj => absurd hj (by simp)⟩
  · have hcell : ∀ j, j < ps.length → ∃ A c, W.cell? ⟨g, 0 + j, none⟩ = some (.slice A (lsAt ps j).length c) ∧ (lsAt ps j).length ≤ c ∧ c ≤ 9223372036854775807 ∧ Rd w0 w0.heap.size A (lsAt ps j) ∧ (A = none → (lsAt ps j).length = 0 ∧ c = 0) := by
      intro j hj
      obtain ⟨A, c, e, h4, h5, h6, h7⟩ := h3 j hj
      refine ⟨A, c, ?_, h4, h5, h6, h7⟩
      rw [Nat.zero_add, h1.cellAt j (by omega)]
      exact e
    refine ⟨some ⟨g, 0, none⟩, cap, rfl, fun hl => ⟨g, 0, rfl, own_lt h1 g rfl, fun j hj => ?_⟩, ?_⟩
    · obtain ⟨A, c, e, h4, h5, h6, h7⟩ := hcell j hj
      exact ⟨A, c, e, h4, h5, (h6.below hb).more hb.size⟩
    · intro b off e j hj n c hc
      simp only [Option.some.injEq, Addr.mk.injEq, and_true] at e
      obtain ⟨rfl, rfl⟩ := e
      obtain ⟨A, c', e', h4, h5, h6, h7⟩ := hcell j hj
      rw [hc] at e'
      simp only [Option.some.injEq, Value.slice.injEq] at e'
      obtain ⟨rfl, rfl, rfl⟩ := e'
      exact h7 rfl
/-- One slice that came in appended. -/
theorem appW {w0 wl w : World} {ops : Array Oper} {rest : List Oper} {o : Oper} {a : Act} {Q : Exit → Act → World → Prop} (hgd : o.guard = none) (s x : Operand)
    (ho : o.op = .call { callee := .builtin .append, args := #[s, x], argTypes := #[28, 28] })
    (v : Value) (ps : List (List Nat)) (r : List Nat) (A : Option Addr) (n c : Nat) (hn : n = r.length) (hs : a.eval s = v) (hw : w = wl.alloc (.cells #[.slice A n c] 22)) (hrows : Wnt w0 wl v ps) (hb : Below w0.heap.size w0 wl)
    (h1 : r.length ≤ c) (h2 : c ≤ 9223372036854775807) (h3 : Rd w0 w0.heap.size A r) (h4 : A = none → r.length = 0 ∧ c = 0) (g : Nat) (hgs : g = wl.heap.size) (hx : a.eval x = .slice (some ⟨g, 0, none⟩) 1 1) (hlen : (ps.length + 1) * 24 ≤ 140737488355328)
    (h : ∀ v' w', Wnt w0 w' v' (ps ++ [r]) → wl.grownBy w' v.ownBlock → (∀ k, v.ownBlock = some k → w0.heap.size ≤ k) → wpList Try.prog ops Q rest (a.put o.dst v') w') : wpList Try.prog ops Q (o :: rest) a w := by
  obtain ⟨i0, hi, hz0, hz1, hz2⟩ := info_parts info24
  subst hn hgs
  have hba : Below wl.heap.size wl w := by rw [hw]; exact (Below.refl _ _).alloc (Nat.le_refl _) _
  obtain ⟨vs, k1, k2, k3⟩ := hrows.same fun k _ hk => hba.block k hk
  refine wpList_append_own w hgd s x 28 ho w0.heap.size 22 i0 (.slice none 0 0) 1 24 Try.underlying28 hi hz0 hz1 hz2 rfl (by decide) v ps.length vs hs k1 ⟨wl.heap.size, 0, none⟩ 1 1 [.slice A r.length c] hx rfl
    (by
      intro j u hj
      rw [hw]
      have : j = 0 := by
        apply Classical.byContradiction
        intro hn
        rw [List.getElem?_eq_none (by simp; omega)] at hj; cases hj
      subst this
      have e : (⟨wl.heap.size, 0, none⟩ : Addr).add 0 = ⟨wl.heap.size, 0, none⟩ := by unfold Addr.add; split <;> simp_all
      rw [e, cell_of_row _ wl.heap.size 0 _ 22 (0, 0) (heap_alloc_new wl _)]
      simpa using hj)
    (by simp [Value.oneCell']) (by unfold maxLen; omega) hlen (Nat.le_trans hb.size hba.size) ?_
  intro v' w' q1 q2 _
  have hg2 : wl.grownBy w' v.ownBlock := ⟨q2.os.trans hba.os, q2.tape.trans hba.tape, q2.output.trans hba.output, Nat.le_trans hba.size q2.size, fun b hb' hne => (q2.block b (Nat.lt_of_lt_of_le hb' hba.size) hne).trans (hba.block b hb')⟩
  refine h v' w' ⟨vs ++ [.slice A r.length c], by simpa using q1, by simp [k2], fun j hj => ?_⟩ hg2 fun k hk => (k1.lt k hk).1
  simp only [List.length_append, List.length_singleton] at hj
  by_cases hlt : j < ps.length
  · obtain ⟨A', c', e, h8⟩ := k3 j hlt
    rw [lsAt_append_left hlt]
    exact ⟨A', c', by rw [List.getElem?_append_left (by omega)]; exact e, h8⟩
  · obtain rfl : j = ps.length := by omega
    rw [lsAt_append_right hlt]
    exact ⟨A, c, by rw [← k2]; simp [lsAt], by simpa [lsAt] using h1, h2, by simpa [lsAt] using h3, by simpa [lsAt] using h4⟩
/-- How many further flags: none, or as many as the number says, at most three. -/
def flN (fl : List Int) (k : Nat) : Nat := if k < fl.length then min 3 (fl.getD k 0).toNat else 0
/-- Is one flag to serve both? -/
def flO (fl : List Int) (k : Nat) : Bool := decide (k < fl.length) && decide (fl.getD k 0 = 0)
theorem flO_none {fl : List Int} {k : Nat} (h : flO fl k = true) : flN fl k = 0 := by
  simp only [flO, Bool.and_eq_true, decide_eq_true_eq] at h
  unfold flN
  rw [if_pos h.1, h.2]; rfl
theorem want_bytes {want : List (List Nat)} {c : List Nat} (h : ∀ r ∈ want, ∀ z ∈ r, z < 256) (hc : ∀ z ∈ c, z < 256) : ∀ r ∈ want ++ [c], ∀ z ∈ r, z < 256 := fun r hr => by
  rcases List.mem_append.mp hr with h' | h'
  · exact h r h'
  · simp at h'; subst h'; exact hc
theorem line_lt {line : List Nat} {n : Nat} {fr : List Nat} (h : ∀ z ∈ line, z < 256) (hf : ∀ z ∈ fr, z < 256) : ∀ z ∈ line ++ List.replicate n 126 ++ fr, z < 256 := fun z hz => by
  simp only [List.mem_append, List.mem_replicate] at hz
  rcases hz with (hz | ⟨_, rfl⟩) | hz
  · exact h z hz
  · decide
  · exact hf z hz
theorem rows_ne {w0 W : World} {v u : Value} {ps : List (List Nat)} {B : Nat} {l : List Nat} (h : Wnt w0 W v ps) (ho : Me.Own W B u l) {j : Nat} (hj : v.ownBlock = some j) : some j ≠ u.ownBlock := by
  obtain ⟨vs, h1, _, _⟩ := h
  rcases two_types h1 ho (by decide) with h' | h'
  · rw [hj] at h'; cases h'
  · rw [← hj]; exact h'
theorem lst_but {W W3 : World} {D : Nat} {A : Option Addr} {ps : List (List Nat)} {d : Dec} {v : Value} (hL : Lst W W.heap.size A ps) (hN : Nils W A ps) (hD : Dblk W D d v) (hv : ∃ a n c, v = .slice a n c) (hb : But (fun j => j = D ∨ (Value.slice none 0 0).ownBlock = some j) W W3) (hA : ∀ a, A = some a → a.block ≠ D) : Lst W3 W3.heap.size A ps ∧ Nils W3 A ps := by
  have hcell : ∀ b off, A = some ⟨b, off, none⟩ → b < W.heap.size → ∀ i, W3.cell? ⟨b, i, none⟩ = W.cell? ⟨b, i, none⟩ := fun b off e hlt i =>
    World.cell?_of_block (a := ⟨b, i, none⟩) (hb.same b hlt fun hs => by
      rcases hs with hs | hs
      · exact hA _ e hs
      · cases hs)
  refine ⟨fun hl => ?_, fun b off e j hj n c hc => ?_⟩
  · obtain ⟨b, off, e, hlt, hc⟩ := hL hl
    refine ⟨b, off, e, Nat.lt_of_lt_of_le hlt hb.size, fun j hj => ?_⟩
    obtain ⟨R, c, h1, h2, h3, h4⟩ := hc j hj
    refine ⟨R, c, (hcell b off e hlt _).trans h1, h2, h3, ?_⟩
    by_cases hp : 0 < (lsAt ps j).length
    · exact hb.rd h4 fun a ha hs => by
        rcases hs with hs | hs
        · exact hD.not_rd hv h4 hp a ha hs
        · cases hs
    · exact ⟨h4.1, fun h => absurd h hp⟩
  · obtain ⟨b', off', e', hlt, _⟩ := hL (by omega)
    rw [e] at e'
    simp only [Option.some.injEq, Addr.mk.injEq, and_true] at e'
    obtain ⟨rfl, rfl⟩ := e'
    rw [hcell b off e hlt] at hc
    exact hN b off e j hj n c hc
theorem own_some {W : World} {B n c : Nat} {A : Option Addr} {l : List Nat} (h : Me.Own W B (.slice A n c) l) (hp : 0 < l.length) : ∃ g, A = some ⟨g, 0, none⟩ := by
  obtain ⟨g, c', e, _, _⟩ := h.form hp
  injection e with e1 _ _
  exact ⟨g, e1⟩
theorem line_ne {w0 W : World} {v u : Value} {ps : List (List Nat)} {B : Nat} {l : List Nat} (h : Wnt w0 W v ps) (ho : Me.Own W B u l) : u.ownBlock = none ∨ u.ownBlock ≠ v.ownBlock := by
  obtain ⟨vs, h1, _, _⟩ := h
  exact two_types ho h1 (by decide)
set_option maxRecDepth 100000 in
set_option maxHeartbeats 4000000 in
theorem rowsL {H : Type} (Al : Option Addr) (lenl capl : Nat) (ls : List (List Nat)) (Af : Option Addr) (lenf capf : Nat) (fl : List Int) (w : World) {d : DataW H} (w0 : lenl = ls.length ∧ lenl ≤ 9223372036854775807 ∧ Me.Lst w w.heap.size Al ls ∧ Me.Nils w Al ls ∧ ls.flatten.length + ls.length ≤ Rows.uptoBulk d) (w1 : IntsIn w Af lenf fl) :
    Calls Try.prog 7 #[.slice Al lenl capl, .slice Af lenf capf] w fun e w' => e = .returned (.bool true) ∧ Below w.heap.size w w' := by
  obtain ⟨rfl, hll, hlst, hnil, _⟩ := w0
  obtain ⟨rfl, hfl, hfb, hfc⟩ := w1
  have HL := Lib.hid hlst
  have HNl := Lib.hid hnil
  have HFC := Lib.hid hfc
  have HFB := Lib.hid hfb
  have HN := Lib.hid (New_any w)
  clear hlst hnil hfc hfb
  go_enter Try.func7, Try.ntmps7
  go_wp2_with (go_at_call 13; refine HN.out.mono ?_; rintro e w1 ⟨rfl, hd1, hb1⟩)
  have hz1 := hb1.out.size
  have HW1 : Hid (Wnt w1 (w1.alloc (.cells #[] 22)) (.slice (some ⟨w1.heap.size, 0, none⟩) 0 0) []) := ⟨[], World.ownsRow_made w1 #[] 0 (Nat.le_refl _) (by unfold maxLen; omega) rfl, rfl, fun j hj => absurd hj (by simp)⟩
  have HB1 : Hid (Below w1.heap.size w1 (w1.alloc (.cells #[] 22))) := below_alloc (Below.refl _ _)
  go_loopw [6, 7, 8] (fun v u i wr => ∃ (k : Nat) (line : List Nat) (want : List (List Nat)), k ≤ ls.length ∧ k ≤ 30 ∧ i = .int .i64 k ∧ Rows rightB line want ∧ (∀ z ∈ line, z < 256) ∧ (∀ r ∈ want, ∀ z ∈ r, z < 256) ∧ line.length ≤ 300 * k ∧ want.length ≤ k ∧ Me.Own wr w1.heap.size v line ∧ Wnt w1 wr u want ∧ Below w1.heap.size w1 wr) (fun _ _ i _ => ls.length - (intOf i).toNat)
  case atStart => exact ⟨0, [], [], Nat.zero_le _, by decide, rfl, rows_nil _, by simp, by simp, by simp, by simp, Me.Own.nil _ _, HW1.out, HB1.out⟩
  case round =>
    obtain ⟨k, line, want, hk, h30, rfl, hrows, hlb, hwb, hll2, hwl, hown, hwnt, hbr⟩ := hrel
    have HRW := Lib.hid hrows
    have HLB := Lib.hid hlb
    have HWB := Lib.hid hwb
    have HO := Lib.hid hown
    have HWN := Lib.hid hwnt
    have HBR := Lib.hid hbr
    have HKL := Lib.hid hll2
    have HKW := Lib.hid hwl
    have HBW : Hid (Below w.heap.size w wr) := hb1.out.trans (hbr.mono hz1)
    clear hrows hlb hwb hown hwnt hbr hll2 hwl
    by_cases hlt : k < ls.length ∧ k < 30
    · obtain ⟨hlt, h30'⟩ := hlt
      have hk2 : (k : Int) < 30 := by omega
      obtain ⟨b, off, R, cr, rfl, r1, r2, r3, r4, r5⟩ := row_conv HL.out HNl.out hlt
      have hbb : b < w.heap.size := World.block_lt_of_cell? w _ r1
      have hcell := (HBW.out.cell (p := ⟨b, off + k, none⟩) hbb).trans r1
      obtain ⟨r, hr⟩ : ∃ r, lsAt ls k = r := ⟨_, rfl⟩
      rw [hr] at hcell r1 r2 r4 r5
      have HCL : Hid (∀ W, Below w1.heap.size w1 W → W.cell? ⟨b, off + k, none⟩ = some (.slice R r.length cr)) := fun W hW => ((hb1.out.trans (hW.mono hz1)).cell (p := ⟨b, off + k, none⟩) hbb).trans r1
      have HRB := Lib.hid r4.1
      have HR1 : Hid (Rd w1 w1.heap.size R r) := (r4.below hb1.out).more hz1
      have HRn := Lib.hid r5
      have D := (Encode_any R cr r wr ((r4.below HBW.out).more HBW.out.size) r2 r3).mono fun _ _ h => h.q
      have HM := Lib.hid (rows_more sums HRW.out (flO fl k) (flN fl k) flO_none r4.1)
      clear r1 r4 r5 hbb hr
      cases hf : fits r with
      | false =>
        have e1 : encL r = [] := by unfold encL; rw [hf]; rfl
        have hne : encE r = 2 ∨ encE r = 3 := by
          unfold encE; rw [hf]
          by_cases h0 : r = []
          · left; rw [if_neg (by decide), if_pos h0]
          · right; rw [if_neg (by decide), if_neg h0]
        rw [e1] at D
        have HM2 : Hid (Rows rightB line want) := HRW.out
        rcases hne with hne | hne
        all_goals
          rw [hne] at D
          have HD := Lib.hid D
          go_wp2_with (go_at_call 10; refine HD.out.mono ?_; rintro e w3 ⟨A5, c5, rfl, HO5, HB5⟩)
          go_roundw
          case rel => exact ⟨k + 1, line, want, by omega, by omega, by go_num, HM2.out, HLB.out, HWB.out, by have := HKL.out; omega, by have := HKW.out; omega, own_same HO.out fun j _ hj => HB5.out.block j hj, HWN.out.same fun j _ hj => HB5.out.block j hj, HBR.out.trans (HB5.out.mono HBR.out.size)⟩
          case measure => simp [intOf]; omega
      | true =>
        have e1 : encL r = frameL addL r := if_pos hf
        have e2 : encE r = 0 := if_pos hf
        rw [e1, e2] at D
        have hm := HM.out
        rw [if_pos hf] at hm
        have hlm : lineMore addL line (flO fl k) (flN fl k) r = line ++ List.replicate (flN fl k) 126 ++ (if flO fl k && decide (line ≠ []) then (frameL addL r).drop 1 else frameL addL r) := if_pos hf
        rw [hlm] at hm
        have hfit : r.length ≤ 128 := by simp [fits] at hf; omega
        have hfl2 := frame_len (c := r)
        have h260 := stuffed_len sums (c := r) hfit
        have hfb := frame_lt HRB.out
        have hfp : 2 ≤ (frameL addL r).length := by omega
        have hfn : (frameL addL r).length ≤ 262 := by omega
        obtain ⟨fr, hfr⟩ : ∃ fr, frameL addL r = fr := ⟨_, rfl⟩
        rw [hfr] at D hm hfb hfp hfn
        have HM3 := Lib.hid hm
        have HFRB := Lib.hid hfb
        have HD := Lib.hid D
        have HFN := Lib.hid hfn
        clear D hm hfb hlm e1 e2 hf hfit hfl2 h260 hfr HM hfn
        obtain ⟨A0, c0, rfl, _, _, _⟩ := HO.out.held HLB.out
        by_cases hkf : k < fl.length
        · obtain ⟨bf, of, rfl, hbf, hcf⟩ := HFC.out (by omega)
          have hz9 := HFB.out _ (List.getElem_mem hkf)
          have hgz : fl.getD k 0 = fl[k] := by simp [hkf]
          rw [← hgz] at hz9
          have hcf0 := hcf k hkf
          have HFL : Hid (flN fl k = min 3 (fl.getD k 0).toNat) := if_pos hkf
          have hfo : flO fl k = decide (fl.getD k 0 = 0) := by unfold flO; rw [decide_eq_true hkf, Bool.true_and]
          obtain ⟨z, hz⟩ : ∃ z, fl.getD k 0 = z := ⟨_, rfl⟩
          rw [hz] at hz9 hcf0 HFL hfo
          have HCF : Hid (∀ W, Below w.heap.size w W → W.cell? ⟨bf, of + k, none⟩ = some (.int .i64 z)) := fun W hW => (hW.cell (p := ⟨bf, of + k, none⟩) hbf).trans hcf0
          have hkf' : (k : Int) < (fl.length : Int) := by omega
          clear hcf hcf0 hgz hbf hz
          have hcs : z ≠ 0 ∨ (z = 0 ∧ line.length = 0) ∨ (z = 0 ∧ 0 < line.length) := by omega
          rcases hcs with h2 | ⟨h2, h4⟩ | ⟨h2, h4⟩
          case' inl =>
            have hzz : (z == 0) = false := by simpa using h2
            have hone : (flO fl k && decide (line ≠ [])) = false := by rw [hfo, decide_eq_false h2]; rfl
            obtain ⟨fr', hfr'⟩ : ∃ fr', Hid (fr = fr') := ⟨_, rfl⟩
            have HMF : Hid (Rows rightB (line ++ List.replicate (flN fl k) 126 ++ fr') (want ++ [r])) := by have h := HM3.out; rw [hone] at h; rw [← hfr'.out]; exact h
            go_wp2_with (go_at_call 10; refine HD.out.mono ?_; rintro e w3 ⟨A5, c5, rfl, HO5, HB5⟩; have hcz := HCF.out w3 (HBW.out.trans (HB5.out.mono HBW.out.size)))
            have HP6 : Hid (∀ W, But (fun j => (Value.slice A0 line.length c0).ownBlock = some j) w3 W → Rd W W.heap.size A5 fr' ∧ (A5 = none → fr'.length = 0 ∧ c5 = 0)) := fun W hW => by
              obtain ⟨z1, z2, _, _⟩ := own_rd (own_same HO5.out fun j ej hj => hW.same j hj fun hs => by have h1 := own_lt HO.out _ hs; have h2 := (HO5.out.lt j ej).1; omega) HFRB.out
              rw [← hfr'.out]; exact ⟨z1, z2⟩
            have HN6 : Hid (fr.length = fr'.length) := by rw [← hfr'.out]; rfl
            have HFR' : Hid (∀ z ∈ fr', z < 256) := by rw [← hfr'.out]; exact HFRB.out
            have HFN' : Hid (fr'.length ≤ 262) := by rw [← hfr'.out]; exact HFN.out
            generalize A5 = A6 at HP6 ⊢
            generalize c5 = c6 at HP6 ⊢
            generalize fr.length = n6 at HN6 ⊢
            clear hfr' hone hcz hzz h2 hfo HO5
          case' inr.inl =>
            subst h2
            have h4' : ¬ (0 : Int) < (line.length : Int) := by omega
            have hnil : line = [] := List.eq_nil_of_length_eq_zero h4
            have h4n : ¬ 0 < line.length := by omega
            have hone : (flO fl k && decide (line ≠ [])) = false := by rw [decide_eq_false (by simpa using hnil), Bool.and_false]
            obtain ⟨fr', hfr'⟩ : ∃ fr', Hid (fr = fr') := ⟨_, rfl⟩
            have HMF : Hid (Rows rightB (line ++ List.replicate (flN fl k) 126 ++ fr') (want ++ [r])) := by have h := HM3.out; rw [hone] at h; rw [← hfr'.out]; exact h
            clear hnil h4
            go_wp2_with (go_at_call 10; refine HD.out.mono ?_; rintro e w3 ⟨A5, c5, rfl, HO5, HB5⟩; have hcz := HCF.out w3 (HBW.out.trans (HB5.out.mono HBW.out.size)))
            have HP6 : Hid (∀ W, But (fun j => (Value.slice A0 line.length c0).ownBlock = some j) w3 W → Rd W W.heap.size A5 fr' ∧ (A5 = none → fr'.length = 0 ∧ c5 = 0)) := fun W hW => by
              obtain ⟨z1, z2, _, _⟩ := own_rd (own_same HO5.out fun j ej hj => hW.same j hj fun hs => by have h1 := own_lt HO.out _ hs; have h2 := (HO5.out.lt j ej).1; omega) HFRB.out
              rw [← hfr'.out]; exact ⟨z1, z2⟩
            have HN6 : Hid (fr.length = fr'.length) := by rw [← hfr'.out]; rfl
            have HFR' : Hid (∀ z ∈ fr', z < 256) := by rw [← hfr'.out]; exact HFRB.out
            have HFN' : Hid (fr'.length ≤ 262) := by rw [← hfr'.out]; exact HFN.out
            generalize A5 = A6 at HP6 ⊢
            generalize c5 = c6 at HP6 ⊢
            generalize fr.length = n6 at HN6 ⊢
            clear hfr' hone hcz hfo HO5 h4'
            obtain ⟨z, hz0⟩ : ∃ z : Int, (0 : Int) = z := ⟨_, rfl⟩
            rw [hz0] at hz9 HFL
            simp only [hz0] at HCF
            clear hz0
          case' inr.inr =>
            subst h2
            have h4' : (0 : Int) < (line.length : Int) := by omega
            have hnil : line ≠ [] := List.length_pos_iff.mp h4
            have hone : (flO fl k && decide (line ≠ [])) = true := by rw [hfo, decide_eq_true hnil]; rfl
            obtain ⟨fr', hfr'⟩ : ∃ fr', Hid (fr.drop 1 = fr') := ⟨_, rfl⟩
            have HMF : Hid (Rows rightB (line ++ List.replicate (flN fl k) 126 ++ fr') (want ++ [r])) := by have h := HM3.out; rw [hone] at h; rw [← hfr'.out]; exact h
            have hf1 : (1 : Int) ≤ (fr.length : Int) := by omega
            clear hnil
            go_wp2_with (go_at_call 10; refine HD.out.mono ?_; rintro e w3 ⟨A5, c5, rfl, HO5, HB5⟩; have hcz := HCF.out w3 (HBW.out.trans (HB5.out.mono HBW.out.size)); obtain ⟨z1, z2, z3, z4⟩ := own_rd HO5.out HFRB.out; obtain ⟨g5, hg5⟩ := own_some HO5.out (Nat.lt_of_lt_of_le (by decide) hfp); subst hg5; have hfc : (fr.length : Int) ≤ (c5 : Int) := (by omega); have hc51 : ¬ c5 = 1 := (by omega))
            have HP6 : Hid (∀ W, But (fun j => (Value.slice A0 line.length c0).ownBlock = some j) w3 W → Rd W W.heap.size (some ⟨g5, 1, none⟩) fr' ∧ ((some ⟨g5, 1, none⟩ : Option Addr) = none → fr'.length = 0 ∧ c5 - 1 = 0)) := fun W hW => by
              have z1' := (own_rd (own_same HO5.out fun j ej hj => hW.same j hj fun hs => by have h1 := own_lt HO.out _ hs; have h2 := (HO5.out.lt j ej).1; omega) HFRB.out).1
              have y1 := z1'.drop 1
              rw [hfr'.out, Nat.zero_add] at y1
              exact ⟨y1, fun e => by cases e⟩
            have HN6 : Hid (fr.length - 1 = fr'.length) := by rw [← hfr'.out]; show _ = _; simp
            have HFR' : Hid (∀ z ∈ fr', z < 256) := by rw [← hfr'.out]; exact fun z hz => HFRB.out z (List.mem_of_mem_drop hz)
            have HFN' : Hid (fr'.length ≤ 262) := by have := HFN.out; rw [← hfr'.out]; show _ ≤ _; simp; omega
            generalize c5 - 1 = c6 at HP6 ⊢
            generalize (some ⟨g5, 1, none⟩ : Option Addr) = A6 at HP6 ⊢
            generalize fr.length - 1 = n6 at HN6 ⊢
            clear hfr' hone hcz hfo HO5 h4' h4 hf1 z1 z2 z3 z4 hfc hc51
            obtain ⟨z, hz0⟩ : ∃ z : Int, (0 : Int) = z := ⟨_, rfl⟩
            rw [hz0] at hz9 HFL
            simp only [hz0] at HCF
            clear hz0
          all_goals
            have HB13 : Hid (Below w1.heap.size w1 w3) := HBR.out.trans (HB5.out.mono HBR.out.size)
            have O3 : Hid (Me.Own w3 0 (.slice A0 line.length c0) line) := own_base (B' := 0) (own_same HO.out fun j _ hj => HB5.out.block j hj) fun _ _ => Nat.zero_le _
            have HNS : Hid (∀ j, u7.ownBlock = some j → ¬ (Value.slice A0 line.length c0).ownBlock = some j) := fun j hj hs => rows_ne HWN.out HO.out hj hs.symm
            go_loopw [6, 11] (fun v i wr => ∃ m : Nat, m ≤ flN fl k ∧ i = .int .i64 m ∧ Me.Own wr 0 v (line ++ List.replicate m 126) ∧ (∀ j, v.ownBlock = some j → (Value.slice A0 line.length c0).ownBlock = some j ∨ w3.heap.size ≤ j) ∧ But (fun j => (Value.slice A0 line.length c0).ownBlock = some j) w3 wr) (fun _ i _ => 3 - (intOf i).toNat)
            case atStart => exact ⟨0, Nat.zero_le _, rfl, by rw [List.replicate_zero, List.append_nil]; exact O3.out, fun j e => .inl e, But.refl _ _⟩
            case round =>
              obtain ⟨m, hm, rfl, ho2, hs2, hb2⟩ := hrel
              have HO2 := Lib.hid ho2
              have HS2 := Lib.hid hs2
              have HB2 := Lib.hid hb2
              clear ho2 hs2 hb2
              have hm3 : m ≤ 3 := by have := HFL.out; omega
              have hcz := HCF.out wr (hb1.out.trans ((HB13.out.trans (HB2.out.below HB13.out.size fun j h => (HO.out.lt j h).1)).mono hz1))
              by_cases hmz : (m : Int) < z
              · by_cases hm4 : m < 3
                · have hm5 : (m : Int) < 3 := by omega
                  have hlen8 : Hid ((line ++ List.replicate m 126).length + [126].length ≤ 140737488355328) := by
                    have h1 := HKL.out
                    show _ ≤ _
                    simp only [List.length_append, List.length_replicate, List.length_singleton]
                    omega
                  have hfin : Hid (m + 1 ≤ flN fl k) := by have := HFL.out; show _ ≤ _; omega
                  have hrep : Hid (line ++ List.replicate m 126 ++ [126] = line ++ List.replicate (m + 1) 126) := by show _ = _; rw [List.append_assoc, List.replicate_succ']
                  go_wp2_with (at_builtin; refine app8q rfl (.tmp 72) (.tmp 73) rfl (wr.heap.size + 1) _ (line ++ List.replicate m 126) [126] rfl (World.ownsRow.alloc HO2.out _) (some ⟨wr.heap.size, 0, none⟩) 1 rfl (rd_lit (r := [126]) (by simp) 5) (fun h => by cases h) hlen8.out ?_; intro v5 w5 ho5 hg5 hf5; have HO5 := Lib.hid ho5; have HG5 := Lib.hid hg5; have HF5 := Lib.hid hf5; clear ho5 hg5 hf5)
                  go_roundw
                  case rel =>
                    refine ⟨m + 1, hfin.out, by go_num, by rw [← hrep.out]; exact HO5.out, fun j e => ?_, (HB2.out.alloc _).grown HG5.out fun j e => HS2.out j e⟩
                    rcases HF5.out j e with h | h
                    · exact HS2.out j h
                    · exact .inr (Nat.le_trans HB2.out.size (Nat.le_trans (by simp) h))
                  case measure => simp [intOf]; omega
                · have hm5 : ¬ (m : Int) < 3 := by omega
                  have hx : m = flN fl k := by have := HFL.out; omega
                  have hx2 : Hid (line ++ List.replicate m 126 = line ++ List.replicate (flN fl k) 126) := by show _ = _; rw [hx]
                  have hp6 := HP6.out wr HB2.out
                  have HO4 : Hid (Me.Own wr w1.heap.size u6 (line ++ List.replicate m 126)) := own_base HO2.out fun j e => by
                    rcases HS2.out j e with h | h
                    · exact (HO.out.lt j h).1
                    · exact Nat.le_trans HB13.out.size h
                  have HBz : Hid (Below w1.heap.size w1 wr) := HB13.out.trans (HB2.out.below HB13.out.size fun j h => (HO.out.lt j h).1)
                  have hlen9 : Hid ((line ++ List.replicate m 126).length + fr'.length ≤ 140737488355328) := by
                    have h1 := HKL.out
                    have h2 := HFN'.out
                    show _ ≤ _
                    simp only [List.length_append, List.length_replicate]
                    omega
                  have HW4 : Hid (Wnt w1 wr u7 want) := HWN.out.same fun j hj hj' => (HB2.out.same j (Nat.lt_of_lt_of_le hj' HB5.out.size) (HNS.out j hj)).trans (HB5.out.block j hj')
                  clear hx
                  go_wp2_with (first
                    | (at_builtin; refine app8 rfl (.tmp 75) (.tmp 76) rfl w1.heap.size wr.heap.size _ (line ++ List.replicate m 126) fr' rfl HO4.out HBz.out HBz.out.size A6 c6 (by rw [← HN6.out]; rfl) hp6.1 hp6.2 hlen9.out ?_; intro v5 w5 ho5 hb5 hg5; have HO5b := Lib.hid ho5; have HB5b := Lib.hid hb5; have hc5 := HCL.out w5 hb5; have HW5 : Hid (Wnt w1 w5 u7 want) := HW4.out.same (fun j hj hj' => hg5.block j hj' (rows_ne HW4.out HO4.out hj)); clear ho5 hb5 hg5)
                    | (at_builtin; refine appW rfl (.tmp 78) (.tmp 83) rfl u7 want r R r.length cr rfl rfl rfl HW5.out HB5b.out r2 r3 HR1.out HRn.out w5.heap.size rfl rfl (by have := HKW.out; omega) ?_; intro v7 w7 hw7 hg7 hj7; have HW7 := Lib.hid hw7; have HG7 := Lib.hid hg7; have HJ7 := Lib.hid hj7; clear hw7 hg7 hj7))
                  go_roundw
                  case rel =>
                    have hl9 := HMF.out
                    rw [← hx2.out] at hl9
                    refine ⟨k + 1, line ++ List.replicate m 126 ++ fr', want ++ [r], by omega, by omega, by go_num, hl9, line_lt HLB.out HFR'.out, want_bytes HWB.out HRB.out, ?_, ?_, ?_, HW7.out, ?_⟩
                    · have h1 := HKL.out
                      have h2 := HFN'.out
                      simp only [List.length_append, List.length_replicate]
                      omega
                    · have h1 := HKW.out
                      simp only [List.length_append, List.length_singleton]
                      omega
                    · exact HO5b.out.kept HG7.out (line_ne HW5.out HO5b.out)
                    · exact HB5b.out.grown HG7.out HB5b.out.size fun k e => HJ7.out k e
                  case measure => simp [intOf]; omega
              · have hx : m = flN fl k := by have := HFL.out; omega
                have hx2 : Hid (line ++ List.replicate m 126 = line ++ List.replicate (flN fl k) 126) := by show _ = _; rw [hx]
                have hp6 := HP6.out wr HB2.out
                have HO4 : Hid (Me.Own wr w1.heap.size u6 (line ++ List.replicate m 126)) := own_base HO2.out fun j e => by
                  rcases HS2.out j e with h | h
                  · exact (HO.out.lt j h).1
                  · exact Nat.le_trans HB13.out.size h
                have HBz : Hid (Below w1.heap.size w1 wr) := HB13.out.trans (HB2.out.below HB13.out.size fun j h => (HO.out.lt j h).1)
                have hlen9 : Hid ((line ++ List.replicate m 126).length + fr'.length ≤ 140737488355328) := by
                  have h1 := HKL.out
                  have h2 := HFN'.out
                  show _ ≤ _
                  simp only [List.length_append, List.length_replicate]
                  omega
                have HW4 : Hid (Wnt w1 wr u7 want) := HWN.out.same fun j hj hj' => (HB2.out.same j (Nat.lt_of_lt_of_le hj' HB5.out.size) (HNS.out j hj)).trans (HB5.out.block j hj')
                clear hx
                go_wp2_with (first
                  | (at_builtin; refine app8 rfl (.tmp 75) (.tmp 76) rfl w1.heap.size wr.heap.size _ (line ++ List.replicate m 126) fr' rfl HO4.out HBz.out HBz.out.size A6 c6 (by rw [← HN6.out]; rfl) hp6.1 hp6.2 hlen9.out ?_; intro v5 w5 ho5 hb5 hg5; have HO5b := Lib.hid ho5; have HB5b := Lib.hid hb5; have hc5 := HCL.out w5 hb5; have HW5 : Hid (Wnt w1 w5 u7 want) := HW4.out.same (fun j hj hj' => hg5.block j hj' (rows_ne HW4.out HO4.out hj)); clear ho5 hb5 hg5)
                  | (at_builtin; refine appW rfl (.tmp 78) (.tmp 83) rfl u7 want r R r.length cr rfl rfl rfl HW5.out HB5b.out r2 r3 HR1.out HRn.out w5.heap.size rfl rfl (by have := HKW.out; omega) ?_; intro v7 w7 hw7 hg7 hj7; have HW7 := Lib.hid hw7; have HG7 := Lib.hid hg7; have HJ7 := Lib.hid hj7; clear hw7 hg7 hj7))
                go_roundw
                case rel =>
                  have hl9 := HMF.out
                  rw [← hx2.out] at hl9
                  refine ⟨k + 1, line ++ List.replicate m 126 ++ fr', want ++ [r], by omega, by omega, by go_num, hl9, line_lt HLB.out HFR'.out, want_bytes HWB.out HRB.out, ?_, ?_, ?_, HW7.out, ?_⟩
                  · have h1 := HKL.out
                    have h2 := HFN'.out
                    simp only [List.length_append, List.length_replicate]
                    omega
                  · have h1 := HKW.out
                    simp only [List.length_append, List.length_singleton]
                    omega
                  · exact HO5b.out.kept HG7.out (line_ne HW5.out HO5b.out)
                  · exact HB5b.out.grown HG7.out HB5b.out.size fun k e => HJ7.out k e
                case measure => simp [intOf]; omega
        ·
          have hkf' : ¬ (k : Int) < (fl.length : Int) := by omega
          have HFL : Hid (flN fl k = 0) := if_neg hkf
          have hone : (flO fl k && decide (line ≠ [])) = false := by unfold flO; rw [decide_eq_false hkf]; rfl
          obtain ⟨fr', hfr'⟩ : ∃ fr', Hid (fr = fr') := ⟨_, rfl⟩
          have HMF : Hid (Rows rightB (line ++ List.replicate (flN fl k) 126 ++ fr') (want ++ [r])) := by have h := HM3.out; rw [hone] at h; rw [← hfr'.out]; exact h
          go_wp2_with (go_at_call 10; refine HD.out.mono ?_; rintro e w3 ⟨A5, c5, rfl, HO5, HB5⟩)
          have HP6 : Hid (∀ W, But (fun j => (Value.slice A0 line.length c0).ownBlock = some j) w3 W → Rd W W.heap.size A5 fr' ∧ (A5 = none → fr'.length = 0 ∧ c5 = 0)) := fun W hW => by
            obtain ⟨z1, z2, _, _⟩ := own_rd (own_same HO5.out fun j ej hj => hW.same j hj fun hs => by have h1 := own_lt HO.out _ hs; have h2 := (HO5.out.lt j ej).1; omega) HFRB.out
            rw [← hfr'.out]; exact ⟨z1, z2⟩
          have HN6 : Hid (fr.length = fr'.length) := by rw [← hfr'.out]; rfl
          have HFR' : Hid (∀ z ∈ fr', z < 256) := by rw [← hfr'.out]; exact HFRB.out
          have HFN' : Hid (fr'.length ≤ 262) := by rw [← hfr'.out]; exact HFN.out
          generalize A5 = A6 at HP6 ⊢
          generalize c5 = c6 at HP6 ⊢
          generalize fr.length = n6 at HN6 ⊢
          clear hfr' hone HO5
          have HB13 : Hid (Below w1.heap.size w1 w3) := HBR.out.trans (HB5.out.mono HBR.out.size)
          have O3 : Hid (Me.Own w3 0 (.slice A0 line.length c0) line) := own_base (B' := 0) (own_same HO.out fun j _ hj => HB5.out.block j hj) fun _ _ => Nat.zero_le _
          have HNS : Hid (∀ j, u7.ownBlock = some j → ¬ (Value.slice A0 line.length c0).ownBlock = some j) := fun j hj hs => rows_ne HWN.out HO.out hj hs.symm
          go_loopw [6, 11] (fun v i wr => ∃ m : Nat, m ≤ flN fl k ∧ i = .int .i64 m ∧ Me.Own wr 0 v (line ++ List.replicate m 126) ∧ (∀ j, v.ownBlock = some j → (Value.slice A0 line.length c0).ownBlock = some j ∨ w3.heap.size ≤ j) ∧ But (fun j => (Value.slice A0 line.length c0).ownBlock = some j) w3 wr) (fun _ i _ => 3 - (intOf i).toNat)
          case atStart => exact ⟨0, Nat.zero_le _, rfl, by rw [List.replicate_zero, List.append_nil]; exact O3.out, fun j e => .inl e, But.refl _ _⟩
          case round =>
            obtain ⟨m, hm, rfl, ho2, hs2, hb2⟩ := hrel
            have HO2 := Lib.hid ho2
            have HS2 := Lib.hid hs2
            have HB2 := Lib.hid hb2
            clear ho2 hs2 hb2
            have hx : m = flN fl k := by have := HFL.out; omega
            have hm3 : m ≤ 3 := by have := HFL.out; omega
            have hx2 : Hid (line ++ List.replicate m 126 = line ++ List.replicate (flN fl k) 126) := by show _ = _; rw [hx]
            have hp6 := HP6.out wr HB2.out
            have HO4 : Hid (Me.Own wr w1.heap.size u6 (line ++ List.replicate m 126)) := own_base HO2.out fun j e => by
              rcases HS2.out j e with h | h
              · exact (HO.out.lt j h).1
              · exact Nat.le_trans HB13.out.size h
            have HBz : Hid (Below w1.heap.size w1 wr) := HB13.out.trans (HB2.out.below HB13.out.size fun j h => (HO.out.lt j h).1)
            have hlen9 : Hid ((line ++ List.replicate m 126).length + fr'.length ≤ 140737488355328) := by
              have h1 := HKL.out
              have h2 := HFN'.out
              show _ ≤ _
              simp only [List.length_append, List.length_replicate]
              omega
            have HW4 : Hid (Wnt w1 wr u7 want) := HWN.out.same fun j hj hj' => (HB2.out.same j (Nat.lt_of_lt_of_le hj' HB5.out.size) (HNS.out j hj)).trans (HB5.out.block j hj')
            clear hx
            go_wp2_with (first
              | (at_builtin; refine app8 rfl (.tmp 75) (.tmp 76) rfl w1.heap.size wr.heap.size _ (line ++ List.replicate m 126) fr' rfl HO4.out HBz.out HBz.out.size A6 c6 (by rw [← HN6.out]; rfl) hp6.1 hp6.2 hlen9.out ?_; intro v5 w5 ho5 hb5 hg5; have HO5b := Lib.hid ho5; have HB5b := Lib.hid hb5; have hc5 := HCL.out w5 hb5; have HW5 : Hid (Wnt w1 w5 u7 want) := HW4.out.same (fun j hj hj' => hg5.block j hj' (rows_ne HW4.out HO4.out hj)); clear ho5 hb5 hg5)
              | (at_builtin; refine appW rfl (.tmp 78) (.tmp 83) rfl u7 want r R r.length cr rfl rfl rfl HW5.out HB5b.out r2 r3 HR1.out HRn.out w5.heap.size rfl rfl (by have := HKW.out; omega) ?_; intro v7 w7 hw7 hg7 hj7; have HW7 := Lib.hid hw7; have HG7 := Lib.hid hg7; have HJ7 := Lib.hid hj7; clear hw7 hg7 hj7))
            go_roundw
            case rel =>
              have hl9 := HMF.out
              rw [← hx2.out] at hl9
              refine ⟨k + 1, line ++ List.replicate m 126 ++ fr', want ++ [r], by omega, by omega, by go_num, hl9, line_lt HLB.out HFR'.out, want_bytes HWB.out HRB.out, ?_, ?_, ?_, HW7.out, ?_⟩
              · have h1 := HKL.out
                have h2 := HFN'.out
                simp only [List.length_append, List.length_replicate]
                omega
              · have h1 := HKW.out
                simp only [List.length_append, List.length_singleton]
                omega
              · exact HO5b.out.kept HG7.out (line_ne HW5.out HO5b.out)
              · exact HB5b.out.grown HG7.out HB5b.out.size fun k e => HJ7.out k e
            case measure => simp [intOf]; omega
    · obtain ⟨A0, c0, rfl, _, _, _⟩ := HO.out.held HLB.out
      obtain ⟨A9, c9, rfl, qL, qN⟩ := HWN.out.form HBR.out
      have hDw : Hid (Dblk wr w.heap.size newD (.slice none 0 0)) := (HBR.out.block _ hd1.out.lt).trans hd1.out
      have hA9 : ∀ a, A9 = some a → a.block ≠ w.heap.size := fun a ha e => by
        have h1 := (HWN.out.own a.block (by rw [ha]; rfl)).1
        have h2 := hd1.out.lt
        omega
      have hkw := HKW.out
      have hkl := HKL.out
      have F := Feed_any wr w.heap.size newD none 0 hDw (Me.Own.nil _ _) Good.new A0 c0 line (own_rd HO.out HLB.out).1 (fun a _ => by simp [Value.ownBlock]) (by have : tot newD.met = 0 := rfl; omega) (by omega)
      have hrw : feedD rightB newD line = (⟨decide (line = []), [], metN want.length⟩, want) := HRW.out
      rw [hrw] at F
      have HF := Lib.hid F
      have QL := Lib.hid qL
      have QN := Lib.hid qN
      obtain ⟨n, hn⟩ : ∃ n, want.length = n := ⟨_, rfl⟩
      have HNn : Hid (want.length = n) := hn
      have HS9 := Lib.hid (fun (w3 : World) (A8 : Option Addr) (c8 : Nat) (a1 : Lst w3 w3.heap.size A8 want) (a2 : Nils w3 A8 want) (a3 : Lst w3 w3.heap.size A9 want ∧ Nils w3 A9 want) => Same_any w3 A8 A9 c8 c9 want want a1 a2 a3.1 a3.2 (by omega))
      have hwr : Hid (Below w.heap.size w wr) := HBW.out
      have hex : ¬ (k : Int) < (ls.length : Int) ∨ ((k : Int) < (ls.length : Int) ∧ ¬ (k : Int) < 30) := by omega
      rw [hn] at HS9 ⊢
      clear F hrw qL qN hkw hkl hn hlt
      rcases hex with hex | ⟨hex, hex2⟩
      all_goals
        go_wp2_with (first
          | (go_at_call 15; refine HF.out.mono ?_; rintro e w3 ⟨vr, rfl, hfn⟩; obtain ⟨A7, c7, D3, O3, G3, T3, R3⟩ := hfn.out.parts; obtain ⟨A8, c8, rfl, _, _, q3, q4, _⟩ := R3.lst HWB.out; have h9 := lst_but QL.out QN.out hDw.out ⟨_, _, _, rfl⟩ T3 hA9; have Q1 := Lib.hid (HS9.out w3 A8 c8 q3 q4 h9); have HD3 := Lib.hid D3; have HB3 : Hid (Below w.heap.size w w3) := hwr.out.trans (T3.below hwr.out.size (fun j e => by rcases e with e | e <;> first | exact Nat.le_of_eq e.symm | cases e)); rw [HNn.out]; clear hfn D3 O3 G3 T3 R3 q3 q4 h9)
          | (go_at_call 17; refine Q1.out.mono ?_; rintro e w4 ⟨rfl, hb4⟩)
          | (go_at_call 18; refine (Stats_any w4 w.heap.size _ _ ((hb4.out.block _ HD3.out.lt).trans HD3.out)).mono ?_; rintro e w5 ⟨he, hb5⟩; unfold mval metN at he; simp only at he; rw [HNn.out] at he; subst he; have HB5 : Hid (Below w.heap.size w w5) := (HB3.out.trans (hb4.out.mono HB3.out.size)).trans (hb5.out.mono (Nat.le_trans HB3.out.size hb4.out.size)))
          | (go_at_call 12; refine (awake_below HB5).mono ?_; rintro e w6 ⟨rfl, hb6⟩))
        go_ret
        exact ⟨rfl, hb6.out⟩
end Go.Proofs.Ytoaffkmjobmhaaa.Hd
