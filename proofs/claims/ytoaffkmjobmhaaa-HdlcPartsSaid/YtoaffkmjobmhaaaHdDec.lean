/- A decoder in memory, of the program: what its block holds; the contracts of letGo, take, Stats, Inside, New. -/
import Derived.Test.YtoaffkmjobmhaaaHdMem
import Derived.Test.YtoaffkmjobmhaaaHdMath
namespace Go.Proofs.Ytoaffkmjobmhaaa.Hd
open Go.RowKit
open Go.Proofs.Ytoaffkmjobmhaaa.Me
set_option linter.unusedVariables false

/-- The cells of what a decoder has met. -/
def mcells (m : Met) : List Value := [.int .i64 (m.good : Int), .int .i64 (m.bad : Int), .int .i64 (m.short : Int), .int .i64 (m.long : Int), .int .i64 (m.broken : Int)]
/-- The cells of a decoder. -/
def dcells (d : Dec) (v : Value) : Array Value := #[.bool (!d.hunts), v, .int .i64 (d.met.good : Int), .int .i64 (d.met.bad : Int), .int .i64 (d.met.short : Int), .int .i64 (d.met.long : Int), .int .i64 (d.met.broken : Int)]
/-- Block D is a decoder whose gathered bytes are the slice v. -/
def Dblk (w : World) (D : Nat) (d : Dec) (v : Value) : Prop := w.heap[D]? = some (.cells (dcells d v) 49 (0, 0))
theorem Dblk.cell {w : World} {D : Nat} {d : Dec} {v : Value} (h : Dblk w D d v) (i : Nat) : w.cell? ⟨D, i, none⟩ = (dcells d v)[i]? := cell_of_row w D i _ _ (0, 0) h
theorem Dblk.frozen {w : World} {D : Nat} {d : Dec} {v : Value} (h : Dblk w D d v) (i : Nat) : w.frozen? ⟨D, i, none⟩ = false := frozen_of_row w D i _ _ h
theorem Dblk.lt {w : World} {D : Nat} {d : Dec} {v : Value} (h : Dblk w D d v) : D < w.heap.size := (Array.getElem?_eq_some_iff.1 h).1
theorem Dblk.set {w : World} {D : Nat} {d d' : Dec} {v v' : Value} (h : Dblk w D d v) (i : Nat) (u : Value) (hi : (dcells d v).setIfInBounds i u = dcells d' v') : Dblk (w.setCell ⟨D, i, none⟩ u) D d' v' := by
  unfold Dblk
  rw [heap_setCell_same w D i _ _ _ h, hi]
theorem Dblk.but {w w' : World} {S : Nat → Prop} {D : Nat} {d : Dec} {v : Value} (h : Dblk w D d v) (hb : But S w w') (hS : ¬ S D) : Dblk w' D d v := hb.at_ h hS
theorem Dblk.not_own {w : World} {D B n : Nat} {d : Dec} {v u : Value} {xs : List Value} (h : Dblk w D d v) (ho : w.ownsRow B 5 1 u n xs) : u.ownBlock ≠ some D := by
  rcases ho.2 with ⟨rfl, _⟩ | ⟨g, cap, cur, rfl, _, q3, _⟩
  · simp [Value.ownBlock]
  · intro e
    simp only [Value.ownBlock, Option.some.injEq] at e
    subst e
    unfold Dblk at h
    rw [h] at q3
    simp at q3
theorem Dblk.not_rd {w : World} {D B : Nat} {d : Dec} {v : Value} {A : Option Addr} {l : List Nat} (h : Dblk w D d v) (hv : ∃ a n c, v = .slice a n c) (hr : Rd w B A l) (hl : 0 < l.length) : ∀ a, A = some a → a.block ≠ D := by
  intro a ha e
  obtain ⟨b, off, hA, hb, hc⟩ := hr.2 hl
  rw [hA] at ha
  simp only [Option.some.injEq] at ha
  subst ha
  simp only at e
  subst e
  have h1 := hc 0 hl
  rw [h.cell] at h1
  obtain ⟨a', n', c', rfl⟩ := hv
  unfold dcells at h1
  match off, h1 with
  | 0, h1 => simp at h1
  | 1, h1 => simp at h1
  | 2, h1 => simp at h1
  | 3, h1 => simp at h1
  | 4, h1 => simp at h1
  | 5, h1 => simp at h1
  | 6, h1 => simp at h1
  | n + 7, h1 => simp at h1
theorem letGo_any (w : World) (D : Nat) (d : Dec) (A : Option Addr) (n c : Nat) (h : Hid (Dblk w D d (.slice A n c))) :
    Calls Try.prog 34 #[.pointer (some ⟨D, 0, none⟩)] w fun e w' => e = .returned (.slice A n c) ∧ w' = w.setCell ⟨D, 1, none⟩ (.slice A 0 c) := by
  have c1 : w.cell? ⟨D, 1, none⟩ = some (.slice A n c) := h.out.cell 1
  have f1 := h.out.frozen 1
  go_enter Try.func34, Try.ntmps34
  go_wp2
  go_ret
  exact ⟨rfl, rfl⟩
theorem New_any (w : World) : Calls Try.prog 13 #[] w fun e w' => e = .returned (.pointer (some ⟨w.heap.size, 0, none⟩)) ∧ Hid (Dblk w' w.heap.size newD (.slice none 0 0)) ∧ Hid (Below w.heap.size w w') := by
  go_enter Try.func13, Try.ntmps13
  go_wp2
  go_ret
  exact ⟨rfl, heap_alloc_new w _, below_alloc (Below.refl _ _)⟩
/-- A byte is taken: the decoder behind it, and the gathered bytes that are to be told apart now. -/
def takeD (d : Dec) (b : Nat) : Dec × List Nat :=
  if b = 126 then (⟨false, [], d.met⟩, d.inn)
  else if d.hunts = true then (d, [])
  else if 260 ≤ d.inn.length then (⟨true, [], d.met⟩, d.inn ++ [b])
  else (⟨false, d.inn ++ [b], d.met⟩, [])
/-- What take answers: bytes that lie in memory; the decoder behind it. -/
def TakP (w : World) (D : Nat) (v : Value) (d' : Dec) (out : List Nat) (e : Ending) (w' : World) : Prop :=
  ∃ A c A' c', e = .returned (.slice A out.length c) ∧ Hid (Rd w' w'.heap.size A out) ∧ out.length ≤ c ∧ c ≤ 9223372036854775807 ∧ (A = none → out.length = 0 ∧ c = 0) ∧ Hid (Dblk w' D d' (.slice A' d'.inn.length c')) ∧ Hid (Me.Own w' 0 (.slice A' d'.inn.length c') d'.inn) ∧
    Hid (∀ k, (Value.slice A' d'.inn.length c').ownBlock = some k → v.ownBlock = some k ∨ w.heap.size ≤ k) ∧ Hid (But (fun k => k = D ∨ v.ownBlock = some k) w w')
theorem TakP.mk {w w' : World} {D n n' : Nat} {v : Value} {d' : Dec} {out : List Nat} {A A' : Option Addr} {c c' : Nat} (hn : n = out.length) (hn' : n' = d'.inn.length) (h1 : Me.Own w' 0 (.slice A n c) out) (ho : ∀ z ∈ out, z < 256) (h2 : Dblk w' D d' (.slice A' n' c')) (h3 : Me.Own w' 0 (.slice A' n' c') d'.inn)
    (h4 : ∀ k, (Value.slice A' n' c').ownBlock = some k → v.ownBlock = some k ∨ w.heap.size ≤ k) (h5 : But (fun k => k = D ∨ v.ownBlock = some k) w w') : TakP w D v d' out (.returned (.slice A n c)) w' := by
  subst hn hn'
  obtain ⟨r1, r2, r3, r4⟩ := own_rd h1 ho
  exact ⟨A, c, A', c', rfl, r1, r3, r4, r2, h2, h3, h4, h5⟩
theorem dcells_1 (d : Dec) (v u : Value) : (dcells d v).setIfInBounds 1 u = dcells d u := rfl
theorem dcells_0 (d : Dec) (v : Value) (h : Bool) : (dcells d v).setIfInBounds 0 (.bool (!h)) = dcells ⟨h, d.inn, d.met⟩ v := rfl
theorem dcells_in (h : Bool) (i i' : List Nat) (m : Met) (v : Value) : dcells ⟨h, i, m⟩ v = dcells ⟨h, i', m⟩ v := rfl
theorem Dblk.inn {w : World} {D : Nat} {h : Bool} {i : List Nat} {m : Met} {v : Value} (i' : List Nat) (k : Dblk w D ⟨h, i, m⟩ v) : Dblk w D ⟨h, i', m⟩ v := k
/-- A store into the decoder's own block keeps what is somebody's own. -/
theorem own_put {w : World} {D B n : Nat} {d : Dec} {v u x : Value} {xs : List Value} {i : Nat} (h : Dblk w D d v) (ho : w.ownsRow B 5 1 u n xs) : (w.setCell ⟨D, i, none⟩ x).ownsRow B 5 1 u n xs :=
  own_same ho fun k e _ => Below.heap_setCell w _ _ k (fun e' => h.not_own ho (by rw [e]; simp only at e'; rw [e']))
theorem hb2 {l : List Nat} {b : Nat} (hl : ∀ z ∈ l, z < 256) (hb : b < 256) : ∀ z ∈ l ++ [b], z < 256 := by
  intro z hz
  rcases List.mem_append.mp hz with h | h
  · exact hl z h
  · simp at h; omega
theorem Dblk.alloc {w : World} {D : Nat} {d : Dec} {v : Value} (h : Dblk w D d v) (o : Obj) : Dblk (w.alloc o) D d v := (Below.heap_alloc w o D h.lt).trans h
theorem Dblk.grown {w w' : World} {D B n : Nat} {d : Dec} {v u : Value} {xs : List Value} (ho : w.ownsRow B 5 1 u n xs) (h : Dblk w D d v) (hg : w.grownBy w' u.ownBlock) : Dblk w' D d v := (hg.block D h.lt (fun e => h.not_own ho e.symm)).trans h
/-- Behind an append to the gathered bytes: what the walk wants. -/
theorem behind_app {w w2 : World} {D m : Nat} {d : Dec} {A : Option Addr} {n c : Nat} {v2 : Value} {l : List Nat} {o : Obj} (h : Dblk w D d (.slice A n c)) (ho : Me.Own w 0 (.slice A n c) d.inn) (hg : (w.alloc o).grownBy w2 (Value.slice A n c).ownBlock) (ho2 : Me.Own w2 0 v2 l) (hl : ∀ z ∈ l, z < 256) (hm : l.length = m) (hd : d.hunts = false) :
    ∃ A2 c2, v2 = .slice A2 m c2 ∧ w2.cell? ⟨D, 1, none⟩ = some (.slice A n c) ∧ w2.frozen? ⟨D, 1, none⟩ = false ∧
      (w2.setCell ⟨D, 1, none⟩ (.slice A2 m c2)).cell? ⟨D, 0, none⟩ = some (.bool true) ∧ (w2.setCell ⟨D, 1, none⟩ (.slice A2 m c2)).frozen? ⟨D, 0, none⟩ = false ∧
      (w2.setCell ⟨D, 1, none⟩ (.slice A2 m c2)).cell? ⟨D, 1, none⟩ = some (.slice A2 m c2) ∧
      Hid (Dblk (w2.setCell ⟨D, 1, none⟩ (.slice A2 m c2)) D d (.slice A2 m c2)) ∧ Hid (Dblk ((w2.setCell ⟨D, 1, none⟩ (.slice A2 m c2)).setCell ⟨D, 0, none⟩ (.bool false)) D ⟨true, d.inn, d.met⟩ (.slice A2 m c2)) ∧
      Hid (Me.Own (w2.setCell ⟨D, 1, none⟩ (.slice A2 m c2)) 0 (.slice A2 m c2) l) ∧ Hid (Me.Own ((w2.setCell ⟨D, 1, none⟩ (.slice A2 m c2)).setCell ⟨D, 0, none⟩ (.bool false)) 0 (.slice A2 m c2) l) ∧
      Hid (But (fun k => k = D ∨ (Value.slice A n c).ownBlock = some k) w (w2.setCell ⟨D, 1, none⟩ (.slice A2 m c2))) := by
  obtain ⟨A2, c2, rfl, q1, q2, q3⟩ := ho2.held hl
  rw [hm] at ho2 ⊢
  have hd2 := Dblk.grown (World.ownsRow.alloc ho o) (h.alloc o) hg
  have hd3 : Dblk (w2.setCell ⟨D, 1, none⟩ (.slice A2 m c2)) D d (.slice A2 m c2) := hd2.set 1 _ (dcells_1 _ _ _)
  have hd4 : Dblk ((w2.setCell ⟨D, 1, none⟩ (.slice A2 m c2)).setCell ⟨D, 0, none⟩ (.bool false)) D ⟨true, d.inn, d.met⟩ (.slice A2 m c2) := hd3.set 0 _ (dcells_0 _ _ true)
  have ho3 : Me.Own (w2.setCell ⟨D, 1, none⟩ (.slice A2 m c2)) 0 (.slice A2 m c2) l := own_put hd2 ho2
  refine ⟨A2, c2, rfl, hd2.cell 1, hd2.frozen 1, ?_, hd3.frozen 0, hd3.cell 1, hd3, hd4, ho3, own_put hd3 ho3, ?_⟩
  · rw [hd3.cell 0]; simp [dcells, hd]
  · exact (((But.refl _ w).alloc o).grown hg (fun r e => .inl (.inr e))).set (.inl (.inl rfl)) _
theorem take_any (w : World) (D : Nat) (d : Dec) (A : Option Addr) (c b : Nat) (h : Hid (Dblk w D d (.slice A d.inn.length c))) (ho : Hid (Me.Own w 0 (.slice A d.inn.length c) d.inn)) (hb : ∀ z ∈ d.inn, z < 256) (hbb : b < 256) (hl : d.inn.length ≤ 260) :
    Calls Try.prog 26 #[.pointer (some ⟨D, 0, none⟩), .int .u8 (b : Int)] w (TakP w D (.slice A d.inn.length c) (takeD d b).1 (takeD d b).2) := by
  have c0 : w.cell? ⟨D, 0, none⟩ = some (.bool (!d.hunts)) := h.out.cell 0
  have c1 : w.cell? ⟨D, 1, none⟩ = some (.slice A d.inn.length c) := h.out.cell 1
  have f0 := h.out.frozen 0
  have f1 := h.out.frozen 1
  have HB := Lib.hid hb
  by_cases h1 : b = 126
  · subst h1
    have HT : Hid (takeD d 126 = (⟨false, [], d.met⟩, d.inn)) := if_pos rfl
    have k1 : Hid (Dblk (w.setCell ⟨D, 0, none⟩ (.bool true)) D ⟨false, d.inn, d.met⟩ (.slice A d.inn.length c)) := h.out.set 0 (.bool true) (dcells_0 d _ false)
    have o1 : Hid (Me.Own (w.setCell ⟨D, 0, none⟩ (.bool true)) 0 (.slice A d.inn.length c) d.inn) := own_put h.out ho.out
    go_enter Try.func26, Try.ntmps26
    go_wp2_with (go_at_call 34; refine (letGo_any _ D _ A d.inn.length c k1).mono ?_; rintro e w' ⟨rfl, rfl⟩)
    go_ret
    have o2 : Me.Own ((w.setCell ⟨D, 0, none⟩ (.bool true)).setCell ⟨D, 1, none⟩ (.slice A 0 c)) 0 (.slice A d.inn.length c) d.inn := own_put k1.out o1.out
    rw [HT.out]
    refine TakP.mk rfl rfl o2 HB.out ((k1.out.set 1 (.slice A 0 c) (dcells_1 _ _ _)).inn []) ?_ (fun k e => .inl (by cases A with | none => cases e | some a => exact e)) ?_
    · have := Own.cut o2 (Nat.zero_le _)
      simpa using this
    · exact ((But.refl _ w).set (.inl (.inl rfl)) _).set (.inl (.inl rfl)) _
  · have e1 : ((b : Int) == 126) = false := by simp; omega
    by_cases h2 : d.hunts = true
    · have HT : Hid (takeD d b = (d, [])) := by show takeD d b = _; unfold takeD; rw [if_neg h1, if_pos h2]
      rw [h2] at c0
      simp only [Bool.not_true] at c0
      go_enter Try.func26, Try.ntmps26
      go_wp2
      go_ret
      rw [HT.out]
      exact TakP.mk (A := none) rfl rfl (Me.Own.nil _ _) (by simp) h.out ho.out (fun k e => .inl e) (But.refl _ _)
    · have h2' : d.hunts = false := by simpa using h2
      rw [h2'] at c0
      simp only [Bool.not_false] at c0
      obtain ⟨n, hn⟩ : ∃ n, d.inn.length = n := ⟨_, rfl⟩
      obtain ⟨m, hm⟩ : ∃ m, (d.inn ++ [b]).length = m := ⟨_, rfl⟩
      have hmn : m = n + 1 := by rw [← hm, ← hn]; simp
      have HL : Hid (d.inn.length = n) := hn
      have HM : Hid ((d.inn ++ [b]).length = m) := hm
      have H1 := Lib.hid h1
      have H2 := Lib.hid h2
      have H3 : Hid (d.hunts = false) := h2'
      rw [hn] at c1 h ho hl ⊢
      clear h1 h2 h2' hn hm
      by_cases h3 : 260 ≤ n
      · have HT : Hid (takeD d b = (⟨true, [], d.met⟩, d.inn ++ [b])) := by show takeD d b = _; unfold takeD; rw [if_neg H1.out, if_neg H2.out, if_pos (by rw [HL.out]; exact h3)]
        have hm1 : (260 : Int) < (m : Int) := by omega
        have HLN : Hid (d.inn.length + [b].length ≤ 140737488355328) := by show d.inn.length + 1 ≤ _; rw [HL.out]; omega
        have HN : Hid (n ≤ 260) := hl
        clear h3 hmn hl
        go_enter Try.func26, Try.ntmps26
        go_wp2_with (first
          | (at_builtin; refine app8q rfl (.tmp 22) (.tmp 24) rfl (w.heap.size + 1) (.slice A n c) d.inn [b] rfl (ho.out.alloc _) (some ⟨w.heap.size, 0, none⟩) 1 rfl (rd_lit (r := [b]) (by simpa using hbb) 5) (fun h => by cases h) HLN.out ?_; intro v2 w2 ho2 hg2 hf2; obtain ⟨A2, c2, rfl, g1, g2, g3, g4, g5, D3, D4, O3, O4, B3⟩ := behind_app h.out ho.out hg2 ho2 (hb2 HB.out hbb) HM.out H3.out; have HF2 := Lib.hid hf2; clear hf2 ho2 hg2)
          | (go_at_call 34; refine (letGo_any _ D _ A2 m c2 D4).mono ?_; rintro e w' ⟨rfl, rfl⟩))
        go_ret
        rw [HT.out]
        have D5 := D4.out.set 1 (.slice A2 0 c2) (dcells_1 _ _ _)
        have O5 : Me.Own (((w2.setCell ⟨D, 1, none⟩ (.slice A2 m c2)).setCell ⟨D, 0, none⟩ (.bool false)).setCell ⟨D, 1, none⟩ (.slice A2 0 c2)) 0 (.slice A2 m c2) (d.inn ++ [b]) := own_put D4.out O4.out
        refine TakP.mk HM.out.symm rfl O5 (hb2 HB.out hbb) (D5.inn []) ?_ ?_ ((B3.out.set (.inl (.inl rfl)) _).set (.inl (.inl rfl)) _)
        · have := Own.cut O5 (Nat.zero_le _)
          simpa using this
        · intro k e
          refine (HF2.out k (by cases A2 with | none => cases e | some a => exact e)).imp id fun h => Nat.le_trans (by simp) h
      · have HT : Hid (takeD d b = (⟨false, d.inn ++ [b], d.met⟩, [])) := by show takeD d b = _; unfold takeD; rw [if_neg H1.out, if_neg H2.out, if_neg (by rw [HL.out]; exact h3)]
        have hm1 : ¬ (260 : Int) < (m : Int) := by omega
        have HLN : Hid (d.inn.length + [b].length ≤ 140737488355328) := by show d.inn.length + 1 ≤ _; rw [HL.out]; omega
        have HN : Hid (n ≤ 260) := hl
        clear h3 hmn hl
        go_enter Try.func26, Try.ntmps26
        go_wp2_with (at_builtin; refine app8q rfl (.tmp 22) (.tmp 24) rfl (w.heap.size + 1) (.slice A n c) d.inn [b] rfl (ho.out.alloc _) (some ⟨w.heap.size, 0, none⟩) 1 rfl (rd_lit (r := [b]) (by simpa using hbb) 5) (fun h => by cases h) HLN.out ?_; intro v2 w2 ho2 hg2 hf2; obtain ⟨A2, c2, rfl, g1, g2, g3, g4, g5, D3, D4, O3, O4, B3⟩ := behind_app h.out ho.out hg2 ho2 (hb2 HB.out hbb) HM.out H3.out; have HF2 := Lib.hid hf2; clear hf2 ho2 hg2)
        go_ret
        rw [HT.out]
        have e3 : (⟨false, d.inn ++ [b], d.met⟩ : Dec).inn.length = m := HM.out
        have D5 : Dblk (w2.setCell ⟨D, 1, none⟩ (.slice A2 m c2)) D ⟨false, d.inn ++ [b], d.met⟩ (.slice A2 m c2) := by
          have h := D3.out
          unfold Dblk dcells at h ⊢
          rw [H3.out] at h
          exact h
        refine TakP.mk (A := none) rfl HM.out.symm (Me.Own.nil _ _) (by simp) D5 O3.out ?_ B3.out
        intro k e
        exact (HF2.out k e).imp id fun h => Nat.le_trans (by simp) h
end Go.Proofs.Ytoaffkmjobmhaaa.Hd
