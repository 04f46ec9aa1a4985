/- The shelf's contracts at this program, in plain words (written by program: laye.py). -/
import Derived.Test.YthajocfgpodimaaProg
import Derived.Test.YthajocfgpodimaaZ10
import Derived.Test.YthajocfgpodimaaZ5
import Derived.Test.YthajocfgpodimaaZ3
import Derived.Test.YthajocfgpodimaaSeMay
import Derived.Test.YthajocfgpodimaaSeTieB
import Derived.Shelf.SlSortCmp.WholeK
import Derived.Ground.SlsfProg
import Derived.Shelf.SlSortCmp.NoneTotal
namespace Go.Proofs
open Go.Shelf
def Try.sf__ren : Go.Shelf.Ren := ⟨fun | 6 => 49 | 15 => 59 | 14 => 58 | 28 => 71 | 29 => 72 | 20 => 63 | 21 => 64 | 22 => 65 | 23 => 66 | 24 => 67 | 25 => 68 | 26 => 69 | 27 => 70 | 46 => 74 | 47 => 75 | 48 => 76 | 49 => 77 | 50 => 78 | 57 => 79 | n => n, fun | 22 => 74 | 24 => 63 | 25 => 79 | 3 => 3 | 39 => 57 | 0 => 0 | 53 => 107 | 55 => 109 | 4 => 4 | 46 => 101 | 45 => 100 | 50 => 84 | 5 => 5 | 9 => 9 | 66 => 111 | 70 => 115 | 76 => 117 | 77 => 118 | n => n, fun | n => n⟩
theorem Try.sf_ : Go.Proofs.SlLaysF0.n6 Try.prog Try.sf__ren := {
  mixed := by kernel_rfl
  f6 := ⟨Try.f49.name, by decide, Try.func49.trans (congrArg some (by kernel_rfl))⟩
  f14 := ⟨Try.f58.name, by decide, Try.func58.trans (congrArg some (by kernel_rfl))⟩
  f15 := Try.func59.trans (congrArg some (by kernel_rfl))
  f20 := ⟨Try.f63.name, by decide, Try.func63.trans (congrArg some (by kernel_rfl))⟩
  f21 := ⟨Try.f64.name, by decide, Try.func64.trans (congrArg some (by kernel_rfl))⟩
  f22 := ⟨Try.f65.name, by decide, Try.func65.trans (congrArg some (by kernel_rfl))⟩
  f23 := ⟨Try.f66.name, by decide, Try.func66.trans (congrArg some (by kernel_rfl))⟩
  f24 := ⟨Try.f67.name, by decide, Try.func67.trans (congrArg some (by kernel_rfl))⟩
  f25 := ⟨Try.f68.name, by decide, Try.func68.trans (congrArg some (by kernel_rfl))⟩
  f26 := ⟨Try.f69.name, by decide, Try.func69.trans (congrArg some (by kernel_rfl))⟩
  f27 := ⟨Try.f70.name, by decide, Try.func70.trans (congrArg some (by kernel_rfl))⟩
  f28 := Try.func71.trans (congrArg some (by kernel_rfl))
  f29 := Try.func72.trans (congrArg some (by kernel_rfl))
  f46 := ⟨Try.f74.name, by decide, Try.func74.trans (congrArg some (by kernel_rfl))⟩
  f47 := Try.func75.trans (congrArg some (by kernel_rfl))
  f48 := Try.func76.trans (congrArg some (by kernel_rfl))
  f49 := ⟨Try.f77.name, by decide, Try.func77.trans (congrArg some (by kernel_rfl))⟩
  f50 := ⟨Try.f78.name, by decide, Try.func78.trans (congrArg some (by kernel_rfl))⟩
  f57 := ⟨Try.f79.name, by decide, Try.func79.trans (congrArg some (by kernel_rfl))⟩
  t0 := Try.underlying0
  a0 := Try.isAgg0
  z0 := Try.sizeOf0
  v0 := Try.zeroValue0
  t3 := Try.underlying3
  a3 := Try.isAgg3
  z3 := Try.sizeOf3
  v3 := Try.zeroValue3
  t4 := Try.underlying4
  a4 := Try.isAgg4
  z4 := Try.sizeOf4
  v4 := Try.zeroValue4
  t5 := Try.underlying5
  a5 := Try.isAgg5
  z5 := Try.sizeOf5
  v5 := Try.zeroValue5
  t9 := Try.underlying9
  a9 := Try.isAgg9
  z9 := Try.sizeOf9
  v9 := Try.zeroValue9
  t22 := Try.underlying74
  a22 := Try.isAgg74
  z22 := Try.sizeOf74
  v22 := Try.zeroValue74
  t25 := Try.underlying79
  a25 := Try.isAgg79
  z25 := Try.sizeOf79
  v25 := Try.zeroValue79
  t39 := Try.underlying57
  a39 := Try.isAgg57
  z39 := Try.sizeOf57
  v39 := Try.zeroValue57
  t45 := Try.underlying100
  a45 := Try.isAgg100
  z45 := Try.sizeOf100
  v45 := Try.zeroValue100
  t46 := Try.underlying101
  a46 := Try.isAgg101
  z46 := Try.sizeOf101
  v46 := Try.zeroValue101
  t50 := Try.underlying84
  a50 := Try.isAgg84
  z50 := Try.sizeOf84
  v50 := Try.zeroValue84
  t53 := Try.underlying107
  a53 := Try.isAgg107
  z53 := Try.sizeOf107
  v53 := Try.zeroValue107
  t55 := Try.underlying109
  a55 := Try.isAgg109
  z55 := Try.sizeOf109
  v55 := Try.zeroValue109
  t66 := Try.underlying111
  a66 := Try.isAgg111
  z66 := Try.sizeOf111
  v66 := Try.zeroValue111
  t70 := Try.underlying115
  a70 := Try.isAgg115
  z70 := Try.sizeOf115
  v70 := Try.zeroValue115
  t76 := Try.underlying117
  a76 := Try.isAgg117
  z76 := Try.sizeOf117
  v76 := Try.zeroValue117
  t77 := Try.underlying118
  a77 := Try.isAgg118
  z77 := Try.sizeOf118
  v77 := Try.zeroValue118 }
end Go.Proofs
/- slices.SortedFunc of a set's map's keys: all places, in order. -/
namespace Go.Proofs.Ythajocfgpodimaa.Se
open Go.RowKit Go.Sort Go.Shelf
open Go.Proofs.Ythajocfgpodimaa.Me Go.Proofs.Ythajocfgpodimaa.Sb
set_option linter.unusedVariables false
set_option linter.unusedSimpArgs false

/-- A slice of places that is read. -/
def Rp (w : World) (B : Nat) (v : Value) (L : Pls) : Prop :=
  ∃ A c, v = .slice A L.length c ∧ L.length ≤ c ∧ c ≤ 9223372036854775807 ∧ ∀ (j : Nat) (p : Int × Int), L[j]? = some p → ∃ g, A = some ⟨g, 0, none⟩ ∧ B ≤ g ∧ g < w.heap.size ∧ w.cell? ⟨g, j * 2, none⟩ = some (.int .i64 p.1) ∧ w.cell? ⟨g, j * 2 + 1, none⟩ = some (.int .i64 p.2)
theorem Rp.nil (w : World) (B : Nat) : Rp w B (.slice none 0 0) [] := ⟨none, 0, rfl, Nat.le_refl _, Nat.zero_le _, fun j p hj => by simp at hj⟩
theorem Rp.below {w w' : World} {B : Nat} {v : Value} {L : Pls} (h : Rp w B v L) (hb : Below w.heap.size w w') : Rp w' B v L := by
  obtain ⟨A, c, e, h1, h2, h3⟩ := h
  refine ⟨A, c, e, h1, h2, fun j p hj => ?_⟩
  obtain ⟨g, e1, e2, e3, e4, e5⟩ := h3 j p hj
  exact ⟨g, e1, e2, Nat.lt_of_lt_of_le e3 hb.size, (hb.cell e3).trans e4, (hb.cell e3).trans e5⟩
theorem plsV_get {L : Pls} {p : Int × Int} : ∀ {j : Nat}, L[j]? = some p → ∀ {i : Nat}, i < 2 → (plsV L)[j * 2 + i]? = (plc p)[i]? := by
  induction L with
  | nil => intro j h; simp at h
  | cons x r ih =>
    intro j h i hi
    have e : plsV (x :: r) = plc x ++ plsV r := by unfold plsV; rw [List.flatMap_cons]
    rw [e]
    cases j with
    | zero =>
      obtain rfl : x = p := by simpa using h
      rw [List.getElem?_append_left (by simp [plc]; omega)]; simp
    | succ j =>
      rw [List.getElem?_append_right (by simp [plc]; omega)]
      have h2 := ih (j := j) (by simpa using h) hi
      rw [show (j + 1) * 2 + i - (plc x).length = j * 2 + i by simp [plc]; omega, h2]
theorem Kp.rp {w : World} {B : Nat} {v : Value} {L : Pls} (h : Kp w B v L) : Rp w B v L := by
  have h0 := h
  rcases h.2 with ⟨h1, h2⟩ | ⟨g, cap, cur, h1, h2, h3, h4, h5, h6, h7⟩
  · have : L = [] := by simpa using h2
    subst this
    subst h1
    exact Rp.nil _ _
  · subst h1
    have hl := h0.lt (k := g) rfl
    refine ⟨_, cap, rfl, h4, by unfold maxLen at h5; omega, fun j p hj => ⟨g, rfl, hl.1, hl.2, ?_, ?_⟩⟩
    · have := World.ownsRow.cells h0 (g := g) rfl (j * 2 + 0) (.int .i64 p.1) (by rw [plsV_get hj (by omega)]; rfl)
      rwa [add_mk, Nat.zero_add] at this
    · have := World.ownsRow.cells h0 (g := g) rfl (j * 2 + 1) (.int .i64 p.2) (by rw [plsV_get hj (by omega)]; rfl)
      rwa [add_mk, Nat.zero_add] at this
theorem but_sort (w : World) (g n : Nat) (d : Array (Int × Int)) (os : Array Obj) : But (fun k => k = g) w (sortWorldK plc 2 w g 0 n d os) := by
  refine ⟨rfl, rfl, rfl, size_sortWorldK_c plc 2 w g 0 n d os, fun k hk hne => ?_⟩
  show ((w.heap.modify g _) ++ os)[k]? = _
  rw [Array.getElem?_append, if_pos (by simpa using hk), Array.getElem?_modify, if_neg (fun e => hne e.symm)]
theorem frozen_row {w : World} {B T s n m g c : Nat} {xs : List Value} (h : w.ownsRow B T s (.slice (some ⟨g, 0, none⟩) n c) m xs) (i : Nat) : w.frozen? ⟨g, i, none⟩ = false := by
  rcases h.2 with ⟨h1, _⟩ | ⟨g', cap, cur, h1, h2, h3, _⟩
  · cases h1
  · cases h1
    exact frozen_of_row w g i _ _ h3
theorem Kp.holds {w : World} {B g n c : Nat} {L : Pls} (h : Kp w B (.slice (some ⟨g, 0, none⟩) n c) L) : HoldsK plc 2 w g 0 L.toArray := by
  intro j hj
  rw [size_flatK] at hj
  refine ⟨?_, frozen_row h _⟩
  rw [get_flatK _ _ _ _ hj]
  have hj2 : j / 2 < L.length := by simp at hj; omega
  have hp : L[j / 2]? = some L[j / 2] := List.getElem?_eq_getElem hj2
  have e : L.toArray[j / 2]! = L[j / 2] := by simp [hj2]
  have hm : j % 2 < (plc L[j / 2]).length := by simp [plc]; omega
  have h2 := plsV_get hp (i := j % 2) (by omega)
  have h3 := World.ownsRow.cells h (g := g) rfl (j / 2 * 2 + j % 2) ((plc L[j / 2])[j % 2]) (by rw [h2]; exact List.getElem?_eq_getElem hm)
  rw [add_mk, Nat.zero_add, show j / 2 * 2 + j % 2 = j by omega] at h3
  rw [Nat.zero_add, h3, e]
  simp [hm]
theorem plc_one (p : Int × Int) : ∀ v ∈ plc p, v.oneCell' = true := by
  intro v hv
  simp only [plc, List.mem_cons, List.not_mem_nil, or_false] at hv
  rcases hv with rfl | rfl <;> rfl
theorem cmpLays (blk off size : Nat) (w : World) : CmpLays Try.prog 38 #[] plc 2 cfP blk off size w := fun _ _ _ _ x y => compare_any x y _
/-- What the sort leaves. -/
structure Sorted (L L' : Pls) : Prop where
  perm : L'.Perm L
  srt : L'.Pairwise fun a b => ¬ ltP b a
theorem Sort_any (g c B : Nat) (L : Pls) (w : World) (h : Hid (Kp w B (.slice (some ⟨g, 0, none⟩) L.length c) L)) (hl : L.length ≤ 10000000) :
    Calls Try.prog 49 #[.slice (some ⟨g, 0, none⟩) L.length c, .func (.func 38) #[] #[]] w fun e w' => e = .returned (.tuple #[]) ∧ ∃ L', Hid (Sorted L L') ∧ Hid (Rp w' B (.slice (some ⟨g, 0, none⟩) L.length c) L') ∧ Hid (But (fun k => k = g) w w') := by
  have hlt := h.out.lt (k := g) rfl
  have hf := Kp.form h.out
  have hH := Kp.holds h.out
  have hcon := AnyQ.slices_SortFunc (Try.sf_) 2 Try.isAgg63 Try.sizeOf63 plc (fun _ => rfl) plc_one cfP swoP 38 #[] g 0 c L.toArray w (enters_of Try.func38 (by kernel_rfl) rfl) (cmpLays g 0 _ w) hH hlt.2 (by simp; omega)
  refine hcon.mono ?_
  rintro e w' ⟨rfl, d', n, os, hp, hs, rfl⟩
  have hz : d'.size = L.length := by simpa using hp.1
  have hH' := holdsK_sortWorldK_c plc 2 w g 0 L.toArray d' n os hH hlt.2 (by simpa using hz)
  refine ⟨rfl, d'.toList, ⟨?_, ?_⟩, ⟨some ⟨g, 0, none⟩, c, by rw [show d'.toList.length = L.length from (Array.length_toList (xs := d')).trans hz], ?_, ?_, fun j p hj => ⟨g, rfl, hlt.1, ?_, ?_, ?_⟩⟩, but_sort w g n d' os⟩
  · have := hp.2.2
    simp only [List.size_toArray] at this
    rw [show d'.extract 0 L.length = d' by rw [← hz]; exact Array.extract_size, show L.toArray.extract 0 L.length = L.toArray by simp] at this
    simp at this
    exact this
  · rw [List.pairwise_iff_getElem]
    intro i j hi hj hij
    have hi' : i < d'.size := by simpa using hi
    have hj' : j < d'.size := by simpa using hj
    have := hs i j (Nat.zero_le _) hij (by simp; omega)
    rw [getElem!_pos d' i hi', getElem!_pos d' j hj'] at this
    intro hc
    rw [← ltOf_cfP] at hc
    simp only [Array.getElem_toList] at hc
    rw [hc] at this
    cases this
  · obtain ⟨A, c', e, h1, h2⟩ := hf
    cases e
    rw [show d'.toList.length = L.length from (Array.length_toList (xs := d')).trans hz]; exact h1
  · obtain ⟨A, c', e, h1, h2⟩ := hf
    cases e
    exact h2
  · exact Nat.lt_of_lt_of_le hlt.2 (size_sortWorldK_c plc 2 w g 0 n d' os)
  · have hj' : j < d'.size := by have := (List.getElem?_eq_some_iff.1 hj).1; simpa using this
    have h1 := (HoldsK.cell hH' hj' (c := 0) (by omega)).1
    have e : d'[j]! = p := by
      rw [getElem!_pos d' j hj']
      have := (List.getElem?_eq_some_iff.1 hj).2
      simpa using this
    rw [e] at h1
    simpa [plc] using h1
  · have hj' : j < d'.size := by have := (List.getElem?_eq_some_iff.1 hj).1; simpa using this
    have h1 := (HoldsK.cell hH' hj' (c := 1) (by omega)).1
    have e : d'[j]! = p := by
      rw [getElem!_pos d' j hj']
      have := (List.getElem?_eq_some_iff.1 hj).2
      simpa using this
    rw [e] at h1
    simpa [plc] using h1
end Go.Proofs.Ythajocfgpodimaa.Se
/- slices.SortedFunc of a set's map's keys. -/
namespace Go.Proofs.Ythajocfgpodimaa.Se
open Go.RowKit
open Go.Proofs.Ythajocfgpodimaa.Me Go.Proofs.Ythajocfgpodimaa.Sb
set_option linter.unusedVariables false
set_option linter.unusedSimpArgs false

/-- All kept places, in order. -/
structure Ord (kept : Int → Int → Option Mk) (n : Nat) (L : Pls) : Prop where
  all : ∀ p ∈ L, Pp p.1 p.2 ∧ kept p.1 p.2 ≠ none
  fin : ∀ p : Int × Int, Pp p.1 p.2 → kept p.1 p.2 ≠ none → p ∈ L
  le : L.length ≤ n
  srt : L.Pairwise ltP
theorem Ord.of {kept : Int → Int → Option Mk} {n : Nat} {L L' : Pls} (hg : Good kept n L) (hf : finK kept L) (hs : Sorted L L') : Ord kept n L' := by
  refine ⟨fun p hp => hg.all p (hs.perm.mem_iff.1 hp), fun p hp hk => hs.perm.mem_iff.2 (hf p hp hk), by rw [hs.perm.length_eq]; exact hg.le, ?_⟩
  have hnd : L'.Nodup := hs.perm.nodup_iff.2 hg.nd
  refine (List.Pairwise.and hs.srt (List.nodup_iff_pairwise_ne.1 hnd)).imp fun {a b} h => ?_
  obtain ⟨h1, h2⟩ := h
  unfold ltP at h1 ⊢
  have : ¬ (a.1 = b.1 ∧ a.2 = b.2) := fun e => h2 (Prod.ext e.1 e.2)
  omega
theorem Sort_all (v : Value) (B : Nat) (L : Pls) (w : World) (h : Hid (Kp w B v L)) (hl : L.length ≤ 10000000) :
    Calls Try.prog 49 #[v, .func (.func 38) #[] #[]] w fun e w' => e = .returned (.tuple #[]) ∧ ∃ L', Hid (Sorted L L') ∧ Hid (Rp w' B v L') ∧ Hid (But (fun k => v.ownBlock = some k) w w') := by
  rcases h.out.2 with ⟨h1, h2⟩ | ⟨g, cap, cur, h1, h2, h3, h4, h5, h6, h7⟩
  · have : L = [] := by simpa using h2
    subst this
    subst h1
    refine (AnyF.slices_SortFunc_none Try.sf_ none 0 (.func (.func 38) #[] #[]) w).mono ?_
    rintro e w' ⟨rfl, rfl⟩
    exact ⟨rfl, [], ⟨List.Perm.refl _, List.Pairwise.nil⟩, Rp.nil _ _, But.refl _ _⟩
  · subst h1
    refine (Sort_any g cap B L w h hl).mono ?_
    rintro e w' ⟨rfl, L', hs, hr, hb⟩
    exact ⟨rfl, L', hs, hr, hb.out.mono fun k _ e => by rw [e]; rfl⟩
set_option maxHeartbeats 1000000 in
theorem Sorted_keys {t : Bool} (kb mb n : Nat) (w0 w : World) (kept : Int → Int → Option Mk) (hM : Mp w0 t mb n kept) (hn9 : n ≤ 5000000) (h1 : Hid (Boxed w kb 59 (.map (some mb)))) (h2 : Hid (w.heap[mb]? = w0.heap[mb]?)) :
    Calls Try.prog 36 #[keysV kb, .func (.func 38) #[] #[]] w fun e w' => ∃ v L, e = .returned v ∧ Hid (Rp w' w.heap.size v L) ∧ Hid (Below w.heap.size w w') ∧ Hid (Ord kept n L) := by
  have HA := Lib.hid (Collect_keys kb mb n w0 w kept hM hn9 h1 h2)
  unfold keysV at HA ⊢
  go_enter Try.func36, Try.ntmps36
  go_wp2_with (first
    | (go_at_call 48; refine HA.out.mono ?_; rintro e w1 ⟨v, L, rfl, ho, hb, hg, hf⟩; have HG := Lib.hid hg; have HF := Lib.hid hf; clear hg hf)
    | (go_at_call 49; refine (Sort_all v w.heap.size L w1 ho (by have := HG.out.le; omega)).mono ?_; rintro e w2 ⟨rfl, L', hs2, hr2, hb2⟩))
  go_ret
  refine ⟨v, L', rfl, hr2, ?_, Ord.of HG.out HF.out hs2.out⟩
  exact hb.out.trans (hb2.out.below hb.out.size fun k hk => (ho.out.lt hk).1)
end Go.Proofs.Ythajocfgpodimaa.Se
/- Marks of a set. -/
namespace Go.Proofs.Ythajocfgpodimaa.Se
open Go.RowKit
open Go.Proofs.Ythajocfgpodimaa.Me Go.Proofs.Ythajocfgpodimaa.Sb
set_option linter.unusedVariables false
set_option linter.unusedSimpArgs false

/-- The mark that is told of a place. -/
def mrOf (kept : Int → Int → Option Mk) (p : Int × Int) : Mr := ⟨p.1, p.2, (getM kept p.1 p.2).up, (getM kept p.1 p.2).more⟩
theorem Sl.rd {w : World} {A : Option Addr} {c : Nat} {l : List Int} (h : Sl w A c l) : Mi.Rd w w.heap.size A l := by
  intro hl
  cases A with
  | none => have := (h.2.2.1 rfl).1; subst this; simp at hl
  | some a =>
    obtain ⟨g, off, e, ⟨cur, hc⟩, hr⟩ := h.2.2.2 a rfl
    exact ⟨g, off, by rw [e], (Array.getElem?_eq_some_iff.1 hc).1, fun i hi => hr i hi⟩
theorem takeP_snoc {α : Type} {L : List α} {j : Nat} {p : α} (h : L[j]? = some p) : L.take (j + 1) = L.take j ++ [p] := by
  obtain ⟨h1, h2⟩ := List.getElem?_eq_some_iff.1 h
  rw [List.take_add_one, h]; rfl
theorem own_ne_ty {w : World} {B T T' s n x : Nat} {v : Value} {xs : List Value} {cs : Array Value} {fr : Nat × Nat} (h : w.ownsRow B T s v n xs) (hx : w.heap[x]? = some (.cells cs T' fr)) (hT : T ≠ T') : some x ≠ v.ownBlock := by
  intro e
  rcases h.2 with ⟨rfl, _⟩ | ⟨g, cap, cur, rfl, _, h3, _⟩
  · simp [Value.ownBlock] at e
  · obtain rfl : x = g := by simpa [Value.ownBlock] using e
    rw [h3] at hx
    simp at hx
    exact hT hx.2.1
theorem MarksNil_any (w : World) : Calls Try.prog 20 #[.pointer none] w fun e w' => e = .returned (.slice none 0 0) ∧ w' = w := by
  go_enter Try.func20, Try.ntmps20
  go_wp2
  go_ret
  exact ⟨rfl, rfl⟩
set_option maxRecDepth 100000 in
set_option maxHeartbeats 8000000 in
theorem Marks_any (t : Bool) (D b n : Nat) (s : St) (w : World) (hS : Hid (Set w t D b n s)) (hn : n ≤ 5000000) : Calls Try.prog 20 #[.pointer (some ⟨D, 0, none⟩)] w fun e w' => ∃ v P L, e = .returned v ∧ Hid (Mw w' w.heap.size v P) ∧ Hid (Below w.heap.size w w') ∧ Hid (Ord s.kept n L) ∧ Hid (P.map Pm.m = L.map (mrOf s.kept)) := by
  have hbK : Below w.heap.size w (w.alloc (.cells #[.map (some b)] 59)) := Me.below_alloc (Below.refl _ _)
  have HK := Lib.hid (fun W => Keys_any b W)
  have HSK := Lib.hid (Sorted_keys w.heap.size b n w (w.alloc (.cells #[.map (some b)] 59)) s.kept hS.out.map hn (Boxed.new w _ _) (hbK.block b hS.out.lt.2))
  obtain ⟨y0, y1, y2⟩ := set_cells hS.out.box
  have HBK := Lib.hid hbK
  clear hbK
  go_enter Try.func20, Try.ntmps20
  go_wp2_with (first
    | (go_at_call 37; refine (HK.out _).mono ?_; rintro e w' ⟨rfl, rfl⟩)
    | (go_at_call 36; refine HSK.out.mono ?_; rintro e W1 ⟨vL, L, rfl, hR, hB, hO⟩; obtain ⟨A, cL, rfl, hc1, hc2, hR2⟩ := hR.out; have HR := Lib.hid hR; clear hc1 hc2 hR2 hR))
  have HB1 : Hid (Below w.heap.size w W1) := HBK.out.trans (hB.out.mono HBK.out.size)
  have hle := hO.out.le
  obtain ⟨N, hN⟩ : ∃ N, L.length = N := ⟨_, rfl⟩
  rw [hN] at HR hle ⊢
  have HN := Lib.hid hN
  have HS1 : Hid (Set W1 t D b n s) := hS.out.below HB1.out
  clear hN hB HSK HK HBK y0 y1 y2
  go_loopw [3, 16] (fun v3 v16 wr => ∃ (j : Nat) (P : List Pm), j ≤ N ∧ v16 = .int .i64 (j : Int) ∧ Hid (Mw wr W1.heap.size v3 P) ∧ Hid (P.map Pm.m = (L.take j).map (mrOf s.kept)) ∧ Hid (P.length = j) ∧ Hid (Below W1.heap.size W1 wr)) (fun _ v16 _ => N - (intOf v16).toNat)
  case atStart => exact ⟨0, [], by omega, rfl, Mw.nil _ _, (by show _ = _; simp), rfl, Below.refl _ _⟩
  case round =>
    obtain ⟨j, P, hj, rfl, HM, HP, HL, HBr⟩ := hrel
    by_cases hlt : j < N
    · obtain ⟨p, hp⟩ : ∃ p, L[j]? = some p := ⟨_, List.getElem?_eq_getElem (by have := HN.out; omega)⟩
      have hpp := (hO.out.all p (List.mem_of_getElem? hp)).1
      obtain ⟨A', c', e', h1, h2, h3⟩ := HR.out.below HBr.out
      injection e' with e1 e2 e3
      subst e1
      obtain ⟨g, rfl, hg1, hg2, x0, x1⟩ := h3 j p hp
      clear h1 h2 h3 e2 e3 c' hg1 hg2
      have HTK := Lib.hid (takeP_snoc hp)
      obtain ⟨o, e⟩ := p
      have HMR : Hid (mrOf s.kept (o, e) = ⟨o, e, (getM s.kept o e).up, (getM s.kept o e).more⟩) := rfl
      obtain ⟨v, hv, hlk⟩ := HS1.out.map.look hpp
      have hml := HS1.out.ok.more_le o e
      have hg1 := HS1.out.ok.g1
      have hr1 := HS1.out.ok.r1
      obtain ⟨Am, cm, rfl, _, hsl⟩ := hv
      have HLk : Hid (∀ W, Below W1.heap.size W1 W → (Instr.lookup 59 (.map (some b)) (.agg #[.int .i64 o, .int .i64 e]) false).run Try.prog W = .ok _ W) := fun W hW => hlk W (hW.block b HS1.out.lt.2)
      have HC : Hid (∀ W, Below W1.heap.size W1 W → W.cell? ⟨D, 0, none⟩ = some (.int .i64 s.room) ∧ W.cell? ⟨D, 1, none⟩ = some (.int .i64 s.gaps) ∧ W.cell? ⟨D, 2, none⟩ = some (.map (some b))) := fun W hW => set_cells (HS1.out.below hW).box
      have HCl : Hid (∀ W, Below W1.heap.size W1 W → Calls Try.prog 29 #[.slice Am (getM s.kept o e).more.length cm] W fun e' w' => ∃ v, e' = .returned v ∧ Hid (Mi.Own w' W.heap.size v (getM s.kept o e).more) ∧ Hid (Below W.heap.size W w')) := fun W hW => IClone_any Am cm W1.heap.size _ W (hsl.rd.below hW) (fun h => ⟨by rw [(hsl.2.2.1 h).1]; rfl, (hsl.2.2.1 h).2⟩) hW.size (by omega)
      obtain ⟨u, hu⟩ : ∃ u, (getM s.kept o e).up = u := ⟨_, rfl⟩
      obtain ⟨ml, hme⟩ : ∃ ml, (getM s.kept o e).more = ml := ⟨_, rfl⟩
      rw [hu, hme] at HMR HLk
      rw [hme] at HCl
      obtain ⟨M, hM⟩ : ∃ M, ml.length = M := ⟨_, rfl⟩
      rw [hM] at HLk HCl
      have HMM := Lib.hid hM
      have hP1 : P.length ≤ 10000000 := by have := HL.out; omega
      have HP1 := Lib.hid hP1
      have hX1 : Below wr.heap.size wr (wr.alloc (.cells #[.int .i64 o, .int .i64 e] 63)) := Me.below_alloc (Below.refl _ _)
      have hXp : (wr.alloc (.cells #[.int .i64 o, .int .i64 e] 63)).heap[wr.heap.size]? = some (.cells #[.int .i64 o, .int .i64 e] 63 (0, 0)) := heap_alloc_new wr _
      have HX1 := Lib.hid hX1
      have HXp := Lib.hid hXp
      have hjn : (j : Int) < (N : Int) := by omega
      clear hp hpp hlk hml hg1 hr1 hsl hu hme hM hX1 hXp hP1
      go_wp2
      have S0 : Below wr.heap.size wr (wr.alloc (.cells #[.int .i64 o, .int .i64 e] 63)).drew ∧ (wr.alloc (.cells #[.int .i64 o, .int .i64 e] 63)).drew.heap[wr.heap.size]? = some (.cells #[.int .i64 o, .int .i64 e] 63 (0, 0)) := ⟨HX1.out.drew, HXp.out⟩
      clear x0 x1
      refine wp_region_held_drew (S := fun W => Below wr.heap.size wr W ∧ W.heap[wr.heap.size]? = some (.cells #[.int .i64 o, .int .i64 e] 63 (0, 0))) (by kernel_rfl) S0 (fun hHeld => ?_)
      have HW1 : Hid (∀ W, Below wr.heap.size wr W → Below W1.heap.size W1 W) := fun W hW => HBr.out.trans (hW.mono HBr.out.size)
      refine wpAnyH_take (i := 0) (v := .pointer (some ⟨D, 0, none⟩)) rfl (by kernel_rfl) (by kernel_rfl) (by kernel_rfl) (fun _ _ _ h => h) (Or.inl ⟨by rfl, ?_⟩) (by first | assumption | exact trivial) ?_
      · intro W hSW; go_simp; try (with_reducible rfl)
      simp only [Act.put, List.getElem_toArray, List.getElem_cons_succ, List.getElem_cons_zero, List.setIfInBounds_toArray, List.set_cons_zero, List.set_cons_succ]
      refine wpAnyH_take (i := 1) (v := .pointer (some ⟨D, 0, none⟩)) rfl (by kernel_rfl) (by kernel_rfl) (by kernel_rfl) (fun _ _ _ h => h) (Or.inl ⟨by rfl, ?_⟩) (by first | assumption | exact trivial) ?_
      · intro W hSW; go_simp; try (with_reducible rfl)
      simp only [Act.put, List.getElem_toArray, List.getElem_cons_succ, List.getElem_cons_zero, List.setIfInBounds_toArray, List.set_cons_zero, List.set_cons_succ]
      refine wpAnyH_take (i := 2) (v := .pointer (some ⟨D, 2, none⟩)) rfl (by kernel_rfl) (by kernel_rfl) (by kernel_rfl) (fun _ _ _ h => h) (Or.inl ⟨by rfl, ?_⟩) (by first | assumption | exact trivial) ?_
      · intro W hSW; go_simp; try (with_reducible rfl)
      simp only [Act.put, List.getElem_toArray, List.getElem_cons_succ, List.getElem_cons_zero, List.setIfInBounds_toArray, List.set_cons_zero, List.set_cons_succ]
      refine wpAnyH_take (i := 3) (v := .map (some b)) rfl (by kernel_rfl) (by kernel_rfl) (by kernel_rfl) (fun _ _ _ h => h) (Or.inl ⟨by rfl, ?_⟩) (by first | assumption | exact trivial) ?_
      · intro W hSW; obtain ⟨y0, y1, y2⟩ := HC.out W (HW1.out W hSW.1); go_simp; try (with_reducible rfl)
      simp only [Act.put, List.getElem_toArray, List.getElem_cons_succ, List.getElem_cons_zero, List.setIfInBounds_toArray, List.set_cons_zero, List.set_cons_succ]
      refine wpAnyH_take (i := 4) (v := .agg #[.int .i64 o, .int .i64 e]) rfl (by kernel_rfl) (by kernel_rfl) (by kernel_rfl) (fun _ _ _ h => h) (Or.inl ⟨by rfl, ?_⟩) (by first | assumption | exact trivial) ?_
      · intro W hSW; have x0 := cell_of_row W wr.heap.size 0 _ _ (0, 0) hSW.2; have x1 := cell_of_row W wr.heap.size 1 _ _ (0, 0) hSW.2; go_simp; try (with_reducible rfl)
      simp only [Act.put, List.getElem_toArray, List.getElem_cons_succ, List.getElem_cons_zero, List.setIfInBounds_toArray, List.set_cons_zero, List.set_cons_succ]
      refine wpAnyH_take (i := 5) (v := .agg #[.int .i64 u, .slice Am M cm]) rfl (by kernel_rfl) (by kernel_rfl) (by kernel_rfl) (fun _ _ _ h => h) (Or.inl ⟨by rfl, ?_⟩) (by first | assumption | exact trivial) ?_
      · intro W hSW; have q := HLk.out W (HW1.out W hSW.1); go_simp; try (with_reducible rfl)
      simp only [Act.put, List.getElem_toArray, List.getElem_cons_succ, List.getElem_cons_zero, List.setIfInBounds_toArray, List.set_cons_zero, List.set_cons_succ]
      refine wpAnyH_ready (rs := [6]) (by kernel_rfl) (by simp) ?_
      refine AllReadyH.cons rfl (fun K hK => ?_) AllReadyH.nil
      go_simp
      obtain ⟨V6, hV6⟩ : ∃ V, ((wr.alloc (.cells #[.int .i64 o, .int .i64 e] 63)).alloc (.cells #[.int .i64 0, .slice none 0 0] 65)).drew = V := ⟨_, rfl⟩
      have hb6 : Below wr.heap.size wr V6 := by rw [← hV6]; exact (Me.below_alloc HX1.out).drew
      have hX6 : V6.heap[wr.heap.size]? = some (.cells #[.int .i64 o, .int .i64 e] 63 (0, 0)) := by
        rw [← hV6]
        exact (Below.heap_alloc _ _ _ (Array.getElem?_eq_some_iff.1 HXp.out).1).trans HXp.out
      have hD6 : V6.heap[wr.heap.size + 1]? = some (.cells #[.int .i64 0, .slice none 0 0] 65 (0, 0)) := by
        rw [← hV6]
        have := heap_alloc_new (wr.alloc (.cells #[.int .i64 o, .int .i64 e] 63)) (.cells #[.int .i64 0, .slice none 0 0] 65)
        rw [World.size_alloc] at this
        exact this
      rw [hV6]
      clear hV6
      refine hK.out _ _ (⟨hb6, hX6⟩) (fun hHeld => ?_)
      clear hK K
      refine wpAnyH_ready (rs := [7]) (by kernel_rfl) (by simp) ?_
      refine AllReadyH.cons rfl (fun K hK => ?_) AllReadyH.nil
      rw [if_pos (by kernel_rfl)]
      refine wp_store_row 65 (.tmp 6) (.tmp 25) rfl (wr.heap.size + 1) #[.int .i64 u, .slice Am M cm] rfl (by rfl) 65 _ hD6 (by kernel_rfl) rfl (mk_one _ _ _ _) ?_
      simp only [Act.put, List.getElem_toArray, List.getElem_cons_succ, List.getElem_cons_zero, List.setIfInBounds_toArray, List.set_cons_zero, List.set_cons_succ]
      obtain ⟨V9, hV9⟩ : ∃ V, V6.setRow (wr.heap.size + 1) #[.int .i64 u, .slice Am M cm] = V := ⟨_, rfl⟩
      have hb9 : Below wr.heap.size wr V9 := by rw [← hV9]; exact Sb.below_setRow _ hb6 (by omega)
      have hD9 : V9.heap[wr.heap.size + 1]? = some (.cells #[.int .i64 u, .slice Am M cm] 65 (0, 0)) := by rw [← hV9]; exact setRow_heap _ _ _ _ _ _ hD6
      have hX9 : V9.heap[wr.heap.size]? = some (.cells #[.int .i64 o, .int .i64 e] 63 (0, 0)) := by
        rw [← hV9]
        exact (setRow_other _ _ _ _ (by omega)).trans hX6
      rw [hV9]
      clear hV9
      refine hK.out _ _ (⟨hb9, hX9⟩) (fun hHeld => ?_)
      clear hK K
      refine wpAnyH_done (by kernel_rfl) ?_ _
      have HB9 : Hid (Below W1.heap.size W1 V9) := HW1.out V9 hb9
      have HM9 : Hid (Mw V9 W1.heap.size u3 P) := HM.out.below hb9
      have HX9 := Lib.hid hX9
      have HD9 := Lib.hid hD9
      have hxl : wr.heap.size + 1 < V9.heap.size := (Array.getElem?_eq_some_iff.1 hD9).1
      have HXL := Lib.hid hxl
      clear hHeld hb6 hD6 hX6 hb9 hD9 hX9 HX1 HXp HW1 S0 hxl
      obtain ⟨X, hX⟩ : ∃ X, wr.heap.size + 1 = X := ⟨_, rfl⟩
      obtain ⟨xp, hxp⟩ : ∃ xp, wr.heap.size = xp := ⟨_, rfl⟩
      rw [hX] at HD9 HXL ⊢
      rw [hxp] at HX9 ⊢
      have HXx := Lib.hid hxp
      have HXX : Hid (xp < X) := by show _ < _; omega
      clear hX hxp
      go_wp2
      have S2 : Below W1.heap.size W1 V9.drew ∧ V9.drew.heap[xp]? = some (.cells #[.int .i64 o, .int .i64 e] 63 (0, 0)) ∧ V9.drew.heap[X]? = some (.cells #[.int .i64 u, .slice Am M cm] 65 (0, 0)) := ⟨HB9.out.drew, HX9.out, HD9.out⟩
      refine wp_region_held_drew (S := fun W => Below W1.heap.size W1 W ∧ W.heap[xp]? = some (.cells #[.int .i64 o, .int .i64 e] 63 (0, 0)) ∧ W.heap[X]? = some (.cells #[.int .i64 u, .slice Am M cm] 65 (0, 0))) (by kernel_rfl) S2 (fun hHeld => ?_)
      refine wpAnyH_take (i := 0) (v := u3) rfl (by kernel_rfl) (by kernel_rfl) (by kernel_rfl) (fun _ _ _ h => h) (Or.inl ⟨by rfl, ?_⟩) (by first | assumption | exact trivial) ?_
      · intro W hSW; go_simp; try (with_reducible rfl)
      simp only [Act.put, List.getElem_toArray, List.getElem_cons_succ, List.getElem_cons_zero, List.setIfInBounds_toArray, List.set_cons_zero, List.set_cons_succ]
      refine wpAnyH_take (i := 1) (v := .pointer (some ⟨xp, 0, none⟩)) rfl (by kernel_rfl) (by kernel_rfl) (by kernel_rfl) (fun _ _ _ h => h) (Or.inl ⟨by rfl, ?_⟩) (by first | assumption | exact trivial) ?_
      · intro W hSW; go_simp; try (with_reducible rfl)
      simp only [Act.put, List.getElem_toArray, List.getElem_cons_succ, List.getElem_cons_zero, List.setIfInBounds_toArray, List.set_cons_zero, List.set_cons_succ]
      refine wpAnyH_take (i := 2) (v := .int .i64 o) rfl (by kernel_rfl) (by kernel_rfl) (by kernel_rfl) (fun _ _ _ h => h) (Or.inl ⟨by rfl, ?_⟩) (by first | assumption | exact trivial) ?_
      · intro W hSW; have x0 := cell_of_row W xp 0 _ _ (0, 0) hSW.2.1; go_simp; try (with_reducible rfl)
      simp only [Act.put, List.getElem_toArray, List.getElem_cons_succ, List.getElem_cons_zero, List.setIfInBounds_toArray, List.set_cons_zero, List.set_cons_succ]
      refine wpAnyH_take (i := 3) (v := .pointer (some ⟨xp, 1, none⟩)) rfl (by kernel_rfl) (by kernel_rfl) (by kernel_rfl) (fun _ _ _ h => h) (Or.inl ⟨by rfl, ?_⟩) (by first | assumption | exact trivial) ?_
      · intro W hSW; go_simp; try (with_reducible rfl)
      simp only [Act.put, List.getElem_toArray, List.getElem_cons_succ, List.getElem_cons_zero, List.setIfInBounds_toArray, List.set_cons_zero, List.set_cons_succ]
      refine wpAnyH_take (i := 4) (v := .int .i64 e) rfl (by kernel_rfl) (by kernel_rfl) (by kernel_rfl) (fun _ _ _ h => h) (Or.inl ⟨by rfl, ?_⟩) (by first | assumption | exact trivial) ?_
      · intro W hSW; have x1 := cell_of_row W xp 1 _ _ (0, 0) hSW.2.1; go_simp; try (with_reducible rfl)
      simp only [Act.put, List.getElem_toArray, List.getElem_cons_succ, List.getElem_cons_zero, List.setIfInBounds_toArray, List.set_cons_zero, List.set_cons_succ]
      refine wpAnyH_take (i := 5) (v := .pointer (some ⟨X, 0, none⟩)) rfl (by kernel_rfl) (by kernel_rfl) (by kernel_rfl) (fun _ _ _ h => h) (Or.inl ⟨by rfl, ?_⟩) (by first | assumption | exact trivial) ?_
      · intro W hSW; go_simp; try (with_reducible rfl)
      simp only [Act.put, List.getElem_toArray, List.getElem_cons_succ, List.getElem_cons_zero, List.setIfInBounds_toArray, List.set_cons_zero, List.set_cons_succ]
      refine wpAnyH_take (i := 6) (v := .int .i64 u) rfl (by kernel_rfl) (by kernel_rfl) (by kernel_rfl) (fun _ _ _ h => h) (Or.inl ⟨by rfl, ?_⟩) (by first | assumption | exact trivial) ?_
      · intro W hSW; have x0 := cell_of_row W X 0 _ _ (0, 0) hSW.2.2; go_simp; try (with_reducible rfl)
      simp only [Act.put, List.getElem_toArray, List.getElem_cons_succ, List.getElem_cons_zero, List.setIfInBounds_toArray, List.set_cons_zero, List.set_cons_succ]
      refine wpAnyH_take (i := 7) (v := .pointer (some ⟨X, 1, none⟩)) rfl (by kernel_rfl) (by kernel_rfl) (by kernel_rfl) (fun _ _ _ h => h) (Or.inl ⟨by rfl, ?_⟩) (by first | assumption | exact trivial) ?_
      · intro W hSW; go_simp; try (with_reducible rfl)
      simp only [Act.put, List.getElem_toArray, List.getElem_cons_succ, List.getElem_cons_zero, List.setIfInBounds_toArray, List.set_cons_zero, List.set_cons_succ]
      refine wpAnyH_take (i := 8) (v := .slice Am M cm) rfl (by kernel_rfl) (by kernel_rfl) (by kernel_rfl) (fun _ _ _ h => h) (Or.inl ⟨by rfl, ?_⟩) (by first | assumption | exact trivial) ?_
      · intro W hSW; have x1 := cell_of_row W X 1 _ _ (0, 0) hSW.2.2; go_simp; try (with_reducible rfl)
      simp only [Act.put, List.getElem_toArray, List.getElem_cons_succ, List.getElem_cons_zero, List.setIfInBounds_toArray, List.set_cons_zero, List.set_cons_succ]
      refine wpAnyH_ready (rs := [9]) (by kernel_rfl) (by simp) ?_
      refine AllReadyH.cons rfl (fun K hK => ?_) AllReadyH.nil
      go_simp
      have hMd := HM9.out.below (Below.refl V9.heap.size V9).drew
      go_wp2_with (go_at_call 29; refine (HCl.out _ S2.1).mono ?_; rintro e' w3 ⟨vc, rfl, ho3, hb3⟩)
      obtain ⟨Ac, cc, rfl, _⟩ := Mi.Own.form ho3.out
      rw [HMM.out] at ho3 ⊢
      have hM3 := hMd.below hb3.out
      have S3 : Below W1.heap.size W1 w3 ∧ w3.heap[xp]? = some (.cells #[.int .i64 o, .int .i64 e] 63 (0, 0)) ∧ w3.heap[X]? = some (.cells #[.int .i64 u, .slice Am M cm] 65 (0, 0)) :=
        ⟨S2.1.trans (hb3.out.mono S2.1.size), (hb3.out.block _ (Array.getElem?_eq_some_iff.1 S2.2.1).1).trans S2.2.1, (hb3.out.block _ (Array.getElem?_eq_some_iff.1 S2.2.2).1).trans S2.2.2⟩
      have ho3' : Mi.Own w3 W1.heap.size (.slice Ac M cc) ml := ho3.out.base fun k hk => Nat.le_trans S2.1.size (ho3.out.lt k hk).1
      refine hK.out _ _ (S3) (fun hHeld => ?_)
      clear hK K
      refine wpAnyH_take (i := 10) (v := .agg #[.int .i64 o, .int .i64 e, .int .i64 u, .slice Ac M cc]) rfl (by kernel_rfl) (by kernel_rfl) (by kernel_rfl) (fun _ _ _ h => h) (Or.inl ⟨by rfl, ?_⟩) (by first | assumption | exact trivial) ?_
      · intro W hSW; go_simp; try (with_reducible rfl)
      simp only [Act.put, List.getElem_toArray, List.getElem_cons_succ, List.getElem_cons_zero, List.setIfInBounds_toArray, List.set_cons_zero, List.set_cons_succ]
      refine wpAnyH_ready (rs := [11]) (by kernel_rfl) (by simp) ?_
      refine AllReadyH.cons rfl (fun K hK => ?_) AllReadyH.nil
      go_simp
      obtain ⟨W9, hW9⟩ : ∃ V, w3.alloc (.cells #[.int .i64 o, .int .i64 e, .int .i64 u, .slice Ac M cc] 55) = V := ⟨_, rfl⟩
      have hb9 : Below w3.heap.size w3 W9 := by rw [← hW9]; exact Me.below_alloc (Below.refl _ _)
      have hz9 : W9.heap[w3.heap.size]? = some (.cells #[.int .i64 o, .int .i64 e, .int .i64 u, .slice Ac M cc] 55 (0, 0)) := by rw [← hW9]; exact heap_alloc_new w3 _
      rw [hW9]
      clear hW9
      have hM9 := hM3.below hb9
      have ho9 := ho3'.below hb9
      have S9 : Below W1.heap.size W1 W9 ∧ W9.heap[xp]? = some (.cells #[.int .i64 o, .int .i64 e] 63 (0, 0)) ∧ W9.heap[X]? = some (.cells #[.int .i64 u, .slice Am M cm] 65 (0, 0)) :=
        ⟨S3.1.trans (hb9.mono S3.1.size), (hb9.block _ (Array.getElem?_eq_some_iff.1 S3.2.1).1).trans S3.2.1, (hb9.block _ (Array.getElem?_eq_some_iff.1 S3.2.2).1).trans S3.2.2⟩
      refine hK.out _ _ (S9) (fun hHeld => ?_)
      clear hK K
      refine wpAnyH_ready (rs := [12]) (by kernel_rfl) (by simp) ?_
      refine AllReadyH.cons rfl (fun K hK => ?_) AllReadyH.nil
      rw [if_pos (by kernel_rfl)]
      refine appMw (.tmp 26) (.tmp 37) rfl W1.heap.size u3 P ⟨⟨o, e, u, ml⟩, Ac, cc⟩ w3.heap.size rfl hM9 (by show Mi.Own W9 _ (.slice Ac ml.length cc) ml; rw [HMM.out]; exact ho9) rfl (fun j' u' hj' => ?_) HP1.out S9.1.size ?_
      · rw [cell_of_row W9 w3.heap.size j' _ _ (0, 0) hz9]
        have e9 : pV ⟨⟨o, e, u, ml⟩, Ac, cc⟩ = [.int .i64 o, .int .i64 e, .int .i64 u, .slice Ac M cc] := by simp only [pV, Pm.v, HMM.out]
        rw [e9] at hj'
        simpa using hj'
      intro v7 W7 hM7 hg7 hk7
      simp only [Act.put, List.getElem_toArray, List.getElem_cons_succ, List.getElem_cons_zero, List.setIfInBounds_toArray, List.set_cons_zero, List.set_cons_succ]
      have S7 : Below W1.heap.size W1 W7 ∧ W7.heap[xp]? = some (.cells #[.int .i64 o, .int .i64 e] 63 (0, 0)) ∧ W7.heap[X]? = some (.cells #[.int .i64 u, .slice Am M cm] 65 (0, 0)) :=
        ⟨S9.1.grown hg7 S9.1.size hk7, (hg7.block _ (Array.getElem?_eq_some_iff.1 S9.2.1).1 (own_ne_ty hM9.own S9.2.1 (by decide))).trans S9.2.1, (hg7.block _ (Array.getElem?_eq_some_iff.1 S9.2.2).1 (own_ne_ty hM9.own S9.2.2 (by decide))).trans S9.2.2⟩
      refine hK.out _ _ (S7) (fun hHeld => ?_)
      clear hK K
      refine wpAnyH_take (i := 13) (v := v7) rfl (by kernel_rfl) (by kernel_rfl) (by kernel_rfl) (fun _ _ _ h => h) (Or.inl ⟨by rfl, ?_⟩) (by first | assumption | exact trivial) ?_
      · intro W hSW; go_simp; try (with_reducible rfl)
      simp only [Act.put, List.getElem_toArray, List.getElem_cons_succ, List.getElem_cons_zero, List.setIfInBounds_toArray, List.set_cons_zero, List.set_cons_succ]
      refine wpAnyH_done (by kernel_rfl) ?_ _
      have HM7 := Lib.hid hM7
      have HB7 : Hid (Below W1.heap.size W1 W7) := S7.1
      clear hHeld S2 S3 S7 S9 hM7 hg7 hk7 hM9 hM3 hMd ho9 ho3' ho3 hb3 hb9 hz9
      go_wp2
      go_roundw
      case rel =>
        refine ⟨j + 1, P ++ [⟨⟨o, e, u, ml⟩, Ac, cc⟩], hlt, by go_num, HM7, ?_, ?_, HB7⟩
        · show _ = _
          rw [List.map_append, HP.out, HTK.out, List.map_append]
          simp only [List.map_cons, List.map_nil]
          rw [HMR.out]
        · show _ = _
          rw [List.length_append, HL.out]; rfl
      case measure => simp [intOf]; omega
    · obtain rfl : j = N := by omega
      go_wp2
      go_ret
      refine ⟨_, P, L, rfl, HM.out.base HB1.out.size, HB1.out.trans (HBr.out.mono HB1.out.size), hO, ?_⟩
      show _ = _
      rw [HP.out, List.take_of_length_le (by have := HN.out; omega)]
end Go.Proofs.Ythajocfgpodimaa.Se
/- The marks that are told, on both sides: pure. -/
namespace Go.Proofs.Ythajocfgpodimaa.Se
open Go.RowKit
set_option linter.unusedVariables false
set_option linter.unusedSimpArgs false

/-- Rising lists of places of the same members are one. -/
theorem plP_eq : ∀ (a b : Pls), a.Pairwise ltP → b.Pairwise ltP → (∀ x, x ∈ a ↔ x ∈ b) → a = b
  | [], [], _, _, _ => rfl
  | [], y :: b, _, _, h => by have := (h y).2 (by simp); simp at this
  | x :: a, [], _, _, h => by have := (h x).1 (by simp); simp at this
  | x :: a, y :: b, ha, hb, h => by
    rw [List.pairwise_cons] at ha hb
    have irr : ∀ z : Int × Int, ¬ ltP z z := fun z hz => by unfold ltP at hz; omega
    have asy : ∀ z u : Int × Int, ltP z u → ¬ ltP u z := fun z u h1 h2 => by unfold ltP at h1 h2; omega
    have e : x = y := by
      rcases List.mem_cons.1 ((h x).1 (by simp)) with h1 | h1
      · exact h1
      · rcases List.mem_cons.1 ((h y).2 (by simp)) with h2 | h2
        · exact h2.symm
        · exact absurd (hb.1 x h1) (asy _ _ (ha.1 y h2))
    subst e
    rw [plP_eq a b ha.2 hb.2 fun z => ?_]
    constructor
    · intro hz
      rcases List.mem_cons.1 ((h z).1 (by simp [hz])) with h1 | h1
      · subst h1; exact absurd (ha.1 z hz) (irr z)
      · exact h1
    · intro hz
      rcases List.mem_cons.1 ((h z).2 (by simp [hz])) with h1 | h1
      · subst h1; exact absurd (hb.1 z hz) (irr z)
      · exact h1
theorem Rel.marks {s : St} {K : Ks} (h : Rel s K) {n : Nat} {L : Pls} (ho : Ord s.kept n L) : L.map (mrOf s.kept) = marksL K := by
  have hL : L = (marksL K).map fun m => (m.o, m.e) := by
    refine plP_eq _ _ ho.srt ?_ fun x => ?_
    · rw [List.pairwise_map]
      exact h.mok.pl
    · constructor
      · intro hx
        obtain ⟨m, hm, h1, h2⟩ := (h.place x.1 x.2).1 (ho.all x hx).2
        exact List.mem_map.2 ⟨m, hm, Prod.ext h1 h2⟩
      · intro hx
        obtain ⟨m, hm, rfl⟩ := List.mem_map.1 hx
        have hk := (h.place m.o m.e).2 ⟨m, hm, rfl, rfl⟩
        obtain ⟨q, hq⟩ := Option.ne_none_iff_exists'.1 hk
        exact ho.fin _ (h.ok.mkOk _ _ _ hq).1 hk
  rw [hL, List.map_map]
  conv => rhs; rw [← List.map_id (marksL K)]
  refine List.map_congr_left fun m hm => ?_
  obtain ⟨h1, h2⟩ := h.mark hm
  simp only [Function.comp, mrOf, h1, h2, id]
theorem Ord.one {kept : Int → Int → Option Mk} {n n' : Nat} {L L' : Pls} (h : Ord kept n L) (h' : Ord kept n' L') : L = L' :=
  plP_eq _ _ h.srt h'.srt fun x => ⟨fun hx => h'.fin x (h.all x hx).1 (h.all x hx).2, fun hx => h.fin x (h'.all x hx).1 (h'.all x hx).2⟩
end Go.Proofs.Ythajocfgpodimaa.Se
