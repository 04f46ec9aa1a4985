/- slices.SortedFunc of a set's map's keys: all places, in order. -/
import Derived.Test.YtjgdkpgkonnhnaaSeCmp
import Derived.Test.YtjgdkpgkonnhnaaLay
import Derived.Shelf.SlSortCmp.WholeK
namespace Go.Proofs.Ytjgdkpgkonnhnaa.Se
open Go.RowKit Go.Sort Go.Shelf
open Go.Proofs.Ytjgdkpgkonnhnaa.Me Go.Proofs.Ytjgdkpgkonnhnaa.Sb
set_option linter.unusedVariables false
set_option linter.unusedSimpArgs false

/-- A slice of places that is read. -/
def Rp (w : World) (B : Nat) (v : Value) (L : Pls) : Prop :=
  ∃ A c, v = .slice A L.length c ∧ L.length ≤ c ∧ c ≤ 9223372036854775807 ∧ ∀ (j : Nat) (p : Int × Int), L[j]? = some p → ∃ g, A = some ⟨g, 0, none⟩ ∧ B ≤ g ∧ g < w.heap.size ∧ w.cell? ⟨g, j * 2, none⟩ = some (.int .i64 p.1) ∧ w.cell? ⟨g, j * 2 + 1, none⟩ = some (.int .i64 p.2)
theorem Rp.nil (w : World) (B : Nat) : Rp w B (.slice none 0 0) [] := ⟨none, 0, rfl, Nat.le_refl _, Nat.zero_le _, fun j p hj => by simp at hj⟩
theorem Rp.below {w w' : World} {B : Nat} {v : Value} {L : Pls} (h : Rp w B v L) (hb : Below w.heap.size w w') : Rp w' B v L := by
  obtain ⟨A, c, e, h1, h2, h3⟩ := h
  refine ⟨A, c, e, h1, h2, fun j p hj => ?_⟩
  obtain ⟨g, e1, e2, e3, e4, e5⟩ := h3 j p hj
  exact ⟨g, e1, e2, Nat.lt_of_lt_of_le e3 hb.size, (hb.cell e3).trans e4, (hb.cell e3).trans e5⟩
theorem plsV_get {L : Pls} {p : Int × Int} : ∀ {j : Nat}, L[j]? = some p → ∀ {i : Nat}, i < 2 → (plsV L)[j * 2 + i]? = (plc p)[i]? := by
  induction L with
  | nil => intro j h; simp at h
  | cons x r ih =>
    intro j h i hi
    have e : plsV (x :: r) = plc x ++ plsV r := by unfold plsV; rw [List.flatMap_cons]
    rw [e]
    cases j with
    | zero =>
      obtain rfl : x = p := by simpa using h
      rw [List.getElem?_append_left (by simp [plc]; omega)]; simp
    | succ j =>
      rw [List.getElem?_append_right (by simp [plc]; omega)]
      have h2 := ih (j := j) (by simpa using h) hi
      rw [show (j + 1) * 2 + i - (plc x).length = j * 2 + i by simp [plc]; omega, h2]
theorem Kp.rp {w : World} {B : Nat} {v : Value} {L : Pls} (h : Kp w B v L) : Rp w B v L := by
  have h0 := h
  rcases h.2 with ⟨h1, h2⟩ | ⟨g, cap, cur, h1, h2, h3, h4, h5, h6, h7⟩
  · have : L = [] := by simpa using h2
    subst this
    subst h1
    exact Rp.nil _ _
  · subst h1
    have hl := h0.lt (k := g) rfl
    refine ⟨_, cap, rfl, h4, by unfold maxLen at h5; omega, fun j p hj => ⟨g, rfl, hl.1, hl.2, ?_, ?_⟩⟩
    · have := World.ownsRow.cells h0 (g := g) rfl (j * 2 + 0) (.int .i64 p.1) (by rw [plsV_get hj (by omega)]; rfl)
      rwa [add_mk, Nat.zero_add] at this
    · have := World.ownsRow.cells h0 (g := g) rfl (j * 2 + 1) (.int .i64 p.2) (by rw [plsV_get hj (by omega)]; rfl)
      rwa [add_mk, Nat.zero_add] at this
theorem but_sort (w : World) (g n : Nat) (d : Array (Int × Int)) (os : Array Obj) : But (fun k => k = g) w (sortWorldK plc 2 w g 0 n d os) := by
  refine ⟨rfl, rfl, rfl, size_sortWorldK_c plc 2 w g 0 n d os, fun k hk hne => ?_⟩
  show ((w.heap.modify g _) ++ os)[k]? = _
  rw [Array.getElem?_append, if_pos (by simpa using hk), Array.getElem?_modify, if_neg (fun e => hne e.symm)]
theorem frozen_row {w : World} {B T s n m g c : Nat} {xs : List Value} (h : w.ownsRow B T s (.slice (some ⟨g, 0, none⟩) n c) m xs) (i : Nat) : w.frozen? ⟨g, i, none⟩ = false := by
  rcases h.2 with ⟨h1, _⟩ | ⟨g', cap, cur, h1, h2, h3, _⟩
  · cases h1
  · cases h1
    exact frozen_of_row w g i _ _ h3
theorem Kp.holds {w : World} {B g n c : Nat} {L : Pls} (h : Kp w B (.slice (some ⟨g, 0, none⟩) n c) L) : HoldsK plc 2 w g 0 L.toArray := by
  intro j hj
  rw [size_flatK] at hj
  refine ⟨?_, frozen_row h _⟩
  rw [get_flatK _ _ _ _ hj]
  have hj2 : j / 2 < L.length := by simp at hj; omega
  have hp : L[j / 2]? = some L[j / 2] := List.getElem?_eq_getElem hj2
  have e : L.toArray[j / 2]! = L[j / 2] := by simp [hj2]
  have hm : j % 2 < (plc L[j / 2]).length := by simp [plc]; omega
  have h2 := plsV_get hp (i := j % 2) (by omega)
  have h3 := World.ownsRow.cells h (g := g) rfl (j / 2 * 2 + j % 2) ((plc L[j / 2])[j % 2]) (by rw [h2]; exact List.getElem?_eq_getElem hm)
  rw [add_mk, Nat.zero_add, show j / 2 * 2 + j % 2 = j by omega] at h3
  rw [Nat.zero_add, h3, e]
  simp [hm]
theorem plc_one (p : Int × Int) : ∀ v ∈ plc p, v.oneCell' = true := by
  intro v hv
  simp only [plc, List.mem_cons, List.not_mem_nil, or_false] at hv
  rcases hv with rfl | rfl <;> rfl
theorem cmpLays (blk off size : Nat) (w : World) : CmpLays Try.prog 38 #[] plc 2 cfP blk off size w := fun _ _ _ _ x y => compare_any x y _
/-- What the sort leaves. -/
structure Sorted (L L' : Pls) : Prop where
  perm : L'.Perm L
  srt : L'.Pairwise fun a b => ¬ ltP b a
theorem Sort_any (g c B : Nat) (L : Pls) (w : World) (h : Hid (Kp w B (.slice (some ⟨g, 0, none⟩) L.length c) L)) (hl : L.length ≤ 1000000) :
    Calls Try.prog 49 #[.slice (some ⟨g, 0, none⟩) L.length c, .func (.func 38) #[] #[]] w fun e w' => e = .returned (.tuple #[]) ∧ ∃ L', Hid (Sorted L L') ∧ Hid (Rp w' B (.slice (some ⟨g, 0, none⟩) L.length c) L') ∧ Hid (But (fun k => k = g) w w') := by
  have hlt := h.out.lt (k := g) rfl
  have hf := Kp.form h.out
  have hH := Kp.holds h.out
  have hcon := AnyQ.slices_SortFunc (Try.sf_) 2 Try.isAgg63 Try.sizeOf63 plc (fun _ => rfl) plc_one cfP swoP 38 #[] g 0 c L.toArray w (enters_of Try.func38 (by kernel_rfl) rfl) (cmpLays g 0 _ w) hH hlt.2 (by simp; omega)
  refine hcon.mono ?_
  rintro e w' ⟨rfl, d', n, os, hp, hs, rfl⟩
  have hz : d'.size = L.length := by simpa using hp.1
  have hH' := holdsK_sortWorldK_c plc 2 w g 0 L.toArray d' n os hH hlt.2 (by simpa using hz)
  refine ⟨rfl, d'.toList, ⟨?_, ?_⟩, ⟨some ⟨g, 0, none⟩, c, by rw [show d'.toList.length = L.length from (Array.length_toList (xs := d')).trans hz], ?_, ?_, fun j p hj => ⟨g, rfl, hlt.1, ?_, ?_, ?_⟩⟩, but_sort w g n d' os⟩
  · have := hp.2.2
    simp only [List.size_toArray] at this
    rw [show d'.extract 0 L.length = d' by rw [← hz]; exact Array.extract_size, show L.toArray.extract 0 L.length = L.toArray by simp] at this
    simp at this
    exact this
  · rw [List.pairwise_iff_getElem]
    intro i j hi hj hij
    have hi' : i < d'.size := by simpa using hi
    have hj' : j < d'.size := by simpa using hj
    have := hs i j (Nat.zero_le _) hij (by simp; omega)
    rw [getElem!_pos d' i hi', getElem!_pos d' j hj'] at this
    intro hc
    rw [← ltOf_cfP] at hc
    simp only [Array.getElem_toList] at hc
    rw [hc] at this
    cases this
  · obtain ⟨A, c', e, h1, h2⟩ := hf
    cases e
    rw [show d'.toList.length = L.length from (Array.length_toList (xs := d')).trans hz]; exact h1
  · obtain ⟨A, c', e, h1, h2⟩ := hf
    cases e
    exact h2
  · exact Nat.lt_of_lt_of_le hlt.2 (size_sortWorldK_c plc 2 w g 0 n d' os)
  · have hj' : j < d'.size := by have := (List.getElem?_eq_some_iff.1 hj).1; simpa using this
    have h1 := (HoldsK.cell hH' hj' (c := 0) (by omega)).1
    have e : d'[j]! = p := by
      rw [getElem!_pos d' j hj']
      have := (List.getElem?_eq_some_iff.1 hj).2
      simpa using this
    rw [e] at h1
    simpa [plc] using h1
  · have hj' : j < d'.size := by have := (List.getElem?_eq_some_iff.1 hj).1; simpa using this
    have h1 := (HoldsK.cell hH' hj' (c := 1) (by omega)).1
    have e : d'[j]! = p := by
      rw [getElem!_pos d' j hj']
      have := (List.getElem?_eq_some_iff.1 hj).2
      simpa using this
    rw [e] at h1
    simpa [plc] using h1
end Go.Proofs.Ytjgdkpgkonnhnaa.Se
