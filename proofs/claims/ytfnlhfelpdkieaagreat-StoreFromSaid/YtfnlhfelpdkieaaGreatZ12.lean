/- The shelf's contracts at this program, in plain words (written by program: laye.py). -/
import Derived.Test.YtfnlhfelpdkieaaGreatProg
import Derived.Test.YtfnlhfelpdkieaaGreatZ9
import Derived.Test.YtfnlhfelpdkieaaGreatZ11
import Derived.Shelf.SlSortCmp.WholeK
import Derived.Ground.SlsfProg
import Derived.Shelf.SlSortCmp.NoneTotal
namespace Go.Proofs
open Go.Shelf
def Tryz.sf__ren : Go.Shelf.Ren := ⟨fun | 6 => 99 | 15 => 113 | 14 => 112 | 28 => 125 | 29 => 126 | 20 => 117 | 21 => 118 | 22 => 119 | 23 => 120 | 24 => 121 | 25 => 122 | 26 => 123 | 27 => 124 | 46 => 128 | 47 => 129 | 48 => 130 | 49 => 131 | 50 => 132 | 57 => 133 | n => n, fun | 22 => 133 | 24 => 128 | 25 => 138 | 3 => 3 | 39 => 162 | 0 => 0 | 53 => 177 | 55 => 179 | 4 => 4 | 46 => 171 | 45 => 170 | 50 => 150 | 5 => 5 | 9 => 9 | 66 => 181 | 70 => 185 | 76 => 187 | 77 => 188 | n => n, fun | n => n⟩
theorem Tryz.sf_ : Go.Proofs.SlLaysF0.n6 Tryz.prog Tryz.sf__ren := {
  mixed := by kernel_rfl
  f6 := ⟨Tryz.f99.name, by decide, Tryz.func99.trans (congrArg some (by kernel_rfl))⟩
  f14 := ⟨Tryz.f112.name, by decide, Tryz.func112.trans (congrArg some (by kernel_rfl))⟩
  f15 := Tryz.func113.trans (congrArg some (by kernel_rfl))
  f20 := ⟨Tryz.f117.name, by decide, Tryz.func117.trans (congrArg some (by kernel_rfl))⟩
  f21 := ⟨Tryz.f118.name, by decide, Tryz.func118.trans (congrArg some (by kernel_rfl))⟩
  f22 := ⟨Tryz.f119.name, by decide, Tryz.func119.trans (congrArg some (by kernel_rfl))⟩
  f23 := ⟨Tryz.f120.name, by decide, Tryz.func120.trans (congrArg some (by kernel_rfl))⟩
  f24 := ⟨Tryz.f121.name, by decide, Tryz.func121.trans (congrArg some (by kernel_rfl))⟩
  f25 := ⟨Tryz.f122.name, by decide, Tryz.func122.trans (congrArg some (by kernel_rfl))⟩
  f26 := ⟨Tryz.f123.name, by decide, Tryz.func123.trans (congrArg some (by kernel_rfl))⟩
  f27 := ⟨Tryz.f124.name, by decide, Tryz.func124.trans (congrArg some (by kernel_rfl))⟩
  f28 := Tryz.func125.trans (congrArg some (by kernel_rfl))
  f29 := Tryz.func126.trans (congrArg some (by kernel_rfl))
  f46 := ⟨Tryz.f128.name, by decide, Tryz.func128.trans (congrArg some (by kernel_rfl))⟩
  f47 := Tryz.func129.trans (congrArg some (by kernel_rfl))
  f48 := Tryz.func130.trans (congrArg some (by kernel_rfl))
  f49 := ⟨Tryz.f131.name, by decide, Tryz.func131.trans (congrArg some (by kernel_rfl))⟩
  f50 := ⟨Tryz.f132.name, by decide, Tryz.func132.trans (congrArg some (by kernel_rfl))⟩
  f57 := ⟨Tryz.f133.name, by decide, Tryz.func133.trans (congrArg some (by kernel_rfl))⟩
  t0 := Tryz.underlying0
  a0 := Tryz.isAgg0
  z0 := Tryz.sizeOf0
  v0 := Tryz.zeroValue0
  t3 := Tryz.underlying3
  a3 := Tryz.isAgg3
  z3 := Tryz.sizeOf3
  v3 := Tryz.zeroValue3
  t4 := Tryz.underlying4
  a4 := Tryz.isAgg4
  z4 := Tryz.sizeOf4
  v4 := Tryz.zeroValue4
  t5 := Tryz.underlying5
  a5 := Tryz.isAgg5
  z5 := Tryz.sizeOf5
  v5 := Tryz.zeroValue5
  t9 := Tryz.underlying9
  a9 := Tryz.isAgg9
  z9 := Tryz.sizeOf9
  v9 := Tryz.zeroValue9
  t22 := Tryz.underlying133
  a22 := Tryz.isAgg133
  z22 := Tryz.sizeOf133
  v22 := Tryz.zeroValue133
  t25 := Tryz.underlying138
  a25 := Tryz.isAgg138
  z25 := Tryz.sizeOf138
  v25 := Tryz.zeroValue138
  t39 := Tryz.underlying162
  a39 := Tryz.isAgg162
  z39 := Tryz.sizeOf162
  v39 := Tryz.zeroValue162
  t45 := Tryz.underlying170
  a45 := Tryz.isAgg170
  z45 := Tryz.sizeOf170
  v45 := Tryz.zeroValue170
  t46 := Tryz.underlying171
  a46 := Tryz.isAgg171
  z46 := Tryz.sizeOf171
  v46 := Tryz.zeroValue171
  t50 := Tryz.underlying150
  a50 := Tryz.isAgg150
  z50 := Tryz.sizeOf150
  v50 := Tryz.zeroValue150
  t53 := Tryz.underlying177
  a53 := Tryz.isAgg177
  z53 := Tryz.sizeOf177
  v53 := Tryz.zeroValue177
  t55 := Tryz.underlying179
  a55 := Tryz.isAgg179
  z55 := Tryz.sizeOf179
  v55 := Tryz.zeroValue179
  t66 := Tryz.underlying181
  a66 := Tryz.isAgg181
  z66 := Tryz.sizeOf181
  v66 := Tryz.zeroValue181
  t70 := Tryz.underlying185
  a70 := Tryz.isAgg185
  z70 := Tryz.sizeOf185
  v70 := Tryz.zeroValue185
  t76 := Tryz.underlying187
  a76 := Tryz.isAgg187
  z76 := Tryz.sizeOf187
  v76 := Tryz.zeroValue187
  t77 := Tryz.underlying188
  a77 := Tryz.isAgg188
  z77 := Tryz.sizeOf188
  v77 := Tryz.zeroValue188 }
end Go.Proofs
/- slices.SortedFunc of a set's map's keys: all places, in order. -/
namespace Go.Proofs.YtfnlhfelpdkieaaGreat.Se
open Go.RowKit Go.Sort Go.Shelf
open Go.Proofs.YtfnlhfelpdkieaaGreat.Me Go.Proofs.YtfnlhfelpdkieaaGreat.Sb
set_option linter.unusedVariables false
set_option linter.unusedSimpArgs false

/-- A slice of places that is read. -/
def Rp (w : World) (B : Nat) (v : Value) (L : Pls) : Prop :=
  ∃ A c, v = .slice A L.length c ∧ L.length ≤ c ∧ c ≤ 9223372036854775807 ∧ ∀ (j : Nat) (p : Int × Int), L[j]? = some p → ∃ g, A = some ⟨g, 0, none⟩ ∧ B ≤ g ∧ g < w.heap.size ∧ w.cell? ⟨g, j * 2, none⟩ = some (.int .i64 p.1) ∧ w.cell? ⟨g, j * 2 + 1, none⟩ = some (.int .i64 p.2)
theorem Rp.nil (w : World) (B : Nat) : Rp w B (.slice none 0 0) [] := ⟨none, 0, rfl, Nat.le_refl _, Nat.zero_le _, fun j p hj => by simp at hj⟩
theorem Rp.below {w w' : World} {B : Nat} {v : Value} {L : Pls} (h : Rp w B v L) (hb : Below w.heap.size w w') : Rp w' B v L := by
  obtain ⟨A, c, e, h1, h2, h3⟩ := h
  refine ⟨A, c, e, h1, h2, fun j p hj => ?_⟩
  obtain ⟨g, e1, e2, e3, e4, e5⟩ := h3 j p hj
  exact ⟨g, e1, e2, Nat.lt_of_lt_of_le e3 hb.size, (hb.cell e3).trans e4, (hb.cell e3).trans e5⟩
theorem plsV_get {L : Pls} {p : Int × Int} : ∀ {j : Nat}, L[j]? = some p → ∀ {i : Nat}, i < 2 → (plsV L)[j * 2 + i]? = (plc p)[i]? := by
  induction L with
  | nil => intro j h; simp at h
  | cons x r ih =>
    intro j h i hi
    have e : plsV (x :: r) = plc x ++ plsV r := by unfold plsV; rw [List.flatMap_cons]
    rw [e]
    cases j with
    | zero =>
      obtain rfl : x = p := by simpa using h
      rw [List.getElem?_append_left (by simp [plc]; omega)]; simp
    | succ j =>
      rw [List.getElem?_append_right (by simp [plc]; omega)]
      have h2 := ih (j := j) (by simpa using h) hi
      rw [show (j + 1) * 2 + i - (plc x).length = j * 2 + i by simp [plc]; omega, h2]
theorem Kp.rp {w : World} {B : Nat} {v : Value} {L : Pls} (h : Kp w B v L) : Rp w B v L := by
  have h0 := h
  rcases h.2 with ⟨h1, h2⟩ | ⟨g, cap, cur, h1, h2, h3, h4, h5, h6, h7⟩
  · have : L = [] := by simpa using h2
    subst this
    subst h1
    exact Rp.nil _ _
  · subst h1
    have hl := h0.lt (k := g) rfl
    refine ⟨_, cap, rfl, h4, by unfold maxLen at h5; omega, fun j p hj => ⟨g, rfl, hl.1, hl.2, ?_, ?_⟩⟩
    · have := World.ownsRow.cells h0 (g := g) rfl (j * 2 + 0) (.int .i64 p.1) (by rw [plsV_get hj (by omega)]; rfl)
      rwa [add_mk, Nat.zero_add] at this
    · have := World.ownsRow.cells h0 (g := g) rfl (j * 2 + 1) (.int .i64 p.2) (by rw [plsV_get hj (by omega)]; rfl)
      rwa [add_mk, Nat.zero_add] at this
theorem but_sort (w : World) (g n : Nat) (d : Array (Int × Int)) (os : Array Obj) : But (fun k => k = g) w (sortWorldK plc 2 w g 0 n d os) := by
  refine ⟨rfl, rfl, rfl, size_sortWorldK_c plc 2 w g 0 n d os, fun k hk hne => ?_⟩
  show ((w.heap.modify g _) ++ os)[k]? = _
  rw [Array.getElem?_append, if_pos (by simpa using hk), Array.getElem?_modify, if_neg (fun e => hne e.symm)]
theorem frozen_row {w : World} {B T s n m g c : Nat} {xs : List Value} (h : w.ownsRow B T s (.slice (some ⟨g, 0, none⟩) n c) m xs) (i : Nat) : w.frozen? ⟨g, i, none⟩ = false := by
  rcases h.2 with ⟨h1, _⟩ | ⟨g', cap, cur, h1, h2, h3, _⟩
  · cases h1
  · cases h1
    exact frozen_of_row w g i _ _ h3
theorem Kp.holds {w : World} {B g n c : Nat} {L : Pls} (h : Kp w B (.slice (some ⟨g, 0, none⟩) n c) L) : HoldsK plc 2 w g 0 L.toArray := by
  intro j hj
  rw [size_flatK] at hj
  refine ⟨?_, frozen_row h _⟩
  rw [get_flatK _ _ _ _ hj]
  have hj2 : j / 2 < L.length := by simp at hj; omega
  have hp : L[j / 2]? = some L[j / 2] := List.getElem?_eq_getElem hj2
  have e : L.toArray[j / 2]! = L[j / 2] := by simp [hj2]
  have hm : j % 2 < (plc L[j / 2]).length := by simp [plc]; omega
  have h2 := plsV_get hp (i := j % 2) (by omega)
  have h3 := World.ownsRow.cells h (g := g) rfl (j / 2 * 2 + j % 2) ((plc L[j / 2])[j % 2]) (by rw [h2]; exact List.getElem?_eq_getElem hm)
  rw [add_mk, Nat.zero_add, show j / 2 * 2 + j % 2 = j by omega] at h3
  rw [Nat.zero_add, h3, e]
  simp [hm]
theorem plc_one (p : Int × Int) : ∀ v ∈ plc p, v.oneCell' = true := by
  intro v hv
  simp only [plc, List.mem_cons, List.not_mem_nil, or_false] at hv
  rcases hv with rfl | rfl <;> rfl
theorem cmpLays (blk off size : Nat) (w : World) : CmpLays Tryz.prog 75 #[] plc 2 cfP blk off size w := fun _ _ _ _ x y => compare_any x y _
/-- What the sort leaves. -/
structure Sorted (L L' : Pls) : Prop where
  perm : L'.Perm L
  srt : L'.Pairwise fun a b => ¬ ltP b a
theorem Sort_any (g c B : Nat) (L : Pls) (w : World) (h : Hid (Kp w B (.slice (some ⟨g, 0, none⟩) L.length c) L)) (hl : L.length ≤ 10000000) :
    Calls Tryz.prog 99 #[.slice (some ⟨g, 0, none⟩) L.length c, .func (.func 75) #[] #[]] w fun e w' => e = .returned (.tuple #[]) ∧ ∃ L', Hid (Sorted L L') ∧ Hid (Rp w' B (.slice (some ⟨g, 0, none⟩) L.length c) L') ∧ Hid (But (fun k => k = g) w w') := by
  have hlt := h.out.lt (k := g) rfl
  have hf := Kp.form h.out
  have hH := Kp.holds h.out
  have hcon := AnyQ.slices_SortFunc (Tryz.sf_) 2 Tryz.isAgg128 Tryz.sizeOf128 plc (fun _ => rfl) plc_one cfP swoP 75 #[] g 0 c L.toArray w (enters_of Tryz.func75 (by kernel_rfl) rfl) (cmpLays g 0 _ w) hH hlt.2 (by simp; omega)
  refine hcon.mono ?_
  rintro e w' ⟨rfl, d', n, os, hp, hs, rfl⟩
  have hz : d'.size = L.length := by simpa using hp.1
  have hH' := holdsK_sortWorldK_c plc 2 w g 0 L.toArray d' n os hH hlt.2 (by simpa using hz)
  refine ⟨rfl, d'.toList, ⟨?_, ?_⟩, ⟨some ⟨g, 0, none⟩, c, by rw [show d'.toList.length = L.length from (Array.length_toList (xs := d')).trans hz], ?_, ?_, fun j p hj => ⟨g, rfl, hlt.1, ?_, ?_, ?_⟩⟩, but_sort w g n d' os⟩
  · have := hp.2.2
    simp only [List.size_toArray] at this
    rw [show d'.extract 0 L.length = d' by rw [← hz]; exact Array.extract_size, show L.toArray.extract 0 L.length = L.toArray by simp] at this
    simp at this
    exact this
  · rw [List.pairwise_iff_getElem]
    intro i j hi hj hij
    have hi' : i < d'.size := by simpa using hi
    have hj' : j < d'.size := by simpa using hj
    have := hs i j (Nat.zero_le _) hij (by simp; omega)
    rw [getElem!_pos d' i hi', getElem!_pos d' j hj'] at this
    intro hc
    rw [← ltOf_cfP] at hc
    simp only [Array.getElem_toList] at hc
    rw [hc] at this
    cases this
  · obtain ⟨A, c', e, h1, h2⟩ := hf
    cases e
    rw [show d'.toList.length = L.length from (Array.length_toList (xs := d')).trans hz]; exact h1
  · obtain ⟨A, c', e, h1, h2⟩ := hf
    cases e
    exact h2
  · exact Nat.lt_of_lt_of_le hlt.2 (size_sortWorldK_c plc 2 w g 0 n d' os)
  · have hj' : j < d'.size := by have := (List.getElem?_eq_some_iff.1 hj).1; simpa using this
    have h1 := (HoldsK.cell hH' hj' (c := 0) (by omega)).1
    have e : d'[j]! = p := by
      rw [getElem!_pos d' j hj']
      have := (List.getElem?_eq_some_iff.1 hj).2
      simpa using this
    rw [e] at h1
    simpa [plc] using h1
  · have hj' : j < d'.size := by have := (List.getElem?_eq_some_iff.1 hj).1; simpa using this
    have h1 := (HoldsK.cell hH' hj' (c := 1) (by omega)).1
    have e : d'[j]! = p := by
      rw [getElem!_pos d' j hj']
      have := (List.getElem?_eq_some_iff.1 hj).2
      simpa using this
    rw [e] at h1
    simpa [plc] using h1
end Go.Proofs.YtfnlhfelpdkieaaGreat.Se
/- slices.SortedFunc of a set's map's keys. -/
namespace Go.Proofs.YtfnlhfelpdkieaaGreat.Se
open Go.RowKit
open Go.Proofs.YtfnlhfelpdkieaaGreat.Me Go.Proofs.YtfnlhfelpdkieaaGreat.Sb
set_option linter.unusedVariables false
set_option linter.unusedSimpArgs false

/-- All kept places, in order. -/
structure Ord (kept : Int → Int → Option Mk) (n : Nat) (L : Pls) : Prop where
  all : ∀ p ∈ L, Pp p.1 p.2 ∧ kept p.1 p.2 ≠ none
  fin : ∀ p : Int × Int, Pp p.1 p.2 → kept p.1 p.2 ≠ none → p ∈ L
  le : L.length ≤ n
  srt : L.Pairwise ltP
theorem Ord.of {kept : Int → Int → Option Mk} {n : Nat} {L L' : Pls} (hg : Good kept n L) (hf : finK kept L) (hs : Sorted L L') : Ord kept n L' := by
  refine ⟨fun p hp => hg.all p (hs.perm.mem_iff.1 hp), fun p hp hk => hs.perm.mem_iff.2 (hf p hp hk), by rw [hs.perm.length_eq]; exact hg.le, ?_⟩
  have hnd : L'.Nodup := hs.perm.nodup_iff.2 hg.nd
  refine (List.Pairwise.and hs.srt (List.nodup_iff_pairwise_ne.1 hnd)).imp fun {a b} h => ?_
  obtain ⟨h1, h2⟩ := h
  unfold ltP at h1 ⊢
  have : ¬ (a.1 = b.1 ∧ a.2 = b.2) := fun e => h2 (Prod.ext e.1 e.2)
  omega
theorem Sort_all (v : Value) (B : Nat) (L : Pls) (w : World) (h : Hid (Kp w B v L)) (hl : L.length ≤ 10000000) :
    Calls Tryz.prog 99 #[v, .func (.func 75) #[] #[]] w fun e w' => e = .returned (.tuple #[]) ∧ ∃ L', Hid (Sorted L L') ∧ Hid (Rp w' B v L') ∧ Hid (But (fun k => v.ownBlock = some k) w w') := by
  rcases h.out.2 with ⟨h1, h2⟩ | ⟨g, cap, cur, h1, h2, h3, h4, h5, h6, h7⟩
  · have : L = [] := by simpa using h2
    subst this
    subst h1
    refine (AnyF.slices_SortFunc_none Tryz.sf_ none 0 (.func (.func 75) #[] #[]) w).mono ?_
    rintro e w' ⟨rfl, rfl⟩
    exact ⟨rfl, [], ⟨List.Perm.refl _, List.Pairwise.nil⟩, Rp.nil _ _, But.refl _ _⟩
  · subst h1
    refine (Sort_any g cap B L w h hl).mono ?_
    rintro e w' ⟨rfl, L', hs, hr, hb⟩
    exact ⟨rfl, L', hs, hr, hb.out.mono fun k _ e => by rw [e]; rfl⟩
set_option maxHeartbeats 1000000 in
theorem Sorted_keys {t : Bool} (kb mb n : Nat) (w0 w : World) (kept : Int → Int → Option Mk) (hM : Mp w0 t mb n kept) (hn9 : n ≤ 5000000) (h1 : Hid (Boxed w kb 115 (.map (some mb)))) (h2 : Hid (w.heap[mb]? = w0.heap[mb]?)) :
    Calls Tryz.prog 73 #[keysV kb, .func (.func 75) #[] #[]] w fun e w' => ∃ v L, e = .returned v ∧ Hid (Rp w' w.heap.size v L) ∧ Hid (Below w.heap.size w w') ∧ Hid (Ord kept n L) := by
  have HA := Lib.hid (Collect_keys kb mb n w0 w kept hM hn9 h1 h2)
  unfold keysV at HA ⊢
  go_enter Tryz.func73, Tryz.ntmps73
  go_wp2_with (first
    | (go_at_call 98; refine HA.out.mono ?_; rintro e w1 ⟨v, L, rfl, ho, hb, hg, hf⟩; have HG := Lib.hid hg; have HF := Lib.hid hf; clear hg hf)
    | (go_at_call 99; refine (Sort_all v w.heap.size L w1 ho (by have := HG.out.le; omega)).mono ?_; rintro e w2 ⟨rfl, L', hs2, hr2, hb2⟩))
  go_ret
  refine ⟨v, L', rfl, hr2, ?_, Ord.of HG.out HF.out hs2.out⟩
  exact hb.out.trans (hb2.out.below hb.out.size fun k hk => (ho.out.lt hk).1)
end Go.Proofs.YtfnlhfelpdkieaaGreat.Se
