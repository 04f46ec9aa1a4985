/- slices.SortedFunc of a set's map's keys. -/
import Derived.Test.YtjgdkpgkonnhnaaSeSort
import Derived.Shelf.SlSortCmp.NoneTotal
namespace Go.Proofs.Ytjgdkpgkonnhnaa.Se
open Go.RowKit
open Go.Proofs.Ytjgdkpgkonnhnaa.Me Go.Proofs.Ytjgdkpgkonnhnaa.Sb
set_option linter.unusedVariables false
set_option linter.unusedSimpArgs false

/-- All kept places, in order. -/
structure Ord (kept : Int → Int → Option Mk) (n : Nat) (L : Pls) : Prop where
  all : ∀ p ∈ L, Pp p.1 p.2 ∧ kept p.1 p.2 ≠ none
  fin : ∀ p : Int × Int, Pp p.1 p.2 → kept p.1 p.2 ≠ none → p ∈ L
  le : L.length ≤ n
  srt : L.Pairwise ltP
theorem Ord.of {kept : Int → Int → Option Mk} {n : Nat} {L L' : Pls} (hg : Good kept n L) (hf : finK kept L) (hs : Sorted L L') : Ord kept n L' := by
  refine ⟨fun p hp => hg.all p (hs.perm.mem_iff.1 hp), fun p hp hk => hs.perm.mem_iff.2 (hf p hp hk), by rw [hs.perm.length_eq]; exact hg.le, ?_⟩
  have hnd : L'.Nodup := hs.perm.nodup_iff.2 hg.nd
  refine (List.Pairwise.and hs.srt (List.nodup_iff_pairwise_ne.1 hnd)).imp fun {a b} h => ?_
  obtain ⟨h1, h2⟩ := h
  unfold ltP at h1 ⊢
  have : ¬ (a.1 = b.1 ∧ a.2 = b.2) := fun e => h2 (Prod.ext e.1 e.2)
  omega
theorem Sort_all (v : Value) (B : Nat) (L : Pls) (w : World) (h : Hid (Kp w B v L)) (hl : L.length ≤ 1000000) :
    Calls Try.prog 49 #[v, .func (.func 38) #[] #[]] w fun e w' => e = .returned (.tuple #[]) ∧ ∃ L', Hid (Sorted L L') ∧ Hid (Rp w' B v L') ∧ Hid (But (fun k => v.ownBlock = some k) w w') := by
  rcases h.out.2 with ⟨h1, h2⟩ | ⟨g, cap, cur, h1, h2, h3, h4, h5, h6, h7⟩
  · have : L = [] := by simpa using h2
    subst this
    subst h1
    refine (AnyF.slices_SortFunc_none Try.sf_ none 0 (.func (.func 38) #[] #[]) w).mono ?_
    rintro e w' ⟨rfl, rfl⟩
    exact ⟨rfl, [], ⟨List.Perm.refl _, List.Pairwise.nil⟩, Rp.nil _ _, But.refl _ _⟩
  · subst h1
    refine (Sort_any g cap B L w h hl).mono ?_
    rintro e w' ⟨rfl, L', hs, hr, hb⟩
    exact ⟨rfl, L', hs, hr, hb.out.mono fun k _ e => by rw [e]; rfl⟩
set_option maxHeartbeats 1000000 in
theorem Sorted_keys {t : Bool} (kb mb n : Nat) (w0 w : World) (kept : Int → Int → Option Mk) (hM : Mp w0 t mb n kept) (hn9 : n ≤ 1000) (h1 : Hid (Boxed w kb 59 (.map (some mb)))) (h2 : Hid (w.heap[mb]? = w0.heap[mb]?)) :
    Calls Try.prog 36 #[keysV kb, .func (.func 38) #[] #[]] w fun e w' => ∃ v L, e = .returned v ∧ Hid (Rp w' w.heap.size v L) ∧ Hid (Below w.heap.size w w') ∧ Hid (Ord kept n L) := by
  have HA := Lib.hid (Collect_keys kb mb n w0 w kept hM hn9 h1 h2)
  unfold keysV at HA ⊢
  go_enter Try.func36, Try.ntmps36
  go_wp2_with (first
    | (go_at_call 48; refine HA.out.mono ?_; rintro e w1 ⟨v, L, rfl, ho, hb, hg, hf⟩; have HG := Lib.hid hg; have HF := Lib.hid hf; clear hg hf)
    | (go_at_call 49; refine (Sort_all v w.heap.size L w1 ho (by have := HG.out.le; omega)).mono ?_; rintro e w2 ⟨rfl, L', hs2, hr2, hb2⟩))
  go_ret
  refine ⟨v, L', rfl, hr2, ?_, Ord.of HG.out HF.out hs2.out⟩
  exact hb.out.trans (hb2.out.below hb.out.size fun k hk => (ho.out.lt hk).1)
end Go.Proofs.Ytjgdkpgkonnhnaa.Se
