/- What a receiver asks for: pure facts. -/
import Derived.Test.YtnfjfcoonabmmaaRvG
namespace Go.Proofs.Ytnfjfcoonabmmaa.Rv
open Go.RowKit
open Go.Proofs.Ytnfjfcoonabmmaa.Me Go.Proofs.Ytnfjfcoonabmmaa.Hd Go.Proofs.Ytnfjfcoonabmmaa.Sn
set_option linter.unusedVariables false

/-- All kept numbers are in the window. -/
def Win (r : Rcv) : Prop := ∀ n p, r.kept n = some p → way r.waits n < r.size
theorem Win.new (n : Nat) : Win (newR n) := fun _ _ h => by cases h
theorem Win.keep {r : Rcv} (h : Win r) {n : Nat} (hn : way r.waits n < r.size) (p : List Nat) : Win (keepR r n p) := fun k q hq => by
  simp only [keepR] at hq ⊢
  split at hq
  · rename_i e; subst e; exact hn
  · exact h k q hq
theorem Tells.small {r : Rcv} {i : Nat} (h : Tells r i) (ok : r.Ok) (hw : Win r) : i ≤ r.size := by
  apply Classical.byContradiction
  intro hc
  have h1 := h.all r.size (by omega)
  have h63 := ok.s63
  cases hk : r.kept ((r.waits + r.size) % 128) with
  | none => rw [hk] at h1; cases h1
  | some p =>
    have := hw _ p hk
    rw [way_at ok.w (by omega)] at this
    omega
theorem way_gone {b k i : Nat} (hb : b < 128) (hk : k < 128) (hi : i < 128) (h : i ≤ way b k) : way ((b + i) % 128) k = way b k - i := by unfold way at *; omega
theorem way_told {b k i : Nat} (hb : b < 128) (hk : k < 128) (hi : i ≤ 64) (h : way b k < i) : 64 ≤ way ((b + i) % 128) k := by unfold way at *; omega
theorem Win.gone {r : Rcv} (h : Win r) (ok : r.Ok) {i : Nat} (ht : Tells r i) : Win (goneR r i) := fun k q hq => by
  simp only [goneR] at hq
  split at hq
  · cases hq
  · rename_i hn
    have h1 := h k q hq
    have h2 := (ok.kn k q hq).1
    have h3 := ok.s63
    have h4 := ht.small ok h
    show way ((r.waits + i) % 128) k < r.size
    rw [way_gone ok.w h2 (by omega) (by omega)]
    omega
theorem Win.ask {r : Rcv} (h : Win r) : Win (askR r) := h
theorem Win.take {r : Rcv} (h : Win r) (ok : r.Ok) {n : Nat} (hn : n < 128) (hw : way r.waits n < r.size) {p : List Nat} (hp : ∀ z ∈ p, z < 256) {i : Nat} (ht : Tells (keepR r n p) i) : Win (takeR r n p i) :=
  Win.ask ((h.keep hw p).gone (ok.keep hn hp) ht)
theorem askL_mem (l : List Int) {x : Int} : ∀ {a : Nat → Bool}, x ∈ askL a l → x ∈ l ∧ a x.toNat = false := by
  induction l with
  | nil => intro a h; cases h
  | cons n l ih =>
    intro a h
    change x ∈ (if a n.toNat = true then askL a l else n :: askL (fun k => if k = n.toNat then true else a k) l) at h
    by_cases ha : a n.toNat = true
    · rw [if_pos ha] at h
      exact ⟨List.mem_cons_of_mem _ (ih h).1, (ih h).2⟩
    · rw [if_neg ha] at h
      rcases List.mem_cons.1 h with rfl | h
      · exact ⟨by simp, by simpa using ha⟩
      · obtain ⟨h1, h2⟩ := ih h
        refine ⟨List.mem_cons_of_mem _ h1, ?_⟩
        split at h2
        · cases h2
        · exact h2
theorem askA_mono (l : List Int) {j : Nat} : ∀ {a : Nat → Bool}, a j = true → askA a l j = true := by
  induction l with
  | nil => intro a h; exact h
  | cons n l ih =>
    intro a h
    refine ih ?_
    split
    · rfl
    · exact h
theorem askA_mem (l : List Int) {x : Int} : ∀ {a : Nat → Bool}, x ∈ l → askA a l x.toNat = true := by
  induction l with
  | nil => intro a h; cases h
  | cons n l ih =>
    intro a h
    rcases List.mem_cons.1 h with rfl | h
    · exact askA_mono l (by simp)
    · exact ih h
/-- The numbers of a list were asked for. -/
def Opn (r : Rcv) (l : List Int) : Prop := ∀ x ∈ l, ∃ j : Nat, j < 128 ∧ x = (j : Int) ∧ r.asked j = true
theorem Opn.nil (r : Rcv) : Opn r [] := fun _ h => by cases h
theorem has_mem {l : List Int} {x : Int} (h : x ∈ l) (h0 : 0 ≤ x) (h1 : x < 128) : Wn.has l x = true := List.any_eq_true.2 ⟨x, h, by simp; omega⟩
theorem Opn.ask (r : Rcv) : Opn (askR r) (missR r) := fun x hx => by
  obtain ⟨j, hj, rfl⟩ := missR_mem hx
  refine ⟨j, hj, rfl, ?_⟩
  have := askA_mem (missR r) (a := r.asked) hx
  rwa [Int.toNat_natCast] at this
theorem miss_way {r : Rcv} (ok : r.Ok) (hw : Win r) {j : Nat} (hx : (j : Int) ∈ missR r) : way r.waits j < r.size := by
  unfold missR at hx
  split at hx
  · cases hx
  · rename_i hne
    have hpos : 0 < (numsR r).length := List.length_pos_iff.2 hne
    have hl := last_at hpos
    obtain ⟨y, hy⟩ : ∃ y, (numsR r).getLastD 0 = y := ⟨_, rfl⟩
    have hmem : y ∈ numsR r := by
      rw [← hy, hl, Mi.at_get (by omega)]
      exact List.getElem_mem _
    rw [hy] at hx
    have hy2 := (List.mem_filter.1 hmem)
    obtain ⟨k, hk, rfl⟩ := pick_mem hmem
    have hks : (r.kept k).isSome = true := by simpa using hy2.2
    cases hq : r.kept k with
    | none => rw [hq] at hks; cases hks
    | some q =>
      have h1 := hw k q hq
      have h2 := (List.mem_filter.1 hx).1
      obtain ⟨m, hm, hmx⟩ := List.mem_map.1 h2
      have h3 := List.mem_range.1 hm
      have h4 := ok.w
      have h5 := ok.s63
      unfold way at *
      omega
/-- What is asked for was not asked for, and is missing. -/
theorem asks_ok {r : Rcv} {n i : Nat} {p : List Nat} {op : List Int} (ok : r.Ok) (hw : Win r) (hn : n < 128) (hwn : way r.waits n < r.size) (hp : ∀ z ∈ p, z < 256) (ht : Tells (keepR r n p) i) (ho : Opn r op) {x : Int} (hx : x ∈ askL (goneR (keepR r n p) i).asked (missR (goneR (keepR r n p) i))) :
    Wn.has op x = false ∧ Wn.has (missR (takeR r n p i)) x = true := by
  obtain ⟨h1, h2⟩ := askL_mem _ hx
  obtain ⟨j, hj, rfl⟩ := missR_mem h1
  rw [Int.toNat_natCast] at h2
  have ok2 := ok.keep hn hp
  have hw2 := hw.keep hwn p
  refine ⟨?_, has_mem h1 (by omega) (by omega)⟩
  cases hh : Wn.has op (j : Int) with
  | false => rfl
  | true =>
    obtain ⟨y, hy1, hy2⟩ := List.any_eq_true.1 hh
    obtain ⟨k, hk, rfl, hka⟩ := ho y hy1
    have e : ((k : Int) % 128 = (j : Int)) := by simpa using hy2
    obtain rfl : k = j := by omega
    have h3 := miss_way (ok2.gone i) (hw2.gone ok2 ht) h1
    have h4 := ht.small ok2 hw2
    have h5 := ok2.s63
    simp only [goneR] at h2
    split at h2
    · rename_i hc
      have := way_told ok2.w hk (by omega) hc.2
      have h6 : way (goneR (keepR r n p) i).waits k < 64 := Nat.lt_of_lt_of_le h3 (by show r.size ≤ 64; have : r.size ≤ 63 := ok.s63; omega)
      simp only [goneR] at h6
      omega
    · simp only [keepR] at h2
      rw [hka] at h2; cases h2
end Go.Proofs.Ytnfjfcoonabmmaa.Rv
