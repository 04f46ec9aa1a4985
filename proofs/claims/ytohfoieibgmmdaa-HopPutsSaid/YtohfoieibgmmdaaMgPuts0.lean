/- A message's bytes, both sides. -/
import Derived.Test.YtohfoieibgmmdaaMgRPut
import Derived.Test.YtohfoieibgmmdaaMgSame
namespace Go.Proofs.Ytohfoieibgmmdaa.Mg
open Go.RowKit
open Go.Proofs.Ytohfoieibgmmdaa.Me Go.Proofs.Ytohfoieibgmmdaa.Ba Go.Proofs.Ytohfoieibgmmdaa.Ma
set_option linter.unusedVariables false
set_option linter.unusedSimpArgs false

theorem row_own {w : World} {g B : Nat} {l : List Nat} (h : Row w g l) (hB : B ≤ g) (hl : l.length ≤ 140737488355328) : Own w B (.slice (some ⟨g, 0, none⟩) l.length l.length) l := by
  refine ⟨by simp, .inr ⟨g, l.length, (l.map byV).toArray, rfl, hB, h, Nat.le_refl _, by unfold maxLen; omega, by simp, ?_⟩⟩
  rw [Nat.mul_one]
  exact List.take_of_length_le (by simp)
theorem by_below {w W : World} {A : Option Addr} {n c : Nat} {l : List Nat} (h : BySlice w A n c l) (hb : Below w.heap.size w W) : BySlice W A n c l := ⟨h.1, h.2.1, h.2.2.1, (h.2.2.2.1.below hb).more hb.size, h.2.2.2.2⟩
theorem msgN_zero {i : Id4} {n : Nat} (h : msgN i n = 0) : Right i ∧ 1 ≤ n ∧ n ≤ 48 := by
  unfold msgN at h
  by_cases h0 : chkN i = 0
  · rw [if_neg (by simp [h0])] at h
    refine ⟨right_iff.1 h0, ?_, ?_⟩
    · apply Classical.byContradiction
      intro hn
      rw [if_pos (by omega)] at h
      cases h
    · apply Classical.byContradiction
      intro hn
      rw [if_neg (by omega), if_pos (by omega)] at h
      cases h
  · rw [if_pos h0] at h
    exact absurd h h0
/-- What a Put answers. -/
def PutM (i : Id4) (n : Nat) (l : List Nat) (w : World) (e : Ending) (w' : World) : Prop :=
  (msgN i n ≠ 0 ∧ e = .returned (.tuple #[.slice none 0 0, .int .i64 (msgN i n : Int)]) ∧ Below w.heap.size w w') ∨
  (msgN i n = 0 ∧ ∃ v, e = .returned (.tuple #[v, .int .i64 0]) ∧ Own w' w.heap.size v (idL i ++ l) ∧ Below w.heap.size w w')
set_option maxRecDepth 100000 in
set_option maxHeartbeats 4000000 in
theorem Put_any (i : Id4) (A : Option Addr) (n c : Nat) (l : List Nat) (w : World) (hi : Hid (BySlice w A n c l)) : Calls Try.prog 39 #[.agg (msgC i A n c)] w (PutM i n l w) := by
  have HK := Lib.hid (fun W => CheckMsg_any i A n c W)
  have HX := Lib.hid (box5 i A n c w)
  unfold PutM
  by_cases hm : msgN i n = 0
  · obtain ⟨hr, h1, h48⟩ := msgN_zero hm
    have HP := Lib.hid (fun W => PutId_ok i hr W)
    rw [hm] at HK
    rw [hm]
    obtain rfl : n = l.length := hi.out.1
    have HL6 : Hid ((idL i).length + l.length ≤ 140737488355328) := by show _ + _ ≤ _; rw [idL_len]; omega
    have HOW : Hid (∀ W g, Row W g (idL i) → w.heap.size ≤ g → Own W w.heap.size (.slice (some ⟨g, 0, none⟩) 6 6) (idL i)) := fun W g h hg => by
      have := row_own h hg (by rw [idL_len]; omega)
      rw [idL_len] at this
      exact this
    have HRD : Hid (∀ W, Below w.heap.size w W → Rd W W.heap.size A l) := fun W hW => (by_below hi.out hW).2.2.2.1
    have HA : Hid (A = none → l.length = 0 ∧ c = 0) := hi.out.2.2.2.2
    have HS0 : Hid ((w.alloc (.cells (msgC i A l.length c) 26 (0, 0))).heap.size = w.heap.size + 1) := by show _ = _; simp
    clear hm hr hi
    obtain ⟨k, hk⟩ : ∃ k, idL i = k := ⟨_, rfl⟩
    rw [hk] at HP HL6 HOW ⊢
    clear hk
    rw [show ((0 : Nat) : Int) = 0 from rfl] at HK
    obtain ⟨o, dd, ee, cc⟩ := i
    simp only [msgC, idC] at HK HX HP HS0 ⊢
    go_enter Try.func39, Try.ntmps39
    go_wp2_with (first
      | (go_at_call 63; refine (HK.out _).mono ?_; rintro e w1 ⟨rfl, b1⟩; obtain ⟨x0, x1, x2, x3, x4, bw⟩ := HX.out w1 b1.out)
      | (go_at_call 40; refine (HP.out _).mono ?_; rintro e w2 ⟨g, rfl, hg, hrow, b2⟩; have hb12 := Lib.hid (b1.out.trans (b2.out.mono b1.out.size)); obtain ⟨y0, y1, y2, y3, y4, bw2⟩ := HX.out w2 hb12.out; have HBW := Lib.hid bw2; have HO := Lib.hid (HOW.out w2 g hrow.out (Nat.le_trans (by have := HS0.out; have := b1.out.size; omega) hg)); clear hg hrow)
      | (at_builtin; refine app8 rfl (.tmp 18) (.tmp 20) rfl w.heap.size w2.heap.size _ k l rfl HO.out HBW.out HBW.out.size A c rfl (HRD.out _ HBW.out) HA.out HL6.out ?_; intro v3 w3 ho3 hb3 _; have HO3 := Lib.hid ho3; have HB3 := Lib.hid hb3; clear ho3 hb3))
    go_ret2
    exact .inr ⟨trivial, _, rfl, HO3.out, HB3.out⟩
  · have hn := Lib.hid hm
    obtain ⟨z, hz⟩ : ∃ z, msgN i n = z := ⟨_, rfl⟩
    rw [hz] at HK hn ⊢
    have hz0 := nz hn.out
    clear hm hz hi
    obtain ⟨o, dd, ee, cc⟩ := i
    simp only [msgC] at HK HX ⊢
    go_enter Try.func39, Try.ntmps39
    go_wp2_with (go_at_call 63; refine (HK.out _).mono ?_; rintro e w1 ⟨rfl, b1⟩; obtain ⟨x0, x1, x2, x3, x4, bw⟩ := HX.out w1 b1.out)
    go_ret2
    exact .inl ⟨hn.out, rfl, bw⟩
/-- An answer: bytes in new memory, and a number. -/
def OwP (L : List Nat) (z : Nat) (w : World) (e : Ending) (w' : World) : Prop := ∃ A c, e = .returned (.tuple #[.slice A L.length c, .int .i64 (z : Int)]) ∧ Hid (Own w' w.heap.size (.slice A L.length c) L) ∧ Hid (Below w.heap.size w w')
/-- A message's bytes, an id's, none where there is no right one. -/
def putL (i : Id4) (n : Nat) (l : List Nat) : List Nat := if msgN i n = 0 then idL i ++ l else []
def pidL (i : Id4) : List Nat := if chkN i = 0 then idL i else []
theorem putL_lt {i : Id4} {n : Nat} {l : List Nat} (h : ∀ z ∈ l, z < 256) : ∀ z ∈ putL i n l, z < 256 := by
  unfold putL
  split
  · intro z hz
    rw [List.mem_append] at hz
    exact hz.elim (bytK_lt i 4 z) (h z)
  · simp
theorem pidL_lt (i : Id4) : ∀ z ∈ pidL i, z < 256 := by
  unfold pidL
  split
  · exact bytK_lt i 4
  · simp
theorem PutM.ow {i : Id4} {n : Nat} {l : List Nat} {w w' : World} {e : Ending} (h : PutM i n l w e w') : OwP (putL i n l) (msgN i n) w e w' := by
  rcases h with ⟨h1, he, hb⟩ | ⟨h1, v, he, ho, hb⟩
  · unfold putL
    rw [if_neg h1]
    exact ⟨none, 0, he, Own.nil _ _, hb⟩
  · unfold putL
    rw [if_pos h1, h1]
    obtain ⟨g, c, rfl, _, _⟩ := ho.form (by rw [List.length_append, idL_len]; omega)
    exact ⟨_, c, he, ho, hb⟩
theorem Pid_any (i : Id4) (w : World) : Calls Try.prog 40 #[.agg (idC i)] w (OwP (pidL i) (chkN i) w) := by
  by_cases h : chkN i = 0
  · refine (PutId_ok i (right_iff.1 h) w).mono fun e w' ⟨g, he, hg, hr, hb⟩ => ?_
    have := row_own hr.out hg (by rw [idL_len]; omega)
    unfold pidL
    rw [if_pos h, h]
    rw [idL_len] at this
    exact ⟨_, 6, by rw [idL_len]; exact he, by rw [idL_len]; exact this, hb⟩
  · refine (PutId_no i h w).mono fun e w' ⟨he, hb⟩ => ?_
    unfold pidL
    rw [if_neg h]
    exact ⟨none, 0, he, Own.nil _ _, hb⟩
theorem RPid_any (i : Id4) (w : World) : Calls Try.prog 41 #[.agg (idC i)] w (OwP (pidL i) (chkN i) w) := by
  by_cases h : chkN i = 0
  · refine (RPutId_ok i (right_iff.1 h) w).mono fun e w' ⟨g, he, hg, hr, hb⟩ => ?_
    have := row_own hr.out hg (by rw [idL_len]; omega)
    unfold pidL
    rw [if_pos h, h]
    rw [idL_len] at this
    exact ⟨_, 6, by rw [idL_len]; exact he, by rw [idL_len]; exact this, hb⟩
  · refine (RPutId_no i h w).mono fun e w' ⟨he, hb⟩ => ?_
    unfold pidL
    rw [if_neg h]
    exact ⟨none, 0, he, Own.nil _ _, hb⟩
end Go.Proofs.Ytohfoieibgmmdaa.Mg
