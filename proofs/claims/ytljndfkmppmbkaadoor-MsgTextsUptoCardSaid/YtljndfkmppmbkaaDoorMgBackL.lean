/- The law of messages there and back: of any input. -/
import Derived.Test.YtljndfkmppmbkaaDoorMgBack
import Derived.Lib.LaidTab
import Derived.MakeChecks
import Derived.LaidSub
namespace Go.Proofs.YtljndfkmppmbkaaDoor.Mg
open Go.RowKit
open Go.Proofs.YtljndfkmppmbkaaDoor.Me Go.Proofs.YtljndfkmppmbkaaDoor.Ba Go.Proofs.YtljndfkmppmbkaaDoor.Ma Go.Proofs.YtljndfkmppmbkaaDoor.Bt Go.Proofs.YtljndfkmppmbkaaDoor.Hd
set_option linter.unusedVariables false
set_option linter.unusedSimpArgs false

theorem tab_of {W : World} {d1 d2 : DataW Unit} (h : laidMetH Tryd.prog [("math/bits.deBruijn32tab", d1), ("math/bits.deBruijn64tab", d2), ("internal/strconv.uint64pow10", Rows.laid_internal_strconv_uint64pow10)] W) : Tab W := by
  have h1 := h.filter fun x => x.1 == "internal/strconv.uint64pow10"
  have h2 : laidMetH Tryd.prog [("internal/strconv.uint64pow10", Rows.laid_internal_strconv_uint64pow10)] W := h1
  rw [MakeChecks.laidMetH_plain _ _ _ (by rfl)] at h2
  exact Lib.tabBelow_of_tabIs (Lib.tabIs_of_head (rest := []) (g := 0) (t := 82) (e := 60) (n := 20) (by kernel_rfl) (by kernel_rfl) (by kernel_rfl) (by kernel_rfl) (by kernel_rfl) (by kernel_rfl) h2)
theorem zcase (z : Nat) : ((z : Int) = 0) ∨ (((z : Int) == 0) = false ∧ ((z : Int) != 0) = true) := by
  by_cases h : z = 0
  · left; omega
  · right
    have := nz h
    exact ⟨this, by simp only [bne, this, Bool.not_false]⟩
theorem zz {z : Nat} (h : (z : Int) = 0) : z = 0 := by omega
set_option maxRecDepth 100000 in
set_option maxHeartbeats 4000000 in
theorem back (i : Id4) (A : Option Addr) (n c : Nat) (l : List Nat) (A' : Option Addr) (n' c' : Nat) (l' : List Nat) (s : ByteArray) (w : World) (hi : MsIn w A n c l) (hp : BySlice w A' n' c' l') (hc : c' ≤ 140737488351232) (hs : s.size ≤ maxLen) (hT : Tab w) :
    Calls Tryd.prog 8 #[.agg (msgC i A n c), .slice A' n' c', .string s] w fun e w' => e = .returned (.bool true) ∧ Below w.heap.size w w' := by
  obtain rfl : n = l.length := hi.1.1
  obtain rfl : n' = l'.length := hp.1
  obtain ⟨r, rfl⟩ : ∃ r, s = sB r := ⟨s.data.toList, by unfold sB; simp⟩
  rw [sB_size] at hs
  have hX := box5 i A l.length c w
  obtain ⟨W0, hW0⟩ : ∃ W, w.alloc (.cells (msgC i A l.length c) 26 (0, 0)) = W := ⟨_, rfl⟩
  rw [hW0] at hX
  have hB := fun W (h : Below W0.heap.size W0 W) => (hX W h).2.2.2.2.2
  have hT' := fun W (h : Below W0.heap.size W0 W) => hT.on (hB W h)
  refine backC i.o i.d i.e i.c (mI l').o (mI l').d (mI l').e (mI l').c (psI r).o (psI r).d (psI r).e (psI r).c A A' c c' l l' (putL i l.length l) (mD l') (sB r) (if chkN i = 0 then sB (txK i 4) else ⟨#[]⟩) (msgN i l.length) (mZ l') (chkN i) (psZ r) w W0 hW0 hX (putL_lt hi.1.2.2.2.1.1) hi.1.2.2.2.1.1 hp.2.2.2.1.1 (mD_lt hp.2.2.2.1.1) ?_ ?_ ?_ ?_ ?_ ?_ ?_ ?_ ?_ ?_ ?_ (zcase _) (zcase _) (zcase _) (zcase _)
  · exact fun W h => (Put_any i A l.length c l W (by_below hi.1 (hB W h))).mono fun _ _ h => h.ow
  · intro hz A1 c1 W h
    have h0 := zz hz
    have e : putL i l.length l = idL i ++ l := by unfold putL; rw [if_pos h0]
    have hg := Get_any A1 _ c1 _ W h
    rw [e] at hg ⊢
    obtain ⟨e1, e2, e3⟩ := put_get h0
    unfold GetM at hg
    rw [e1, e2, e3] at hg
    exact hg
  · exact fun W h => by_below hi.1 (hB W h)
  · exact fun A2 c2 W h1 h2 => RSame_self i A A2 l.length l.length c c2 l W h1 h2
  · exact fun W h => Get_any A' l'.length c' l' W (by_below hp (hB W h))
  · intro hz A4 c4 W h
    have h0 := zz hz
    obtain ⟨e1, e2⟩ := get_put hp.2.2.2.1.1 h0
    have hg := (Put_any (mI l') A4 (mD l').length c4 (mD l') W h).mono fun _ _ h => h.ow
    have e : putL (mI l') (mD l').length (mD l') = l' := by unfold putL; rw [if_pos e1, e2]
    rw [e, e1] at hg
    exact hg
  · exact fun W h => conv_rd W _ A' l' c' (by_below hp (hB W h)).2.2.2.1 hp.2.2.2.2
  · intro W h
    by_cases hk : chkN i = 0
    · rw [if_pos hk, hk]
      exact Text_ok i (right_iff.1 hk) W (it_tab (hT' W h) (right_iff.1 hk))
    · rw [if_neg hk]
      exact Text_no i hk W
  · intro hz W h
    have h0 := zz hz
    rw [if_pos h0]
    have hr := right_iff.1 h0
    have hp := Parse_any (txK i 4) W (by have := txK_len hr 4 (by omega); omega) (hT' W h)
    unfold IdP at hp
    rw [(ps_of hr).1, (ps_of hr).2] at hp
    exact hp
  · exact fun W h => Parse_any r W (by unfold maxLen at hs; omega) (hT' W h)
  · intro hz W h
    obtain ⟨e1, e2⟩ := ps_zero (zz hz)
    have := Text_ok (psI r) e1 W (it_tab (hT' W h) e1)
    rw [e2] at this
    exact this
end Go.Proofs.YtljndfkmppmbkaaDoor.Mg
