/- Get of a word. -/
import Derived.Test.YtohfoieibgmmdaaZ15
import Derived.Test.YtohfoieibgmmdaaZ9
namespace Go.Proofs.Ytohfoieibgmmdaa.Hp
open Go.RowKit Go.Shelf
open Go.Proofs.Ytohfoieibgmmdaa.Me Go.Proofs.Ytohfoieibgmmdaa.Sb Go.Proofs.Ytohfoieibgmmdaa.Mg Go.Proofs.Ytohfoieibgmmdaa.Ba Go.Proofs.Ytohfoieibgmmdaa.Ma Go.Proofs.Ytohfoieibgmmdaa.Bt
set_option linter.unusedVariables false
set_option linter.unusedSimpArgs false

theorem own_riG {W : World} {B0 : Nat} {A : Option Addr} {n c : Nat} {l : List Int} (h : Mi.Own W B0 (.slice A n c) l) : Hid (Mi.Rd W W.heap.size A l) := by
  obtain ⟨A', c', e', _, _, r, _⟩ := h.form
  simp only [Value.slice.injEq] at e'
  obtain ⟨rfl, rfl, rfl⟩ := e'
  exact r
theorem take_by {w : World} {A : Option Addr} {n c : Nat} {l : List Nat} (h : BySlice w A n c l) {k : Nat} (hk : k ≤ l.length) : BySlice w A k c (l.take k) := by
  cases A with
  | none =>
    obtain ⟨h1, h2⟩ := h.2.2.2.2 rfl
    obtain rfl : k = 0 := by omega
    obtain rfl := h2
    rw [List.take_zero]
    exact Me.bySlice_none _
  | some a => exact by_take h hk
set_option maxRecDepth 100000 in
set_option maxHeartbeats 1000000 in
theorem Get_any (A : Option Addr) (n cap : Nat) (l : List Nat) (w : World) (hi : Hid (BySlice w A n cap l)) : Calls Try.prog 15 #[.slice A n cap] w (Ans (gtW l) w) := by
  obtain rfl : n = l.length := hi.out.1
  have HB0 : Hid (Below w.heap.size w (w.alloc (.cells #[.int .i64 0, .int .i64 0, .int .i64 0, .int .i64 0, .int .i64 0, .int .i64 0, .slice none 0 0, .slice none 0 0] 29 (0, 0)))) := Me.below_alloc (Below.refl _ _)
  have HR0 : Hid ((w.alloc (.cells #[.int .i64 0, .int .i64 0, .int .i64 0, .int .i64 0, .int .i64 0, .int .i64 0, .slice none 0 0, .slice none 0 0] 29 (0, 0))).heap[w.heap.size]? = some (.cells #[.int .i64 0, .int .i64 0, .int .i64 0, .int .i64 0, .int .i64 0, .int .i64 0, .slice none 0 0, .slice none 0 0] 29 (0, 0))) := heap_alloc_new w _
  obtain ⟨k, hk⟩ : ∃ k, min l.length 66 = k := ⟨_, rfl⟩
  have ht : l.take k = l.take 66 := by
    rw [← hk]
    by_cases h : l.length ≤ 66
    · rw [Nat.min_eq_left h, List.take_length, List.take_of_length_le h]
    · rw [Nat.min_eq_right (by omega)]
  have HRd : Hid (∀ W, Below w.heap.size w W → Calls Try.prog 45 #[.slice A k cap] W (Ans (rdW (l.take 66)) W)) := fun W hW => by
    rw [← ht]
    exact read_any A k cap (l.take k) W (take_by (by_below hi.out hW) (by omega)) (by simp; omega)
  have hcap := hi.out.2.1
  have hcm := hi.out.2.2.1
  have m1 : min (l.length : Int) 66 = (k : Int) := by omega
  have m2 : k ≤ cap := by omega
  have m3 : (k : Int) ≤ (cap : Int) := by omega
  unfold gtW
  obtain ⟨x, hx⟩ : ∃ x, rdW (l.take 66) = x := ⟨_, rfl⟩
  rw [hx] at HRd ⊢
  obtain ⟨L, hL⟩ : ∃ L, l.length = L := ⟨_, rfl⟩
  rw [hL] at m1 hcap ⊢
  have HXL : Hid (x.cs.length ≤ 9223372036854775806 ∨ True) := .inr trivial
  have hcs : x.cs.length ≤ 9223372036854775806 := by
    rw [← hx]
    have h66 : (l.take 66).length ≤ 66 := by simp; omega
    unfold rdW
    split
    · simp [Wd0]
    · split
      · simp [intL]; omega
      · split
        · simp
        · split <;> simp
  have HCS := Lib.hid hcs
  clear hi hk ht hx hL hcs HXL
  obtain ⟨xk, xn, ⟨o, d, ee, c⟩, p, cs, z⟩ := x
  unfold Ans at HRd
  simp only [hopC] at HRd
  simp only at HCS
  have HK := Lib.hid (fun (A2 : Option Addr) (c2 : Nat) (B2 : Option Addr) (d2 : Nat) W (h : Hid (Mi.Rd W W.heap.size B2 cs)) => Check_any xk xn ⟨o, d, ee, c⟩ A2 p.length c2 B2 cs d2 W h HCS.out)
  obtain ⟨zh, hzh⟩ : ∃ y, hopN xk xn ⟨o, d, ee, c⟩ p.length cs = y := ⟨_, rfl⟩
  simp only [hzh, hopC] at HK
  have HOK : Hid ((Wd.mk xk xn ⟨o, d, ee, c⟩ p cs z).ok = (z == 0 && zh == 0)) := by show _ = _; unfold Wd.ok; simp only [hzh]
  clear hzh
  obtain ⟨W0, hW0⟩ : ∃ W, w.alloc (.cells #[.int .i64 0, .int .i64 0, .int .i64 0, .int .i64 0, .int .i64 0, .int .i64 0, .slice none 0 0, .slice none 0 0] 29 (0, 0)) = W := ⟨_, rfl⟩
  have HW0 := Lib.hid hW0
  rw [hW0] at HB0 HR0
  clear hW0
  by_cases hz : z = 0
  · subst hz
    by_cases hh : zh = 0
    · subst hh
      rw [show ((0 : Nat) : Int) = 0 from rfl] at HRd HK
      rw [if_pos (by rw [HOK.out]; rfl)]
      go_enter Try.func15, Try.ntmps15
      go_wp2_with (first
        | (rw [HW0.out])
        | (go_at_call 45; refine (HRd.out _ HB0.out).mono ?_; rintro e w5 ⟨A5, c5, B5, d5, rfl, ho5, hi5, hb5⟩; obtain ⟨W6, hW6⟩ : ∃ W, w5.alloc (.cells #[.int .i64 (xk : Int), .int .i64 (xn : Int), .int .i64 o, .int .i64 d, .int .i64 ee, .int .i64 c, .slice A5 p.length c5, .slice B5 cs.length d5] 29 (0, 0)) = W := ⟨_, rfl⟩; have HW6 := Lib.hid hW6; have hb56 : Below w5.heap.size w5 W6 := (by rw [← hW6]; exact Me.below_alloc (Below.refl _ _)); have hg6 : W6.heap[w5.heap.size]? = some (.cells #[.int .i64 (xk : Int), .int .i64 (xn : Int), .int .i64 o, .int .i64 d, .int .i64 ee, .int .i64 c, .slice A5 p.length c5, .slice B5 cs.length d5] 29 (0, 0)) := (by rw [← hW6]; exact heap_alloc_new w5 _); clear hW6; have HO6 : Hid (Me.Own W6 W0.heap.size (.slice A5 p.length c5) p) := own_belowV ho5.out hb56; have HI6 : Hid (Mi.Own W6 W0.heap.size (.slice B5 cs.length d5) cs) := hi5.out.below hb56; have HB6 : Hid (Below W0.heap.size W0 W6) := hb5.out.trans (hb56.mono hb5.out.size); have HG6 := Lib.hid hg6; have HZ6 : Hid (W6.heap[w.heap.size]? = some (.cells #[.int .i64 0, .int .i64 0, .int .i64 0, .int .i64 0, .int .i64 0, .int .i64 0, .slice none 0 0, .slice none 0 0] 29 (0, 0))) := (HB6.out.block _ (Array.getElem?_eq_some_iff.1 HR0.out).1).trans HR0.out; obtain ⟨q0, q1, q2, q3, q4, q5, q6, q7⟩ := hx_row (i := ⟨o, d, ee, c⟩) hg6; have HR6 := own_riG HI6.out; have HS6 : Hid (w5.heap.size < W6.heap.size) := (Array.getElem?_eq_some_iff.1 hg6).1; have HS5 : Hid (W0.heap.size ≤ w5.heap.size) := hb5.out.size; clear hg6 hb56)
        | (rw [HW6.out])
        | (go_at_call 10; refine (HK.out A5 c5 B5 d5 _ HR6).mono ?_; rintro e w7 ⟨rfl, hb7⟩; have HG7 : Hid (w7.heap[w5.heap.size]? = some (.cells #[.int .i64 (xk : Int), .int .i64 (xn : Int), .int .i64 o, .int .i64 d, .int .i64 ee, .int .i64 c, .slice A5 p.length c5, .slice B5 cs.length d5] 29 (0, 0))) := (hb7.out.block _ HS6.out).trans HG6.out; have HZ7 : Hid (w7.heap[w.heap.size]? = some (.cells #[.int .i64 0, .int .i64 0, .int .i64 0, .int .i64 0, .int .i64 0, .int .i64 0, .slice none 0 0, .slice none 0 0] 29 (0, 0))) := ((HB6.out.trans (hb7.out.mono HB6.out.size)).block _ (Array.getElem?_eq_some_iff.1 HR0.out).1).trans HR0.out; obtain ⟨r0, r1, r2, r3, r4, r5, r6, r7⟩ := hx_row (i := ⟨o, d, ee, c⟩) HG7.out; have HB7 : Hid (Below W0.heap.size W0 w7) := HB6.out.trans (hb7.out.mono HB6.out.size))
        | (refine wpList_store_row rfl 29 (.tmp 2) (.tmp 23) rfl w.heap.size #[.int .i64 (xk : Int), .int .i64 (xn : Int), .int .i64 o, .int .i64 d, .int .i64 ee, .int .i64 c, .slice A5 p.length c5, .slice B5 cs.length d5] rfl rfl 29 _ HZ7.out (by kernel_rfl) rfl (hop_one _ _ _ _ _ _ _ _ _ _ _ _) ?_))
      refine Mg.ret_box2 (g := w.heap.size) rfl (by rfl) (setRow_heap _ _ _ _ _ _ HZ7.out) rfl Try.underlying29 (by kernel_rfl) rfl ⟨A5, c5, B5, d5, rfl, ?_, ?_, Sb.below_setRow _ (HB0.out.trans (HB7.out.mono HB0.out.size)) (Nat.le_refl _)⟩
      · have h5 : Me.Own w7 W0.heap.size (.slice A5 p.length c5) p := own_belowV HO6.out hb7.out
        refine own_same (own_base h5 fun y e => Nat.le_trans HB0.out.size (World.ownsRow.lt h5 y e).1) fun y e hy => setRow_other _ _ y _ ?_
        have h1 := (World.ownsRow.lt h5 y e).1
        have h2 := (Array.getElem?_eq_some_iff.1 HR0.out).1
        omega
      · have h5 : Mi.Own w7 W0.heap.size (.slice B5 cs.length d5) cs := HI6.out.below hb7.out
        refine (h5.base fun y e => Nat.le_trans HB0.out.size (World.ownsRow.lt h5 y e).1).same fun y e hy => setRow_other _ _ y _ ?_
        have h1 := (World.ownsRow.lt h5 y e).1
        have h2 := (Array.getElem?_eq_some_iff.1 HR0.out).1
        omega
    · have hz1 := nz hh
      have hz2 : ((zh : Int) != 0) = true := by rw [bne, hz1]; rfl
      rw [show ((0 : Nat) : Int) = 0 from rfl] at HRd
      have hzz : (zh == 0) = false := beq_eq_false_iff_ne.mpr hh
      rw [if_neg (by rw [HOK.out, hzz]; simp)]
      clear hh hzz
      go_enter Try.func15, Try.ntmps15
      go_wp2_with (first
        | (rw [HW0.out])
        | (go_at_call 45; refine (HRd.out _ HB0.out).mono ?_; rintro e w5 ⟨A5, c5, B5, d5, rfl, ho5, hi5, hb5⟩; obtain ⟨W6, hW6⟩ : ∃ W, w5.alloc (.cells #[.int .i64 (xk : Int), .int .i64 (xn : Int), .int .i64 o, .int .i64 d, .int .i64 ee, .int .i64 c, .slice A5 p.length c5, .slice B5 cs.length d5] 29 (0, 0)) = W := ⟨_, rfl⟩; have HW6 := Lib.hid hW6; have hb56 : Below w5.heap.size w5 W6 := (by rw [← hW6]; exact Me.below_alloc (Below.refl _ _)); have hg6 : W6.heap[w5.heap.size]? = some (.cells #[.int .i64 (xk : Int), .int .i64 (xn : Int), .int .i64 o, .int .i64 d, .int .i64 ee, .int .i64 c, .slice A5 p.length c5, .slice B5 cs.length d5] 29 (0, 0)) := (by rw [← hW6]; exact heap_alloc_new w5 _); clear hW6; have HO6 : Hid (Me.Own W6 W0.heap.size (.slice A5 p.length c5) p) := own_belowV ho5.out hb56; have HI6 : Hid (Mi.Own W6 W0.heap.size (.slice B5 cs.length d5) cs) := hi5.out.below hb56; have HB6 : Hid (Below W0.heap.size W0 W6) := hb5.out.trans (hb56.mono hb5.out.size); have HG6 := Lib.hid hg6; have HZ6 : Hid (W6.heap[w.heap.size]? = some (.cells #[.int .i64 0, .int .i64 0, .int .i64 0, .int .i64 0, .int .i64 0, .int .i64 0, .slice none 0 0, .slice none 0 0] 29 (0, 0))) := (HB6.out.block _ (Array.getElem?_eq_some_iff.1 HR0.out).1).trans HR0.out; obtain ⟨q0, q1, q2, q3, q4, q5, q6, q7⟩ := hx_row (i := ⟨o, d, ee, c⟩) hg6; have HR6 := own_riG HI6.out; have HS6 : Hid (w5.heap.size < W6.heap.size) := (Array.getElem?_eq_some_iff.1 hg6).1; have HS5 : Hid (W0.heap.size ≤ w5.heap.size) := hb5.out.size; clear hg6 hb56)
        | (rw [HW6.out])
        | (go_at_call 10; refine (HK.out A5 c5 B5 d5 _ HR6).mono ?_; rintro e w7 ⟨rfl, hb7⟩; have HG7 : Hid (w7.heap[w5.heap.size]? = some (.cells #[.int .i64 (xk : Int), .int .i64 (xn : Int), .int .i64 o, .int .i64 d, .int .i64 ee, .int .i64 c, .slice A5 p.length c5, .slice B5 cs.length d5] 29 (0, 0))) := (hb7.out.block _ HS6.out).trans HG6.out; have HZ7 : Hid (w7.heap[w.heap.size]? = some (.cells #[.int .i64 0, .int .i64 0, .int .i64 0, .int .i64 0, .int .i64 0, .int .i64 0, .slice none 0 0, .slice none 0 0] 29 (0, 0))) := ((HB6.out.trans (hb7.out.mono HB6.out.size)).block _ (Array.getElem?_eq_some_iff.1 HR0.out).1).trans HR0.out; obtain ⟨r0, r1, r2, r3, r4, r5, r6, r7⟩ := hx_row (i := ⟨o, d, ee, c⟩) HG7.out; have HB7 : Hid (Below W0.heap.size W0 w7) := HB6.out.trans (hb7.out.mono HB6.out.size))
        | (refine wpList_store_row rfl 29 (.tmp 2) (.tmp 22) rfl w.heap.size #[.int .i64 0, .int .i64 0, .int .i64 0, .int .i64 0, .int .i64 0, .int .i64 0, .slice none 0 0, .slice none 0 0] rfl rfl 29 _ HZ7.out (by kernel_rfl) rfl (hop_one _ _ _ _ _ _ _ _ _ _ _ _) ?_))
      exact Mg.ret_box2 (g := w.heap.size) rfl (by rfl) (setRow_heap _ _ _ _ _ _ HZ7.out) rfl Try.underlying29 (by kernel_rfl) rfl (Ans.no rfl rfl rfl (Sb.below_setRow _ (HB0.out.trans (HB7.out.mono HB0.out.size)) (Nat.le_refl _)))
  · have hz1 := nz hz
    have hz2 : ((z : Int) != 0) = true := by rw [bne, hz1]; rfl
    have hzz : (z == 0) = false := beq_eq_false_iff_ne.mpr hz
    rw [if_neg (by rw [HOK.out, hzz]; simp)]
    clear hz hzz
    go_enter Try.func15, Try.ntmps15
    go_wp2_with (first
        | (rw [HW0.out])
        | (go_at_call 45; refine (HRd.out _ HB0.out).mono ?_; rintro e w5 ⟨A5, c5, B5, d5, rfl, ho5, hi5, hb5⟩; obtain ⟨W6, hW6⟩ : ∃ W, w5.alloc (.cells #[.int .i64 (xk : Int), .int .i64 (xn : Int), .int .i64 o, .int .i64 d, .int .i64 ee, .int .i64 c, .slice A5 p.length c5, .slice B5 cs.length d5] 29 (0, 0)) = W := ⟨_, rfl⟩; have HW6 := Lib.hid hW6; have hb56 : Below w5.heap.size w5 W6 := (by rw [← hW6]; exact Me.below_alloc (Below.refl _ _)); have hg6 : W6.heap[w5.heap.size]? = some (.cells #[.int .i64 (xk : Int), .int .i64 (xn : Int), .int .i64 o, .int .i64 d, .int .i64 ee, .int .i64 c, .slice A5 p.length c5, .slice B5 cs.length d5] 29 (0, 0)) := (by rw [← hW6]; exact heap_alloc_new w5 _); clear hW6; have HO6 : Hid (Me.Own W6 W0.heap.size (.slice A5 p.length c5) p) := own_belowV ho5.out hb56; have HI6 : Hid (Mi.Own W6 W0.heap.size (.slice B5 cs.length d5) cs) := hi5.out.below hb56; have HB6 : Hid (Below W0.heap.size W0 W6) := hb5.out.trans (hb56.mono hb5.out.size); have HG6 := Lib.hid hg6; have HZ6 : Hid (W6.heap[w.heap.size]? = some (.cells #[.int .i64 0, .int .i64 0, .int .i64 0, .int .i64 0, .int .i64 0, .int .i64 0, .slice none 0 0, .slice none 0 0] 29 (0, 0))) := (HB6.out.block _ (Array.getElem?_eq_some_iff.1 HR0.out).1).trans HR0.out; obtain ⟨q0, q1, q2, q3, q4, q5, q6, q7⟩ := hx_row (i := ⟨o, d, ee, c⟩) hg6; have HR6 := own_riG HI6.out; have HS6 : Hid (w5.heap.size < W6.heap.size) := (Array.getElem?_eq_some_iff.1 hg6).1; have HS5 : Hid (W0.heap.size ≤ w5.heap.size) := hb5.out.size; clear hg6 hb56)
        | (rw [HW6.out])
        | (go_at_call 10; refine (HK.out A5 c5 B5 d5 _ HR6).mono ?_; rintro e w7 ⟨rfl, hb7⟩; have HG7 : Hid (w7.heap[w5.heap.size]? = some (.cells #[.int .i64 (xk : Int), .int .i64 (xn : Int), .int .i64 o, .int .i64 d, .int .i64 ee, .int .i64 c, .slice A5 p.length c5, .slice B5 cs.length d5] 29 (0, 0))) := (hb7.out.block _ HS6.out).trans HG6.out; have HZ7 : Hid (w7.heap[w.heap.size]? = some (.cells #[.int .i64 0, .int .i64 0, .int .i64 0, .int .i64 0, .int .i64 0, .int .i64 0, .slice none 0 0, .slice none 0 0] 29 (0, 0))) := ((HB6.out.trans (hb7.out.mono HB6.out.size)).block _ (Array.getElem?_eq_some_iff.1 HR0.out).1).trans HR0.out; obtain ⟨r0, r1, r2, r3, r4, r5, r6, r7⟩ := hx_row (i := ⟨o, d, ee, c⟩) HG7.out; have HB7 : Hid (Below W0.heap.size W0 w7) := HB6.out.trans (hb7.out.mono HB6.out.size))
        | (refine wpList_store_row rfl 29 (.tmp 2) (.tmp 22) rfl w.heap.size #[.int .i64 0, .int .i64 0, .int .i64 0, .int .i64 0, .int .i64 0, .int .i64 0, .slice none 0 0, .slice none 0 0] rfl rfl 29 _ HZ6.out (by kernel_rfl) rfl (hop_one _ _ _ _ _ _ _ _ _ _ _ _) ?_))
    exact Mg.ret_box2 (g := w.heap.size) rfl (by rfl) (setRow_heap _ _ _ _ _ _ HZ6.out) rfl Try.underlying29 (by kernel_rfl) rfl (Ans.no rfl rfl rfl (Sb.below_setRow _ (HB0.out.trans (HB6.out.mono HB0.out.size)) (Nat.le_refl _)))
end Go.Proofs.Ytohfoieibgmmdaa.Hp
