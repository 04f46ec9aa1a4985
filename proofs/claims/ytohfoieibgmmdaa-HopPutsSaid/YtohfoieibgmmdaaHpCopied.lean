/- The law's copied: the same word, in new memory. -/
import Derived.Test.YtohfoieibgmmdaaHpIn
import Derived.Test.YtohfoieibgmmdaaHpPlan
namespace Go.Proofs.Ytohfoieibgmmdaa.Hp
open Go.RowKit Go.Shelf
open Go.Proofs.Ytohfoieibgmmdaa.Me Go.Proofs.Ytohfoieibgmmdaa.Sb Go.Proofs.Ytohfoieibgmmdaa.Mg
set_option linter.unusedVariables false
set_option linter.unusedSimpArgs false

theorem hop_one (k n o d e c : Int) (A : Option Addr) (x y : Nat) (B : Option Addr) (u v : Nat) : (#[.int .i64 k, .int .i64 n, .int .i64 o, .int .i64 d, .int .i64 e, .int .i64 c, .slice A x y, .slice B u v] : Array Value).all (·.oneCell') = true := by simp [Value.oneCell']
set_option maxRecDepth 100000 in
theorem copied_any (k n : Int) (i : Id4) (A : Option Addr) (dn dc : Nat) (l : List Nat) (B : Option Addr) (cs : List Int) (cc : Nat) (w : World) (hi : Hid (MsIn w A dn dc l)) (hr : Hid (CoIn w B cs cc)) :
    Calls Try.prog 9 #[.agg (hopC k n i A dn dc B cs.length cc)] w fun e w' => ∃ A2 c2 B2 d2, e = .returned (.agg (hopC k n i A2 dn c2 B2 cs.length d2)) ∧ Hid (Me.Own w' w.heap.size (.slice A2 dn c2) l) ∧ Hid (Mi.Own w' w.heap.size (.slice B2 cs.length d2) cs) ∧ Hid (Below w.heap.size w w') := by
  have HDl : Hid (dn = l.length) := hi.out.1.1
  obtain ⟨W0, hW0⟩ : ∃ W, (w.alloc (.cells (hopC k n i A dn dc B cs.length cc) 29 (0, 0))).alloc (.cells #[.int .i64 0, .int .i64 0, .int .i64 0, .int .i64 0, .int .i64 0, .int .i64 0, .slice none 0 0, .slice none 0 0] 29 (0, 0)) = W := ⟨_, rfl⟩
  have hb0 : Below w.heap.size w W0 := by rw [← hW0]; exact Me.below_alloc (Me.below_alloc (Below.refl _ _))
  have hg0 : W0.heap[w.heap.size]? = some (.cells (hopC k n i A dn dc B cs.length cc) 29 (0, 0)) := by rw [← hW0]; exact (Below.heap_alloc _ _ _ (by simp)).trans (heap_alloc_new w _)
  have hz0 : W0.heap[w.heap.size + 1]? = some (.cells #[.int .i64 0, .int .i64 0, .int .i64 0, .int .i64 0, .int .i64 0, .int .i64 0, .slice none 0 0, .slice none 0 0] 29 (0, 0)) := by
    rw [← hW0]
    have := heap_alloc_new (w.alloc (.cells (hopC k n i A dn dc B cs.length cc) 29 (0, 0))) (.cells #[.int .i64 0, .int .i64 0, .int .i64 0, .int .i64 0, .int .i64 0, .int .i64 0, .slice none 0 0, .slice none 0 0] 29 (0, 0))
    rw [World.size_alloc] at this
    exact this
  have HS0 : Hid (W0.heap.size = w.heap.size + 1 + 1) := by show _ = _; rw [← hW0]; simp
  have HR : Hid (∀ W, Below w.heap.size w W → Rd W W.heap.size A l) := fun W hW => (hi.out.below hW).1.2.2.2.1
  have HAn : Hid (A = none → l.length = 0 ∧ dc = 0) := hi.out.1.2.2.2.2
  have HRi : Hid (∀ W, Below w.heap.size w W → Mi.Rd W W.heap.size B cs) := fun W hW => (hr.out.1.2.2.2.1.below hW).more hW.size
  have HBn : Hid (B = none → cs.length = 0 ∧ cc = 0) := hr.out.1.2.2.2.2.1
  have HLl : Hid (l.length ≤ 140737488351232) := by have := hi.out.1.2.1; have := hi.out.2; show _ ≤ _; omega
  have HLc : Hid (cs.length * 8 ≤ 140737488351232) := by have := hr.out.1.2.1; have := hr.out.2; show _ ≤ _; omega
  have HLT := Lib.hid hi.out.1.2.2.2.1.1
  have HB0 := Lib.hid hb0
  have HG0 := Lib.hid hg0
  have HZ0 := Lib.hid hz0
  have HW0 := Lib.hid hW0
  obtain ⟨N, hN⟩ : ∃ N, cs.length = N := ⟨_, rfl⟩
  have HN := Lib.hid hN
  rw [hN] at HG0 HW0 ⊢
  clear hi hr hb0 hg0 hz0 hW0 hN
  obtain ⟨o, d, ee, c⟩ := i
  simp only [hopC] at HG0 HW0 ⊢
  obtain ⟨x0, x1, x2, x3, x4, x5, x6, x7⟩ := hx_row (i := ⟨o, d, ee, c⟩) HG0.out
  have y6 : (W0.alloc (.cells #[] 5)).cell? ⟨w.heap.size, 6, none⟩ = some (.slice A dn dc) := ((Me.below_alloc (Below.refl W0.heap.size W0)).cell (p := ⟨w.heap.size, 6, none⟩) (by have := HS0.out; show w.heap.size < W0.heap.size; omega)).trans x6
  have HO0 : Hid (Me.Own (W0.alloc (.cells #[] 5)) W0.heap.size (.slice (some ⟨W0.heap.size, 0, none⟩) 0 0) []) := Own.lit (Below.refl _ _)
  go_enter Try.func9, Try.ntmps9
  go_wp2_with (first
    | (rw [HW0.out])
    | (at_builtin; refine app8 rfl (.tmp 3) (.tmp 6) rfl W0.heap.size (W0.alloc (.cells #[] 5)).heap.size _ [] l rfl HO0.out (Me.below_alloc (Below.refl _ _)) (by simp) A dc (by rw [← HDl.out]; rfl) (HR.out _ (Me.below_alloc HB0.out)) HAn.out (by have := HLl.out; simp; omega) ?_; intro v3 w3 ho3 hb3 _; rw [List.nil_append] at ho3; obtain ⟨A3, c3, e3, _, _, _⟩ := ho3.held HLT.out; rw [← HDl.out] at e3; subst e3; have hG3 := (hb3.block w.heap.size (by have := HS0.out; omega)).trans HG0.out; obtain ⟨u0, u1, u2, u3, u4, u5, u6, u7⟩ := hx_row (i := ⟨o, d, ee, c⟩) hG3; have f6 := frozen_of_row w3 w.heap.size 6 _ _ hG3; have HO3 := Lib.hid ho3; have HB3 := Lib.hid hb3; have HG3 := Lib.hid hG3; clear ho3 hb3 hG3; obtain ⟨W4, hW4⟩ : ∃ W, w3.setCell ⟨w.heap.size, 6, none⟩ (.slice A3 dn c3) = W := ⟨_, rfl⟩; have HW4 := Lib.hid hW4; have hs4 : W4.heap.size = w3.heap.size := (by rw [← hW4]; simp); have hoth4 : ∀ k, k ≠ w.heap.size → W4.heap[k]? = w3.heap[k]? := (fun k hk => by rw [← hW4]; exact Below.heap_setCell w3 _ _ k hk); have hG4 : W4.heap[w.heap.size]? = some (.cells #[.int .i64 k, .int .i64 n, .int .i64 o, .int .i64 d, .int .i64 ee, .int .i64 c, .slice A3 dn c3, .slice B N cc] 29 (0, 0)) := (by rw [← hW4, heap_setCell_same w3 w.heap.size 6 _ _ _ HG3.out]; rfl); have hb4 : Below w.heap.size w W4 := (by rw [← hW4]; exact (HB0.out.trans (HB3.out.mono HB0.out.size)).setCell (p := ⟨w.heap.size, 6, none⟩) (Nat.le_refl _) _); have HS4 : Hid (W4.heap.size = w3.heap.size) := hs4; have HOt4 := Lib.hid hoth4; have HG4 := Lib.hid hG4; have HB4 := Lib.hid hb4; have v7 : (W4.alloc (.cells #[] 3)).cell? ⟨w.heap.size, 7, none⟩ = some (.slice B N cc) := ((Me.below_alloc (Below.refl W4.heap.size W4)).cell (p := ⟨w.heap.size, 7, none⟩) (Array.getElem?_eq_some_iff.1 hG4).1).trans (hx_row (i := ⟨o, d, ee, c⟩) hG4).2.2.2.2.2.2.2; have HI0 : Hid (Mi.Own (W4.alloc (.cells #[] 3)) W4.heap.size (.slice (some ⟨W4.heap.size, 0, none⟩) 0 0) []) := Mi.Own.lit (Below.refl _ _); clear hW4 hs4 hoth4 hG4 hb4)
    | (rw [HW4.out])
    | (at_builtin; refine Mi.app rfl (.tmp 10) (.tmp 12) rfl W4.heap.size (W4.alloc (.cells #[] 3)).heap.size _ [] cs rfl HI0.out (Me.below_alloc (Below.refl _ _)) (by simp) B N cc HN.out.symm rfl (HRi.out _ (Me.below_alloc HB4.out)) HBn.out (by have := HLc.out; simp; omega) ?_; intro v5 w5 ho5 hb5 _; rw [List.nil_append] at ho5; obtain ⟨A5, c5, e5, _, _, _⟩ := ho5.form; rw [HN.out] at e5; subst e5; have hG5 := (hb5.block w.heap.size (Array.getElem?_eq_some_iff.1 HG4.out).1).trans HG4.out; obtain ⟨t0, t1, t2, t3, t4, t5, t6, t7⟩ := hx_row (i := ⟨o, d, ee, c⟩) hG5; have f7 := frozen_of_row w5 w.heap.size 7 _ _ hG5; have HO5 := Lib.hid ho5; have HB5 := Lib.hid hb5; have HG5 := Lib.hid hG5; clear ho5 hb5 hG5; obtain ⟨W6, hW6⟩ : ∃ W, w5.setCell ⟨w.heap.size, 7, none⟩ (.slice A5 N c5) = W := ⟨_, rfl⟩; have HW6 := Lib.hid hW6; have HO6 : Hid (∀ k, k ≠ w.heap.size → W6.heap[k]? = w5.heap[k]?) := (fun k hk => by rw [← hW6]; exact Below.heap_setCell w5 _ _ k hk); have HS6 : Hid (W6.heap.size = w5.heap.size) := (by show _ = _; rw [← hW6]; simp); have HG6 : Hid (W6.heap[w.heap.size]? = some (.cells #[.int .i64 k, .int .i64 n, .int .i64 o, .int .i64 d, .int .i64 ee, .int .i64 c, .slice A3 dn c3, .slice A5 N c5] 29 (0, 0))) := (by show _ = _; rw [← hW6, heap_setCell_same w5 w.heap.size 7 _ _ _ HG5.out]; rfl); have HB6 : Hid (Below w.heap.size w W6) := (by show Below _ _ _; rw [← hW6]; exact (HB4.out.trans (HB5.out.mono HB4.out.size)).setCell (p := ⟨w.heap.size, 7, none⟩) (Nat.le_refl _) _); have HZ6 : Hid (W6.heap[w.heap.size + 1]? = some (.cells #[.int .i64 0, .int .i64 0, .int .i64 0, .int .i64 0, .int .i64 0, .int .i64 0, .slice none 0 0, .slice none 0 0] 29 (0, 0))) := ((HO6.out _ (by omega)).trans ((HB5.out.block _ (by have := HS4.out; have := HB3.out.size; have := HS0.out; omega)).trans ((HOt4.out _ (by omega)).trans ((HB3.out.block _ (by have := HS0.out; omega)).trans HZ0.out)))); clear hW6; obtain ⟨s0, s1, s2, s3, s4, s5, s6, s7⟩ := hx_row (i := ⟨o, d, ee, c⟩) HG6.out)
    | (rw [HW6.out])
    | (refine wpList_store_row rfl 29 (.tmp 2) (.tmp 15) rfl (w.heap.size + 1) #[.int .i64 k, .int .i64 n, .int .i64 o, .int .i64 d, .int .i64 ee, .int .i64 c, .slice A3 dn c3, .slice A5 N c5] rfl rfl 29 _ HZ6.out (by kernel_rfl) rfl (hop_one _ _ _ _ _ _ _ _ _ _ _ _) ?_))
  have hne : ∀ x, x ≠ w.heap.size + 1 → (W6.setRow (w.heap.size + 1) #[.int .i64 k, .int .i64 n, .int .i64 o, .int .i64 d, .int .i64 ee, .int .i64 c, .slice A3 dn c3, .slice A5 N c5]).heap[x]? = W6.heap[x]? := fun x hx => setRow_other _ _ x _ hx
  refine ret_arr rfl rfl (setRow_heap _ _ _ _ _ _ HZ6.out) rfl Try.underlying29 (by kernel_rfl) rfl ⟨A3, c3, A5, c5, rfl, ?_, ?_, ?_⟩
  · have h3 : Me.Own w3 W0.heap.size (.slice A3 dn c3) l := HO3.out
    refine own_same (own_base h3 fun x e => Nat.le_trans HB0.out.size (World.ownsRow.lt h3 x e).1) fun x e hk => ?_
    have h1 := (World.ownsRow.lt h3 x e).1
    have h2 := HS0.out
    rw [hne x (by omega), HO6.out x (by omega), HB5.out.block x (by rw [HS4.out]; exact hk), HOt4.out x (by omega)]
  · have h5 : Mi.Own w5 W4.heap.size (.slice A5 N c5) cs := HO5.out
    refine (h5.base fun x e => Nat.le_trans HB4.out.size (World.ownsRow.lt h5 x e).1).same fun x e hk => ?_
    have h1 := (World.ownsRow.lt h5 x e).1
    have h2 := HS0.out
    have h3 := HS4.out
    have h4 := HB3.out.size
    rw [hne x (by omega), HO6.out x (by omega)]
  · exact Sb.below_setRow _ HB6.out (Nat.le_succ _)
end Go.Proofs.Ytohfoieibgmmdaa.Hp
