/- Stores of a part of a word's box. -/
import Derived.Test.YtohfoieibgmmdaaZ2
import Derived.Test.YtohfoieibgmmdaaZ11
import Derived.Test.YtohfoieibgmmdaaZ14
namespace Go.Proofs.Ytohfoieibgmmdaa.Hp
open Go.RowKit
open Go.Proofs.Ytohfoieibgmmdaa.Me Go.Proofs.Ytohfoieibgmmdaa.Sb
set_option linter.unusedVariables false
set_option linter.unusedSimpArgs false

theorem heap_setCells (g : Nat) (T : TypeId) : ∀ (vs : List Value) (o : Nat) (w : World) (cur : Array Value), w.heap[g]? = some (.cells cur T (0, 0)) →
    ∃ cur', (w.setCells g o vs).heap[g]? = some (.cells cur' T (0, 0)) ∧ cur'.size = cur.size ∧ (∀ i, i < o ∨ o + vs.length ≤ i → cur'[i]? = cur[i]?) ∧ (∀ j, j < vs.length → o + j < cur.size → cur'[o + j]? = vs[j]?)
  | [], o, w, cur, h => ⟨cur, h, rfl, fun _ _ => rfl, fun j hj => absurd hj (by simp)⟩
  | v :: r, o, w, cur, h => by
    obtain ⟨cur', h1, h2, h3, h4⟩ := heap_setCells g T r (o + 1) (w.setCell ⟨g, o, none⟩ v) _ (heap_setCell_same w g o cur T v h)
    refine ⟨cur', h1, by rw [h2]; simp, fun i hi => ?_, fun j hj hs => ?_⟩
    · rw [h3 i (by simp only [List.length_cons] at hi; omega), Array.getElem?_setIfInBounds_ne (by simp only [List.length_cons] at hi; omega)]
    · cases j with
      | zero =>
        rw [h3 (o + 0) (by omega)]
        simp at hs ⊢
        simp [hs]
      | succ j =>
        have := h4 j (by simpa using hj) (by simp; omega)
        rw [show o + (j + 1) = o + 1 + j by omega, this]
        simp
theorem but_setCells (w : World) (g o : Nat) (vs : List Value) : But (fun k => k = g) w (w.setCells g o vs) ∧ (w.setCells g o vs).heap.size = w.heap.size := by
  have hs : ∀ (vs : List Value) (o : Nat) (w : World), (w.setCells g o vs).heap.size = w.heap.size ∧ (w.setCells g o vs).os = w.os ∧ (w.setCells g o vs).tape = w.tape ∧ (w.setCells g o vs).output = w.output ∧ ∀ k, k ≠ g → (w.setCells g o vs).heap[k]? = w.heap[k]? := by
    intro vs
    induction vs with
    | nil => intro o w; exact ⟨rfl, rfl, rfl, rfl, fun _ _ => rfl⟩
    | cons v r ih =>
      intro o w
      obtain ⟨a1, a2, a3, a4, a5⟩ := ih (o + 1) (w.setCell ⟨g, o, none⟩ v)
      exact ⟨by rw [World.setCells, a1]; simp, a2, a3, a4, fun k hk => (a5 k hk).trans (Below.heap_setCell w ⟨g, o, none⟩ v k hk)⟩
  obtain ⟨a1, a2, a3, a4, a5⟩ := hs vs o w
  exact ⟨⟨a2, a3, a4, by omega, fun k _ hk => a5 k hk⟩, a1⟩
theorem there8 {w : World} {g T n : Nat} {b0 b1 a0 a1 a2 a3 a4 a5 : Value} (h : w.heap[g]? = some (.cells #[b0, b1, a0, a1, a2, a3, a4, a5] T (0, 0))) (hn : n ≤ 5) : w.there g 2 n := fun j hj => ⟨by
  have hj' : j = 0 ∨ j = 1 ∨ j = 2 ∨ j = 3 ∨ j = 4 := by omega
  rw [cell_of_row _ g _ _ _ (0, 0) h]
  rcases hj' with rfl | rfl | rfl | rfl | rfl <;> rfl, frozen_of_row w g _ _ _ h⟩
theorem set8_5 {w : World} {g T : Nat} {b0 b1 a0 a1 a2 a3 a4 a5 : Value} (x0 x1 x2 x3 x4 : Value) (h : w.heap[g]? = some (.cells #[b0, b1, a0, a1, a2, a3, a4, a5] T (0, 0))) : (w.setCells g 2 [x0, x1, x2, x3, x4]).heap[g]? = some (.cells #[b0, b1, x0, x1, x2, x3, x4, a5] T (0, 0)) ∧ But (fun q => q = g) w (w.setCells g 2 [x0, x1, x2, x3, x4]) := by
  refine ⟨?_, (but_setCells w g 2 _).1⟩
  obtain ⟨cur', q1, q2, q3, q4⟩ := heap_setCells g T [x0, x1, x2, x3, x4] 2 w _ h
  have e : cur' = #[b0, b1, x0, x1, x2, x3, x4, a5] := by
    apply Array.ext_getElem?
    intro j
    have hj : j = 0 ∨ j = 1 ∨ j = 2 ∨ j = 3 ∨ j = 4 ∨ j = 5 ∨ j = 6 ∨ j = 7 ∨ 8 ≤ j := by omega
    rcases hj with rfl | rfl | rfl | rfl | rfl | rfl | rfl | rfl | hj
    · rw [q3 0 (by simp)]; rfl
    · rw [q3 1 (by simp)]; rfl
    · rw [show (2 : Nat) = 2 + 0 from rfl, q4 0 (by simp) (by simp)]; rfl
    · rw [show (3 : Nat) = 2 + 1 from rfl, q4 1 (by simp) (by simp)]; rfl
    · rw [show (4 : Nat) = 2 + 2 from rfl, q4 2 (by simp) (by simp)]; rfl
    · rw [show (5 : Nat) = 2 + 3 from rfl, q4 3 (by simp) (by simp)]; rfl
    · rw [show (6 : Nat) = 2 + 4 from rfl, q4 4 (by simp) (by simp)]; rfl
    · rw [q3 7 (by simp)]; rfl
    · rw [Array.getElem?_eq_none (by rw [q2]; simp; omega), Array.getElem?_eq_none (by simp; omega)]
  rw [e] at q1
  exact q1
theorem set8_4 {w : World} {g T : Nat} {b0 b1 a0 a1 a2 a3 a4 a5 : Value} (x0 x1 x2 x3 : Value) (h : w.heap[g]? = some (.cells #[b0, b1, a0, a1, a2, a3, a4, a5] T (0, 0))) : (w.setCells g 2 [x0, x1, x2, x3]).heap[g]? = some (.cells #[b0, b1, x0, x1, x2, x3, a4, a5] T (0, 0)) ∧ But (fun q => q = g) w (w.setCells g 2 [x0, x1, x2, x3]) := by
  refine ⟨?_, (but_setCells w g 2 _).1⟩
  obtain ⟨cur', q1, q2, q3, q4⟩ := heap_setCells g T [x0, x1, x2, x3] 2 w _ h
  have e : cur' = #[b0, b1, x0, x1, x2, x3, a4, a5] := by
    apply Array.ext_getElem?
    intro j
    have hj : j = 0 ∨ j = 1 ∨ j = 2 ∨ j = 3 ∨ j = 4 ∨ j = 5 ∨ j = 6 ∨ j = 7 ∨ 8 ≤ j := by omega
    rcases hj with rfl | rfl | rfl | rfl | rfl | rfl | rfl | rfl | hj
    · rw [q3 0 (by simp)]; rfl
    · rw [q3 1 (by simp)]; rfl
    · rw [show (2 : Nat) = 2 + 0 from rfl, q4 0 (by simp) (by simp)]; rfl
    · rw [show (3 : Nat) = 2 + 1 from rfl, q4 1 (by simp) (by simp)]; rfl
    · rw [show (4 : Nat) = 2 + 2 from rfl, q4 2 (by simp) (by simp)]; rfl
    · rw [show (5 : Nat) = 2 + 3 from rfl, q4 3 (by simp) (by simp)]; rfl
    · rw [q3 6 (by simp)]; rfl
    · rw [q3 7 (by simp)]; rfl
    · rw [Array.getElem?_eq_none (by rw [q2]; simp; omega), Array.getElem?_eq_none (by simp; omega)]
  rw [e] at q1
  exact q1
end Go.Proofs.Ytohfoieibgmmdaa.Hp
/- read: the word that bytes would be. -/
namespace Go.Proofs.Ytohfoieibgmmdaa.Hp
open Go.RowKit Go.Shelf
open Go.Proofs.Ytohfoieibgmmdaa.Me Go.Proofs.Ytohfoieibgmmdaa.Sb Go.Proofs.Ytohfoieibgmmdaa.Mg Go.Proofs.Ytohfoieibgmmdaa.Ba Go.Proofs.Ytohfoieibgmmdaa.Ma Go.Proofs.Ytohfoieibgmmdaa.Bt
set_option linter.unusedVariables false
set_option linter.unusedSimpArgs false

/-- An answer: a word whose slices are of one's own, and an error. -/
def Ans (x : Wd) (w : World) (e : Ending) (w' : World) : Prop := ∃ A c B d, e = .returned (.tuple #[.agg (hopC x.k x.n x.i A x.p.length c B x.cs.length d), .int .i64 (x.e : Int)]) ∧ Hid (Me.Own w' w.heap.size (.slice A x.p.length c) x.p) ∧ Hid (Mi.Own w' w.heap.size (.slice B x.cs.length d) x.cs) ∧ Hid (Below w.heap.size w w')
theorem Ans.no {x : Wd} {w w' : World} {e : Ending} (hp : x.p = []) (hc : x.cs = []) (he : e = .returned (.tuple #[.agg (hopC x.k x.n x.i none 0 0 none 0 0), .int .i64 (x.e : Int)])) (hb : Below w.heap.size w w') : Ans x w e w' := by
  unfold Ans
  rw [hp, hc]
  exact ⟨none, 0, none, 0, he, Me.Own.nil _ _, Mi.Own.nil _ _, hb⟩
theorem u64_i64 {n : Nat} (h : n < 65536) : IntKind.i64.wrap (n : Int) = n := Mi.fits' (by unfold Mi.I64; omega)
set_option maxRecDepth 100000 in
theorem read_empty (A : Option Addr) (n cap : Nat) (l : List Nat) (w : World) (hi : Hid (BySlice w A n cap l)) (hl : l.length < 1) :
    Calls Try.prog 45 #[.slice A n cap] w (Ans (rdW l) w) := by
  obtain rfl : n = l.length := hi.out.1
  have HE : Hid (rdW l = Wd0) := by show _ = _; unfold rdW; rw [if_pos hl]
  have HB0 : Hid (Below w.heap.size w (w.alloc (.cells #[.int .i64 0, .int .i64 0, .int .i64 0, .int .i64 0, .int .i64 0, .int .i64 0, .slice none 0 0, .slice none 0 0] 29 (0, 0)))) := Me.below_alloc (Below.refl _ _)
  have HR0 : Hid ((w.alloc (.cells #[.int .i64 0, .int .i64 0, .int .i64 0, .int .i64 0, .int .i64 0, .int .i64 0, .slice none 0 0, .slice none 0 0] 29 (0, 0))).heap[w.heap.size]? = some (.cells #[.int .i64 0, .int .i64 0, .int .i64 0, .int .i64 0, .int .i64 0, .int .i64 0, .slice none 0 0, .slice none 0 0] 29 (0, 0))) := heap_alloc_new w _
  have HG1 : Hid (∀ W, Below w.heap.size w W → Calls Try.prog 72 #[.slice A l.length cap, .int .i64 0, .int .i64 1] W fun e w' => e = .returned (.tuple #[.int .u64 0, .int .i64 2]) ∧ W = w') := fun W hW => by
    have := Bt.Get_any l 0 1 A cap w.heap.size hi.out.2.1 hi.out.2.2.1 W (hi.out.2.2.2.1.below hW) (by omega)
    rw [getE_form (by decide) (by omega) (by omega)] at this
    exact this
  rw [HE.out]
  clear hi hl
  obtain ⟨L, hL⟩ : ∃ L, l.length = L := ⟨_, rfl⟩
  rw [hL] at HG1 ⊢
  clear hL
  go_enter Try.func45, Try.ntmps45
  go_wp2_with (first
    | (go_at_call 72; refine (HG1.out _ HB0.out).mono ?_; rintro e w2 ⟨rfl, rfl⟩)
    | (refine wpList_load_row rfl 29 (.tmp 2) rfl w.heap.size rfl 29 _ (0, 0) _ HR0.out Try.underlying29 rfl (by kernel_rfl) ?_)
    | (refine wpList_store_row rfl 29 (.tmp 2) (.tmp 16) rfl w.heap.size #[.int .i64 0, .int .i64 0, .int .i64 0, .int .i64 0, .int .i64 0, .int .i64 0, .slice none 0 0, .slice none 0 0] rfl rfl 29 _ HR0.out (by kernel_rfl) rfl (hop_one _ _ _ _ _ _ _ _ _ _ _ _) ?_))
  exact Mg.ret_box2 (g := w.heap.size) rfl (by rfl) (setRow_heap _ _ _ _ _ _ HR0.out) rfl Try.underlying29 (by kernel_rfl) rfl (Ans.no rfl rfl rfl (Sb.below_setRow _ HB0.out (Nat.le_refl _)))
set_option maxRecDepth 100000 in
theorem read_short (A : Option Addr) (n cap : Nat) (l : List Nat) (w : World) (hi : Hid (BySlice w A n cap l)) (hl : 1 ≤ l.length) (hl3 : l.length < 3) (h4 : by_ l 0 ≠ 4) :
    Calls Try.prog 45 #[.slice A n cap] w (Ans (rdW l) w) := by
  obtain rfl : n = l.length := hi.out.1
  have HE : Hid (rdW l = ⟨by_ l 0, 0, zI, [], [], 2⟩) := by show _ = _; unfold rdW; rw [if_neg (by omega), if_neg h4, if_pos hl3]
  have HB0 : Hid (Below w.heap.size w (w.alloc (.cells #[.int .i64 0, .int .i64 0, .int .i64 0, .int .i64 0, .int .i64 0, .int .i64 0, .slice none 0 0, .slice none 0 0] 29 (0, 0)))) := Me.below_alloc (Below.refl _ _)
  have HR0 : Hid ((w.alloc (.cells #[.int .i64 0, .int .i64 0, .int .i64 0, .int .i64 0, .int .i64 0, .int .i64 0, .slice none 0 0, .slice none 0 0] 29 (0, 0))).heap[w.heap.size]? = some (.cells #[.int .i64 0, .int .i64 0, .int .i64 0, .int .i64 0, .int .i64 0, .int .i64 0, .slice none 0 0, .slice none 0 0] 29 (0, 0))) := heap_alloc_new w _
  have hk : by_ l 0 < 256 := hi.out.2.2.2.1.lt (by omega)
  have e1 : numP l 0 1 = by_ l 0 := numP_one (by omega)
  have HG1 : Hid (∀ W, Below w.heap.size w W → Calls Try.prog 72 #[.slice A l.length cap, .int .i64 0, .int .i64 1] W fun e w' => e = .returned (.tuple #[.int .u64 (by_ l 0 : Int), .int .i64 0]) ∧ W = w') := fun W hW => by
    have := Bt.Get_any l (0 : Nat) (1 : Nat) A cap w.heap.size hi.out.2.1 hi.out.2.2.1 W (hi.out.2.2.2.1.below hW) (by omega)
    rw [getE_ok (by decide) (by omega), e1] at this
    exact this
  have HG2 : Hid (∀ W, Below w.heap.size w W → Calls Try.prog 72 #[.slice A l.length cap, .int .i64 1, .int .i64 2] W fun e w' => e = .returned (.tuple #[.int .u64 0, .int .i64 2]) ∧ W = w') := fun W hW => by
    have := Bt.Get_any l 1 2 A cap w.heap.size hi.out.2.1 hi.out.2.2.1 W (hi.out.2.2.2.1.below hW) (by omega)
    rw [getE_form (by decide) (by omega) (by omega)] at this
    exact this
  rw [HE.out]
  obtain ⟨k, hkk⟩ : ∃ k, by_ l 0 = k := ⟨_, rfl⟩
  rw [hkk] at HG1 hk h4 ⊢
  have hk4 : ((k : Int) == 4) = false := beq_eq_false_iff_ne.mpr (by omega)
  obtain ⟨L, hL⟩ : ∃ L, l.length = L := ⟨_, rfl⟩
  rw [hL] at HG1 HG2 ⊢
  clear hi hl hl3 h4 hkk hL e1
  obtain ⟨W0, hW0⟩ : ∃ W, w.alloc (.cells #[.int .i64 0, .int .i64 0, .int .i64 0, .int .i64 0, .int .i64 0, .int .i64 0, .slice none 0 0, .slice none 0 0] 29 (0, 0)) = W := ⟨_, rfl⟩
  have HW0 := Lib.hid hW0
  rw [hW0] at HB0 HR0
  clear hW0
  have x0 := (hx_row (i := zI) HR0.out).1
  have f0 := frozen_of_row W0 w.heap.size 0 _ _ HR0.out
  obtain ⟨W1, hW1⟩ : ∃ W, W0.setCell ⟨w.heap.size, 0, none⟩ (.int .i64 (k : Int)) = W := ⟨_, rfl⟩
  have HW1 := Lib.hid hW1
  have HR1 : Hid (W1.heap[w.heap.size]? = some (.cells #[.int .i64 (k : Int), .int .i64 0, .int .i64 0, .int .i64 0, .int .i64 0, .int .i64 0, .slice none 0 0, .slice none 0 0] 29 (0, 0))) := by show _ = _; rw [← hW1, heap_setCell_same W0 w.heap.size 0 _ _ _ HR0.out]; rfl
  have HB1 : Hid (Below w.heap.size w W1) := by show Below _ _ _; rw [← hW1]; exact HB0.out.setCell (p := ⟨w.heap.size, 0, none⟩) (Nat.le_refl _) _
  clear hW1
  have y0 := (hx_row (i := zI) HR1.out).1
  go_enter Try.func45, Try.ntmps45
  go_wp2_with (first
    | (rw [HW0.out])
    | (rw [HW1.out])
    | (go_at_call 72; (with_reducible refine (HG1.out _ HB0.out).mono ?_); rintro e w2 ⟨rfl, rfl⟩)
    | (go_at_call 72; rw [HW1.out]; (with_reducible refine (HG2.out _ HB1.out).mono ?_); rintro e w2 ⟨rfl, rfl⟩)
    | (go_at_call 72; (with_reducible refine (HG2.out _ HB1.out).mono ?_); rintro e w2 ⟨rfl, rfl⟩)
    | (refine wpList_load_row rfl 29 (.tmp 2) rfl w.heap.size rfl 29 _ (0, 0) _ HR1.out Try.underlying29 rfl (by kernel_rfl) ?_)
    | (refine wpList_store_row rfl 29 (.tmp 2) (.tmp 47) rfl w.heap.size #[.int .i64 (k : Int), .int .i64 0, .int .i64 0, .int .i64 0, .int .i64 0, .int .i64 0, .slice none 0 0, .slice none 0 0] rfl rfl 29 _ HR1.out (by kernel_rfl) rfl (hop_one _ _ _ _ _ _ _ _ _ _ _ _) ?_))
  exact Mg.ret_box2 (g := w.heap.size) rfl (by rfl) (setRow_heap _ _ _ _ _ _ HR1.out) rfl Try.underlying29 (by kernel_rfl) rfl (Ans.no rfl rfl rfl (Sb.below_setRow _ HB1.out (Nat.le_refl _)))
set_option maxRecDepth 100000 in
set_option maxHeartbeats 1000000 in
theorem read_offer (A : Option Addr) (n cap : Nat) (l : List Nat) (w : World) (hi : Hid (BySlice w A n cap l)) (hl : 3 ≤ l.length) (h1 : by_ l 0 = 1) :
    Calls Try.prog 45 #[.slice A n cap] w (Ans (rdW l) w) := by
  obtain rfl : n = l.length := hi.out.1
  have HE : Hid (rdW l = ⟨1, numP l 1 2, mI (l.drop 3), mD (l.drop 3), [], mZ (l.drop 3)⟩) := by show _ = _; unfold rdW; rw [if_neg (by omega), if_neg (by omega), if_neg (by omega), if_pos h1]
  have HB0 : Hid (Below w.heap.size w (w.alloc (.cells #[.int .i64 0, .int .i64 0, .int .i64 0, .int .i64 0, .int .i64 0, .int .i64 0, .slice none 0 0, .slice none 0 0] 29 (0, 0)))) := Me.below_alloc (Below.refl _ _)
  have HR0 : Hid ((w.alloc (.cells #[.int .i64 0, .int .i64 0, .int .i64 0, .int .i64 0, .int .i64 0, .int .i64 0, .slice none 0 0, .slice none 0 0] 29 (0, 0))).heap[w.heap.size]? = some (.cells #[.int .i64 0, .int .i64 0, .int .i64 0, .int .i64 0, .int .i64 0, .int .i64 0, .slice none 0 0, .slice none 0 0] 29 (0, 0))) := heap_alloc_new w _
  have hk : by_ l 0 < 256 := hi.out.2.2.2.1.lt (by omega)
  have e1 : numP l 0 1 = by_ l 0 := numP_one (by omega)
  have hn2 : numP l 1 2 < 65536 := numP_two_lt hi.out.2.2.2.1.1 1
  have HG1 : Hid (∀ W, Below w.heap.size w W → Calls Try.prog 72 #[.slice A l.length cap, .int .i64 0, .int .i64 1] W fun e w' => e = .returned (.tuple #[.int .u64 (by_ l 0 : Int), .int .i64 0]) ∧ W = w') := fun W hW => by
    have := Bt.Get_any l (0 : Nat) (1 : Nat) A cap w.heap.size hi.out.2.1 hi.out.2.2.1 W (hi.out.2.2.2.1.below hW) (by omega)
    rw [getE_ok (by decide) (by omega), e1] at this
    exact this
  have HG2 : Hid (∀ W, Below w.heap.size w W → Calls Try.prog 72 #[.slice A l.length cap, .int .i64 1, .int .i64 2] W fun e w' => e = .returned (.tuple #[.int .u64 (numP l 1 2 : Int), .int .i64 0]) ∧ W = w') := fun W hW => by
    have := Bt.Get_any l (1 : Nat) (2 : Nat) A cap w.heap.size hi.out.2.1 hi.out.2.2.1 W (hi.out.2.2.2.1.below hW) (by omega)
    rw [getE_ok (by decide) (by omega)] at this
    exact this
  rw [HE.out]
  have hcap : l.length ≤ cap := hi.out.2.1
  have hcm := hi.out.2.2.1
  obtain ⟨r, hr⟩ : ∃ r, l.length = 3 + r := ⟨l.length - 3, by omega⟩
  obtain ⟨R, rfl⟩ : ∃ R, cap = 3 + R := ⟨cap - 3, by omega⟩
  obtain ⟨b, off, rfl, hbl, hcc⟩ := hi.out.2.2.2.1.2 (by omega)
  obtain ⟨A', hA'⟩ : ∃ A', (if R = 0 then (some ⟨b, off, none⟩ : Option Addr) else some ⟨b, off + 3, none⟩) = A' := ⟨_, rfl⟩
  have hby : ∀ W, Below w.heap.size w W → Hid (BySlice W A' r R (l.drop 3)) := fun W hW => by
    have h3 := (hi.out.2.2.2.1.below hW).drop 3
    refine ⟨by simp; omega, by simp; omega, by omega, ?_, fun e => by rw [← hA'] at e; split at e <;> cases e⟩
    rw [← hA']
    split
    · exact ⟨fun z hz => h3.1 z hz, fun h => by simp at h; omega⟩
    · exact h3.more hW.size
  have HGM : Hid (∀ W, Below w.heap.size w W → Calls Try.prog 73 #[.slice A' r R] W (GetM (l.drop 3) W)) := fun W hW => Mg.Get_any A' r R (l.drop 3) W (hby W hW)
  have HA' := Lib.hid hA'
  rw [h1] at HG1
  obtain ⟨m, hm⟩ : ∃ m, numP l 1 2 = m := ⟨_, rfl⟩
  rw [hm] at HG2 hn2 ⊢
  rw [hr] at HG1 HG2 ⊢
  have m3 : 3 ≤ 3 + R := by omega
  have m4 : 3 ≤ 3 + (R : Int) := by omega
  have m5 : 3 ≤ 3 + r := by omega
  have m7 : 3 ≤ 3 + (r : Int) := by omega
  have HCR : Hid (r ≤ R) := by show _ ≤ _; omega
  obtain ⟨i2, hi2⟩ : ∃ x, mI (l.drop 3) = x := ⟨_, rfl⟩; obtain ⟨p2, hp2⟩ : ∃ x, mD (l.drop 3) = x := ⟨_, rfl⟩; obtain ⟨z2, hz2⟩ : ∃ x, mZ (l.drop 3) = x := ⟨_, rfl⟩; unfold GetM at HGM; rw [hi2, hp2, hz2] at HGM; rw [hi2, hp2, hz2]; clear hi2 hp2 hz2
  clear hi hl h1  e1 HE hm hr hby hbl hcc hcap hA' hk
  obtain ⟨o, d, ee, c⟩ := i2
  simp only [msgC] at HGM
  obtain ⟨W0, hW0⟩ : ∃ W, w.alloc (.cells #[.int .i64 0, .int .i64 0, .int .i64 0, .int .i64 0, .int .i64 0, .int .i64 0, .slice none 0 0, .slice none 0 0] 29 (0, 0)) = W := ⟨_, rfl⟩
  have HW0 := Lib.hid hW0
  rw [hW0] at HB0 HR0
  clear hW0
  have x0 := (hx_row (i := zI) HR0.out).1
  have f0 := frozen_of_row W0 w.heap.size 0 _ _ HR0.out
  obtain ⟨W1, hW1⟩ : ∃ W, W0.setCell ⟨w.heap.size, 0, none⟩ (.int .i64 1) = W := ⟨_, rfl⟩
  have HW1 := Lib.hid hW1
  have HR1 : Hid (W1.heap[w.heap.size]? = some (.cells #[.int .i64 1, .int .i64 0, .int .i64 0, .int .i64 0, .int .i64 0, .int .i64 0, .slice none 0 0, .slice none 0 0] 29 (0, 0))) := by show _ = _; rw [← hW1, heap_setCell_same W0 w.heap.size 0 _ _ _ HR0.out]; rfl
  have HB1 : Hid (Below w.heap.size w W1) := by show Below _ _ _; rw [← hW1]; exact HB0.out.setCell (p := ⟨w.heap.size, 0, none⟩) (Nat.le_refl _) _
  clear hW1
  have y0 := (hx_row (i := zI) HR1.out).1
  have y1 := (hx_row (i := zI) HR1.out).2.1
  have f1 := frozen_of_row W1 w.heap.size 1 _ _ HR1.out
  obtain ⟨W2, hW2⟩ : ∃ W, W1.setCell ⟨w.heap.size, 1, none⟩ (.int .i64 (m : Int)) = W := ⟨_, rfl⟩
  have HW2 := Lib.hid hW2
  have HR2 : Hid (W2.heap[w.heap.size]? = some (.cells #[.int .i64 1, .int .i64 (m : Int), .int .i64 0, .int .i64 0, .int .i64 0, .int .i64 0, .slice none 0 0, .slice none 0 0] 29 (0, 0))) := by show _ = _; rw [← hW2, heap_setCell_same W1 w.heap.size 1 _ _ _ HR1.out]; rfl
  have HB2 : Hid (Below w.heap.size w W2) := by show Below _ _ _; rw [← hW2]; exact HB1.out.setCell (p := ⟨w.heap.size, 1, none⟩) (Nat.le_refl _) _
  clear hW2
  have z0 := (hx_row (i := zI) HR2.out).1
  have hAA := HA'.out
  go_enter Try.func45, Try.ntmps45
  go_wp2_with (first
    | (rw [HW0.out])
    | (rw [HW1.out])
    | (rw [HW2.out])
    | (go_at_call 72; (with_reducible refine (HG1.out _ HB0.out).mono ?_); rintro e w2 ⟨rfl, rfl⟩)
    | (go_at_call 72; (with_reducible refine (HG2.out _ HB1.out).mono ?_); rintro e w2 ⟨rfl, rfl⟩)
    | (go_at_call 73; refine (HGM.out _ HB2.out).mono ?_; rintro e w5 ⟨A5, c5, rfl, ho5, hb5⟩; have HR5 : Hid (w5.heap[w.heap.size]? = some (.cells #[.int .i64 1, .int .i64 (m : Int), .int .i64 0, .int .i64 0, .int .i64 0, .int .i64 0, .slice none 0 0, .slice none 0 0] 29 (0, 0))) := (hb5.out.block _ (Array.getElem?_eq_some_iff.1 HR2.out).1).trans HR2.out)
    | (refine wpList_store_mid rfl 26 (.tmp 62) (.tmp 60) rfl w.heap.size 2 #[.int .i64 o, .int .i64 d, .int .i64 ee, .int .i64 c, .slice A5 p2.length c5] rfl rfl (there8 (n := 5) HR5.out (by decide)) (by kernel_rfl) (msg_one _ _ _ _ _ _ _) ?_
       obtain ⟨V3, hV3⟩ : ∃ Y, w5.setCells w.heap.size 2 (#[.int .i64 o, .int .i64 d, .int .i64 ee, .int .i64 c, .slice A5 p2.length c5] : Array Value).toList = Y := ⟨_, rfl⟩
       have hs := set8_5 (.int .i64 o) (.int .i64 d) (.int .i64 ee) (.int .i64 c) (.slice A5 p2.length c5) HR5.out
       rw [show ([.int .i64 o, .int .i64 d, .int .i64 ee, .int .i64 c, .slice A5 p2.length c5] : List Value) = (#[.int .i64 o, .int .i64 d, .int .i64 ee, .int .i64 c, .slice A5 p2.length c5] : Array Value).toList from rfl, hV3] at hs
       rw [hV3]
       have HRV := Lib.hid hs.1
       have HBV : Hid (Below w.heap.size w V3) := (HB2.out.trans (hb5.out.mono HB2.out.size)).trans (hs.2.below (HB2.out.trans (hb5.out.mono HB2.out.size)).size fun q e => by omega)
       have HSV := Lib.hid hs.2
       clear hV3 hs)
    | (refine wpList_load_row rfl 29 (.tmp 2) rfl w.heap.size rfl 29 _ (0, 0) _ HRV.out Try.underlying29 rfl (by kernel_rfl) ?_)
    | (refine wpList_store_row rfl 29 (.tmp 2) (.tmp 70) rfl w.heap.size #[.int .i64 1, .int .i64 (m : Int), .int .i64 o, .int .i64 d, .int .i64 ee, .int .i64 c, .slice A5 p2.length c5, .slice none 0 0] rfl rfl 29 _ HRV.out (by kernel_rfl) rfl (hop_one _ _ _ _ _ _ _ _ _ _ _ _) ?_))
  refine Mg.ret_box2 (g := w.heap.size) rfl (by rfl) (setRow_heap _ _ _ _ _ _ HRV.out) rfl Try.underlying29 (by kernel_rfl) rfl ⟨A5, c5, none, 0, rfl, ?_, Mi.Own.nil _ _, Sb.below_setRow _ HBV.out (Nat.le_refl _)⟩
  have h5 : Me.Own w5 W2.heap.size (.slice A5 p2.length c5) p2 := ho5.out
  have hlt : w.heap.size < W2.heap.size := (Array.getElem?_eq_some_iff.1 HR2.out).1
  refine own_same (own_base h5 fun x e => Nat.le_trans HB2.out.size (World.ownsRow.lt h5 x e).1) fun x e hx => ?_
  have h1 := (World.ownsRow.lt h5 x e).1
  rw [setRow_other _ _ x _ (by omega), HSV.out.same x hx (by omega)]
set_option maxRecDepth 100000 in
set_option maxHeartbeats 1000000 in
theorem read_id (A : Option Addr) (n cap : Nat) (l : List Nat) (w : World) (hi : Hid (BySlice w A n cap l)) (hl : 3 ≤ l.length) (h4 : by_ l 0 ≠ 4) (h1 : by_ l 0 ≠ 1) :
    Calls Try.prog 45 #[.slice A n cap] w (Ans (rdW l) w) := by
  obtain rfl : n = l.length := hi.out.1
  have HE : Hid (rdW l = ⟨by_ l 0, numP l 1 2, getI (l.drop 3), [], [], getZ (l.drop 3)⟩) := by show _ = _; unfold rdW; rw [if_neg (by omega), if_neg h4, if_neg (by omega), if_neg h1]
  have HB0 : Hid (Below w.heap.size w (w.alloc (.cells #[.int .i64 0, .int .i64 0, .int .i64 0, .int .i64 0, .int .i64 0, .int .i64 0, .slice none 0 0, .slice none 0 0] 29 (0, 0)))) := Me.below_alloc (Below.refl _ _)
  have HR0 : Hid ((w.alloc (.cells #[.int .i64 0, .int .i64 0, .int .i64 0, .int .i64 0, .int .i64 0, .int .i64 0, .slice none 0 0, .slice none 0 0] 29 (0, 0))).heap[w.heap.size]? = some (.cells #[.int .i64 0, .int .i64 0, .int .i64 0, .int .i64 0, .int .i64 0, .int .i64 0, .slice none 0 0, .slice none 0 0] 29 (0, 0))) := heap_alloc_new w _
  have hk : by_ l 0 < 256 := hi.out.2.2.2.1.lt (by omega)
  have e1 : numP l 0 1 = by_ l 0 := numP_one (by omega)
  have hn2 : numP l 1 2 < 65536 := numP_two_lt hi.out.2.2.2.1.1 1
  have HG1 : Hid (∀ W, Below w.heap.size w W → Calls Try.prog 72 #[.slice A l.length cap, .int .i64 0, .int .i64 1] W fun e w' => e = .returned (.tuple #[.int .u64 (by_ l 0 : Int), .int .i64 0]) ∧ W = w') := fun W hW => by
    have := Bt.Get_any l (0 : Nat) (1 : Nat) A cap w.heap.size hi.out.2.1 hi.out.2.2.1 W (hi.out.2.2.2.1.below hW) (by omega)
    rw [getE_ok (by decide) (by omega), e1] at this
    exact this
  have HG2 : Hid (∀ W, Below w.heap.size w W → Calls Try.prog 72 #[.slice A l.length cap, .int .i64 1, .int .i64 2] W fun e w' => e = .returned (.tuple #[.int .u64 (numP l 1 2 : Int), .int .i64 0]) ∧ W = w') := fun W hW => by
    have := Bt.Get_any l (1 : Nat) (2 : Nat) A cap w.heap.size hi.out.2.1 hi.out.2.2.1 W (hi.out.2.2.2.1.below hW) (by omega)
    rw [getE_ok (by decide) (by omega)] at this
    exact this
  rw [HE.out]
  have hcap : l.length ≤ cap := hi.out.2.1
  have hcm := hi.out.2.2.1
  obtain ⟨r, hr⟩ : ∃ r, l.length = 3 + r := ⟨l.length - 3, by omega⟩
  obtain ⟨R, rfl⟩ : ∃ R, cap = 3 + R := ⟨cap - 3, by omega⟩
  obtain ⟨b, off, rfl, hbl, hcc⟩ := hi.out.2.2.2.1.2 (by omega)
  obtain ⟨A', hA'⟩ : ∃ A', (if R = 0 then (some ⟨b, off, none⟩ : Option Addr) else some ⟨b, off + 3, none⟩) = A' := ⟨_, rfl⟩
  have hby : ∀ W, Below w.heap.size w W → Hid (BySlice W A' r R (l.drop 3)) := fun W hW => by
    have h3 := (hi.out.2.2.2.1.below hW).drop 3
    refine ⟨by simp; omega, by simp; omega, by omega, ?_, fun e => by rw [← hA'] at e; split at e <;> cases e⟩
    rw [← hA']
    split
    · exact ⟨fun z hz => h3.1 z hz, fun h => by simp at h; omega⟩
    · exact h3.more hW.size
  have HGM : Hid (∀ W, Below w.heap.size w W → Calls Try.prog 74 #[.slice A' r R] W (fun e w' => e = .returned (.tuple #[.agg (idC (getI (l.drop 3))), .int .i64 (getZ (l.drop 3) : Int)]) ∧ Hid (Below W.heap.size W w'))) := fun W hW => GetId_any A' r R (l.drop 3) W (hby W hW)
  have HA' := Lib.hid hA'
  obtain ⟨k, hkk⟩ : ∃ k, by_ l 0 = k := ⟨_, rfl⟩
  rw [hkk] at HG1 hk h4 h1 ⊢
  have hk4 : ((k : Int) == 4) = false := beq_eq_false_iff_ne.mpr (by omega)
  have hk1 : ((k : Int) == 1) = false := beq_eq_false_iff_ne.mpr (by omega)
  obtain ⟨m, hm⟩ : ∃ m, numP l 1 2 = m := ⟨_, rfl⟩
  rw [hm] at HG2 hn2 ⊢
  rw [hr] at HG1 HG2 ⊢
  have m3 : 3 ≤ 3 + R := by omega
  have m4 : 3 ≤ 3 + (R : Int) := by omega
  have m5 : 3 ≤ 3 + r := by omega
  have m7 : 3 ≤ 3 + (r : Int) := by omega
  have HCR : Hid (r ≤ R) := by show _ ≤ _; omega
  obtain ⟨i2, hi2⟩ : ∃ x, getI (l.drop 3) = x := ⟨_, rfl⟩; obtain ⟨z2, hz2⟩ : ∃ x, getZ (l.drop 3) = x := ⟨_, rfl⟩; rw [hi2, hz2] at HGM; rw [hi2, hz2]; clear hi2 hz2
  clear hi hl h1 h4 hkk e1 HE hm hr hby hbl hcc hcap hA' 
  obtain ⟨o, d, ee, c⟩ := i2
  simp only [idC] at HGM
  obtain ⟨W0, hW0⟩ : ∃ W, w.alloc (.cells #[.int .i64 0, .int .i64 0, .int .i64 0, .int .i64 0, .int .i64 0, .int .i64 0, .slice none 0 0, .slice none 0 0] 29 (0, 0)) = W := ⟨_, rfl⟩
  have HW0 := Lib.hid hW0
  rw [hW0] at HB0 HR0
  clear hW0
  have x0 := (hx_row (i := zI) HR0.out).1
  have f0 := frozen_of_row W0 w.heap.size 0 _ _ HR0.out
  obtain ⟨W1, hW1⟩ : ∃ W, W0.setCell ⟨w.heap.size, 0, none⟩ (.int .i64 (k : Int)) = W := ⟨_, rfl⟩
  have HW1 := Lib.hid hW1
  have HR1 : Hid (W1.heap[w.heap.size]? = some (.cells #[.int .i64 (k : Int), .int .i64 0, .int .i64 0, .int .i64 0, .int .i64 0, .int .i64 0, .slice none 0 0, .slice none 0 0] 29 (0, 0))) := by show _ = _; rw [← hW1, heap_setCell_same W0 w.heap.size 0 _ _ _ HR0.out]; rfl
  have HB1 : Hid (Below w.heap.size w W1) := by show Below _ _ _; rw [← hW1]; exact HB0.out.setCell (p := ⟨w.heap.size, 0, none⟩) (Nat.le_refl _) _
  clear hW1
  have y0 := (hx_row (i := zI) HR1.out).1
  have y1 := (hx_row (i := zI) HR1.out).2.1
  have f1 := frozen_of_row W1 w.heap.size 1 _ _ HR1.out
  obtain ⟨W2, hW2⟩ : ∃ W, W1.setCell ⟨w.heap.size, 1, none⟩ (.int .i64 (m : Int)) = W := ⟨_, rfl⟩
  have HW2 := Lib.hid hW2
  have HR2 : Hid (W2.heap[w.heap.size]? = some (.cells #[.int .i64 (k : Int), .int .i64 (m : Int), .int .i64 0, .int .i64 0, .int .i64 0, .int .i64 0, .slice none 0 0, .slice none 0 0] 29 (0, 0))) := by show _ = _; rw [← hW2, heap_setCell_same W1 w.heap.size 1 _ _ _ HR1.out]; rfl
  have HB2 : Hid (Below w.heap.size w W2) := by show Below _ _ _; rw [← hW2]; exact HB1.out.setCell (p := ⟨w.heap.size, 1, none⟩) (Nat.le_refl _) _
  clear hW2
  have z0 := (hx_row (i := zI) HR2.out).1
  have hAA := HA'.out
  go_enter Try.func45, Try.ntmps45
  go_wp2_with (first
    | (rw [HW0.out])
    | (rw [HW1.out])
    | (rw [HW2.out])
    | (go_at_call 72; (with_reducible refine (HG1.out _ HB0.out).mono ?_); rintro e w2 ⟨rfl, rfl⟩)
    | (go_at_call 72; (with_reducible refine (HG2.out _ HB1.out).mono ?_); rintro e w2 ⟨rfl, rfl⟩)
    | (go_at_call 74; refine (HGM.out _ HB2.out).mono ?_; rintro e w5 ⟨rfl, hb5⟩; have HR5 : Hid (w5.heap[w.heap.size]? = some (.cells #[.int .i64 (k : Int), .int .i64 (m : Int), .int .i64 0, .int .i64 0, .int .i64 0, .int .i64 0, .slice none 0 0, .slice none 0 0] 29 (0, 0))) := (hb5.out.block _ (Array.getElem?_eq_some_iff.1 HR2.out).1).trans HR2.out)
    | (refine wpList_store_mid rfl 23 (.tmp 69) (.tmp 66) rfl w.heap.size 2 #[.int .i64 o, .int .i64 d, .int .i64 ee, .int .i64 c] rfl rfl (there8 (n := 4) HR5.out (by decide)) (by kernel_rfl) (Mg.id_one _ _ _ _) ?_
       obtain ⟨V3, hV3⟩ : ∃ Y, w5.setCells w.heap.size 2 (#[.int .i64 o, .int .i64 d, .int .i64 ee, .int .i64 c] : Array Value).toList = Y := ⟨_, rfl⟩
       have hs := set8_4 (.int .i64 o) (.int .i64 d) (.int .i64 ee) (.int .i64 c) HR5.out
       rw [show ([.int .i64 o, .int .i64 d, .int .i64 ee, .int .i64 c] : List Value) = (#[.int .i64 o, .int .i64 d, .int .i64 ee, .int .i64 c] : Array Value).toList from rfl, hV3] at hs
       rw [hV3]
       have HRV := Lib.hid hs.1
       have HBV : Hid (Below w.heap.size w V3) := (HB2.out.trans (hb5.out.mono HB2.out.size)).trans (hs.2.below (HB2.out.trans (hb5.out.mono HB2.out.size)).size fun q e => by omega)
       have HSV := Lib.hid hs.2
       clear hV3 hs)
    | (refine wpList_load_row rfl 29 (.tmp 2) rfl w.heap.size rfl 29 _ (0, 0) _ HRV.out Try.underlying29 rfl (by kernel_rfl) ?_)
    | (refine wpList_store_row rfl 29 (.tmp 2) (.tmp 70) rfl w.heap.size #[.int .i64 (k : Int), .int .i64 (m : Int), .int .i64 o, .int .i64 d, .int .i64 ee, .int .i64 c, .slice none 0 0, .slice none 0 0] rfl rfl 29 _ HRV.out (by kernel_rfl) rfl (hop_one _ _ _ _ _ _ _ _ _ _ _ _) ?_))
  exact Mg.ret_box2 (g := w.heap.size) rfl (by rfl) (setRow_heap _ _ _ _ _ _ HRV.out) rfl Try.underlying29 (by kernel_rfl) rfl (Ans.no rfl rfl rfl (Sb.below_setRow _ HBV.out (Nat.le_refl _)))
set_option maxRecDepth 100000 in
set_option maxHeartbeats 1000000 in
theorem read_routes (A : Option Addr) (n cap : Nat) (l : List Nat) (w : World) (hi : Hid (BySlice w A n cap l)) (hl : 1 ≤ l.length) (h4 : by_ l 0 = 4) (hm : l.length ≤ 1000) :
    Calls Try.prog 45 #[.slice A n cap] w (Ans (rdW l) w) := by
  obtain rfl : n = l.length := hi.out.1
  have HE : Hid (rdW l = ⟨4, 0, zI, [], intL (l.drop 1), 0⟩) := by show _ = _; unfold rdW; rw [if_neg (by omega), if_pos h4]
  have HB0 : Hid (Below w.heap.size w (w.alloc (.cells #[.int .i64 0, .int .i64 0, .int .i64 0, .int .i64 0, .int .i64 0, .int .i64 0, .slice none 0 0, .slice none 0 0] 29 (0, 0)))) := Me.below_alloc (Below.refl _ _)
  have HR0 : Hid ((w.alloc (.cells #[.int .i64 0, .int .i64 0, .int .i64 0, .int .i64 0, .int .i64 0, .int .i64 0, .slice none 0 0, .slice none 0 0] 29 (0, 0))).heap[w.heap.size]? = some (.cells #[.int .i64 0, .int .i64 0, .int .i64 0, .int .i64 0, .int .i64 0, .int .i64 0, .slice none 0 0, .slice none 0 0] 29 (0, 0))) := heap_alloc_new w _
  have e1 : numP l 0 1 = by_ l 0 := numP_one (by omega)
  have HG1 : Hid (∀ W, Below w.heap.size w W → Calls Try.prog 72 #[.slice A l.length cap, .int .i64 0, .int .i64 1] W fun e w' => e = .returned (.tuple #[.int .u64 4, .int .i64 0]) ∧ W = w') := fun W hW => by
    have := Bt.Get_any l (0 : Nat) (1 : Nat) A cap w.heap.size hi.out.2.1 hi.out.2.2.1 W (hi.out.2.2.2.1.below hW) (by omega)
    rw [getE_ok (by decide) (by omega), e1, h4] at this
    exact this
  rw [HE.out]
  have hcap : l.length ≤ cap := hi.out.2.1
  have hcm := hi.out.2.2.1
  obtain ⟨r, hr⟩ : ∃ r, l.length = 1 + r := ⟨l.length - 1, by omega⟩
  obtain ⟨R, rfl⟩ : ∃ R, cap = 1 + R := ⟨cap - 1, by omega⟩
  obtain ⟨b, off, rfl, hbl, hcc⟩ := hi.out.2.2.2.1.2 (by omega)
  obtain ⟨A', hA'⟩ : ∃ A', (if R = 0 then (some ⟨b, off, none⟩ : Option Addr) else some ⟨b, off + 1, none⟩) = A' := ⟨_, rfl⟩
  have HRD : Hid (∀ W, Below w.heap.size w W → Rd W w.heap.size A' (l.drop 1)) := fun W hW => by
    have h3 := (hi.out.2.2.2.1.below hW).drop 1
    rw [← hA']
    split
    · exact ⟨fun z hz => h3.1 z hz, fun h => by simp at h; omega⟩
    · exact h3
  have HA' := Lib.hid hA'
  have hdl : (l.drop 1).length = r := by simp; omega
  obtain ⟨q, hq⟩ : ∃ q, l.drop 1 = q := ⟨_, rfl⟩
  rw [hq] at HRD hdl ⊢
  rw [hr] at HG1 ⊢
  have m3 : 1 ≤ 1 + R := by omega
  have m4 : 1 ≤ 1 + (R : Int) := by omega
  have m5 : 1 ≤ 1 + r := by omega
  have m7 : 1 ≤ 1 + (r : Int) := by omega
  have hr9 : r ≤ 1000 := by omega
  have HCR : Hid (r ≤ R) := by show _ ≤ _; omega
  have HDL := Lib.hid hdl
  clear hi hl h4 e1 HE hr hbl hcc hcap hA' hq hdl hm
  obtain ⟨W0, hW0⟩ : ∃ W, w.alloc (.cells #[.int .i64 0, .int .i64 0, .int .i64 0, .int .i64 0, .int .i64 0, .int .i64 0, .slice none 0 0, .slice none 0 0] 29 (0, 0)) = W := ⟨_, rfl⟩
  have HW0 := Lib.hid hW0
  rw [hW0] at HB0 HR0
  clear hW0
  have x0 := (hx_row (i := zI) HR0.out).1
  have f0 := frozen_of_row W0 w.heap.size 0 _ _ HR0.out
  obtain ⟨W1, hW1⟩ : ∃ W, W0.setCell ⟨w.heap.size, 0, none⟩ (.int .i64 4) = W := ⟨_, rfl⟩
  have HW1 := Lib.hid hW1
  have HR1 : Hid (W1.heap[w.heap.size]? = some (.cells #[.int .i64 4, .int .i64 0, .int .i64 0, .int .i64 0, .int .i64 0, .int .i64 0, .slice none 0 0, .slice none 0 0] 29 (0, 0))) := by show _ = _; rw [← hW1, heap_setCell_same W0 w.heap.size 0 _ _ _ HR0.out]; rfl
  have HB1 : Hid (Below w.heap.size w W1) := by show Below _ _ _; rw [← hW1]; exact HB0.out.setCell (p := ⟨w.heap.size, 0, none⟩) (Nat.le_refl _) _
  clear hW1
  have y0 := (hx_row (i := zI) HR1.out).1
  have hAA := HA'.out
  go_enter Try.func45, Try.ntmps45
  go_wp2_with (first
    | (rw [HW0.out])
    | (go_at_call 72; (with_reducible refine (HG1.out _ HB0.out).mono ?_); rintro e w2 ⟨rfl, rfl⟩)
    | (rw [HW1.out]))
  clear x0 f0 y0 m3 m4 m5 m7 hAA HG1 HR0 HB0 HW0
  have HOi : Hid (Mi.Own W1 (w.heap.size + 1) (.slice none 0 0) (intL (q.take 0))) := Mi.Own.nil _ _
  go_loopw [27] (fun v wr => ∃ (j : Nat) (B : Option Addr) (d : Nat), j ≤ r ∧ v = .int .i64 j ∧ Hid (wr.heap[w.heap.size]? = some (.cells #[.int .i64 4, .int .i64 0, .int .i64 0, .int .i64 0, .int .i64 0, .int .i64 0, .slice none 0 0, .slice B j d] 29 (0, 0))) ∧ Hid (Mi.Own wr (w.heap.size + 1) (.slice B j d) (intL (q.take j))) ∧ Hid (Below w.heap.size w wr)) (fun v _ => r - (intOf v).toNat)
  case atStart => exact ⟨0, none, 0, Nat.zero_le _, rfl, HR1.out, HOi, HB1⟩
  case round =>
    obtain ⟨j, B, d, hj, rfl, HRw, HO, HB⟩ := hrel
    clear HR1 HB1 HOi
    by_cases hlt : j < r
    · obtain ⟨b', off', rfl, hb', hc'⟩ := (HRD.out wr HB.out).2 (by rw [HDL.out]; omega)
      have u0 := hc' j (by rw [HDL.out]; exact hlt)
      have hx256 : by_ q j < 256 := (HRD.out wr HB.out).lt (by rw [HDL.out]; exact hlt)
      have HSN : Hid (intL (q.take (j + 1)) = intL (q.take j) ++ [((by_ q j : Nat) : Int)]) := by
        show _ = _
        rw [List.take_add_one, List.getElem?_eq_getElem (by rw [HDL.out]; exact hlt), by_get (by rw [HDL.out]; exact hlt)]
        unfold intL
        rw [List.map_append]
        rfl
      have HJl : Hid ((intL (q.take j)).length = j) := by show _ = _; have := HDL.out; simp [intL]; omega
      obtain ⟨x, hx⟩ : ∃ x, by_ q j = x := ⟨_, rfl⟩
      rw [hx] at u0 hx256 HSN
      have z7 := (hx_row (i := zI) HRw.out).2.2.2.2.2.2.2
      have hb7 : (wr.alloc (.cells #[.int .i64 (x : Int)] 3)).cell? ⟨w.heap.size, 7, none⟩ = some (.slice B j d) := ((Me.below_alloc (Below.refl wr.heap.size wr)).cell (p := ⟨w.heap.size, 7, none⟩) (Array.getElem?_eq_some_iff.1 HRw.out).1).trans z7
      clear hx hc'
      go_wp2_with (first
        | (at_builtin; refine Mi.app1 rfl (.tmp 32) (.tmp 35) rfl (w.heap.size + 1) (.slice B j d) (intL (q.take j)) (x : Int) rfl rfl HO.out (Below.refl (w.heap.size + 1) wr) (Array.getElem?_eq_some_iff.1 HRw.out).1 wr.heap.size rfl rfl (by rw [HJl.out]; omega) ?_; intro v5 w5 ho5 hb5 hg5; rw [← HSN.out] at ho5; obtain ⟨B5, d5, e5, _, _, _⟩ := ho5.form; rw [show (intL (q.take (j + 1))).length = j + 1 by have := HDL.out; simp [intL]; omega] at e5; subst e5; have HR5 : Hid (w5.heap[w.heap.size]? = some (.cells #[.int .i64 4, .int .i64 0, .int .i64 0, .int .i64 0, .int .i64 0, .int .i64 0, .slice none 0 0, .slice B j d] 29 (0, 0))) := (hb5.block _ (Nat.lt_succ_self _)).trans HRw.out; have f7 := frozen_of_row w5 w.heap.size 7 _ _ HR5.out; have c7 := (hx_row (i := zI) HR5.out).2.2.2.2.2.2.2; have HO5 := Lib.hid ho5; have HB5 := Lib.hid hb5; clear ho5 hb5 hg5))
      obtain ⟨W6, hW6⟩ : ∃ W, w5.setCell ⟨w.heap.size, 7, none⟩ (.slice B5 (j + 1) d5) = W := ⟨_, rfl⟩
      have HR6 : Hid (W6.heap[w.heap.size]? = some (.cells #[.int .i64 4, .int .i64 0, .int .i64 0, .int .i64 0, .int .i64 0, .int .i64 0, .slice none 0 0, .slice B5 (j + 1) d5] 29 (0, 0))) := by show _ = _; rw [← hW6, heap_setCell_same w5 w.heap.size 7 _ _ _ HR5.out]; rfl
      have HB6 : Hid (Below w.heap.size w W6) := by show Below _ _ _; rw [← hW6]; exact (HB.out.trans (HB5.out.mono (Nat.le_succ _))).setCell (p := ⟨w.heap.size, 7, none⟩) (Nat.le_refl _) _
      have HO6 : Hid (Mi.Own W6 (w.heap.size + 1) (.slice B5 (j + 1) d5) (intL (q.take (j + 1)))) := by
        show Mi.Own _ _ _ _
        rw [← hW6]
        refine HO5.out.same fun y e hy => Below.heap_setCell w5 _ _ y ?_
        have := (World.ownsRow.lt HO5.out y e).1
        show y ≠ w.heap.size
        omega
      try rw [hW6]
      clear hW6
      go_roundw
      case rel => exact ⟨j + 1, B5, d5, by omega, by go_num, HR6, HO6, HB6⟩
      case measure => simp [intOf]; omega
    · have HJ : Hid (j = r) := by show _ = _; omega
      go_wp2_with (first
        | (refine wpList_load_row rfl 29 (.tmp 2) rfl w.heap.size rfl 29 _ (0, 0) _ HRw.out Try.underlying29 rfl (by kernel_rfl) ?_)
        | (refine wpList_store_row rfl 29 (.tmp 2) (.tmp 39) rfl w.heap.size #[.int .i64 4, .int .i64 0, .int .i64 0, .int .i64 0, .int .i64 0, .int .i64 0, .slice none 0 0, .slice B j d] rfl rfl 29 _ HRw.out (by kernel_rfl) rfl (hop_one _ _ _ _ _ _ _ _ _ _ _ _) ?_))
      have hql : (intL q).length = j := by have := HDL.out; have := HJ.out; simp [intL]; omega
      have hqt : q.take j = q := List.take_of_length_le (by have := HDL.out; have := HJ.out; omega)
      have ho := HO.out
      rw [hqt] at ho
      refine Mg.ret_box2 (g := w.heap.size) rfl (by rfl) (setRow_heap _ _ _ _ _ _ HRw.out) rfl Try.underlying29 (by kernel_rfl) rfl ⟨none, 0, B, d, by rw [hql]; rfl, Me.Own.nil _ _, ?_, Sb.below_setRow _ HB.out (Nat.le_refl _)⟩
      show Mi.Own _ _ (.slice B (intL q).length d) _
      rw [hql]
      refine (ho.base fun y e => Nat.le_trans (Nat.le_succ _) (World.ownsRow.lt ho y e).1).same fun y e hy => setRow_other _ _ y _ ?_
      have := (World.ownsRow.lt ho y e).1
      omega
theorem read_any (A : Option Addr) (n cap : Nat) (l : List Nat) (w : World) (hi : Hid (BySlice w A n cap l)) (hm : l.length ≤ 1000) : Calls Try.prog 45 #[.slice A n cap] w (Ans (rdW l) w) := by
  by_cases h0 : l.length < 1
  · exact read_empty A n cap l w hi h0
  · by_cases h4 : by_ l 0 = 4
    · exact read_routes A n cap l w hi (by omega) h4 hm
    · by_cases h3 : l.length < 3
      · exact read_short A n cap l w hi (by omega) h3 h4
      · by_cases h1 : by_ l 0 = 1
        · exact read_offer A n cap l w hi (by omega) h1
        · exact read_id A n cap l w hi (by omega) h4 h1
end Go.Proofs.Ytohfoieibgmmdaa.Hp
