/- The law's own question is answered true, whatever the memory; the walk of the law RecvNil. -/
import Derived.Test.YtnfjfcoonabmmaaRvG
import Derived.Lib.SlBytesConst
namespace Go.Proofs.Ytnfjfcoonabmmaa.Rv
open Go.RowKit
open Go.Proofs.Ytnfjfcoonabmmaa.Me Go.Proofs.Ytnfjfcoonabmmaa.Hd Go.Proofs.Ytnfjfcoonabmmaa.Sn
set_option linter.unusedVariables false
set_option linter.unusedSimpArgs false

theorem rd_one (W : World) {b : Nat} (hb : b < 256) (fr : Nat × Nat) : Me.Rd (W.alloc (.cells #[.int .u8 (b : Int)] 5 fr)) (W.alloc (.cells #[.int .u8 (b : Int)] 5 fr)).heap.size (some ⟨W.heap.size, 0, none⟩) [b] := by
  have := Me.rd_lit (w := W) (r := [b]) (fun z hz => (show z = b by simpa using hz) ▸ hb) 5 fr
  exact this.more (by simp)
def w1R : Rcv := takeR (newR 4) 1 [98] 0
theorem okn : (newR 4).Ok := Rcv.Ok.new (by decide) (by decide)
theorem ok1 : w1R.Ok := okn.take (by decide) (by decide) 0
theorem tells1 {i : Nat} (h : Tells (keepR (newR 4) 1 [98]) i) : i = 0 := h.eq (okn.keep (by decide) (by decide)) (by decide) (fun j hj => absurd hj (by omega)) rfl
theorem may1 : mayE (newR 4) ((1 : Nat) : Int) [98] = 0 := by decide
theorem asks1 : askL (goneR (keepR (newR 4) 1 [98]) 0).asked (missR (goneR (keepR (newR 4) 1 [98]) 0)) = [0] := by kernel_rfl
theorem may2 : mayE w1R ((0 : Nat) : Int) [97] = 0 := by kernel_rfl
theorem kept0 : (keepR w1R 0 [97]).kept 0 = some [97] := rfl
theorem kept1 : (keepR w1R 0 [97]).kept 1 = some [98] := by kernel_rfl
theorem kept2 : (keepR w1R 0 [97]).kept 2 = none := by kernel_rfl
theorem waits1 : (keepR w1R 0 [97]).waits = 0 := by kernel_rfl
theorem tells2 {i : Nat} (h : Tells (keepR w1R 0 [97]) i) : i = 2 := h.eq (ok1.keep (by decide) (by decide)) (by decide) (fun j hj => by
    rw [waits1]
    match j, hj with
    | 0, _ => rfl
    | 1, _ => exact (congrArg Option.isSome kept1)) (by rw [waits1]; exact kept2)
theorem told2 : toldR (keepR w1R 0 [97]) 2 = [[97], [98]] := by kernel_rfl
theorem waits2 : (takeR w1R 0 [97] 2).waits = 2 := by kernel_rfl
/-- Bytes of one number each, and a list of two of them, laid down one behind the other. -/
def two (W : World) : World := ((W.alloc (.cells #[.int .u8 97] 5)).alloc (.cells #[.int .u8 98] 5)).alloc (.cells #[.slice (some ⟨W.heap.size, 0, none⟩) 1 1, .slice (some ⟨W.heap.size + 1, 0, none⟩) 1 1] 32)
theorem two_lst (W : World) : Lst (two W) (two W).heap.size (some ⟨W.heap.size + 2, 0, none⟩) [[97], [98]] ∧ Nils (two W) (some ⟨W.heap.size + 2, 0, none⟩) [[97], [98]] := by
  have hsz : (two W).heap.size = W.heap.size + 3 := by simp [two]
  have hrow : (two W).heap[W.heap.size + 2]? = some (.cells #[.slice (some ⟨W.heap.size, 0, none⟩) 1 1, .slice (some ⟨W.heap.size + 1, 0, none⟩) 1 1] 32 (0, 0)) := by
    have := heap_alloc_new ((W.alloc (.cells #[.int .u8 97] 5)).alloc (.cells #[.int .u8 98] 5)) (.cells #[.slice (some ⟨W.heap.size, 0, none⟩) 1 1, .slice (some ⟨W.heap.size + 1, 0, none⟩) 1 1] 32)
    rwa [World.size_alloc, World.size_alloc] at this
  have r0 : Me.Rd (two W) (two W).heap.size (some ⟨W.heap.size, 0, none⟩) [97] := by
    have h := rd_one W (b := 97) (by decide) (0, 0)
    have hb : Below (W.alloc (.cells #[.int .u8 97] 5)).heap.size (W.alloc (.cells #[.int .u8 97] 5)) (two W) := Me.below_alloc (Me.below_alloc (Below.refl _ _))
    exact (h.below hb).more (by rw [hsz]; simp)
  have r1 : Me.Rd (two W) (two W).heap.size (some ⟨W.heap.size + 1, 0, none⟩) [98] := by
    have h : Me.Rd ((W.alloc (.cells #[.int .u8 97] 5)).alloc (.cells #[.int .u8 98] 5)) ((W.alloc (.cells #[.int .u8 97] 5)).alloc (.cells #[.int .u8 98] 5)).heap.size (some ⟨W.heap.size + 1, 0, none⟩) [98] := by
      have h := rd_one (W.alloc (.cells #[.int .u8 97] 5)) (b := 98) (by decide) (0, 0)
      have e := World.size_alloc W (.cells #[.int .u8 97] 5)
      generalize hn : (W.alloc (.cells #[.int .u8 97] 5)).heap.size = n at h
      rw [e] at hn
      subst hn
      exact h
    have hb : Below ((W.alloc (.cells #[.int .u8 97] 5)).alloc (.cells #[.int .u8 98] 5)).heap.size ((W.alloc (.cells #[.int .u8 97] 5)).alloc (.cells #[.int .u8 98] 5)) (two W) := Me.below_alloc (Below.refl _ _)
    exact (h.below hb).more (by rw [hsz]; simp)
  refine ⟨fun _ => ⟨W.heap.size + 2, 0, rfl, by omega, fun j hj => ?_⟩, fun b off e j hj n c hc => ?_⟩
  · match j, hj with
    | 0, _ => exact ⟨some ⟨W.heap.size, 0, none⟩, 1, by rw [cell_of_row _ _ _ _ _ (0, 0) hrow]; rfl, by decide, by decide, r0⟩
    | 1, _ => exact ⟨some ⟨W.heap.size + 1, 0, none⟩, 1, by rw [cell_of_row _ _ _ _ _ (0, 0) hrow]; rfl, by decide, by decide, r1⟩
  · cases e
    rw [cell_of_row _ _ _ _ _ (0, 0) hrow] at hc
    match j, hj with
    | 0, _ => cases hc
    | 1, _ => cases hc
/-- All from block s on. -/
abbrev From (s : Nat) : Nat → Prop := fun k => s ≤ k
theorem take_lit {s D mb : Nat} (W : World) (r : Rcv) (h : Hid (Rv (From s) W D mb r)) (ok : r.Ok) (hs : Hid (s ≤ W.heap.size)) (n : Nat) (hn : n < 128) {b : Nat} (hb : b < 256) (fr : Nat × Nat) (he : mayE r (n : Int) [b] = 0) (i : Nat) (hi : ∀ j, Tells (keepR r n [b]) j → j = i) (l : List Int) (hl : askL (goneR (keepR r n [b]) i).asked (missR (goneR (keepR r n [b]) i)) = l) (tl : List (List Nat)) (htl : toldR (keepR r n [b]) i = tl) :
    Calls Try.prog 9 #[.pointer (some ⟨D, 0, none⟩), .int .i64 n, .slice (some ⟨W.heap.size, 0, none⟩) 1 1] (W.alloc (.cells #[.int .u8 (b : Int)] 5 fr)) fun e w' =>
      ∃ A c v, e = .returned (.tuple #[.slice A i c, v, .int .i64 0]) ∧ Hid (Lst w' w'.heap.size A tl ∧ Nils w' A tl) ∧ Hid (Mi.Own w' W.heap.size v l) ∧ Hid (Rv (From s) w' D mb (takeR r n [b] i)) ∧ Hid (But (fun k => k = D ∨ k = mb) W w') := by
  have hsz : (W.alloc (.cells #[.int .u8 (b : Int)] 5 fr)).heap.size = W.heap.size + 1 := by simp
  have hp : ∀ z ∈ [b], z < 256 := fun z hz => by
    have : z = b := by simpa using hz
    omega
  refine (Take_g (G := From s) (W.alloc (.cells #[.int .u8 (b : Int)] 5 fr)) D mb r (h.out.below (Me.below_alloc (Below.refl _ _))) ok n (some ⟨W.heap.size, 0, none⟩) 1 [b] (rd_one W hb fr) (fun e => by cases e) (by show 1 ≤ _; omega) hn he).mono ?_
  rintro e w' ⟨j, A, c, v, rfl, h1, h2, h3, h4, h5, h6⟩
  obtain rfl := hi j h1.out
  rw [hl] at h3
  rw [htl] at h2
  have hby : ∀ l ∈ tl, ∀ z ∈ l, z < 256 := by
    intro l hl z hz
    rw [← htl] at hl
    obtain ⟨k, hk, rfl⟩ := List.mem_map.1 hl
    cases hq : (keepR r n [b]).kept (((keepR r n [b]).waits + k) % 128) with
    | none => rw [hq] at hz; cases hz
    | some q => rw [hq] at hz; exact ((ok.keep hn hp).kn _ q hq).2 z hz
  refine ⟨A, c, v, rfl, h2.out.lst hby, h3.out.base fun k e => by have := (World.ownsRow.lt h3.out k e).1; omega, h4.out.mono fun k _ hk => ?_, (But.of_below (Me.below_alloc (Below.refl _ _))).trans h5.out fun k _ e => e⟩
  rcases hk with hk | hk
  · exact hk
  · have := hs.out; show s ≤ k; omega
theorem Lst.own {w w' : World} {A : Option Addr} {ls : List (List Nat)} (h : Lst w w.heap.size A ls ∧ Nils w A ls) (hb : Below w.heap.size w w') : Lst w' w'.heap.size A ls ∧ Nils w' A ls := by
  refine ⟨?_, ?_⟩
  · have := h.1.below hb (Nat.le_refl _)
    intro hl
    obtain ⟨b, off, ha, hlt, hc⟩ := this hl
    refine ⟨b, off, ha, hlt, fun j hj => ?_⟩
    obtain ⟨A', c, q1, q2, q3, q4⟩ := hc j hj
    exact ⟨A', c, q1, q2, q3, q4.more hb.size⟩
  · intro b off e j hj n c hc
    obtain ⟨b', off', e', hlt, _⟩ := h.1 (by omega)
    rw [e] at e'; cases e'
    rw [hb.cell (p := ⟨b, off + j, none⟩) hlt] at hc
    exact h.2 b off e j hj n c hc
set_option maxRecDepth 100000 in
set_option maxHeartbeats 2000000 in
theorem awake_any (w : World) : Calls Try.prog 8 #[] w fun e w' => e = .returned (.bool true) ∧ Hid (Below w.heap.size w w') := by
  have kc := fun (w : World) (C : Array Value) (n c : Nat) => Lib.run_convert_bytes_const (P := Try.prog) w 32 5 C n c Try.underlying32 Try.underlying5
  have N := Lib.hid (New_g 4 (by decide) (by decide) w)
  rw [show ((4 : Nat) : Int) = 4 from rfl] at N
  obtain ⟨s, hs⟩ : ∃ s, w.heap.size = s := ⟨_, rfl⟩
  have HSS := Lib.hid hs
  rw [hs] at N ⊢
  have T1 := Lib.hid (fun (W : World) (h : Hid (Rv (From s) W (s + 1) s (newR 4))) (hsz : Hid (s ≤ W.heap.size)) => take_lit W (newR 4) h okn hsz 1 (by decide) (b := 98) (by decide) (1, 2) may1 0 (fun j => tells1) [0] asks1 [] rfl)
  have T2 := Lib.hid (fun (W : World) (h : Hid (Rv (From s) W (s + 1) s w1R)) (hsz : Hid (s ≤ W.heap.size)) => take_lit W w1R h ok1 hsz 0 (by decide) (b := 97) (by decide) (1, 2) may2 2 (fun j => tells2) _ rfl [[97], [98]] told2)
  rw [show takeR (newR 4) 1 [98] 0 = w1R from rfl] at T1
  simp only [show ((97 : Nat) : Int) = 97 from rfl, show ((98 : Nat) : Int) = 98 from rfl, show ((1 : Nat) : Int) = 1 from rfl, show ((0 : Nat) : Int) = 0 from rfl] at T1 T2
  clear hs
  go_enter Try.func8, Try.ntmps8
  go_wp2_with (first
    | (go_at_call 7; refine N.out.mono ?_; rintro e w1 ⟨rfl, H1, B1⟩; have HS1 : Hid (s ≤ w1.heap.size) := (by have := B1.out.size; have := HSS.out; show _ ≤ _; omega))
    | (go_at_call 9; (with_reducible refine (T1.out w1 H1 HS1).mono ?_); rintro e w2 ⟨A2, c2, v2, rfl, _, o2, H2, b2⟩; have B2 : Hid (Below s w w2) := B1.out.trans (b2.out.below HS1.out fun k hk => by omega); have HS2 : Hid (s ≤ w2.heap.size) := Nat.le_trans HS1.out b2.out.size)
    | (go_at_call 9; (with_reducible refine (T2.out w2 H2 HS2).mono ?_); rintro e w3 ⟨A3, c3, v3, rfl, l3, _, H3, b3⟩; have B3 : Hid (Below s w w3) := B2.out.trans (b3.out.below HS2.out fun k hk => by omega); have hlt : s + 1 < w1.heap.size := H1.out.rq.lt; have o3 : Mi.Own w3 w1.heap.size v2 [0] := o2.out.same fun k hk hk2 => b3.out.same k hk2 fun e => (by have := (World.ownsRow.lt o2.out k hk).1; omega); obtain ⟨A4, c4, rfl, _, _, hr4, _, _⟩ := Mi.Own.form o3; have R4 : Hid (Mi.Rd (w3.alloc (.cells #[.int .i64 0] 3)) (w3.alloc (.cells #[.int .i64 0] 3)).heap.size A4 [0]) := (hr4.below (Mi.below_alloc (Below.refl _ _))).more (by simp); have R5 : Hid (Mi.Rd (w3.alloc (.cells #[.int .i64 0] 3)) (w3.alloc (.cells #[.int .i64 0] 3)).heap.size (some ⟨w3.heap.size, 0, none⟩) [0]) := (Mi.rd_lit (w := w3) [0] 3).more (by simp); have HS4 := Lib.hid (Wn.Same_one A4 (some ⟨w3.heap.size, 0, none⟩) 1 1 c4 1 [0] (w3.alloc (.cells #[.int .i64 0] 3)) R4 R5 rfl rfl (by decide)); clear o3 hr4 R4 R5 hlt)
    | (go_at_call 24; refine HS4.out.mono ?_; rintro e w4 ⟨rfl, b4⟩; have q4 : Below w3.heap.size w3 w4 := (Mi.below_alloc (Below.refl _ _)).trans (b4.out.mono (by simp)); have q5 : Below w3.heap.size w3 (two w4) := q4.trans (by unfold two; exact Below.mono (Me.below_alloc (Me.below_alloc (Me.below_alloc (Below.refl w4.heap.size w4)))) q4.size); have Q5 := Lib.hid q5; obtain ⟨l5, n5⟩ := Lst.own l3.out q5; obtain ⟨l6, n6⟩ := two_lst w4; have HS5 := Lib.hid (Same_any (two w4) A3 (some ⟨w4.heap.size + 2, 0, none⟩) c3 2 [[97], [98]] [[97], [98]] l5 n5 l6 n6 (by decide)); clear q4 q5 l5 n5 l6 n6 b4)
    | (go_at_call 19; refine HS5.out.mono ?_; rintro e w6 ⟨rfl, b6⟩; have Q6 : Hid (Below w3.heap.size w3 w6) := Q5.out.trans (b6.out.mono Q5.out.size); have HW := Lib.hid (Waits_any w6 (s + 1) s (takeR w1R 0 [97] 2) (H3.out.below Q6.out).rq); rw [waits2] at HW)
    | (go_at_call 23; refine HW.out.mono ?_; rintro e w' ⟨rfl, rfl⟩))
  go_ret
  exact ⟨rfl, B3.out.trans (Q6.out.mono (by have := B3.out.size; have := HSS.out; omega))⟩
set_option maxRecDepth 100000 in
set_option maxHeartbeats 2000000 in
theorem rnil (a0 a1 : Int) (v : Value) (w : World) : Calls Try.prog 6 #[.agg #[.int .i64 a0, .int .i64 a1, v]] w fun e w' => e = .returned (.bool true) ∧ Below w.heap.size w w' := by
  have HT := Lib.hid Take_nil
  have HF := Lib.hid Forget_nil
  have HR := Lib.hid Reset_nil
  have HWt := Lib.hid Waits_nil
  have HK := Lib.hid Kept_nil
  have HM := Lib.hid Missing_nil
  have HW := Lib.hid (awake_any (w.alloc (.cells #[.int .i64 a0, .int .i64 a1, v] 34)))
  have HB0 : Hid (Below w.heap.size w (w.alloc (.cells #[.int .i64 a0, .int .i64 a1, v] 34))) := Me.below_alloc (Below.refl _ _)
  go_enter Try.func6, Try.ntmps6
  go_wp2_with (first
    | (go_at_call 9; refine (HT.out _ _ _).mono ?_; rintro e w' ⟨rfl, rfl⟩)
    | (go_at_call 21; refine (HF.out _).mono ?_; rintro e w' ⟨⟨u, rfl⟩, rfl⟩)
    | (go_at_call 22; refine (HR.out _).mono ?_; rintro e w' ⟨⟨u, rfl⟩, rfl⟩)
    | (go_at_call 23; refine (HWt.out _).mono ?_; rintro e w' ⟨rfl, rfl⟩)
    | (go_at_call 20; refine (HK.out _).mono ?_; rintro e w' ⟨rfl, rfl⟩)
    | (go_at_call 10; refine (HM.out _).mono ?_; rintro e w' ⟨rfl, rfl⟩)
    | (go_at_call 8; refine HW.out.mono ?_; rintro e w9 ⟨rfl, hb9⟩))
  go_ret
  exact ⟨rfl, HB0.out.trans (hb9.out.mono HB0.out.size)⟩
end Go.Proofs.Ytnfjfcoonabmmaa.Rv
