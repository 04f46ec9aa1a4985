/- The law's own question 'is what was held there?' is answered true. -/
import Derived.Test.YtfnlhfelpdkieaaGreatZ18
import Derived.Test.YtfnlhfelpdkieaaGreatZ19
import Derived.Test.YtfnlhfelpdkieaaGreatZ20
import Derived.Test.YtfnlhfelpdkieaaGreatSoState
import Derived.Test.YtfnlhfelpdkieaaGreatZ11
import Derived.Test.YtfnlhfelpdkieaaGreatSoDone
import Derived.Test.YtfnlhfelpdkieaaGreatZ29
import Derived.Test.YtfnlhfelpdkieaaGreatZ22
import Derived.Test.YtfnlhfelpdkieaaGreatZ25
import Derived.Lib.SlBytesConst
namespace Go.Proofs.YtfnlhfelpdkieaaGreat.So
open Go.RowKit
open Go.Proofs.YtfnlhfelpdkieaaGreat.Me Go.Proofs.YtfnlhfelpdkieaaGreat.Sb
set_option linter.unusedVariables false
set_option linter.unusedSimpArgs false

theorem quota_any (w : World) : Calls Tryz.prog 26 #[] w fun e w' => e = .returned (.agg #[.int .i64 256, .int .i64 1048576, .int .i64 256]) ∧ Hid (Below w.heap.size w w') := by
  have HR := Lib.hid (heap_alloc_new w (.cells #[.int .i64 256, .int .i64 1048576, .int .i64 256] 23))
  have HB : Hid (Below w.heap.size w (w.alloc (.cells #[.int .i64 256, .int .i64 1048576, .int .i64 256] 23))) := Me.below_alloc (Below.refl _ _)
  go_enter Tryz.func26, Tryz.ntmps26
  go_wp2
  exact Sb.ret_box (g := w.heap.size) rfl (by rfl) HR.out rfl Tryz.underlying23 (by kernel_rfl) rfl ⟨rfl, HB.out⟩
def wk0 : Sto := new0 1 256 1048576 256
def wkI : Mg.Id4 := ⟨1, 2, 1, 1⟩
def wk1 : Sto := appE wk0 1 zeroI []
def wk2 : Sto := appE wk1 2 wkI [97]
theorem wk_a : mayE wk0 1 zeroI 0 = 0 := by decide
theorem wk_b : frN wk1 2 = 0 := by decide
theorem wk_c : frI wk1 2 = wkI := by decide
theorem wk_d : mayE wk1 2 wkI 1 = 0 := by decide
theorem wk_e : findH wk2.held wkI = some [97] := by decide
theorem wk_ok : NewOk 1 256 1048576 256 := ⟨by decide, by decide, by decide, by decide, by decide, by decide, by decide, by decide⟩
theorem conv_held {W : World} {B g c : Nat} (o : Obj) (h : Me.Own W B (.slice (some ⟨g, 0, none⟩) 1 c) [97]) : (convert 44 9 (.slice (some ⟨g, 0, none⟩) 1 c)).run Tryz.prog (W.alloc o) = .ok (.string ⟨#[97]⟩) (W.alloc o) := by
  obtain ⟨A', c', e, h1, h2, h3⟩ := h.held (by decide)
  simp only [Value.slice.injEq] at e
  obtain ⟨rfl, _, rfl⟩ := e
  have hr := h3.rd.below (Me.below_alloc (o := o) (Below.refl W.heap.size W))
  exact conv_rd (W.alloc o) W.heap.size (some ⟨g, 0, none⟩) [97] c hr fun e => by cases e
set_option maxRecDepth 100000 in
set_option maxHeartbeats 16000000 in
theorem awake_any (w : World) : Calls Tryz.prog 9 #[] w fun e w' => e = .returned (.bool true) ∧ Hid (Below w.heap.size w w') := by
  have HQ := Lib.hid (fun W => quota_any W)
  have HN : Hid (∀ W, w.heap.size ≤ W.heap.size → Calls Tryz.prog 7 #[.int .i64 1, .agg #[.int .i64 256, .int .i64 1048576, .int .i64 256]] W fun e w' => ∃ D, e = .returned (.tuple #[.pointer (some ⟨D, 0, none⟩), .int .i64 0]) ∧ Hid (Lv w.heap.size (fun _ => False) w' 0 D wk0) ∧ Hid (Below W.heap.size W w')) := fun W hW => New_l w.heap.size (fun _ => False) 1 256 1048576 256 wk_ok W hW fun _ h => h.elim
  have HA : Hid (∀ D W, Lv w.heap.size (fun _ => False) W 0 D wk0 → w.heap.size ≤ W.heap.size → Calls Tryz.prog 13 #[.pointer (some ⟨D, 0, none⟩), .agg #[.int .i64 1, .int .i64 0, .int .i64 0, .int .i64 0, .int .i64 0, .slice none 0 0]] W fun e w' => e = .returned (.int .i64 0) ∧ Hid (Lv w.heap.size (fun _ => False) w' 1 D wk1) ∧ Hid (But (Out w.heap.size (fun _ => False)) W w')) := fun D W h hW => by
    have := Apply_l w.heap.size (fun _ => False) W 0 D wk0 1 zeroI none 0 [] (by omega) ⟨by simp, by simp⟩ (fun _ => ⟨rfl, rfl⟩) hW (fun _ h => h.elim) h
    rw [show mayE wk0 1 zeroI ([] : List Nat).length = 0 from wk_a] at this
    exact this
  have HF : Hid (∀ D W, Lv w.heap.size (fun _ => False) W 1 D wk1 → Calls Tryz.prog 27 #[.pointer (some ⟨D, 0, none⟩), .int .i64 2] W fun e w' => e = .returned (.tuple #[.agg #[.int .i64 1, .int .i64 2, .int .i64 1, .int .i64 1], .int .i64 0]) ∧ Hid (Below W.heap.size W w')) := fun D W h => by
    have := Fresh_l w.heap.size (fun _ => False) W 1 D wk1 2 h
    rw [wk_b, wk_c] at this
    exact this
  have HH : Hid (∀ D W (X : Nat) (g : Nat) (c : Nat), Lv w.heap.size (fun k => k = X) W 1 D wk1 → w.heap.size ≤ W.heap.size → X < W.heap.size → Rd W W.heap.size (some ⟨g, 0, none⟩) [97] → Calls Tryz.prog 13 #[.pointer (some ⟨D, 0, none⟩), .agg #[.int .i64 2, .int .i64 1, .int .i64 2, .int .i64 1, .int .i64 1, .slice (some ⟨g, 0, none⟩) 1 c]] W fun e w' => e = .returned (.int .i64 0) ∧ Hid (Lv w.heap.size (fun k => k = X) w' 2 D wk2) ∧ Hid (But (Out w.heap.size (fun k => k = X)) W w')) := fun D W X g c h hW hX hr => by
    have := Apply_l w.heap.size (fun k => k = X) W 1 D wk1 2 wkI (some ⟨g, 0, none⟩) c [97] (by omega) hr (fun e => by cases e) hW (fun k e => by omega) h
    rw [show mayE wk1 2 wkI ([97] : List Nat).length = 0 from wk_d] at this
    exact this
  have HFi : Hid (∀ D W (X : Nat), Lv w.heap.size (fun k => k = X) W 2 D wk2 → Calls Tryz.prog 28 #[.pointer (some ⟨D, 0, none⟩), .agg #[.int .i64 1, .int .i64 2, .int .i64 1, .int .i64 1]] W fun e w' => Hid (Below W.heap.size W w') ∧ ∃ g c, e = .returned (.tuple #[.agg #[.int .i64 1, .int .i64 2, .int .i64 1, .int .i64 1, .slice (some ⟨g, 0, none⟩) 1 c], .bool true]) ∧ Hid (Me.Own w' W.heap.size (.slice (some ⟨g, 0, none⟩) 1 c) [97])) := fun D W X h => (Find_l w.heap.size (fun k => k = X) W 2 D wk2 wkI (fit_right (Mg.right_iff.1 (by decide))) h).mono fun e w' hf => by
    unfold FndP at hf
    obtain ⟨hb, hf | ⟨p, hp, A, c, he, ho⟩⟩ := hf
    · rw [wk_e] at hf; exact absurd hf.1 (by simp)
    · rw [wk_e] at hp
      cases hp
      rcases ho.out.2 with ⟨h1, _⟩ | ⟨g, cap, cur, h1, _⟩
      · cases h1
      · injection h1 with h2 _ _
        subst h2
        exact ⟨hb, g, c, he, ho⟩
  have kc := fun (w : World) (C : Array Value) (n c : Nat) => Lib.run_convert_bytes_const (P := Tryz.prog) w 44 5 C n c Tryz.underlying44 Tryz.underlying5
  go_enter Tryz.func9, Tryz.ntmps9
  go_wp2_with (first
    | (go_at_call 26; refine (HQ.out _).mono ?_; rintro e w1 ⟨rfl, b1⟩)
    | (go_at_call 7; refine (HN.out w1 b1.out.size).mono ?_; rintro e w2 ⟨D, rfl, l2, b2⟩; have k2 := Lib.hid (go_on b1.out b2.out))
    | (go_at_call 13; (with_reducible refine (HA.out D w2 l2.out k2.out.size).mono ?_); rintro e w3 ⟨rfl, l3, b3⟩; have k3 := Lib.hid (k2.out.trans (but_out b3.out k2.out.size)))
    | (go_at_call 27; refine (HF.out D w3 l3.out).mono ?_; rintro e w4 ⟨rfl, b4⟩; have kc1 := kc (w4.alloc (.cells #[.int .i64 1, .int .i64 2, .int .i64 1, .int .i64 1] 43)) #[.int .u8 97] 1 1; rw [World.size_alloc] at kc1))
  have k4 := Lib.hid (go_on k3.out b4.out)
  have l4 := Lib.hid (l3.out.below b4.out)
  obtain ⟨V, hV⟩ : ∃ V, (w4.alloc (.cells #[.int .i64 1, .int .i64 2, .int .i64 1, .int .i64 1] 43)).alloc (.cells #[.int .u8 97] 5 (1, 2)) = V := ⟨_, rfl⟩
  have hb1 : Below w4.heap.size w4 (w4.alloc (.cells #[.int .i64 1, .int .i64 2, .int .i64 1, .int .i64 1] 43)) := Me.below_alloc (Below.refl _ _)
  have hbV : Below w4.heap.size w4 V := by rw [← hV]; exact Me.below_alloc hb1
  have hxV : V.heap[w4.heap.size]? = some (.cells #[.int .i64 1, .int .i64 2, .int .i64 1, .int .i64 1] 43 (0, 0)) := by
    rw [← hV]
    exact ((Me.below_alloc (Below.refl (w4.alloc (.cells #[.int .i64 1, .int .i64 2, .int .i64 1, .int .i64 1] 43)).heap.size _)).block _ (by simp)).trans (heap_alloc_new w4 _)
  have hrV : Rd V V.heap.size (some ⟨w4.heap.size + 1, 0, none⟩) [97] := by
    rw [← hV]
    have := Me.rd_lit (w := w4.alloc (.cells #[.int .i64 1, .int .i64 2, .int .i64 1, .int .i64 1] 43)) (r := [97]) (by decide) 5 (1, 2)
    rw [show w4.heap.size + 1 = (w4.alloc (.cells #[.int .i64 1, .int .i64 2, .int .i64 1, .int .i64 1] 43)).heap.size from (World.size_alloc ..).symm]
    exact Rd.more this (by simp)
  have lV : Lv w.heap.size (fun k => k = w4.heap.size) V 1 D wk1 := (l4.out.other fun k hk e => by omega).below hbV
  rw [hV]
  have kV := go_on k4.out hbV
  have hXl := (Array.getElem?_eq_some_iff.1 hxV).1
  go_at_call 13
  refine (HH.out D V w4.heap.size (w4.heap.size + 1) 1 lV kV.size hXl hrV).mono ?_
  rintro e w5 ⟨rfl, l5, b5⟩
  have hx5 := Lib.hid (b5.out.at_ hxV (fun h => h.2 rfl))
  have k5 := Lib.hid (kV.trans (but_out b5.out kV.size))
  obtain ⟨X, hX⟩ : ∃ X, w4.heap.size = X := ⟨_, rfl⟩
  rw [hX] at hx5 l5 ⊢
  obtain ⟨y0, y1, y2, y3⟩ := id_cells hx5.out
  clear hV hb1 hbV hxV hrV lV kV hXl hX kc1 b5 l4 k4 b4 l3 k3 b3 HQ HN HA HF HH
  go_wp2_with (go_at_call 28; refine (HFi.out D w5 X l5.out).mono ?_; rintro e w6 ⟨b6, g, c, rfl, ho6⟩; have hx6 := Lib.hid ((b6.out.block X (Array.getElem?_eq_some_iff.1 hx5.out).1).trans hx5.out); have hcv := conv_held (.cells #[.int .i64 1, .int .i64 2, .int .i64 1, .int .i64 1, .slice (some ⟨g, 0, none⟩) 1 c] 46) ho6.out; obtain ⟨y0, y1, y2, y3⟩ := id_cells hx6.out; have hne6 : ¬ X = w6.heap.size := (fun e => by have := (Array.getElem?_eq_some_iff.1 hx6.out).1; omega); obtain ⟨v0, v1, v2, v3⟩ := id_cells (((Me.below_alloc (o := .cells #[.int .i64 1, .int .i64 2, .int .i64 1, .int .i64 1, .slice (some ⟨g, 0, none⟩) 1 c] 46) (Below.refl w6.heap.size w6)).block X (Array.getElem?_eq_some_iff.1 hx6.out).1).trans hx6.out))
  go_ret
  exact ⟨rfl, go_on (go_on k5.out b6.out) (Me.below_alloc (Below.refl _ _))⟩
end Go.Proofs.YtfnlhfelpdkieaaGreat.So
/- The law StoreQuotas. -/
namespace Go.Proofs.YtfnlhfelpdkieaaGreat.So
open Go.RowKit
open Go.Proofs.YtfnlhfelpdkieaaGreat.Me Go.Proofs.YtfnlhfelpdkieaaGreat.Sb
open Go.Proofs.YtfnlhfelpdkieaaGreat.Se (Mw Pm Pls mrOf Ord)
set_option linter.unusedVariables false
set_option linter.unusedSimpArgs false

theorem State_l (M : Nat) (O : Nat → Prop) (w : World) (m D : Nat) (s : Sto) (hm : m ≤ 1000000) (h : Hid (Lv M O w m D s)) : Calls Tryz.prog 17 #[.pointer (some ⟨D, 0, none⟩)] w fun e w' => ∃ n, n ≤ m ∧ StT s n w e w' := by
  obtain ⟨hb, sd, sb, m', v, hm', h1, h2⟩ := h.out
  exact (State_any (by omega) h1).mono fun e w' q => ⟨_, hm', q⟩
theorem Bytes_l (M : Nat) (O : Nat → Prop) (w : World) (m D : Nat) (s : Sto) (h : Hid (Lv M O w m D s)) : Calls Tryz.prog 40 #[.pointer (some ⟨D, 0, none⟩)] w fun e w' => e = .returned (.int .i64 (bytesOf s.held)) ∧ w = w' := by
  obtain ⟨hb, sd, sb, m', v, hm', h1, h2⟩ := h.out
  have q := h1.box.byt
  clear h
  go_enter Tryz.func40, Tryz.ntmps40
  go_wp2
  go_ret
  exact ⟨rfl, rfl⟩
theorem state_cells {W : World} {D : Nat} {a b : Int} {x y z : Value} (h : W.heap[D]? = some (.cells #[.int .i64 a, .int .i64 b, x, y, z] 59 (0, 0))) : W.cell? ⟨D, 0, none⟩ = some (.int .i64 a) ∧ W.cell? ⟨D, 1, none⟩ = some (.int .i64 b) ∧ W.cell? ⟨D, 2, none⟩ = some x ∧ W.cell? ⟨D, 3, none⟩ = some y ∧ W.cell? ⟨D, 4, none⟩ = some z := by
  refine ⟨?_, ?_, ?_, ?_, ?_⟩
  all_goals
    rw [cell_of_row _ D _ _ _ (0, 0) h]
    rfl
section
variable (me qh qb qg : Int) (w : World)
end
end Go.Proofs.YtfnlhfelpdkieaaGreat.So
/- The document's State, of a store. -/
namespace Go.Proofs.YtfnlhfelpdkieaaGreat.So
open Go.RowKit
open Go.Proofs.YtfnlhfelpdkieaaGreat.Me Go.Proofs.YtfnlhfelpdkieaaGreat.Sb
open Go.Proofs.YtfnlhfelpdkieaaGreat.Se (Mw Pm)
set_option linter.unusedVariables false
set_option linter.unusedSimpArgs false

/-- What holds over State: the world below, the store's copy. -/
structure As (w : World) (C : Array Value) (W : World) : Prop where
  below : Below w.heap.size w W
  st : W.heap[w.heap.size]? = some (.cells C 37 (0, 0))
theorem As.go {w : World} {C : Array Value} {W W' : World} (h : As w C W) (hb : Below W.heap.size W W') : As w C W' :=
  ⟨go_on h.below hb, (hb.block _ (Array.getElem?_eq_some_iff.1 h.st).1).trans h.st⟩
theorem As.drew {w : World} {C : Array Value} {W : World} (h : As w C W) : As w C W.drew := ⟨h.below.drew, h.st⟩
theorem As.row {w : World} {C : Array Value} {W : World} (h : As w C W) (cs : Array Value) : As w C (W.setRow (w.heap.size + 1) cs) :=
  ⟨Sb.below_setRow _ h.below (by omega), (setRow_other _ _ _ _ (by omega)).trans h.st⟩
theorem st_onev (a b : Int) {u l k : Value} (hu : u.oneCell' = true) (hl : l.oneCell' = true) (hk : k.oneCell' = true) : (#[.int .i64 a, .int .i64 b, u, l, k] : Array Value).all (·.oneCell') = true := by
  simp [Value.oneCell'] at hu hl hk ⊢
  exact ⟨hu, hl, hk⟩
set_option maxRecDepth 100000 in
set_option maxHeartbeats 16000000 in
theorem rstate_any (me qh qb qg ep : Int) (Au Al : Option Addr) (nu cu nl cl : Nat) (vK : Value) (w : World) (M : List Se.Mr)
    (HM : Hid (∀ W, Below w.heap.size w W → Calls Tryz.prog 71 #[.agg #[.int .i64 qg, vK]] W fun e w' => ∃ v' P, e = .returned v' ∧ Hid (Mw w' W.heap.size v' P) ∧ Hid (P.map Pm.m = M ∧ P.length ≤ 900) ∧ Hid (Below W.heap.size W w'))) : Calls Tryz.prog 38 #[.agg #[.int .i64 me, .int .i64 qh, .int .i64 qb, .int .i64 qg, .int .i64 ep, .slice Au nu cu, .slice Al nl cl, .int .i64 qg, vK]] w fun e w' => ∃ vM P, e = .returned (.agg #[.int .i64 me, .int .i64 ep, .slice Au nu cu, .slice Al nl cl, vM]) ∧ Hid (Mw w' w.heap.size vM P) ∧ Hid (P.map Pm.m = M ∧ P.length ≤ 900) ∧ Hid (Below w.heap.size w w') := by
  obtain ⟨hB, hY, hX⟩ := two_new w #[.int .i64 me, .int .i64 qh, .int .i64 qb, .int .i64 qg, .int .i64 ep, .slice Au nu cu, .slice Al nl cl, .int .i64 qg, vK] #[.int .i64 0, .int .i64 0, .slice none 0 0, .slice none 0 0, .slice none 0 0] 37 59
  obtain ⟨W3, hW3⟩ : ∃ W, (w.alloc (.cells #[.int .i64 me, .int .i64 qh, .int .i64 qb, .int .i64 qg, .int .i64 ep, .slice Au nu cu, .slice Al nl cl, .int .i64 qg, vK] 37)).alloc (.cells #[.int .i64 0, .int .i64 0, .slice none 0 0, .slice none 0 0, .slice none 0 0] 59) = W := ⟨_, rfl⟩
  rw [hW3] at hB hY hX
  have HW := Lib.hid hW3
  have s3 : As w #[.int .i64 me, .int .i64 qh, .int .i64 qb, .int .i64 qg, .int .i64 ep, .slice Au nu cu, .slice Al nl cl, .int .i64 qg, vK] W3 := ⟨hB, hX⟩
  have R3 := Lib.hid hY
  clear hW3 hB hY hX
  go_enter Tryz.func38, Tryz.ntmps38
  go_wp2
  rw [HW.out]
  have S0 := s3.drew
  refine wp_region_held_drew (S := fun W => As w #[.int .i64 me, .int .i64 qh, .int .i64 qb, .int .i64 qg, .int .i64 ep, .slice Au nu cu, .slice Al nl cl, .int .i64 qg, vK] W) (by kernel_rfl) S0 (fun hHeld => ?_)
  refine wpAnyH_take (i := 0) (v := .pointer (some ⟨w.heap.size, 0, none⟩)) rfl (by kernel_rfl) (by kernel_rfl) (by kernel_rfl) (fun _ _ _ h => h) (Or.inl ⟨by rfl, ?_⟩) (by first | assumption | exact trivial) ?_
  · intro W hSW; go_simp; try (with_reducible rfl)
  simp only [Act.put, List.getElem_toArray, List.getElem_cons_succ, List.getElem_cons_zero, List.setIfInBounds_toArray, List.set_cons_zero, List.set_cons_succ]
  refine wpAnyH_take (i := 1) (v := .int .i64 me) rfl (by kernel_rfl) (by kernel_rfl) (by kernel_rfl) (fun _ _ _ h => h) (Or.inl ⟨by rfl, ?_⟩) (by first | assumption | exact trivial) ?_
  · intro W hSW; obtain ⟨x0, x1, x2, x3, x4, x5, x6, x7, x8⟩ := rs_cells hSW.st; go_simp; try (with_reducible rfl)
  simp only [Act.put, List.getElem_toArray, List.getElem_cons_succ, List.getElem_cons_zero, List.setIfInBounds_toArray, List.set_cons_zero, List.set_cons_succ]
  refine wpAnyH_take (i := 2) (v := .pointer (some ⟨w.heap.size, 4, none⟩)) rfl (by kernel_rfl) (by kernel_rfl) (by kernel_rfl) (fun _ _ _ h => h) (Or.inl ⟨by rfl, ?_⟩) (by first | assumption | exact trivial) ?_
  · intro W hSW; go_simp; try (with_reducible rfl)
  simp only [Act.put, List.getElem_toArray, List.getElem_cons_succ, List.getElem_cons_zero, List.setIfInBounds_toArray, List.set_cons_zero, List.set_cons_succ]
  refine wpAnyH_take (i := 3) (v := .int .i64 ep) rfl (by kernel_rfl) (by kernel_rfl) (by kernel_rfl) (fun _ _ _ h => h) (Or.inl ⟨by rfl, ?_⟩) (by first | assumption | exact trivial) ?_
  · intro W hSW; obtain ⟨x0, x1, x2, x3, x4, x5, x6, x7, x8⟩ := rs_cells hSW.st; go_simp; try (with_reducible rfl)
  simp only [Act.put, List.getElem_toArray, List.getElem_cons_succ, List.getElem_cons_zero, List.setIfInBounds_toArray, List.set_cons_zero, List.set_cons_succ]
  refine wpAnyH_take (i := 4) (v := .pointer (some ⟨w.heap.size, 5, none⟩)) rfl (by kernel_rfl) (by kernel_rfl) (by kernel_rfl) (fun _ _ _ h => h) (Or.inl ⟨by rfl, ?_⟩) (by first | assumption | exact trivial) ?_
  · intro W hSW; go_simp; try (with_reducible rfl)
  simp only [Act.put, List.getElem_toArray, List.getElem_cons_succ, List.getElem_cons_zero, List.setIfInBounds_toArray, List.set_cons_zero, List.set_cons_succ]
  refine wpAnyH_take (i := 5) (v := .slice Au nu cu) rfl (by kernel_rfl) (by kernel_rfl) (by kernel_rfl) (fun _ _ _ h => h) (Or.inl ⟨by rfl, ?_⟩) (by first | assumption | exact trivial) ?_
  · intro W hSW; obtain ⟨x0, x1, x2, x3, x4, x5, x6, x7, x8⟩ := rs_cells hSW.st; go_simp; try (with_reducible rfl)
  simp only [Act.put, List.getElem_toArray, List.getElem_cons_succ, List.getElem_cons_zero, List.setIfInBounds_toArray, List.set_cons_zero, List.set_cons_succ]
  refine wpAnyH_take (i := 6) (v := .pointer (some ⟨w.heap.size, 6, none⟩)) rfl (by kernel_rfl) (by kernel_rfl) (by kernel_rfl) (fun _ _ _ h => h) (Or.inl ⟨by rfl, ?_⟩) (by first | assumption | exact trivial) ?_
  · intro W hSW; go_simp; try (with_reducible rfl)
  simp only [Act.put, List.getElem_toArray, List.getElem_cons_succ, List.getElem_cons_zero, List.setIfInBounds_toArray, List.set_cons_zero, List.set_cons_succ]
  refine wpAnyH_take (i := 7) (v := .slice Al nl cl) rfl (by kernel_rfl) (by kernel_rfl) (by kernel_rfl) (fun _ _ _ h => h) (Or.inl ⟨by rfl, ?_⟩) (by first | assumption | exact trivial) ?_
  · intro W hSW; obtain ⟨x0, x1, x2, x3, x4, x5, x6, x7, x8⟩ := rs_cells hSW.st; go_simp; try (with_reducible rfl)
  simp only [Act.put, List.getElem_toArray, List.getElem_cons_succ, List.getElem_cons_zero, List.setIfInBounds_toArray, List.set_cons_zero, List.set_cons_succ]
  refine wpAnyH_take (i := 8) (v := .pointer (some ⟨w.heap.size, 7, none⟩)) rfl (by kernel_rfl) (by kernel_rfl) (by kernel_rfl) (fun _ _ _ h => h) (Or.inl ⟨by rfl, ?_⟩) (by first | assumption | exact trivial) ?_
  · intro W hSW; go_simp; try (with_reducible rfl)
  simp only [Act.put, List.getElem_toArray, List.getElem_cons_succ, List.getElem_cons_zero, List.setIfInBounds_toArray, List.set_cons_zero, List.set_cons_succ]
  refine wpAnyH_take (i := 9) (v := .agg #[.int .i64 qg, vK]) rfl (by kernel_rfl) (by kernel_rfl) (by kernel_rfl) (fun _ _ _ h => h) (Or.inl ⟨by rfl, ?_⟩) (by first | assumption | exact trivial) ?_
  · intro W hSW; obtain ⟨x0, x1, x2, x3, x4, x5, x6, x7, x8⟩ := rs_cells hSW.st; go_simp; try (with_reducible rfl)
  simp only [Act.put, List.getElem_toArray, List.getElem_cons_succ, List.getElem_cons_zero, List.setIfInBounds_toArray, List.set_cons_zero, List.set_cons_succ]
  refine wpAnyH_ready (rs := [10]) (by kernel_rfl) (by simp) ?_
  refine AllReadyH.cons rfl (fun K hK => ?_) AllReadyH.nil
  go_simp
  go_wp2_with (go_at_call 71; refine (HM.out _ S0.below).mono ?_; rintro e w5 ⟨vM, PM, rfl, m5, p5, b5⟩)
  have S5 := S0.go b5.out
  have r5 : w5.heap[w.heap.size + 1]? = some (.cells #[.int .i64 0, .int .i64 0, .slice none 0 0, .slice none 0 0, .slice none 0 0] 59 (0, 0)) := (b5.out.block _ (Array.getElem?_eq_some_iff.1 R3.out).1).trans R3.out
  have hlt : w.heap.size + 1 < W3.heap.size := (Array.getElem?_eq_some_iff.1 R3.out).1
  obtain ⟨A1, c1, rfl, _⟩ := m5.out.form
  refine hK.out _ _ (S5) (fun hHeld => ?_)
  clear hK K
  refine wpAnyH_take (i := 11) (v := .agg #[.int .i64 me, .int .i64 ep, .slice Au nu cu, .slice Al nl cl, .slice A1 PM.length c1]) rfl (by kernel_rfl) (by kernel_rfl) (by kernel_rfl) (fun _ _ _ h => h) (Or.inl ⟨by rfl, ?_⟩) (by first | assumption | exact trivial) ?_
  · intro W hSW; go_simp; try (with_reducible rfl)
  simp only [Act.put, List.getElem_toArray, List.getElem_cons_succ, List.getElem_cons_zero, List.setIfInBounds_toArray, List.set_cons_zero, List.set_cons_succ]
  refine wpAnyH_ready (rs := [12]) (by kernel_rfl) (by simp) ?_
  refine AllReadyH.cons rfl (fun K hK => ?_) AllReadyH.nil
  rw [if_pos (by kernel_rfl)]
  refine wp_store_row 59 (.tmp 2) (.tmp 14) rfl (w.heap.size + 1) #[.int .i64 me, .int .i64 ep, .slice Au nu cu, .slice Al nl cl, .slice A1 PM.length c1] rfl (by rfl) 59 _ r5 (by kernel_rfl) rfl (st_onev _ _ rfl rfl rfl) ?_
  simp only [Act.put, List.getElem_toArray, List.getElem_cons_succ, List.getElem_cons_zero, List.setIfInBounds_toArray, List.set_cons_zero, List.set_cons_succ]
  have S6 := S5.row #[.int .i64 me, .int .i64 ep, .slice Au nu cu, .slice Al nl cl, .slice A1 PM.length c1]
  have r6 := setRow_heap _ _ _ #[.int .i64 me, .int .i64 ep, .slice Au nu cu, .slice Al nl cl, .slice A1 PM.length c1] _ _ r5
  have m6 : Mw (w5.setRow (w.heap.size + 1) #[.int .i64 me, .int .i64 ep, .slice Au nu cu, .slice Al nl cl, .slice A1 PM.length c1]) w.heap.size (.slice A1 PM.length c1) PM := (mw_butP m5.out ((But.refl (fun k => k = w.heap.size + 1) w5).setRow (.inl rfl) _) fun k e => by rw [e]; exact hlt).base S0.below.size
  obtain ⟨V6, hV6⟩ : ∃ V, w5.setRow (w.heap.size + 1) #[.int .i64 me, .int .i64 ep, .slice Au nu cu, .slice Al nl cl, .slice A1 PM.length c1] = V := ⟨_, rfl⟩
  rw [hV6] at S6 r6 m6 ⊢
  clear hV6
  refine hK.out _ _ (S6) (fun hHeld => ?_)
  clear hK K
  refine wpAnyH_done (by kernel_rfl) ?_ _
  go_wp2
  exact Sb.ret_box (g := w.heap.size + 1) rfl (by rfl) r6 rfl Tryz.underlying59 (by kernel_rfl) rfl ⟨_, PM, rfl, m6, p5, S6.below⟩
theorem RState_s (Q : Nat → Prop) (w : World) (s : Sto) (K : Se.Ks) (vU vL vK : Value) (P : List Pq) (h : Hid (Rf Q w s K vU vL vK P)) (hK : K.length ≤ 900) : Calls Tryz.prog 38 #[.agg (rsv s vU vL vK)] w fun e w' => ∃ vM PM, e = .returned (.agg (stv s.self s.epoch vU vL vM)) ∧ Hid (Mw w' w.heap.size vM PM) ∧ Hid (PM.map Pm.m = Se.marksL K ∧ PM.length ≤ 900) ∧ Hid (Below w.heap.size w w') := by
  obtain ⟨o1, o2, o3⟩ := h.out.oneU
  have HM : ∀ W, Below w.heap.size w W → Calls Tryz.prog 71 #[.agg #[.int .i64 s.qg, vK]] W fun e w' => ∃ v' P, e = .returned v' ∧ Hid (Mw w' W.heap.size v' P) ∧ Hid (P.map Pm.m = Se.marksL K ∧ P.length ≤ 900) ∧ Hid (Below W.heap.size W w') := fun W hW => by
    refine (Se.RMarks_any Q s.qg vK K W (Lib.hid (h.out.kv.below hW)) hK).mono ?_
    rintro e w' ⟨v', P', rfl, h1, h2, h4, h3⟩
    exact ⟨v', P', rfl, h1.out.mw, ⟨h2, Nat.le_trans h4.1 hK⟩, h3⟩
  obtain ⟨Au, cu, rfl, _⟩ := h.out.un.form
  obtain ⟨Al, cl, rfl, _⟩ := h.out.ml.form
  exact rstate_any s.self s.qh s.qb s.qg s.epoch Au Al _ cu _ cl vK w (Se.marksL K) HM
end Go.Proofs.YtfnlhfelpdkieaaGreat.So
/- told: both stores tell the same. -/
namespace Go.Proofs.YtfnlhfelpdkieaaGreat.So
open Go.RowKit
open Go.Proofs.YtfnlhfelpdkieaaGreat.Me Go.Proofs.YtfnlhfelpdkieaaGreat.Sb
open Go.Proofs.YtfnlhfelpdkieaaGreat.Se (Mw Pm)
set_option linter.unusedVariables false
set_option linter.unusedSimpArgs false

theorem Held_l (M : Nat) (O : Nat → Prop) (w : World) (m D : Nat) (s : Sto) (h : Hid (Lv M O w m D s)) : Calls Tryz.prog 16 #[.pointer (some ⟨D, 0, none⟩)] w fun e w' => ∃ vh P, e = .returned vh ∧ Hid (Ow w' w.heap.size vh P) ∧ Hid (P.map Pq.x = s.held) ∧ Hid (Below w.heap.size w w') := by
  obtain ⟨hb, sd, sb, m', v, hm', h1, h2⟩ := h.out
  exact Held_any h1
theorem Epoch_l (M : Nat) (O : Nat → Prop) (w : World) (m D : Nat) (s : Sto) (h : Hid (Lv M O w m D s)) : Calls Tryz.prog 42 #[.pointer (some ⟨D, 0, none⟩)] w fun e w' => e = .returned (.int .i64 s.epoch) ∧ w = w' := by
  obtain ⟨hb, sd, sb, m', v, hm', h1, h2⟩ := h.out
  have q := h1.box.epoch
  clear h
  go_enter Tryz.func42, Tryz.ntmps42
  go_wp2
  go_ret
  exact ⟨rfl, rfl⟩
set_option maxRecDepth 100000 in
set_option maxHeartbeats 16000000 in
theorem told_ok (M : Nat) (O Q : Nat → Prop) (w : World) (m D : Nat) (s : Sto) (K : Se.Ks) (vU vL vK : Value) (P : List Pq) (hm : m ≤ 1000000) (h : Hid (Lv M O w m D s)) (hr : Hid (Rf Q w s K vU vL vK P)) (hK : K.length ≤ 900) : Calls Tryz.prog 14 #[.pointer (some ⟨D, 0, none⟩), .agg (rsv s vU vL vK)] w fun e w' => e = .returned (.bool true) ∧ Hid (Below w.heap.size w w') := by
  have hby : ∀ x ∈ s.held, ∀ z ∈ x.p, z < 256 := fun x hx => (h.out.ok.all x hx).2.2
  have hul : (usedTo s.last 64).length ≤ 1000 := by have := usedTo_len s.last 64; omega
  obtain ⟨l1, l2, l3⟩ := hr.out.len
  have HS : Hid (∀ W, Below w.heap.size w W → Calls Tryz.prog 17 #[.pointer (some ⟨D, 0, none⟩)] W fun e w' => ∃ vU1 vH vM PM, e = .returned (.agg (stv s.self s.epoch vU1 vH vM)) ∧ Hid (Kn w' 0 vU1 (usedTo s.last 64)) ∧ Hid (Ml w' vH s.held) ∧ Hid (Se.Mv w' vM PM) ∧ Hid (PM.map Pm.m = Se.marksL K) ∧ Hid (Below W.heap.size W w')) := fun W hW => by
    refine (State_l M O W m D s hm (Lib.hid (h.out.below hW))).mono ?_
    rintro e w' ⟨n, hn, vU1, vH, vM, PH, PM, L, rfl, k1, k2, k3, k4, k5, k6, k7⟩
    refine ⟨vU1, vH, vM, PM, rfl, k1.out.base (Nat.zero_le _), ?_, k4.out.mv, ?_, k7⟩
    · show Ml _ _ _
      rw [← k3.out]
      exact k2.out.read (by rw [k3.out]; exact hby)
    · exact k6.out.trans (hr.out.rel.marks k5.out)
  have HR : Hid (∀ W, Below w.heap.size w W → Calls Tryz.prog 38 #[.agg (rsv s vU vL vK)] W fun e w' => ∃ vM PM, e = .returned (.agg (stv s.self s.epoch vU vL vM)) ∧ Hid (Se.Mv w' vM PM) ∧ Hid (PM.map Pm.m = Se.marksL K ∧ PM.length ≤ 900) ∧ Hid (Below W.heap.size W w')) := fun W hW => by
    refine (RState_s Q W s K vU vL vK P (Lib.hid (hr.out.below hW)) hK).mono ?_
    rintro e w' ⟨vM, PM, rfl, k1, k2, k3⟩
    exact ⟨vM, PM, rfl, k1.out.mv, k2, k3⟩
  have hread : ∀ W, Below w.heap.size w W → Ml W vL s.held := fun W hW => by
    have := (hr.out.below hW).ml.read (by rw [hr.out.mp]; exact hby)
    rw [hr.out.mp] at this
    exact this
  have hlen : s.held.length ≤ 100000 := by omega
  have hkn : ∀ W, Below w.heap.size w W → Kn W 0 vU (usedTo s.last 64) := fun W hW => hr.out.un.below hW
  have HSS : Hid (∀ W vU1 vH vM PM vM2 PM2, Below w.heap.size w W → Kn W 0 vU1 (usedTo s.last 64) → Ml W vH s.held → Se.Mv W vM PM → PM.map Pm.m = Se.marksL K → Se.Mv W vM2 PM2 → PM2.map Pm.m = Se.marksL K ∧ PM2.length ≤ 900 → Calls Tryz.prog 22 #[.agg (stv s.self s.epoch vU1 vH vM), .agg (stv s.self s.epoch vU vL vM2)] W fun e w' => e = .returned (.bool true) ∧ Hid (Below W.heap.size W w')) := fun W vU1 vH vM PM vM2 PM2 hW k1 k2 k3 k4 k5 k6 =>
    SameState_eq s.self s.epoch vU1 vU vH vL vM vM2 (usedTo s.last 64) s.held PM PM2 W (Lib.hid k1) (Lib.hid (hkn W hW)) (Lib.hid k2) (Lib.hid (hread W hW)) (Lib.hid k3) (Lib.hid k5) (k4.trans k6.1.symm) hul hlen (by have q := congrArg List.length (k4.trans k6.1.symm); rw [List.length_map, List.length_map] at q; have := k6.2; omega)
  have HH : Hid (∀ W, Below w.heap.size w W → Calls Tryz.prog 16 #[.pointer (some ⟨D, 0, none⟩)] W fun e w' => ∃ vH, e = .returned vH ∧ Hid (Ml w' vH s.held) ∧ Hid (Below W.heap.size W w')) := fun W hW => by
    refine (Held_l M O W m D s (Lib.hid (h.out.below hW))).mono ?_
    rintro e w' ⟨vH, PH, rfl, k2, k3, k7⟩
    refine ⟨vH, rfl, ?_, k7⟩
    show Ml _ _ _
    rw [← k3.out]
    exact k2.out.read (by rw [k3.out]; exact hby)
  have HSA : Hid (∀ W vH, Below w.heap.size w W → Ml W vH s.held → Calls Tryz.prog 39 #[vH, vL] W fun e w' => e = .returned (.bool true) ∧ Hid (Below W.heap.size W w')) := fun W vH hW k => SameAll_eq vH vL s.held W (Lib.hid k) (Lib.hid (hread W hW)) hlen
  have HBy := Lib.hid (fun W (hW : Below w.heap.size w W) => Bytes_l M O W m D s (Lib.hid (h.out.below hW)))
  have HRB : Hid (∀ W, Below w.heap.size w W → Calls Tryz.prog 41 #[.agg (rsv s vU vL vK)] W fun e w' => e = .returned (.int .i64 (bytesOf s.held)) ∧ Hid (Below W.heap.size W w')) := fun W hW => by
    have := RBytes_any Q s.self s.qh s.qb s.qg s.epoch s.qg vU vK vL P W (hr.out.ml.below hW) (by omega) l3
    rw [hr.out.mp] at this
    exact this
  have HE := Lib.hid (fun W (hW : Below w.heap.size w W) => Epoch_l M O W m D s (Lib.hid (h.out.below hW)))
  simp only [rsv, rsc, stv] at HS HR HSS HRB ⊢
  obtain ⟨by_, hbe⟩ : ∃ x, bytesOf s.held = x := ⟨_, rfl⟩
  rw [hbe] at HBy HRB
  obtain ⟨W1, hW1⟩ : ∃ W, w.alloc (.cells #[.int .i64 s.self, .int .i64 s.qh, .int .i64 s.qb, .int .i64 s.qg, .int .i64 s.epoch, vU, vL, .int .i64 s.qg, vK] 37) = W := ⟨_, rfl⟩
  have s1 : As w #[.int .i64 s.self, .int .i64 s.qh, .int .i64 s.qb, .int .i64 s.qg, .int .i64 s.epoch, vU, vL, .int .i64 s.qg, vK] W1 := ⟨by rw [← hW1]; exact Me.below_alloc (Below.refl _ _), by rw [← hW1]; exact heap_alloc_new w _⟩
  have HW1 := Lib.hid hW1
  clear hW1 hbe hby hul l1 l2 l3 hread hlen hkn h hr
  go_enter Tryz.func14, Tryz.ntmps14
  go_wp2
  rw [HW1.out]
  have S0 := s1.drew
  refine wp_region_held_drew (S := fun W => As w #[.int .i64 s.self, .int .i64 s.qh, .int .i64 s.qb, .int .i64 s.qg, .int .i64 s.epoch, vU, vL, .int .i64 s.qg, vK] W) (by kernel_rfl) S0 (fun hHeld => ?_)
  refine wpAnyH_take (i := 0) (v := .pointer (some ⟨D, 0, none⟩)) rfl (by kernel_rfl) (by kernel_rfl) (by kernel_rfl) (fun _ _ _ h => h) (Or.inl ⟨by rfl, ?_⟩) (by first | assumption | exact trivial) ?_
  · intro W hSW; go_simp; try (with_reducible rfl)
  simp only [Act.put, List.getElem_toArray, List.getElem_cons_succ, List.getElem_cons_zero, List.setIfInBounds_toArray, List.set_cons_zero, List.set_cons_succ]
  refine wpAnyH_take (i := 2) (v := .agg #[.int .i64 s.self, .int .i64 s.qh, .int .i64 s.qb, .int .i64 s.qg, .int .i64 s.epoch, vU, vL, .int .i64 s.qg, vK]) rfl (by kernel_rfl) (by kernel_rfl) (by kernel_rfl) (fun _ _ _ h => h) (Or.inl ⟨by rfl, ?_⟩) (by first | assumption | exact trivial) ?_
  · intro W hSW; obtain ⟨x0, x1, x2, x3, x4, x5, x6, x7, x8⟩ := rs_cells hSW.st; go_simp; try (with_reducible rfl)
  simp only [Act.put, List.getElem_toArray, List.getElem_cons_succ, List.getElem_cons_zero, List.setIfInBounds_toArray, List.set_cons_zero, List.set_cons_succ]
  refine wpAnyH_ready (rs := [1]) (by kernel_rfl) (by simp) ?_
  refine AllReadyH.cons rfl (fun K hK => ?_) AllReadyH.nil
  go_simp
  go_wp2_with (go_at_call 17; refine (HS.out _ S0.below).mono ?_; rintro e w2 ⟨vU1, vH1, vM1, PM1, rfl, k1, k2, k3, k4, b2⟩)
  have S2 := S0.go b2.out
  refine hK.out _ _ (S2) (fun hHeld => ?_)
  clear hK K
  refine wpAnyH_ready (rs := [3]) (by kernel_rfl) (by simp) ?_
  refine AllReadyH.cons rfl (fun K hK => ?_) AllReadyH.nil
  go_simp
  go_wp2_with (go_at_call 38; refine (HR.out _ S2.below).mono ?_; rintro e w3 ⟨vM2, PM2, rfl, k5, k6, b3⟩)
  have S3 := S2.go b3.out
  refine hK.out _ _ (S3) (fun hHeld => ?_)
  clear hK K
  refine wpAnyH_ready (rs := [4]) (by kernel_rfl) (by simp) ?_
  refine AllReadyH.cons rfl (fun K hK => ?_) AllReadyH.nil
  go_simp
  go_wp2_with (go_at_call 22; refine (HSS.out _ vU1 vH1 vM1 PM1 vM2 PM2 S3.below (k1.out.below b3.out) (k2.out.below b3.out) (k3.out.below b3.out) k4.out k5.out k6.out).mono ?_; rintro e w4 ⟨rfl, b4⟩)
  have S4 := S3.go b4.out
  refine hK.out _ _ (S4) (fun hHeld => ?_)
  clear hK K
  refine wpAnyH_take (i := 5) (v := .bool true) rfl (by kernel_rfl) (by kernel_rfl) (by kernel_rfl) (fun _ _ _ h => h) (Or.inl ⟨by rfl, ?_⟩) (by first | assumption | exact trivial) ?_
  · intro W hSW; go_simp; try (with_reducible rfl)
  simp only [Act.put, List.getElem_toArray, List.getElem_cons_succ, List.getElem_cons_zero, List.setIfInBounds_toArray, List.set_cons_zero, List.set_cons_succ]
  refine wpAnyH_take (i := 6) (v := .pointer (some ⟨D, 0, none⟩)) rfl (by kernel_rfl) (by kernel_rfl) (by kernel_rfl) (fun _ _ _ h => h) (Or.inl ⟨by rfl, ?_⟩) (by first | assumption | exact trivial) ?_
  · intro W hSW; go_simp; try (with_reducible rfl)
  simp only [Act.put, List.getElem_toArray, List.getElem_cons_succ, List.getElem_cons_zero, List.setIfInBounds_toArray, List.set_cons_zero, List.set_cons_succ]
  refine wpAnyH_take (i := 8) (v := .pointer (some ⟨w.heap.size, 6, none⟩)) rfl (by kernel_rfl) (by kernel_rfl) (by kernel_rfl) (fun _ _ _ h => h) (Or.inl ⟨by rfl, ?_⟩) (by first | assumption | exact trivial) ?_
  · intro W hSW; go_simp; try (with_reducible rfl)
  simp only [Act.put, List.getElem_toArray, List.getElem_cons_succ, List.getElem_cons_zero, List.setIfInBounds_toArray, List.set_cons_zero, List.set_cons_succ]
  refine wpAnyH_take (i := 9) (v := vL) rfl (by kernel_rfl) (by kernel_rfl) (by kernel_rfl) (fun _ _ _ h => h) (Or.inl ⟨by rfl, ?_⟩) (by first | assumption | exact trivial) ?_
  · intro W hSW; obtain ⟨x0, x1, x2, x3, x4, x5, x6, x7, x8⟩ := rs_cells hSW.st; go_simp; try (with_reducible rfl)
  simp only [Act.put, List.getElem_toArray, List.getElem_cons_succ, List.getElem_cons_zero, List.setIfInBounds_toArray, List.set_cons_zero, List.set_cons_succ]
  refine wpAnyH_ready (rs := [7]) (by kernel_rfl) (by simp) ?_
  refine AllReadyH.cons rfl (fun K hK => ?_) AllReadyH.nil
  go_simp
  go_wp2_with (go_at_call 16; refine (HH.out _ S4.below).mono ?_; rintro e w5 ⟨vH5, rfl, q5, b5⟩)
  have S5 := S4.go b5.out
  refine hK.out _ _ (S5) (fun hHeld => ?_)
  clear hK K
  refine wpAnyH_ready (rs := [10]) (by kernel_rfl) (by simp) ?_
  refine AllReadyH.cons rfl (fun K hK => ?_) AllReadyH.nil
  go_simp
  go_wp2_with (go_at_call 39; refine (HSA.out _ vH5 S5.below q5.out).mono ?_; rintro e w6 ⟨rfl, b6⟩)
  have S6 := S5.go b6.out
  refine hK.out _ _ (S6) (fun hHeld => ?_)
  clear hK K
  refine wpAnyH_take (i := 11) (v := .bool true) rfl (by kernel_rfl) (by kernel_rfl) (by kernel_rfl) (fun _ _ _ h => h) (Or.inl ⟨by rfl, ?_⟩) (by first | assumption | exact trivial) ?_
  · intro W hSW; go_simp; try (with_reducible rfl)
  simp only [Act.put, List.getElem_toArray, List.getElem_cons_succ, List.getElem_cons_zero, List.setIfInBounds_toArray, List.set_cons_zero, List.set_cons_succ]
  refine wpAnyH_take (i := 12) (v := .bool true) rfl (by kernel_rfl) (by kernel_rfl) (by kernel_rfl) (fun _ _ _ h => h) (Or.inl ⟨by rfl, ?_⟩) (by first | assumption | exact trivial) ?_
  · intro W hSW; go_simp; try (with_reducible rfl)
  simp only [Act.put, List.getElem_toArray, List.getElem_cons_succ, List.getElem_cons_zero, List.setIfInBounds_toArray, List.set_cons_zero, List.set_cons_succ]
  refine wpAnyH_take (i := 13) (v := .pointer (some ⟨D, 0, none⟩)) rfl (by kernel_rfl) (by kernel_rfl) (by kernel_rfl) (fun _ _ _ h => h) (Or.inl ⟨by rfl, ?_⟩) (by first | assumption | exact trivial) ?_
  · intro W hSW; go_simp; try (with_reducible rfl)
  simp only [Act.put, List.getElem_toArray, List.getElem_cons_succ, List.getElem_cons_zero, List.setIfInBounds_toArray, List.set_cons_zero, List.set_cons_succ]
  refine wpAnyH_take (i := 15) (v := .agg #[.int .i64 s.self, .int .i64 s.qh, .int .i64 s.qb, .int .i64 s.qg, .int .i64 s.epoch, vU, vL, .int .i64 s.qg, vK]) rfl (by kernel_rfl) (by kernel_rfl) (by kernel_rfl) (fun _ _ _ h => h) (Or.inl ⟨by rfl, ?_⟩) (by first | assumption | exact trivial) ?_
  · intro W hSW; obtain ⟨x0, x1, x2, x3, x4, x5, x6, x7, x8⟩ := rs_cells hSW.st; go_simp; try (with_reducible rfl)
  simp only [Act.put, List.getElem_toArray, List.getElem_cons_succ, List.getElem_cons_zero, List.setIfInBounds_toArray, List.set_cons_zero, List.set_cons_succ]
  refine wpAnyH_ready (rs := [14]) (by kernel_rfl) (by simp) ?_
  refine AllReadyH.cons rfl (fun K hK => ?_) AllReadyH.nil
  go_simp
  go_wp2_with (go_at_call 40; refine (HBy.out _ S6.below).mono ?_; rintro e w7 ⟨rfl, rfl⟩)
  refine hK.out _ _ (S6) (fun hHeld => ?_)
  clear hK K
  refine wpAnyH_ready (rs := [16]) (by kernel_rfl) (by simp) ?_
  refine AllReadyH.cons rfl (fun K hK => ?_) AllReadyH.nil
  go_simp
  go_wp2_with (go_at_call 41; refine (HRB.out _ S6.below).mono ?_; rintro e w8 ⟨rfl, b8⟩)
  have S8 := S6.go b8.out
  refine hK.out _ _ (S8) (fun hHeld => ?_)
  clear hK K
  refine wpAnyH_take (i := 17) (v := .bool true) rfl (by kernel_rfl) (by kernel_rfl) (by kernel_rfl) (fun _ _ _ h => h) (Or.inl ⟨by rfl, ?_⟩) (by first | assumption | exact trivial) ?_
  · intro W hSW; go_simp; try (with_reducible rfl)
  simp only [Act.put, List.getElem_toArray, List.getElem_cons_succ, List.getElem_cons_zero, List.setIfInBounds_toArray, List.set_cons_zero, List.set_cons_succ]
  refine wpAnyH_take (i := 18) (v := .bool true) rfl (by kernel_rfl) (by kernel_rfl) (by kernel_rfl) (fun _ _ _ h => h) (Or.inl ⟨by rfl, ?_⟩) (by first | assumption | exact trivial) ?_
  · intro W hSW; go_simp; try (with_reducible rfl)
  simp only [Act.put, List.getElem_toArray, List.getElem_cons_succ, List.getElem_cons_zero, List.setIfInBounds_toArray, List.set_cons_zero, List.set_cons_succ]
  refine wpAnyH_take (i := 19) (v := .bool true) rfl (by kernel_rfl) (by kernel_rfl) (by kernel_rfl) (fun _ _ _ h => h) (Or.inl ⟨by rfl, ?_⟩) (by first | assumption | exact trivial) ?_
  · intro W hSW; go_simp; try (with_reducible rfl)
  simp only [Act.put, List.getElem_toArray, List.getElem_cons_succ, List.getElem_cons_zero, List.setIfInBounds_toArray, List.set_cons_zero, List.set_cons_succ]
  refine wpAnyH_take (i := 20) (v := .pointer (some ⟨D, 0, none⟩)) rfl (by kernel_rfl) (by kernel_rfl) (by kernel_rfl) (fun _ _ _ h => h) (Or.inl ⟨by rfl, ?_⟩) (by first | assumption | exact trivial) ?_
  · intro W hSW; go_simp; try (with_reducible rfl)
  simp only [Act.put, List.getElem_toArray, List.getElem_cons_succ, List.getElem_cons_zero, List.setIfInBounds_toArray, List.set_cons_zero, List.set_cons_succ]
  refine wpAnyH_take (i := 22) (v := .pointer (some ⟨w.heap.size, 4, none⟩)) rfl (by kernel_rfl) (by kernel_rfl) (by kernel_rfl) (fun _ _ _ h => h) (Or.inl ⟨by rfl, ?_⟩) (by first | assumption | exact trivial) ?_
  · intro W hSW; go_simp; try (with_reducible rfl)
  simp only [Act.put, List.getElem_toArray, List.getElem_cons_succ, List.getElem_cons_zero, List.setIfInBounds_toArray, List.set_cons_zero, List.set_cons_succ]
  refine wpAnyH_take (i := 23) (v := .int .i64 s.epoch) rfl (by kernel_rfl) (by kernel_rfl) (by kernel_rfl) (fun _ _ _ h => h) (Or.inl ⟨by rfl, ?_⟩) (by first | assumption | exact trivial) ?_
  · intro W hSW; obtain ⟨x0, x1, x2, x3, x4, x5, x6, x7, x8⟩ := rs_cells hSW.st; go_simp; try (with_reducible rfl)
  simp only [Act.put, List.getElem_toArray, List.getElem_cons_succ, List.getElem_cons_zero, List.setIfInBounds_toArray, List.set_cons_zero, List.set_cons_succ]
  refine wpAnyH_ready (rs := [21]) (by kernel_rfl) (by simp) ?_
  refine AllReadyH.cons rfl (fun K hK => ?_) AllReadyH.nil
  go_simp
  go_wp2_with (go_at_call 42; refine (HE.out _ S8.below).mono ?_; rintro e w9 ⟨rfl, rfl⟩)
  refine hK.out _ _ (S8) (fun hHeld => ?_)
  clear hK K
  refine wpAnyH_take (i := 24) (v := .bool true) rfl (by kernel_rfl) (by kernel_rfl) (by kernel_rfl) (fun _ _ _ h => h) (Or.inl ⟨by rfl, ?_⟩) (by first | assumption | exact trivial) ?_
  · intro W hSW; go_simp; try (with_reducible rfl)
  simp only [Act.put, List.getElem_toArray, List.getElem_cons_succ, List.getElem_cons_zero, List.setIfInBounds_toArray, List.set_cons_zero, List.set_cons_succ]
  refine wpAnyH_take (i := 25) (v := .bool true) rfl (by kernel_rfl) (by kernel_rfl) (by kernel_rfl) (fun _ _ _ h => h) (Or.inl ⟨by rfl, ?_⟩) (by first | assumption | exact trivial) ?_
  · intro W hSW; go_simp; try (with_reducible rfl)
  simp only [Act.put, List.getElem_toArray, List.getElem_cons_succ, List.getElem_cons_zero, List.setIfInBounds_toArray, List.set_cons_zero, List.set_cons_succ]
  refine wpAnyH_take (i := 26) (v := .bool true) rfl (by kernel_rfl) (by kernel_rfl) (by kernel_rfl) (fun _ _ _ h => h) (Or.inl ⟨by rfl, ?_⟩) (by first | assumption | exact trivial) ?_
  · intro W hSW; go_simp; try (with_reducible rfl)
  simp only [Act.put, List.getElem_toArray, List.getElem_cons_succ, List.getElem_cons_zero, List.setIfInBounds_toArray, List.set_cons_zero, List.set_cons_succ]
  refine wpAnyH_done (by kernel_rfl) ?_ _
  go_wp2
  go_ret
  exact ⟨rfl, S8.below⟩
end Go.Proofs.YtfnlhfelpdkieaaGreat.So
