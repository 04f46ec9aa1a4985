/- The law's own question 'is what was held there?' is answered true. -/
import Derived.Test.YtpofdimagfldnaaSoLv
import Derived.Lib.SlBytesConst
namespace Go.Proofs.Ytpofdimagfldnaa.So
open Go.RowKit
open Go.Proofs.Ytpofdimagfldnaa.Me Go.Proofs.Ytpofdimagfldnaa.Sb
set_option linter.unusedVariables false
set_option linter.unusedSimpArgs false

theorem quota_any (w : World) : Calls Try.prog 17 #[] w fun e w' => e = .returned (.agg #[.int .i64 256, .int .i64 1048576, .int .i64 256]) ∧ Hid (Below w.heap.size w w') := by
  have HR := Lib.hid (heap_alloc_new w (.cells #[.int .i64 256, .int .i64 1048576, .int .i64 256] 23))
  have HB : Hid (Below w.heap.size w (w.alloc (.cells #[.int .i64 256, .int .i64 1048576, .int .i64 256] 23))) := Me.below_alloc (Below.refl _ _)
  go_enter Try.func17, Try.ntmps17
  go_wp2
  exact Sb.ret_box (g := w.heap.size) rfl (by rfl) HR.out rfl Try.underlying23 (by kernel_rfl) rfl ⟨rfl, HB.out⟩
def wk0 : Sto := new0 1 256 1048576 256
def wkI : Mg.Id4 := ⟨1, 2, 1, 1⟩
def wk1 : Sto := appE wk0 1 zeroI []
def wk2 : Sto := appE wk1 2 wkI [97]
theorem wk_a : mayE wk0 1 zeroI 0 = 0 := by decide
theorem wk_b : frN wk1 2 = 0 := by decide
theorem wk_c : frI wk1 2 = wkI := by decide
theorem wk_d : mayE wk1 2 wkI 1 = 0 := by decide
theorem wk_e : findH wk2.held wkI = some [97] := by decide
theorem wk_ok : NewOk 1 256 1048576 256 := ⟨by decide, by decide, by decide, by decide, by decide, by decide, by decide, by decide⟩
theorem conv_held {W : World} {B g c : Nat} (o : Obj) (h : Me.Own W B (.slice (some ⟨g, 0, none⟩) 1 c) [97]) : (convert 44 9 (.slice (some ⟨g, 0, none⟩) 1 c)).run Try.prog (W.alloc o) = .ok (.string ⟨#[97]⟩) (W.alloc o) := by
  obtain ⟨A', c', e, h1, h2, h3⟩ := h.held (by decide)
  simp only [Value.slice.injEq] at e
  obtain ⟨rfl, _, rfl⟩ := e
  have hr := h3.rd.below (Me.below_alloc (o := o) (Below.refl W.heap.size W))
  exact conv_rd (W.alloc o) W.heap.size (some ⟨g, 0, none⟩) [97] c hr fun e => by cases e
set_option maxRecDepth 100000 in
set_option maxHeartbeats 16000000 in
theorem awake_any (w : World) : Calls Try.prog 9 #[] w fun e w' => e = .returned (.bool true) ∧ Hid (Below w.heap.size w w') := by
  have HQ := Lib.hid (fun W => quota_any W)
  have HN : Hid (∀ W, w.heap.size ≤ W.heap.size → Calls Try.prog 20 #[.int .i64 1, .agg #[.int .i64 256, .int .i64 1048576, .int .i64 256]] W fun e w' => ∃ D, e = .returned (.tuple #[.pointer (some ⟨D, 0, none⟩), .int .i64 0]) ∧ Hid (Lv w.heap.size (fun _ => False) w' 0 D wk0) ∧ Hid (Below W.heap.size W w')) := fun W hW => New_l w.heap.size (fun _ => False) 1 256 1048576 256 wk_ok W hW fun _ h => h.elim
  have HA : Hid (∀ D W, Lv w.heap.size (fun _ => False) W 0 D wk0 → w.heap.size ≤ W.heap.size → Calls Try.prog 19 #[.pointer (some ⟨D, 0, none⟩), .agg #[.int .i64 1, .int .i64 0, .int .i64 0, .int .i64 0, .int .i64 0, .slice none 0 0]] W fun e w' => e = .returned (.int .i64 0) ∧ Hid (Lv w.heap.size (fun _ => False) w' 1 D wk1) ∧ Hid (But (Out w.heap.size (fun _ => False)) W w')) := fun D W h hW => by
    have := Apply_l w.heap.size (fun _ => False) W 0 D wk0 1 zeroI none 0 [] (by omega) ⟨by simp, by simp⟩ (fun _ => ⟨rfl, rfl⟩) hW (fun _ h => h.elim) h
    rw [show mayE wk0 1 zeroI ([] : List Nat).length = 0 from wk_a] at this
    exact this
  have HF : Hid (∀ D W, Lv w.heap.size (fun _ => False) W 1 D wk1 → Calls Try.prog 10 #[.pointer (some ⟨D, 0, none⟩), .int .i64 2] W fun e w' => e = .returned (.tuple #[.agg #[.int .i64 1, .int .i64 2, .int .i64 1, .int .i64 1], .int .i64 0]) ∧ Hid (Below W.heap.size W w')) := fun D W h => by
    have := Fresh_l w.heap.size (fun _ => False) W 1 D wk1 2 h
    rw [wk_b, wk_c] at this
    exact this
  have HH : Hid (∀ D W (X : Nat) (g : Nat) (c : Nat), Lv w.heap.size (fun k => k = X) W 1 D wk1 → w.heap.size ≤ W.heap.size → X < W.heap.size → Rd W W.heap.size (some ⟨g, 0, none⟩) [97] → Calls Try.prog 19 #[.pointer (some ⟨D, 0, none⟩), .agg #[.int .i64 2, .int .i64 1, .int .i64 2, .int .i64 1, .int .i64 1, .slice (some ⟨g, 0, none⟩) 1 c]] W fun e w' => e = .returned (.int .i64 0) ∧ Hid (Lv w.heap.size (fun k => k = X) w' 2 D wk2) ∧ Hid (But (Out w.heap.size (fun k => k = X)) W w')) := fun D W X g c h hW hX hr => by
    have := Apply_l w.heap.size (fun k => k = X) W 1 D wk1 2 wkI (some ⟨g, 0, none⟩) c [97] (by omega) hr (fun e => by cases e) hW (fun k e => by omega) h
    rw [show mayE wk1 2 wkI ([97] : List Nat).length = 0 from wk_d] at this
    exact this
  have HFi : Hid (∀ D W (X : Nat), Lv w.heap.size (fun k => k = X) W 2 D wk2 → Calls Try.prog 12 #[.pointer (some ⟨D, 0, none⟩), .agg #[.int .i64 1, .int .i64 2, .int .i64 1, .int .i64 1]] W fun e w' => Hid (Below W.heap.size W w') ∧ ∃ g c, e = .returned (.tuple #[.agg #[.int .i64 1, .int .i64 2, .int .i64 1, .int .i64 1, .slice (some ⟨g, 0, none⟩) 1 c], .bool true]) ∧ Hid (Me.Own w' W.heap.size (.slice (some ⟨g, 0, none⟩) 1 c) [97])) := fun D W X h => (Find_l w.heap.size (fun k => k = X) W 2 D wk2 wkI (fit_right (Mg.right_iff.1 (by decide))) h).mono fun e w' hf => by
    unfold FndP at hf
    obtain ⟨hb, hf | ⟨p, hp, A, c, he, ho⟩⟩ := hf
    · rw [wk_e] at hf; exact absurd hf.1 (by simp)
    · rw [wk_e] at hp
      cases hp
      rcases ho.out.2 with ⟨h1, _⟩ | ⟨g, cap, cur, h1, _⟩
      · cases h1
      · injection h1 with h2 _ _
        subst h2
        exact ⟨hb, g, c, he, ho⟩
  have kc := fun (w : World) (C : Array Value) (n c : Nat) => Lib.run_convert_bytes_const (P := Try.prog) w 44 5 C n c Try.underlying44 Try.underlying5
  go_enter Try.func9, Try.ntmps9
  go_wp2_with (first
    | (go_at_call 17; refine (HQ.out _).mono ?_; rintro e w1 ⟨rfl, b1⟩)
    | (go_at_call 20; refine (HN.out w1 b1.out.size).mono ?_; rintro e w2 ⟨D, rfl, l2, b2⟩; have k2 := Lib.hid (go_on b1.out b2.out))
    | (go_at_call 19; (with_reducible refine (HA.out D w2 l2.out k2.out.size).mono ?_); rintro e w3 ⟨rfl, l3, b3⟩; have k3 := Lib.hid (k2.out.trans (but_out b3.out k2.out.size)))
    | (go_at_call 10; refine (HF.out D w3 l3.out).mono ?_; rintro e w4 ⟨rfl, b4⟩; have kc1 := kc (w4.alloc (.cells #[.int .i64 1, .int .i64 2, .int .i64 1, .int .i64 1] 28)) #[.int .u8 97] 1 1; rw [World.size_alloc] at kc1))
  have k4 := Lib.hid (go_on k3.out b4.out)
  have l4 := Lib.hid (l3.out.below b4.out)
  obtain ⟨V, hV⟩ : ∃ V, (w4.alloc (.cells #[.int .i64 1, .int .i64 2, .int .i64 1, .int .i64 1] 28)).alloc (.cells #[.int .u8 97] 5 (1, 2)) = V := ⟨_, rfl⟩
  have hb1 : Below w4.heap.size w4 (w4.alloc (.cells #[.int .i64 1, .int .i64 2, .int .i64 1, .int .i64 1] 28)) := Me.below_alloc (Below.refl _ _)
  have hbV : Below w4.heap.size w4 V := by rw [← hV]; exact Me.below_alloc hb1
  have hxV : V.heap[w4.heap.size]? = some (.cells #[.int .i64 1, .int .i64 2, .int .i64 1, .int .i64 1] 28 (0, 0)) := by
    rw [← hV]
    exact ((Me.below_alloc (Below.refl (w4.alloc (.cells #[.int .i64 1, .int .i64 2, .int .i64 1, .int .i64 1] 28)).heap.size _)).block _ (by simp)).trans (heap_alloc_new w4 _)
  have hrV : Rd V V.heap.size (some ⟨w4.heap.size + 1, 0, none⟩) [97] := by
    rw [← hV]
    have := Me.rd_lit (w := w4.alloc (.cells #[.int .i64 1, .int .i64 2, .int .i64 1, .int .i64 1] 28)) (r := [97]) (by decide) 5 (1, 2)
    rw [show w4.heap.size + 1 = (w4.alloc (.cells #[.int .i64 1, .int .i64 2, .int .i64 1, .int .i64 1] 28)).heap.size from (World.size_alloc ..).symm]
    exact Rd.more this (by simp)
  have lV : Lv w.heap.size (fun k => k = w4.heap.size) V 1 D wk1 := (l4.out.other fun k hk e => by omega).below hbV
  rw [hV]
  have kV := go_on k4.out hbV
  have hXl := (Array.getElem?_eq_some_iff.1 hxV).1
  go_at_call 19
  refine (HH.out D V w4.heap.size (w4.heap.size + 1) 1 lV kV.size hXl hrV).mono ?_
  rintro e w5 ⟨rfl, l5, b5⟩
  have hx5 := Lib.hid (b5.out.at_ hxV (fun h => h.2 rfl))
  have k5 := Lib.hid (kV.trans (but_out b5.out kV.size))
  obtain ⟨X, hX⟩ : ∃ X, w4.heap.size = X := ⟨_, rfl⟩
  rw [hX] at hx5 l5 ⊢
  obtain ⟨y0, y1, y2, y3⟩ := id_cells hx5.out
  clear hV hb1 hbV hxV hrV lV kV hXl hX kc1 b5 l4 k4 b4 l3 k3 b3 HQ HN HA HF HH
  go_wp2_with (go_at_call 12; refine (HFi.out D w5 X l5.out).mono ?_; rintro e w6 ⟨b6, g, c, rfl, ho6⟩; have hx6 := Lib.hid ((b6.out.block X (Array.getElem?_eq_some_iff.1 hx5.out).1).trans hx5.out); have hcv := conv_held (.cells #[.int .i64 1, .int .i64 2, .int .i64 1, .int .i64 1, .slice (some ⟨g, 0, none⟩) 1 c] 46) ho6.out; obtain ⟨y0, y1, y2, y3⟩ := id_cells hx6.out; have hne6 : ¬ X = w6.heap.size := (fun e => by have := (Array.getElem?_eq_some_iff.1 hx6.out).1; omega); obtain ⟨v0, v1, v2, v3⟩ := id_cells (((Me.below_alloc (o := .cells #[.int .i64 1, .int .i64 2, .int .i64 1, .int .i64 1, .slice (some ⟨g, 0, none⟩) 1 c] 46) (Below.refl w6.heap.size w6)).block X (Array.getElem?_eq_some_iff.1 hx6.out).1).trans hx6.out))
  go_ret
  exact ⟨rfl, go_on (go_on k5.out b6.out) (Me.below_alloc (Below.refl _ _))⟩
end Go.Proofs.Ytpofdimagfldnaa.So
