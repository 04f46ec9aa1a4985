/- The law's own question 'is what was held there?' is answered true. -/
import Derived.Test.YtpofdimagfldnaaZ13
import Derived.Test.YtpofdimagfldnaaZ14
import Derived.Test.YtpofdimagfldnaaZ16
import Derived.Test.YtpofdimagfldnaaZ19
import Derived.Lib.SlBytesConst
namespace Go.Proofs.Ytpofdimagfldnaa.So
open Go.RowKit
open Go.Proofs.Ytpofdimagfldnaa.Me Go.Proofs.Ytpofdimagfldnaa.Sb
set_option linter.unusedVariables false
set_option linter.unusedSimpArgs false

theorem quota_any (w : World) : Calls Try.prog 17 #[] w fun e w' => e = .returned (.agg #[.int .i64 256, .int .i64 1048576, .int .i64 256]) ∧ Hid (Below w.heap.size w w') := by
  have HR := Lib.hid (heap_alloc_new w (.cells #[.int .i64 256, .int .i64 1048576, .int .i64 256] 23))
  have HB : Hid (Below w.heap.size w (w.alloc (.cells #[.int .i64 256, .int .i64 1048576, .int .i64 256] 23))) := Me.below_alloc (Below.refl _ _)
  go_enter Try.func17, Try.ntmps17
  go_wp2
  exact Sb.ret_box (g := w.heap.size) rfl (by rfl) HR.out rfl Try.underlying23 (by kernel_rfl) rfl ⟨rfl, HB.out⟩
def wk0 : Sto := new0 1 256 1048576 256
def wkI : Mg.Id4 := ⟨1, 2, 1, 1⟩
def wk1 : Sto := appE wk0 1 zeroI []
def wk2 : Sto := appE wk1 2 wkI [97]
theorem wk_a : mayE wk0 1 zeroI 0 = 0 := by decide
theorem wk_b : frN wk1 2 = 0 := by decide
theorem wk_c : frI wk1 2 = wkI := by decide
theorem wk_d : mayE wk1 2 wkI 1 = 0 := by decide
theorem wk_e : findH wk2.held wkI = some [97] := by decide
theorem wk_ok : NewOk 1 256 1048576 256 := ⟨by decide, by decide, by decide, by decide, by decide, by decide, by decide, by decide⟩
theorem conv_held {W : World} {B g c : Nat} (o : Obj) (h : Me.Own W B (.slice (some ⟨g, 0, none⟩) 1 c) [97]) : (convert 44 9 (.slice (some ⟨g, 0, none⟩) 1 c)).run Try.prog (W.alloc o) = .ok (.string ⟨#[97]⟩) (W.alloc o) := by
  obtain ⟨A', c', e, h1, h2, h3⟩ := h.held (by decide)
  simp only [Value.slice.injEq] at e
  obtain ⟨rfl, _, rfl⟩ := e
  have hr := h3.rd.below (Me.below_alloc (o := o) (Below.refl W.heap.size W))
  exact conv_rd (W.alloc o) W.heap.size (some ⟨g, 0, none⟩) [97] c hr fun e => by cases e
set_option maxRecDepth 100000 in
set_option maxHeartbeats 16000000 in
theorem awake_any (w : World) : Calls Try.prog 9 #[] w fun e w' => e = .returned (.bool true) ∧ Hid (Below w.heap.size w w') := by
  have HQ := Lib.hid (fun W => quota_any W)
  have HN : Hid (∀ W, w.heap.size ≤ W.heap.size → Calls Try.prog 20 #[.int .i64 1, .agg #[.int .i64 256, .int .i64 1048576, .int .i64 256]] W fun e w' => ∃ D, e = .returned (.tuple #[.pointer (some ⟨D, 0, none⟩), .int .i64 0]) ∧ Hid (Lv w.heap.size (fun _ => False) w' 0 D wk0) ∧ Hid (Below W.heap.size W w')) := fun W hW => New_l w.heap.size (fun _ => False) 1 256 1048576 256 wk_ok W hW fun _ h => h.elim
  have HA : Hid (∀ D W, Lv w.heap.size (fun _ => False) W 0 D wk0 → w.heap.size ≤ W.heap.size → Calls Try.prog 19 #[.pointer (some ⟨D, 0, none⟩), .agg #[.int .i64 1, .int .i64 0, .int .i64 0, .int .i64 0, .int .i64 0, .slice none 0 0]] W fun e w' => e = .returned (.int .i64 0) ∧ Hid (Lv w.heap.size (fun _ => False) w' 1 D wk1) ∧ Hid (But (Out w.heap.size (fun _ => False)) W w')) := fun D W h hW => by
    have := Apply_l w.heap.size (fun _ => False) W 0 D wk0 1 zeroI none 0 [] (by omega) ⟨by simp, by simp⟩ (fun _ => ⟨rfl, rfl⟩) hW (fun _ h => h.elim) h
    rw [show mayE wk0 1 zeroI ([] : List Nat).length = 0 from wk_a] at this
    exact this
  have HF : Hid (∀ D W, Lv w.heap.size (fun _ => False) W 1 D wk1 → Calls Try.prog 10 #[.pointer (some ⟨D, 0, none⟩), .int .i64 2] W fun e w' => e = .returned (.tuple #[.agg #[.int .i64 1, .int .i64 2, .int .i64 1, .int .i64 1], .int .i64 0]) ∧ Hid (Below W.heap.size W w')) := fun D W h => by
    have := Fresh_l w.heap.size (fun _ => False) W 1 D wk1 2 h
    rw [wk_b, wk_c] at this
    exact this
  have HH : Hid (∀ D W (X : Nat) (g : Nat) (c : Nat), Lv w.heap.size (fun k => k = X) W 1 D wk1 → w.heap.size ≤ W.heap.size → X < W.heap.size → Rd W W.heap.size (some ⟨g, 0, none⟩) [97] → Calls Try.prog 19 #[.pointer (some ⟨D, 0, none⟩), .agg #[.int .i64 2, .int .i64 1, .int .i64 2, .int .i64 1, .int .i64 1, .slice (some ⟨g, 0, none⟩) 1 c]] W fun e w' => e = .returned (.int .i64 0) ∧ Hid (Lv w.heap.size (fun k => k = X) w' 2 D wk2) ∧ Hid (But (Out w.heap.size (fun k => k = X)) W w')) := fun D W X g c h hW hX hr => by
    have := Apply_l w.heap.size (fun k => k = X) W 1 D wk1 2 wkI (some ⟨g, 0, none⟩) c [97] (by omega) hr (fun e => by cases e) hW (fun k e => by omega) h
    rw [show mayE wk1 2 wkI ([97] : List Nat).length = 0 from wk_d] at this
    exact this
  have HFi : Hid (∀ D W (X : Nat), Lv w.heap.size (fun k => k = X) W 2 D wk2 → Calls Try.prog 12 #[.pointer (some ⟨D, 0, none⟩), .agg #[.int .i64 1, .int .i64 2, .int .i64 1, .int .i64 1]] W fun e w' => Hid (Below W.heap.size W w') ∧ ∃ g c, e = .returned (.tuple #[.agg #[.int .i64 1, .int .i64 2, .int .i64 1, .int .i64 1, .slice (some ⟨g, 0, none⟩) 1 c], .bool true]) ∧ Hid (Me.Own w' W.heap.size (.slice (some ⟨g, 0, none⟩) 1 c) [97])) := fun D W X h => (Find_l w.heap.size (fun k => k = X) W 2 D wk2 wkI (fit_right (Mg.right_iff.1 (by decide))) h).mono fun e w' hf => by
    unfold FndP at hf
    obtain ⟨hb, hf | ⟨p, hp, A, c, he, ho⟩⟩ := hf
    · rw [wk_e] at hf; exact absurd hf.1 (by simp)
    · rw [wk_e] at hp
      cases hp
      rcases ho.out.2 with ⟨h1, _⟩ | ⟨g, cap, cur, h1, _⟩
      · cases h1
      · injection h1 with h2 _ _
        subst h2
        exact ⟨hb, g, c, he, ho⟩
  have kc := fun (w : World) (C : Array Value) (n c : Nat) => Lib.run_convert_bytes_const (P := Try.prog) w 44 5 C n c Try.underlying44 Try.underlying5
  go_enter Try.func9, Try.ntmps9
  go_wp2_with (first
    | (go_at_call 17; refine (HQ.out _).mono ?_; rintro e w1 ⟨rfl, b1⟩)
    | (go_at_call 20; refine (HN.out w1 b1.out.size).mono ?_; rintro e w2 ⟨D, rfl, l2, b2⟩; have k2 := Lib.hid (go_on b1.out b2.out))
    | (go_at_call 19; (with_reducible refine (HA.out D w2 l2.out k2.out.size).mono ?_); rintro e w3 ⟨rfl, l3, b3⟩; have k3 := Lib.hid (k2.out.trans (but_out b3.out k2.out.size)))
    | (go_at_call 10; refine (HF.out D w3 l3.out).mono ?_; rintro e w4 ⟨rfl, b4⟩; have kc1 := kc (w4.alloc (.cells #[.int .i64 1, .int .i64 2, .int .i64 1, .int .i64 1] 28)) #[.int .u8 97] 1 1; rw [World.size_alloc] at kc1))
  have k4 := Lib.hid (go_on k3.out b4.out)
  have l4 := Lib.hid (l3.out.below b4.out)
  obtain ⟨V, hV⟩ : ∃ V, (w4.alloc (.cells #[.int .i64 1, .int .i64 2, .int .i64 1, .int .i64 1] 28)).alloc (.cells #[.int .u8 97] 5 (1, 2)) = V := ⟨_, rfl⟩
  have hb1 : Below w4.heap.size w4 (w4.alloc (.cells #[.int .i64 1, .int .i64 2, .int .i64 1, .int .i64 1] 28)) := Me.below_alloc (Below.refl _ _)
  have hbV : Below w4.heap.size w4 V := by rw [← hV]; exact Me.below_alloc hb1
  have hxV : V.heap[w4.heap.size]? = some (.cells #[.int .i64 1, .int .i64 2, .int .i64 1, .int .i64 1] 28 (0, 0)) := by
    rw [← hV]
    exact ((Me.below_alloc (Below.refl (w4.alloc (.cells #[.int .i64 1, .int .i64 2, .int .i64 1, .int .i64 1] 28)).heap.size _)).block _ (by simp)).trans (heap_alloc_new w4 _)
  have hrV : Rd V V.heap.size (some ⟨w4.heap.size + 1, 0, none⟩) [97] := by
    rw [← hV]
    have := Me.rd_lit (w := w4.alloc (.cells #[.int .i64 1, .int .i64 2, .int .i64 1, .int .i64 1] 28)) (r := [97]) (by decide) 5 (1, 2)
    rw [show w4.heap.size + 1 = (w4.alloc (.cells #[.int .i64 1, .int .i64 2, .int .i64 1, .int .i64 1] 28)).heap.size from (World.size_alloc ..).symm]
    exact Rd.more this (by simp)
  have lV : Lv w.heap.size (fun k => k = w4.heap.size) V 1 D wk1 := (l4.out.other fun k hk e => by omega).below hbV
  rw [hV]
  have kV := go_on k4.out hbV
  have hXl := (Array.getElem?_eq_some_iff.1 hxV).1
  go_at_call 19
  refine (HH.out D V w4.heap.size (w4.heap.size + 1) 1 lV kV.size hXl hrV).mono ?_
  rintro e w5 ⟨rfl, l5, b5⟩
  have hx5 := Lib.hid (b5.out.at_ hxV (fun h => h.2 rfl))
  have k5 := Lib.hid (kV.trans (but_out b5.out kV.size))
  obtain ⟨X, hX⟩ : ∃ X, w4.heap.size = X := ⟨_, rfl⟩
  rw [hX] at hx5 l5 ⊢
  obtain ⟨y0, y1, y2, y3⟩ := id_cells hx5.out
  clear hV hb1 hbV hxV hrV lV kV hXl hX kc1 b5 l4 k4 b4 l3 k3 b3 HQ HN HA HF HH
  go_wp2_with (go_at_call 12; refine (HFi.out D w5 X l5.out).mono ?_; rintro e w6 ⟨b6, g, c, rfl, ho6⟩; have hx6 := Lib.hid ((b6.out.block X (Array.getElem?_eq_some_iff.1 hx5.out).1).trans hx5.out); have hcv := conv_held (.cells #[.int .i64 1, .int .i64 2, .int .i64 1, .int .i64 1, .slice (some ⟨g, 0, none⟩) 1 c] 46) ho6.out; obtain ⟨y0, y1, y2, y3⟩ := id_cells hx6.out; have hne6 : ¬ X = w6.heap.size := (fun e => by have := (Array.getElem?_eq_some_iff.1 hx6.out).1; omega); obtain ⟨v0, v1, v2, v3⟩ := id_cells (((Me.below_alloc (o := .cells #[.int .i64 1, .int .i64 2, .int .i64 1, .int .i64 1, .slice (some ⟨g, 0, none⟩) 1 c] 46) (Below.refl w6.heap.size w6)).block X (Array.getElem?_eq_some_iff.1 hx6.out).1).trans hx6.out))
  go_ret
  exact ⟨rfl, go_on (go_on k5.out b6.out) (Me.below_alloc (Below.refl _ _))⟩
end Go.Proofs.Ytpofdimagfldnaa.So
/- The law StoreQuotas. -/
namespace Go.Proofs.Ytpofdimagfldnaa.So
open Go.RowKit
open Go.Proofs.Ytpofdimagfldnaa.Me Go.Proofs.Ytpofdimagfldnaa.Sb
open Go.Proofs.Ytpofdimagfldnaa.Se (Mw Pm Pls mrOf Ord)
set_option linter.unusedVariables false
set_option linter.unusedSimpArgs false

theorem State_l (M : Nat) (O : Nat → Prop) (w : World) (m D : Nat) (s : Sto) (hm : m ≤ 1000000) (h : Hid (Lv M O w m D s)) : Calls Try.prog 22 #[.pointer (some ⟨D, 0, none⟩)] w fun e w' => ∃ n, n ≤ m ∧ StT s n w e w' := by
  obtain ⟨hb, sd, sb, m', v, hm', h1, h2⟩ := h.out
  exact (State_any (by omega) h1).mono fun e w' q => ⟨_, hm', q⟩
theorem Bytes_l (M : Nat) (O : Nat → Prop) (w : World) (m D : Nat) (s : Sto) (h : Hid (Lv M O w m D s)) : Calls Try.prog 23 #[.pointer (some ⟨D, 0, none⟩)] w fun e w' => e = .returned (.int .i64 (bytesOf s.held)) ∧ w = w' := by
  obtain ⟨hb, sd, sb, m', v, hm', h1, h2⟩ := h.out
  have q := h1.box.byt
  clear h
  go_enter Try.func23, Try.ntmps23
  go_wp2
  go_ret
  exact ⟨rfl, rfl⟩
theorem state_cells {W : World} {D : Nat} {a b : Int} {x y z : Value} (h : W.heap[D]? = some (.cells #[.int .i64 a, .int .i64 b, x, y, z] 68 (0, 0))) : W.cell? ⟨D, 0, none⟩ = some (.int .i64 a) ∧ W.cell? ⟨D, 1, none⟩ = some (.int .i64 b) ∧ W.cell? ⟨D, 2, none⟩ = some x ∧ W.cell? ⟨D, 3, none⟩ = some y ∧ W.cell? ⟨D, 4, none⟩ = some z := by
  refine ⟨?_, ?_, ?_, ?_, ?_⟩
  all_goals
    rw [cell_of_row _ D _ _ _ (0, 0) h]
    rfl
section
variable (me qh qb qg : Int) (w : World)
set_option maxRecDepth 100000 in
set_option maxHeartbeats 16000000 in
theorem storeQuotas_no (v1 : Value) (h : ¬ NewOk me qh qb qg) : Calls Try.prog 5 #[.agg #[.int .i64 me, .int .i64 qh, .int .i64 qb, .int .i64 qg], v1] w fun e w' => e = .returned (.bool true) ∧ Below w.heap.size w w' := by
  have HN := Lib.hid (fun W => New_no me qh qb qg h W)
  have HR := Lib.hid (fun W => RNew_no me qh qb qg W h)
  have HAw := Lib.hid (fun W => awake_any W)
  unfold rs0 at HR
  have HX : Hid ((w.alloc (.cells #[.int .i64 me, .int .i64 qh, .int .i64 qb, .int .i64 qg] 25)).heap[w.heap.size]? = some (.cells #[.int .i64 me, .int .i64 qh, .int .i64 qb, .int .i64 qg] 25 (0, 0))) := heap_alloc_new w _
  have HB : Hid (Below w.heap.size w (w.alloc (.cells #[.int .i64 me, .int .i64 qh, .int .i64 qb, .int .i64 qg] 25))) := Me.below_alloc (Below.refl _ _)
  obtain ⟨x0, x1, x2, x3⟩ := set_cells HX.out
  clear h
  go_enter Try.func5, Try.ntmps5
  go_wp2_with (first
    | (go_at_call 20; refine (HN.out _).mono ?_; rintro e w1 ⟨rfl, b1⟩; have HX1 := Lib.hid ((b1.out.block _ (Array.getElem?_eq_some_iff.1 HX.out).1).trans HX.out); obtain ⟨y0, y1, y2, y3⟩ := set_cells HX1.out)
    | (go_at_call 21; refine (HR.out _).mono ?_; rintro e w2 ⟨rfl, b2⟩; have HB2 := Lib.hid (go_on (go_on HB.out b1.out) b2.out))
    | (go_at_call 9; refine (HAw.out _).mono ?_; rintro e w3 ⟨rfl, b3⟩))
  go_ret
  exact ⟨rfl, go_on (go_on HB2.out (Me.below_alloc (Below.refl _ _))) b3.out⟩
set_option maxRecDepth 100000 in
set_option maxHeartbeats 32000000 in
theorem storeQuotas_ok (A1 : Option Addr) (len1 cap1 : Nat) (ls : List Evt) (h : NewOk me qh qb qg) (w1 : len1 = ls.length ∧ len1 ≤ cap1 ∧ cap1 ≤ 9223372036854775807 ∧ Evs w A1 ls) : Calls Try.prog 5 #[.agg #[.int .i64 me, .int .i64 qh, .int .i64 qb, .int .i64 qg], .slice A1 len1 cap1] w fun e w' => e = .returned (.bool true) ∧ Below w.heap.size w w' := by
  obtain ⟨rfl, hc1, hc2, hev⟩ := w1
  obtain ⟨L, hL⟩ : ∃ L, (ls.take 50).length = L := ⟨_, rfl⟩
  have hL50 : L ≤ 50 ∧ L ≤ ls.length := by rw [← hL, List.length_take]; omega
  have HCut := Lib.hid (fun W => cut_any A1 cap1 ls W hc1 hc2 L hL)
  obtain ⟨n1, hn1⟩ : ∃ n, ls.length = n := ⟨_, rfl⟩
  have HAw := Lib.hid (fun W => awake_any W)
  have HE : Hid (∀ j, j < L → ∀ W, Below w.heap.size w W → ∃ b off R cr, A1 = some ⟨b, off, none⟩ ∧ W.cell? ⟨b, off + j * 6, none⟩ = some (.int .i64 (evAt ls j).k) ∧ W.cell? ⟨b, off + j * 6 + 1, none⟩ = some (.int .i64 (evAt ls j).i.o) ∧
    W.cell? ⟨b, off + j * 6 + 2, none⟩ = some (.int .i64 (evAt ls j).i.d) ∧ W.cell? ⟨b, off + j * 6 + 3, none⟩ = some (.int .i64 (evAt ls j).i.e) ∧ W.cell? ⟨b, off + j * 6 + 4, none⟩ = some (.int .i64 (evAt ls j).i.c) ∧
    W.cell? ⟨b, off + j * 6 + 5, none⟩ = some (.slice R (evAt ls j).p.length cr) ∧ Me.Rd W W.heap.size R (evAt ls j).p ∧ (R = none → (evAt ls j).p.length = 0 ∧ cr = 0)) := fun j hj W hW => by
    obtain ⟨b, off, R, cr, e1, e2, c0, c1, c2, c3, c4, c5, g1, g2, g3, g4⟩ := hev.below hW j (by omega)
    exact ⟨b, off, R, cr, e1, c0, c1, c2, c3, c4, c5, g3, g4⟩
  obtain ⟨V0, hV0⟩ : ∃ V, w.alloc (.cells #[.int .i64 me, .int .i64 qh, .int .i64 qb, .int .i64 qg] 25) = V := ⟨_, rfl⟩
  have HX : Hid (V0.heap[w.heap.size]? = some (.cells #[.int .i64 me, .int .i64 qh, .int .i64 qb, .int .i64 qg] 25 (0, 0))) := by rw [← hV0]; exact heap_alloc_new w _
  have HB : Hid (Below w.heap.size w V0) := by rw [← hV0]; exact Me.below_alloc (Below.refl _ _)
  have HN := Lib.hid (fun W (hW : V0.heap.size ≤ W.heap.size) => New_l V0.heap.size (fun _ => False) me qh qb qg h W hW fun k hk => hk.elim)
  have HV0 := Lib.hid hV0
  have x := set_cells HX.out
  rw [← hV0] at x
  obtain ⟨x0, x1, x2, x3⟩ := x
  have hqh := h.h1
  have hqb := h.b1
  have hqg := h.g1
  rw [hn1] at HCut hL50 ⊢
  clear h hc1 hc2 hev hL hn1 hV0
  go_enter Try.func5, Try.ntmps5
  go_wp2_with (first
    | (go_at_call 20; rw [HV0.out]; refine (HN.out V0 (Nat.le_refl _)).mono ?_; rintro e w2 ⟨D, rfl, l2, b2⟩)
    | (go_at_call 18; refine (HCut.out _).mono ?_; rintro e w3 ⟨rfl, rfl⟩))
  clear x0 x1 x2 x3 HN HCut
  go_loopw [9] (fun v9 wr => ∃ (j : Nat) (s : Sto) (m : Nat), v9 = .int .i64 (j : Int) ∧ j ≤ L ∧ Hid (m ≤ j) ∧ Hid (Lv V0.heap.size (fun _ => False) wr m D s) ∧ Hid (s.qh = qh ∧ s.qb = qb ∧ s.qg = qg) ∧ Hid (Below V0.heap.size V0 wr)) (fun v9 _ => L - (intOf v9).toNat)
  case atStart => exact ⟨0, _, 0, rfl, Nat.zero_le _, Nat.le_refl _, l2, ⟨rfl, rfl, rfl⟩, b2⟩
  case round =>
    obtain ⟨j, s, m, rfl, hj, Hm, HL, HQ, HBr⟩ := hrel
    by_cases hjL : j < L
    · have hjL1 : (j : Int) < (L : Int) := by omega
      obtain ⟨b, off, R, cr, rfl, c0, c1, c2, c3, c4, c5, g3, g4⟩ := HE.out j hjL wr (go_on HB.out HBr.out)
      obtain ⟨⟨ek, ⟨eo, ed, ee, ec⟩, ep⟩, hq⟩ : ∃ q, evAt ls j = q := ⟨_, rfl⟩
      rw [hq] at c0 c1 c2 c3 c4 c5 g3 g4
      simp only at c0 c1 c2 c3 c4 c5 g3 g4
      have hm1 : m + 1 ≤ 1000000 := by have := Hm.out; omega
      have HAp := Lib.hid (Apply_l V0.heap.size (fun _ => False) wr m D s ek ⟨eo, ed, ee, ec⟩ R cr ep (by omega) g3 g4 HBr.out.size (fun k e => e.elim) HL)
      have HQ3 : Hid ((appE s ek ⟨eo, ed, ee, ec⟩ ep).qh = qh ∧ (appE s ek ⟨eo, ed, ee, ec⟩ ep).qb = qb ∧ (appE s ek ⟨eo, ed, ee, ec⟩ ep).qg = qg) := by
        obtain ⟨q1, q2, q3⟩ := appE_q s ek ⟨eo, ed, ee, ec⟩ ep
        exact ⟨q1.trans HQ.out.1, q2.trans HQ.out.2.1, q3.trans HQ.out.2.2⟩
      obtain ⟨en, hen⟩ : ∃ n, ep.length = n := ⟨_, rfl⟩
      rw [hen] at HAp c5
      simp only [evC] at HAp
      obtain ⟨mN, hmN⟩ : ∃ n, mayE s ek ⟨eo, ed, ee, ec⟩ en = n := ⟨_, rfl⟩
      obtain ⟨s3, hs3⟩ : ∃ n, appE s ek ⟨eo, ed, ee, ec⟩ ep = n := ⟨_, rfl⟩
      rw [hmN, hs3] at HAp
      rw [hs3] at HQ3
      have HSt := Lib.hid (fun W hl => State_l V0.heap.size (fun _ => False) W (m + 1) D s3 hm1 hl)
      have HBy := Lib.hid (fun W hl => Bytes_l V0.heap.size (fun _ => False) W (m + 1) D s3 hl)
      unfold StT at HSt
      clear hq g3 g4 hen hmN hs3 hm1
      go_wp2_with (first
        | (go_at_call 19; (with_reducible refine HAp.out.mono ?_); rintro e w3 ⟨rfl, l3, b3⟩)
        | (go_at_call 22; (with_reducible refine (HSt.out w3 l3).mono ?_); rintro e w4 ⟨n4, hn4, vU, vH, vM, PH, PM, LM, rfl, kU, oH, pH, mM, oM, pM, b4⟩; obtain ⟨aU, cU, rfl, _⟩ := kU.out.form; obtain ⟨aH, cH, rfl, _⟩ := oH.out.form; obtain ⟨aM, cM, rfl, _⟩ := mM.out.form))
      have hok := l3.out.ok
      have hnM0 : PM.length ≤ 1000 := by
        have h1 := congrArg List.length pM.out
        rw [List.length_map, List.length_map] at h1
        have h2 := oM.out.le
        have h3 := Hm.out
        omega
      have hG : (((PM.map fun q => q.m.more.length).sum : Nat) : Int) = s3.seen.gaps := gaps_sum hok.sok oM.out pM.out
      have hBt : bytesOf s3.held = ((PH.map fun q => q.x.p.length).sum : Nat) := by rw [← pH.out]; exact bytes_sum PH
      have hH : (PH.length : Int) ≤ qh := by
        have h1 := hok.len
        rw [← pH.out, List.length_map, HQ3.out.1] at h1
        exact h1
      have hGq : s3.seen.gaps ≤ qg := by
        have h1 := hok.sok.g1
        rw [hok.room, HQ3.out.2.2] at h1
        exact h1
      have hBq : bytesOf s3.held ≤ qb := by
        have h1 := hok.byt
        rw [HQ3.out.2.1] at h1
        exact h1
      obtain ⟨nU, hnU⟩ : ∃ n, (usedTo s3.last 64).length = n := ⟨_, rfl⟩
      obtain ⟨nH, hnH⟩ : ∃ n, PH.length = n := ⟨_, rfl⟩
      obtain ⟨nM, hnM⟩ : ∃ n, PM.length = n := ⟨_, rfl⟩
      have HAH : Hid (∀ k, k < nH → ∃ g q, aH = some ⟨g, 0, none⟩ ∧ PH[k]? = some q ∧ ∀ W, Below w4.heap.size w4 W → W.cell? ⟨g, k * 5 + 4, none⟩ = some q.v) := fun k hk => by
        have hx : PH[k]? = some (PH[k]'(by omega)) := List.getElem?_eq_getElem (by omega)
        obtain ⟨g, e1, e2, e3, e4⟩ := oH.out.at_ hx
        exact ⟨g, _, e1, hx, fun W hW => (e4 W (hW.block g e3)).2.2.2.2.1⟩
      have HAM : Hid (∀ k, k < nM → ∃ g q, aM = some ⟨g, 0, none⟩ ∧ PM[k]? = some q ∧ ∀ W, Below w4.heap.size w4 W → W.cell? ⟨g, k * 4 + 3, none⟩ = some q.v) := fun k hk => by
        have hx : PM[k]? = some (PM[k]'(by omega)) := List.getElem?_eq_getElem (by omega)
        obtain ⟨g, e1, e2, e3, e4⟩ := mM.out.at_ hx
        exact ⟨g, _, e1, hx, fun W hW => (e4 W (hW.block g e3)).2.2.2.1⟩
      rw [hnU, hnH, hnM]
      obtain ⟨V5, hV5⟩ : ∃ x, w4.alloc (.cells #[.int .i64 s3.self, .int .i64 s3.epoch, .slice aU nU cU, .slice aH nH cH, .slice aM nM cM] 68) = x := ⟨_, rfl⟩
      have hb5 : Below w4.heap.size w4 V5 := by rw [← hV5]; exact Me.below_alloc (Below.refl _ _)
      have hX5 : V5.heap[w4.heap.size]? = some (.cells #[.int .i64 s3.self, .int .i64 s3.epoch, .slice aU nU cU, .slice aH nH cH, .slice aM nM cM] 68 (0, 0)) := by rw [← hV5]; exact heap_alloc_new w4 _
      have HB5 := Lib.hid hb5
      have hB5 : Below V0.heap.size V0 V5 := go_on (go_on (HBr.out.trans (but_out b3.out HBr.out.size)) b4.out) hb5
      have HBV := Lib.hid hB5
      have L5 := Lib.hid ((l3.out.below b4.out).below hb5)
      obtain ⟨z0, z1, z2, z3, z4⟩ := state_cells hX5
      have hS5 := (hB5.block w.heap.size (Array.getElem?_eq_some_iff.1 HX.out).1).trans HX.out
      obtain ⟨x0, x1, x2, x3⟩ := set_cells hS5
      rw [hV5]
      obtain ⟨X, hXX⟩ : ∃ x, w4.heap.size = x := ⟨_, rfl⟩
      rw [hXX] at z0 z1 z2 z3 z4 ⊢
      obtain ⟨GT, hGT⟩ : ∃ x, (PM.map fun q => q.m.more.length).sum = x := ⟨_, rfl⟩
      obtain ⟨BT, hBT⟩ : ∃ x, (PH.map fun q => q.x.p.length).sum = x := ⟨_, rfl⟩
      have hGT1 : (GT : Int) ≤ 256 := by rw [← hGT]; omega
      have hBT1 : (BT : Int) ≤ 1048576 := by rw [← hBT]; omega
      have HnM : Hid (nM ≤ 1000) := by show _ ≤ _; rw [← hnM]; exact hnM0
      have HnH : Hid (nH ≤ 1000) := by show _ ≤ _; rw [← hnH]; omega
      have HGq : Hid (¬ (qg < (GT : Int))) := by show ¬ _; rw [← hGT]; omega
      have HBq : Hid (¬ (qb < (BT : Int))) := by show ¬ _; rw [← hBT]; omega
      have HHq : Hid (¬ (qh < (nH : Int))) := by show ¬ _; rw [← hnH]; omega
      have HBB : Hid (bytesOf s3.held = (BT : Int)) := by show _ = _; rw [hBt, hBT]
      have HGN : Hid (∀ k, natS (fun q : Pm => q.m.more.length) PM k ≤ GT) := fun k => by rw [← hGT]; exact natS_le _ PM k
      have HBN : Hid (∀ k, natS (fun q : Pq => q.x.p.length) PH k ≤ BT) := fun k => by rw [← hBT]; exact natS_le _ PH k
      have HGA : Hid (natS (fun q : Pm => q.m.more.length) PM nM = GT) := by show _ = _; rw [← hGT, ← hnM]; exact natS_all _ PM
      have HBA : Hid (natS (fun q : Pq => q.x.p.length) PH nH = BT) := by show _ = _; rw [← hBT, ← hnH]; exact natS_all _ PH
      have HG1 := Lib.hid hGT1
      have HB1 := Lib.hid hBT1
      clear hnM0 hn4 hok hG hBt hH hGq hBq hV5 hb5 hX5 hB5 hS5 hXX hGT hBT hGT1 hBT1 hnU hnH hnM kU oH pH mM oM pM b4 HSt HAp c0 c1 c2 c3 c4 c5 hqh hqb hqg HL HQ HBr
      go_loopw [11, 12] (fun v11 v12 wq => ∃ k : Nat, v12 = .int .i64 (k : Int) ∧ k ≤ nM ∧ v11 = .int .i64 ((natS (fun q : Pm => q.m.more.length) PM k : Nat) : Int) ∧ V5 = wq) (fun _ v12 _ => nM - (intOf v12).toNat)
      case atStart => exact ⟨0, rfl, Nat.zero_le _, by rw [natS_zero]; rfl, rfl⟩
      case round =>
        obtain ⟨k, rfl, hk, rfl, rfl⟩ := hrel
        by_cases hlt : k < nM
        · obtain ⟨g, q, rfl, hq, hc⟩ := HAM.out k hlt
          have q0 := hc V5 HB5.out
          have hsu := natS_succ (f := fun q : Pm => q.m.more.length) hq
          have hle := HGN.out (k + 1)
          have hg256 := HG1.out
          rw [hsu] at hle
          unfold Pm.v at q0
          try simp only at hsu hle
          obtain ⟨y, hy⟩ : ∃ y, q.m.more.length = y := ⟨_, rfl⟩
          rw [hy] at q0 hsu hle
          obtain ⟨G0, hG0⟩ : ∃ y, natS (fun q : Pm => q.m.more.length) PM k = y := ⟨_, rfl⟩
          rw [hG0] at hsu hle ⊢
          have HSU := Lib.hid hsu
          have g1 : (k : Int) < (nM : Int) := by omega
          have g2 : (k : Int) < 1000 := by have := HnM.out; omega
          have hwr : wrap64 ((G0 : Int) + (y : Int)) = ((G0 + y : Nat) : Int) := by unfold wrap64; omega
          clear hc hq hsu hle hg256 hy hG0
          go_wp2
          go_roundw
          case rel => exact ⟨k + 1, by go_num, by omega, by rw [HSU.out, hwr], trivial⟩
          case measure => simp [intOf]; omega
        · obtain rfl : k = nM := by omega
          rw [HGA.out]
          clear HAM
          go_wp2
          go_loopw [13, 14] (fun v13 v14 wq => ∃ k : Nat, v14 = .int .i64 (k : Int) ∧ k ≤ nH ∧ v13 = .int .i64 ((natS (fun q : Pq => q.x.p.length) PH k : Nat) : Int) ∧ V5 = wq) (fun _ v14 _ => nH - (intOf v14).toNat)
          case atStart => exact ⟨0, rfl, Nat.zero_le _, by rw [natS_zero]; rfl, rfl⟩
          case round =>
            obtain ⟨k2, rfl, hk2, rfl, rfl⟩ := hrel
            by_cases hlt2 : k2 < nH
            · obtain ⟨g, q, rfl, hq, hc⟩ := HAH.out k2 hlt2
              have q0 := hc V5 HB5.out
              have hsu := natS_succ (f := fun q : Pq => q.x.p.length) hq
              have hle := HBN.out (k2 + 1)
              have hg256 := HB1.out
              rw [hsu] at hle
              unfold Pq.v at q0
              try simp only at hsu hle
              obtain ⟨y, hy⟩ : ∃ y, q.x.p.length = y := ⟨_, rfl⟩
              rw [hy] at q0 hsu hle
              obtain ⟨G0, hG0⟩ : ∃ y, natS (fun q : Pq => q.x.p.length) PH k2 = y := ⟨_, rfl⟩
              rw [hG0] at hsu hle ⊢
              have HSU := Lib.hid hsu
              have g1 : (k2 : Int) < (nH : Int) := by omega
              have g2 : (k2 : Int) < 1000 := by have := HnH.out; omega
              have hwr : wrap64 ((G0 : Int) + (y : Int)) = ((G0 + y : Nat) : Int) := by unfold wrap64; omega
              clear hc hq hsu hle hg256 hy hG0
              go_wp2
              go_roundw
              case rel => exact ⟨k2 + 1, by go_num, by omega, by rw [HSU.out, hwr], trivial⟩
              case measure => simp [intOf]; omega
            · obtain rfl : k2 = nH := by omega
              rw [HBA.out]
              clear HAH
              have hBY := HBy.out V5 L5
              rw [HBB.out] at hBY
              have HBY := Lib.hid hBY
              have h1 := HHq.out
              have h2 := HBq.out
              have h3 := HGq.out
              clear hBY HBB HBy
              go_wp2_with (go_at_call 23; (with_reducible refine HBY.out.mono ?_); rintro e w6 ⟨rfl, rfl⟩)
              go_roundw
              case rel => exact ⟨j + 1, s3, m + 1, by go_num, by omega, (by have := Hm.out; show m + 1 ≤ _; omega), L5, HQ3, HBV⟩
              case measure => simp [intOf]; omega
    · have hjL1 : ¬ (j : Int) < (L : Int) := by omega
      go_wp2_with (go_at_call 9; refine (HAw.out _).mono ?_; rintro e w9 ⟨rfl, b9⟩)
      go_ret
      exact ⟨rfl, go_on (go_on HB.out HBr.out) b9.out⟩
end
theorem storeQuotas (me qh qb qg : Int) (A1 : Option Addr) (len1 cap1 : Nat) (ls : List Evt) (w : World) (w1 : len1 = ls.length ∧ len1 ≤ cap1 ∧ cap1 ≤ 9223372036854775807 ∧ Evs w A1 ls) : Calls Try.prog 5 #[.agg #[.int .i64 me, .int .i64 qh, .int .i64 qb, .int .i64 qg], .slice A1 len1 cap1] w fun e w' => e = .returned (.bool true) ∧ Below w.heap.size w w' := by
  by_cases h : NewOk me qh qb qg
  · exact storeQuotas_ok me qh qb qg w A1 len1 cap1 ls h w1
  · exact storeQuotas_no me qh qb qg w _ h
end Go.Proofs.Ytpofdimagfldnaa.So
