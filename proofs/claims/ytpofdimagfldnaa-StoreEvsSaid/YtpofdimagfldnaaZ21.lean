/- The law's own question 'is what was held there?' is answered true. -/
import Derived.Test.YtpofdimagfldnaaZ20
import Derived.Test.YtpofdimagfldnaaSoEvL0
import Derived.Lib.SlBytesConst
namespace Go.Proofs.Ytpofdimagfldnaa.So
open Go.RowKit
open Go.Proofs.Ytpofdimagfldnaa.Me Go.Proofs.Ytpofdimagfldnaa.Sb
set_option linter.unusedVariables false
set_option linter.unusedSimpArgs false

theorem quota_any (w : World) : Calls Try.prog 17 #[] w fun e w' => e = .returned (.agg #[.int .i64 256, .int .i64 1048576, .int .i64 256]) ∧ Hid (Below w.heap.size w w') := by
  have HR := Lib.hid (heap_alloc_new w (.cells #[.int .i64 256, .int .i64 1048576, .int .i64 256] 23))
  have HB : Hid (Below w.heap.size w (w.alloc (.cells #[.int .i64 256, .int .i64 1048576, .int .i64 256] 23))) := Me.below_alloc (Below.refl _ _)
  go_enter Try.func17, Try.ntmps17
  go_wp2
  exact Sb.ret_box (g := w.heap.size) rfl (by rfl) HR.out rfl Try.underlying23 (by kernel_rfl) rfl ⟨rfl, HB.out⟩
def wk0 : Sto := new0 1 256 1048576 256
def wkI : Mg.Id4 := ⟨1, 2, 1, 1⟩
def wk1 : Sto := appE wk0 1 zeroI []
def wk2 : Sto := appE wk1 2 wkI [97]
theorem wk_a : mayE wk0 1 zeroI 0 = 0 := by decide
theorem wk_b : frN wk1 2 = 0 := by decide
theorem wk_c : frI wk1 2 = wkI := by decide
theorem wk_d : mayE wk1 2 wkI 1 = 0 := by decide
theorem wk_e : findH wk2.held wkI = some [97] := by decide
theorem wk_ok : NewOk 1 256 1048576 256 := ⟨by decide, by decide, by decide, by decide, by decide, by decide, by decide, by decide⟩
theorem conv_held {W : World} {B g c : Nat} (o : Obj) (h : Me.Own W B (.slice (some ⟨g, 0, none⟩) 1 c) [97]) : (convert 44 9 (.slice (some ⟨g, 0, none⟩) 1 c)).run Try.prog (W.alloc o) = .ok (.string ⟨#[97]⟩) (W.alloc o) := by
  obtain ⟨A', c', e, h1, h2, h3⟩ := h.held (by decide)
  simp only [Value.slice.injEq] at e
  obtain ⟨rfl, _, rfl⟩ := e
  have hr := h3.rd.below (Me.below_alloc (o := o) (Below.refl W.heap.size W))
  exact conv_rd (W.alloc o) W.heap.size (some ⟨g, 0, none⟩) [97] c hr fun e => by cases e
set_option maxRecDepth 100000 in
set_option maxHeartbeats 16000000 in
theorem awake_any (w : World) : Calls Try.prog 9 #[] w fun e w' => e = .returned (.bool true) ∧ Hid (Below w.heap.size w w') := by
  have HQ := Lib.hid (fun W => quota_any W)
  have HN : Hid (∀ W, w.heap.size ≤ W.heap.size → Calls Try.prog 20 #[.int .i64 1, .agg #[.int .i64 256, .int .i64 1048576, .int .i64 256]] W fun e w' => ∃ D, e = .returned (.tuple #[.pointer (some ⟨D, 0, none⟩), .int .i64 0]) ∧ Hid (Lv w.heap.size (fun _ => False) w' 0 D wk0) ∧ Hid (Below W.heap.size W w')) := fun W hW => New_l w.heap.size (fun _ => False) 1 256 1048576 256 wk_ok W hW fun _ h => h.elim
  have HA : Hid (∀ D W, Lv w.heap.size (fun _ => False) W 0 D wk0 → w.heap.size ≤ W.heap.size → Calls Try.prog 19 #[.pointer (some ⟨D, 0, none⟩), .agg #[.int .i64 1, .int .i64 0, .int .i64 0, .int .i64 0, .int .i64 0, .slice none 0 0]] W fun e w' => e = .returned (.int .i64 0) ∧ Hid (Lv w.heap.size (fun _ => False) w' 1 D wk1) ∧ Hid (But (Out w.heap.size (fun _ => False)) W w')) := fun D W h hW => by
    have := Apply_l w.heap.size (fun _ => False) W 0 D wk0 1 zeroI none 0 [] (by omega) ⟨by simp, by simp⟩ (fun _ => ⟨rfl, rfl⟩) hW (fun _ h => h.elim) h
    rw [show mayE wk0 1 zeroI ([] : List Nat).length = 0 from wk_a] at this
    exact this
  have HF : Hid (∀ D W, Lv w.heap.size (fun _ => False) W 1 D wk1 → Calls Try.prog 10 #[.pointer (some ⟨D, 0, none⟩), .int .i64 2] W fun e w' => e = .returned (.tuple #[.agg #[.int .i64 1, .int .i64 2, .int .i64 1, .int .i64 1], .int .i64 0]) ∧ Hid (Below W.heap.size W w')) := fun D W h => by
    have := Fresh_l w.heap.size (fun _ => False) W 1 D wk1 2 h
    rw [wk_b, wk_c] at this
    exact this
  have HH : Hid (∀ D W (X : Nat) (g : Nat) (c : Nat), Lv w.heap.size (fun k => k = X) W 1 D wk1 → w.heap.size ≤ W.heap.size → X < W.heap.size → Rd W W.heap.size (some ⟨g, 0, none⟩) [97] → Calls Try.prog 19 #[.pointer (some ⟨D, 0, none⟩), .agg #[.int .i64 2, .int .i64 1, .int .i64 2, .int .i64 1, .int .i64 1, .slice (some ⟨g, 0, none⟩) 1 c]] W fun e w' => e = .returned (.int .i64 0) ∧ Hid (Lv w.heap.size (fun k => k = X) w' 2 D wk2) ∧ Hid (But (Out w.heap.size (fun k => k = X)) W w')) := fun D W X g c h hW hX hr => by
    have := Apply_l w.heap.size (fun k => k = X) W 1 D wk1 2 wkI (some ⟨g, 0, none⟩) c [97] (by omega) hr (fun e => by cases e) hW (fun k e => by omega) h
    rw [show mayE wk1 2 wkI ([97] : List Nat).length = 0 from wk_d] at this
    exact this
  have HFi : Hid (∀ D W (X : Nat), Lv w.heap.size (fun k => k = X) W 2 D wk2 → Calls Try.prog 12 #[.pointer (some ⟨D, 0, none⟩), .agg #[.int .i64 1, .int .i64 2, .int .i64 1, .int .i64 1]] W fun e w' => Hid (Below W.heap.size W w') ∧ ∃ g c, e = .returned (.tuple #[.agg #[.int .i64 1, .int .i64 2, .int .i64 1, .int .i64 1, .slice (some ⟨g, 0, none⟩) 1 c], .bool true]) ∧ Hid (Me.Own w' W.heap.size (.slice (some ⟨g, 0, none⟩) 1 c) [97])) := fun D W X h => (Find_l w.heap.size (fun k => k = X) W 2 D wk2 wkI (fit_right (Mg.right_iff.1 (by decide))) h).mono fun e w' hf => by
    unfold FndP at hf
    obtain ⟨hb, hf | ⟨p, hp, A, c, he, ho⟩⟩ := hf
    · rw [wk_e] at hf; exact absurd hf.1 (by simp)
    · rw [wk_e] at hp
      cases hp
      rcases ho.out.2 with ⟨h1, _⟩ | ⟨g, cap, cur, h1, _⟩
      · cases h1
      · injection h1 with h2 _ _
        subst h2
        exact ⟨hb, g, c, he, ho⟩
  have kc := fun (w : World) (C : Array Value) (n c : Nat) => Lib.run_convert_bytes_const (P := Try.prog) w 44 5 C n c Try.underlying44 Try.underlying5
  go_enter Try.func9, Try.ntmps9
  go_wp2_with (first
    | (go_at_call 17; refine (HQ.out _).mono ?_; rintro e w1 ⟨rfl, b1⟩)
    | (go_at_call 20; refine (HN.out w1 b1.out.size).mono ?_; rintro e w2 ⟨D, rfl, l2, b2⟩; have k2 := Lib.hid (go_on b1.out b2.out))
    | (go_at_call 19; (with_reducible refine (HA.out D w2 l2.out k2.out.size).mono ?_); rintro e w3 ⟨rfl, l3, b3⟩; have k3 := Lib.hid (k2.out.trans (but_out b3.out k2.out.size)))
    | (go_at_call 10; refine (HF.out D w3 l3.out).mono ?_; rintro e w4 ⟨rfl, b4⟩; have kc1 := kc (w4.alloc (.cells #[.int .i64 1, .int .i64 2, .int .i64 1, .int .i64 1] 28)) #[.int .u8 97] 1 1; rw [World.size_alloc] at kc1))
  have k4 := Lib.hid (go_on k3.out b4.out)
  have l4 := Lib.hid (l3.out.below b4.out)
  obtain ⟨V, hV⟩ : ∃ V, (w4.alloc (.cells #[.int .i64 1, .int .i64 2, .int .i64 1, .int .i64 1] 28)).alloc (.cells #[.int .u8 97] 5 (1, 2)) = V := ⟨_, rfl⟩
  have hb1 : Below w4.heap.size w4 (w4.alloc (.cells #[.int .i64 1, .int .i64 2, .int .i64 1, .int .i64 1] 28)) := Me.below_alloc (Below.refl _ _)
  have hbV : Below w4.heap.size w4 V := by rw [← hV]; exact Me.below_alloc hb1
  have hxV : V.heap[w4.heap.size]? = some (.cells #[.int .i64 1, .int .i64 2, .int .i64 1, .int .i64 1] 28 (0, 0)) := by
    rw [← hV]
    exact ((Me.below_alloc (Below.refl (w4.alloc (.cells #[.int .i64 1, .int .i64 2, .int .i64 1, .int .i64 1] 28)).heap.size _)).block _ (by simp)).trans (heap_alloc_new w4 _)
  have hrV : Rd V V.heap.size (some ⟨w4.heap.size + 1, 0, none⟩) [97] := by
    rw [← hV]
    have := Me.rd_lit (w := w4.alloc (.cells #[.int .i64 1, .int .i64 2, .int .i64 1, .int .i64 1] 28)) (r := [97]) (by decide) 5 (1, 2)
    rw [show w4.heap.size + 1 = (w4.alloc (.cells #[.int .i64 1, .int .i64 2, .int .i64 1, .int .i64 1] 28)).heap.size from (World.size_alloc ..).symm]
    exact Rd.more this (by simp)
  have lV : Lv w.heap.size (fun k => k = w4.heap.size) V 1 D wk1 := (l4.out.other fun k hk e => by omega).below hbV
  rw [hV]
  have kV := go_on k4.out hbV
  have hXl := (Array.getElem?_eq_some_iff.1 hxV).1
  go_at_call 19
  refine (HH.out D V w4.heap.size (w4.heap.size + 1) 1 lV kV.size hXl hrV).mono ?_
  rintro e w5 ⟨rfl, l5, b5⟩
  have hx5 := Lib.hid (b5.out.at_ hxV (fun h => h.2 rfl))
  have k5 := Lib.hid (kV.trans (but_out b5.out kV.size))
  obtain ⟨X, hX⟩ : ∃ X, w4.heap.size = X := ⟨_, rfl⟩
  rw [hX] at hx5 l5 ⊢
  obtain ⟨y0, y1, y2, y3⟩ := id_cells hx5.out
  clear hV hb1 hbV hxV hrV lV kV hXl hX kc1 b5 l4 k4 b4 l3 k3 b3 HQ HN HA HF HH
  go_wp2_with (go_at_call 12; refine (HFi.out D w5 X l5.out).mono ?_; rintro e w6 ⟨b6, g, c, rfl, ho6⟩; have hx6 := Lib.hid ((b6.out.block X (Array.getElem?_eq_some_iff.1 hx5.out).1).trans hx5.out); have hcv := conv_held (.cells #[.int .i64 1, .int .i64 2, .int .i64 1, .int .i64 1, .slice (some ⟨g, 0, none⟩) 1 c] 46) ho6.out; obtain ⟨y0, y1, y2, y3⟩ := id_cells hx6.out; have hne6 : ¬ X = w6.heap.size := (fun e => by have := (Array.getElem?_eq_some_iff.1 hx6.out).1; omega); obtain ⟨v0, v1, v2, v3⟩ := id_cells (((Me.below_alloc (o := .cells #[.int .i64 1, .int .i64 2, .int .i64 1, .int .i64 1, .slice (some ⟨g, 0, none⟩) 1 c] 46) (Below.refl w6.heap.size w6)).block X (Array.getElem?_eq_some_iff.1 hx6.out).1).trans hx6.out))
  go_ret
  exact ⟨rfl, go_on (go_on k5.out b6.out) (Me.below_alloc (Below.refl _ _))⟩
end Go.Proofs.Ytpofdimagfldnaa.So
/- The law StoreEvs. -/
namespace Go.Proofs.Ytpofdimagfldnaa.So
open Go.RowKit
open Go.Proofs.Ytpofdimagfldnaa.Me Go.Proofs.Ytpofdimagfldnaa.Sb
open Go.Proofs.Ytpofdimagfldnaa.Mg (by_below OwP conv_own)
set_option linter.unusedVariables false
set_option linter.unusedSimpArgs false

/-- The box of an event, from a world on. -/
def Bx6 (V : World) (b : Nat) (k o d e c : Int) (A : Option Addr) (n q : Nat) : Prop := ∀ W, Below V.heap.size V W → W.cell? ⟨b, 0, none⟩ = some (.int .i64 k) ∧ W.cell? ⟨b, 1, none⟩ = some (.int .i64 o) ∧ W.cell? ⟨b, 2, none⟩ = some (.int .i64 d) ∧ W.cell? ⟨b, 3, none⟩ = some (.int .i64 e) ∧ W.cell? ⟨b, 4, none⟩ = some (.int .i64 c) ∧ W.cell? ⟨b, 5, none⟩ = some (.slice A n q)
theorem bx6 (w : World) (k o d e c : Int) (A : Option Addr) (n q : Nat) : Bx6 (w.alloc (.cells #[.int .i64 k, .int .i64 o, .int .i64 d, .int .i64 e, .int .i64 c, .slice A n q] 60)) w.heap.size k o d e c A n q := fun W hW =>
  ev_cells ((hW.block _ (by simp)).trans (heap_alloc_new w _))
theorem Bx6.on {V W : World} {b : Nat} {k o d e c : Int} {A : Option Addr} {n q : Nat} (h : Bx6 V b k o d e c A n q) (hb : Below V.heap.size V W) : Bx6 W b k o d e c A n q := fun X hX => h X (go_on hb hX)
theorem own_on {w w' : World} {B B' : Nat} {v : Value} {l : List Nat} (h : Me.Own w B v l) (hb : Below w.heap.size w w') (hB : B' ≤ B) : Me.Own w' B' v l := own_base (own_same h fun k _ hk => hb.block k hk) fun k e => Nat.le_trans hB (World.ownsRow.lt h k e).1
theorem conv_own' {W W2 : World} {B c n : Nat} {A : Option Addr} {l : List Nat} (h : Me.Own W B (.slice A n c) l) (hl : ∀ z ∈ l, z < 256) (hb : Below W.heap.size W W2) : (convert 44 9 (.slice A n c)).run Try.prog W2 = .ok (.string (strOf l)) W2 := by
  have hn : n = l.length := (own_by h hl).1
  subst hn
  exact conv_own h hl hb
set_option maxRecDepth 100000 in
set_option maxHeartbeats 32000000 in
theorem evs_11 (w : World) (n n2 nG c c2 : Nat) (k o d ee cc K O D E C : Int) (A A2 : Option Addr) (p l L P : List Nat)
    (h1 : Hid (BySlice w A n c p)) (h2 : Hid (BySlice w A2 n2 c2 l))
    (HP : Hid (∀ W A c, BySlice W A n c p → Calls Try.prog 24 #[.agg #[.int .i64 k, .int .i64 o, .int .i64 d, .int .i64 ee, .int .i64 cc, .slice A n c]] W fun e w' => ∃ a q, e = .returned (.tuple #[.slice a L.length q, .int .i64 (0 : Int)]) ∧ Hid (Me.Own w' W.heap.size (.slice a L.length q) L) ∧ Hid (Below W.heap.size W w')))
    (HRP : Hid (∀ W A c, BySlice W A n c p → Calls Try.prog 25 #[.agg #[.int .i64 k, .int .i64 o, .int .i64 d, .int .i64 ee, .int .i64 cc, .slice A n c]] W fun e w' => ∃ a q, e = .returned (.tuple #[.slice a L.length q, .int .i64 (0 : Int)]) ∧ Hid (Me.Own w' W.heap.size (.slice a L.length q) L) ∧ Hid (Below W.heap.size W w')))
    (HG : Hid (∀ W A c, BySlice W A n2 c l → Calls Try.prog 26 #[.slice A n2 c] W fun e w' => ∃ a q, e = .returned (.tuple #[.agg #[.int .i64 K, .int .i64 O, .int .i64 D, .int .i64 E, .int .i64 C, .slice a nG q], .int .i64 (0 : Int)]) ∧ Hid (Me.Own w' W.heap.size (.slice a nG q) P) ∧ Hid (Below W.heap.size W w')))
    (HRG : Hid (∀ W A c, BySlice W A n2 c l → Calls Try.prog 27 #[.slice A n2 c] W fun e w' => ∃ a q, e = .returned (.tuple #[.agg #[.int .i64 K, .int .i64 O, .int .i64 D, .int .i64 E, .int .i64 C, .slice a nG q], .int .i64 (0 : Int)]) ∧ Hid (Me.Own w' W.heap.size (.slice a nG q) P) ∧ Hid (Below W.heap.size W w')))
    (HS1 : Hid (∀ W A B c d', BySlice W A nG c P → BySlice W B nG d' P → Calls Try.prog 28 #[.agg #[.int .i64 K, .int .i64 O, .int .i64 D, .int .i64 E, .int .i64 C, .slice A nG c], .agg #[.int .i64 K, .int .i64 O, .int .i64 D, .int .i64 E, .int .i64 C, .slice B nG d']] W fun e w' => e = .returned (.bool true) ∧ Hid (Below W.heap.size W w')))
    (HLl : Hid (∀ x ∈ L, x < 256)) (HPl : Hid (∀ x ∈ P, x < 256))
    (HS2 : Hid (∀ W A B c d', BySlice W A n c p → BySlice W B n d' p → Calls Try.prog 28 #[.agg #[.int .i64 k, .int .i64 o, .int .i64 d, .int .i64 ee, .int .i64 cc, .slice A n c], .agg #[.int .i64 k, .int .i64 o, .int .i64 d, .int .i64 ee, .int .i64 cc, .slice B n d']] W fun e w' => e = .returned (.bool true) ∧ Hid (Below W.heap.size W w')))
    (HBk : Hid (∀ W A c, BySlice W A L.length c L → Calls Try.prog 26 #[.slice A L.length c] W fun e w' => ∃ a q, e = .returned (.tuple #[.agg #[.int .i64 k, .int .i64 o, .int .i64 d, .int .i64 ee, .int .i64 cc, .slice a n q], .int .i64 (0 : Int)]) ∧ Hid (Me.Own w' W.heap.size (.slice a n q) p) ∧ Hid (Below W.heap.size W w')))
    (Hpl : Hid (∀ x ∈ p, x < 256))
    (HPb : Hid (∀ W A c, BySlice W A nG c P → Calls Try.prog 24 #[.agg #[.int .i64 K, .int .i64 O, .int .i64 D, .int .i64 E, .int .i64 C, .slice A nG c]] W fun e w' => ∃ a q, e = .returned (.tuple #[.slice a n2 q, .int .i64 (0 : Int)]) ∧ Hid (Me.Own w' W.heap.size (.slice a n2 q) l) ∧ Hid (Below W.heap.size W w')))
    (HCv : Hid (∀ W, Below w.heap.size w W → (convert 44 9 (.slice A2 n2 c2)).run Try.prog W = .ok (.string (strOf l)) W)) (Hll : Hid (∀ x ∈ l, x < 256)) :
    Calls Try.prog 6 #[.agg #[.int .i64 k, .int .i64 o, .int .i64 d, .int .i64 ee, .int .i64 cc, .slice A n c], .slice A2 n2 c2] w fun e w' => e = .returned (.bool true) ∧ Below w.heap.size w w' := by
  have hB0 : Hid (Below w.heap.size w (w.alloc (.cells #[.int .i64 k, .int .i64 o, .int .i64 d, .int .i64 ee, .int .i64 cc, .slice A n c] 60))) := Me.below_alloc (Below.refl _ _)
  have hX0 := Lib.hid (bx6 w k o d ee cc A n c)
  obtain ⟨t0, t1, t2, t3, t4, t5⟩ := hX0.out _ (Below.refl _ _)
  go_enter Try.func6, Try.ntmps6
  go_wp2_with (first
    | (go_at_call 24; (with_reducible refine (HP.out _ _ _ (by_below h1.out hB0.out)).mono ?_); rintro e w1 ⟨a1, q1, rfl, ho1, hb1⟩; have B1 := Lib.hid (go_on hB0.out hb1.out); have X1 := Lib.hid (hX0.out.on hb1.out); obtain ⟨x0, x1, x2, x3, x4, x5⟩ := X1.out _ (Below.refl _ _))
    | (go_at_call 25; (with_reducible refine (HRP.out _ _ _ (by_below h1.out B1.out)).mono ?_); rintro e w2 ⟨a2, q2, rfl, ho2, hb2⟩; have B2 := Lib.hid (go_on B1.out hb2.out); have X2 := Lib.hid (X1.out.on hb2.out); have O2 := Lib.hid (own_on ho1.out hb2.out (Nat.le_refl _)))
    | (go_at_call 26; (with_reducible refine (HG.out _ _ _ (by_below h2.out B2.out)).mono ?_); rintro e w3 ⟨a3, q3, rfl, ho3, hb3⟩
       have hn3 : Below w3.heap.size w3 (w3.alloc (.cells #[.int .i64 K, .int .i64 O, .int .i64 D, .int .i64 E, .int .i64 C, .slice a3 nG q3] 60)) := Me.below_alloc (Below.refl _ _)
       have B3 := Lib.hid (go_on (go_on B2.out hb3.out) hn3)
       have X3 := Lib.hid ((X2.out.on hb3.out).on hn3)
       have Y3 := Lib.hid (bx6 w3 K O D E C a3 nG q3)
       have O3 := Lib.hid (own_on O2.out (go_on hb3.out hn3) (Nat.le_refl _))
       have R3 := Lib.hid (own_on ho2.out (go_on hb3.out hn3) (Nat.le_refl _))
       have G3 := Lib.hid (own_on ho3.out hn3 (Nat.le_refl _))
       clear hn3)
    | (go_at_call 27; (with_reducible refine (HRG.out _ _ _ (by_below h2.out B3.out)).mono ?_); rintro e w4 ⟨a4, q4, rfl, ho4, hb4⟩
       have hn4 : Below w4.heap.size w4 (w4.alloc (.cells #[.int .i64 K, .int .i64 O, .int .i64 D, .int .i64 E, .int .i64 C, .slice a4 nG q4] 60)) := Me.below_alloc (Below.refl _ _)
       have B4 := Lib.hid (go_on (go_on B3.out hb4.out) hn4)
       have X4 := Lib.hid ((X3.out.on hb4.out).on hn4)
       have Y4 := Lib.hid ((Y3.out.on hb4.out).on hn4)
       have Z4 := Lib.hid (bx6 w4 K O D E C a4 nG q4)
       have O4 := Lib.hid (own_on O3.out (go_on hb4.out hn4) (Nat.le_refl _))
       have R4 := Lib.hid (own_on R3.out (go_on hb4.out hn4) (Nat.le_refl _))
       have G4 := Lib.hid (own_on G3.out (go_on hb4.out hn4) (Nat.le_refl _))
       have H4 := Lib.hid (own_on ho4.out hn4 (Nat.le_refl _))
       have cv1 := conv_own O4.out HLl.out (Below.refl _ _)
       have cv2 := conv_own R4.out HLl.out (Below.refl _ _)
       obtain ⟨y0, y1, y2, y3, y4, y5⟩ := Y4.out _ (Below.refl _ _)
       obtain ⟨z0, z1, z2, z3, z4, z5⟩ := Z4.out _ (Below.refl _ _)
       clear hn4)
    | (go_at_call 28; (with_reducible refine (HS1.out _ _ _ _ _ (own_by G4.out HPl.out) (own_by H4.out HPl.out)).mono ?_); rintro e w5 ⟨rfl, hb5⟩; have B5 := Lib.hid (go_on B4.out hb5.out); have O5 := Lib.hid (own_on O4.out hb5.out (Nat.le_refl _)); have G5 := Lib.hid (own_on G4.out hb5.out (Nat.le_refl _)); have X5 := Lib.hid (X4.out.on hb5.out); have Y5 := Lib.hid (Y4.out.on hb5.out); obtain ⟨u0, u1, u2, u3, u4, u5⟩ := Y5.out _ (Below.refl _ _))
    | (go_at_call 26; (with_reducible refine (HBk.out _ _ _ (own_by O5.out HLl.out)).mono ?_); rintro e w6 ⟨a6, q6, rfl, ho6, hb6⟩
       have hn6 : Below w6.heap.size w6 (w6.alloc (.cells #[.int .i64 k, .int .i64 o, .int .i64 d, .int .i64 ee, .int .i64 cc, .slice a6 n q6] 60)) := Me.below_alloc (Below.refl _ _)
       have B6 := Lib.hid (go_on (go_on B5.out hb6.out) hn6)
       have X6 := Lib.hid ((X5.out.on hb6.out).on hn6)
       have Y6 := Lib.hid ((Y5.out.on hb6.out).on hn6)
       have V6 := Lib.hid (bx6 w6 k o d ee cc a6 n q6)
       have K6 := Lib.hid (own_on ho6.out hn6 (Nat.le_refl _))
       have G6 := Lib.hid (own_on G5.out (go_on hb6.out hn6) (Nat.le_refl _))
       obtain ⟨r0, r1, r2, r3, r4, r5⟩ := X6.out _ (Below.refl _ _)
       obtain ⟨v0, v1, v2, v3, v4, v5⟩ := V6.out _ (Below.refl _ _)
       clear hn6)
    | (go_at_call 28; (with_reducible refine (HS2.out _ _ _ _ _ (own_by K6.out Hpl.out) (by_below h1.out B6.out)).mono ?_); rintro e w7 ⟨rfl, hb7⟩; have B7 := Lib.hid (go_on B6.out hb7.out); have G7 := Lib.hid (own_on G6.out hb7.out (Nat.le_refl _)); have Y7 := Lib.hid (Y6.out.on hb7.out); obtain ⟨s0, s1, s2, s3, s4, s5⟩ := Y7.out _ (Below.refl _ _))
    | (go_at_call 24; (with_reducible refine (HPb.out _ _ _ (own_by G7.out HPl.out)).mono ?_); rintro e w8 ⟨a8, q8, rfl, ho8, hb8⟩; have B8 := Lib.hid (go_on B7.out hb8.out); have cv3 := conv_own' ho8.out Hll.out (Below.refl _ _); have cv4 := HCv.out w8 B8.out)
    | (go_at_call 9; refine (awake_any _).mono ?_; rintro e w9 ⟨rfl, hb9⟩; have B9 := Lib.hid (go_on B8.out hb9.out)))
  go_ret
  exact ⟨rfl, B9.out⟩
set_option maxRecDepth 100000 in
set_option maxHeartbeats 32000000 in
theorem evs_10 (w : World) (n n2 nG c c2 Z : Nat) (k o d ee cc K O D E C : Int) (A A2 : Option Addr) (p l L P : List Nat)
    (h1 : Hid (BySlice w A n c p)) (h2 : Hid (BySlice w A2 n2 c2 l))
    (HP : Hid (∀ W A c, BySlice W A n c p → Calls Try.prog 24 #[.agg #[.int .i64 k, .int .i64 o, .int .i64 d, .int .i64 ee, .int .i64 cc, .slice A n c]] W fun e w' => ∃ a q, e = .returned (.tuple #[.slice a L.length q, .int .i64 (0 : Int)]) ∧ Hid (Me.Own w' W.heap.size (.slice a L.length q) L) ∧ Hid (Below W.heap.size W w')))
    (HRP : Hid (∀ W A c, BySlice W A n c p → Calls Try.prog 25 #[.agg #[.int .i64 k, .int .i64 o, .int .i64 d, .int .i64 ee, .int .i64 cc, .slice A n c]] W fun e w' => ∃ a q, e = .returned (.tuple #[.slice a L.length q, .int .i64 (0 : Int)]) ∧ Hid (Me.Own w' W.heap.size (.slice a L.length q) L) ∧ Hid (Below W.heap.size W w')))
    (HG : Hid (∀ W A c, BySlice W A n2 c l → Calls Try.prog 26 #[.slice A n2 c] W fun e w' => ∃ a q, e = .returned (.tuple #[.agg #[.int .i64 K, .int .i64 O, .int .i64 D, .int .i64 E, .int .i64 C, .slice a nG q], .int .i64 (Z : Int)]) ∧ Hid (Me.Own w' W.heap.size (.slice a nG q) P) ∧ Hid (Below W.heap.size W w')))
    (HRG : Hid (∀ W A c, BySlice W A n2 c l → Calls Try.prog 27 #[.slice A n2 c] W fun e w' => ∃ a q, e = .returned (.tuple #[.agg #[.int .i64 K, .int .i64 O, .int .i64 D, .int .i64 E, .int .i64 C, .slice a nG q], .int .i64 (Z : Int)]) ∧ Hid (Me.Own w' W.heap.size (.slice a nG q) P) ∧ Hid (Below W.heap.size W w')))
    (HS1 : Hid (∀ W A B c d', BySlice W A nG c P → BySlice W B nG d' P → Calls Try.prog 28 #[.agg #[.int .i64 K, .int .i64 O, .int .i64 D, .int .i64 E, .int .i64 C, .slice A nG c], .agg #[.int .i64 K, .int .i64 O, .int .i64 D, .int .i64 E, .int .i64 C, .slice B nG d']] W fun e w' => e = .returned (.bool true) ∧ Hid (Below W.heap.size W w')))
    (HLl : Hid (∀ x ∈ L, x < 256)) (HPl : Hid (∀ x ∈ P, x < 256))
    (HS2 : Hid (∀ W A B c d', BySlice W A n c p → BySlice W B n d' p → Calls Try.prog 28 #[.agg #[.int .i64 k, .int .i64 o, .int .i64 d, .int .i64 ee, .int .i64 cc, .slice A n c], .agg #[.int .i64 k, .int .i64 o, .int .i64 d, .int .i64 ee, .int .i64 cc, .slice B n d']] W fun e w' => e = .returned (.bool true) ∧ Hid (Below W.heap.size W w')))
    (HBk : Hid (∀ W A c, BySlice W A L.length c L → Calls Try.prog 26 #[.slice A L.length c] W fun e w' => ∃ a q, e = .returned (.tuple #[.agg #[.int .i64 k, .int .i64 o, .int .i64 d, .int .i64 ee, .int .i64 cc, .slice a n q], .int .i64 (0 : Int)]) ∧ Hid (Me.Own w' W.heap.size (.slice a n q) p) ∧ Hid (Below W.heap.size W w')))
    (Hpl : Hid (∀ x ∈ p, x < 256))
    (hZ : ((Z : Int) == 0) = false)
    (HCv : Hid (∀ W, Below w.heap.size w W → (convert 44 9 (.slice A2 n2 c2)).run Try.prog W = .ok (.string (strOf l)) W)) (Hll : Hid (∀ x ∈ l, x < 256)) :
    Calls Try.prog 6 #[.agg #[.int .i64 k, .int .i64 o, .int .i64 d, .int .i64 ee, .int .i64 cc, .slice A n c], .slice A2 n2 c2] w fun e w' => e = .returned (.bool true) ∧ Below w.heap.size w w' := by
  have hB0 : Hid (Below w.heap.size w (w.alloc (.cells #[.int .i64 k, .int .i64 o, .int .i64 d, .int .i64 ee, .int .i64 cc, .slice A n c] 60))) := Me.below_alloc (Below.refl _ _)
  have hX0 := Lib.hid (bx6 w k o d ee cc A n c)
  obtain ⟨t0, t1, t2, t3, t4, t5⟩ := hX0.out _ (Below.refl _ _)
  go_enter Try.func6, Try.ntmps6
  go_wp2_with (first
    | (go_at_call 24; (with_reducible refine (HP.out _ _ _ (by_below h1.out hB0.out)).mono ?_); rintro e w1 ⟨a1, q1, rfl, ho1, hb1⟩; have B1 := Lib.hid (go_on hB0.out hb1.out); have X1 := Lib.hid (hX0.out.on hb1.out); obtain ⟨x0, x1, x2, x3, x4, x5⟩ := X1.out _ (Below.refl _ _))
    | (go_at_call 25; (with_reducible refine (HRP.out _ _ _ (by_below h1.out B1.out)).mono ?_); rintro e w2 ⟨a2, q2, rfl, ho2, hb2⟩; have B2 := Lib.hid (go_on B1.out hb2.out); have X2 := Lib.hid (X1.out.on hb2.out); have O2 := Lib.hid (own_on ho1.out hb2.out (Nat.le_refl _)))
    | (go_at_call 26; (with_reducible refine (HG.out _ _ _ (by_below h2.out B2.out)).mono ?_); rintro e w3 ⟨a3, q3, rfl, ho3, hb3⟩
       have hn3 : Below w3.heap.size w3 (w3.alloc (.cells #[.int .i64 K, .int .i64 O, .int .i64 D, .int .i64 E, .int .i64 C, .slice a3 nG q3] 60)) := Me.below_alloc (Below.refl _ _)
       have B3 := Lib.hid (go_on (go_on B2.out hb3.out) hn3)
       have X3 := Lib.hid ((X2.out.on hb3.out).on hn3)
       have Y3 := Lib.hid (bx6 w3 K O D E C a3 nG q3)
       have O3 := Lib.hid (own_on O2.out (go_on hb3.out hn3) (Nat.le_refl _))
       have R3 := Lib.hid (own_on ho2.out (go_on hb3.out hn3) (Nat.le_refl _))
       have G3 := Lib.hid (own_on ho3.out hn3 (Nat.le_refl _))
       clear hn3)
    | (go_at_call 27; (with_reducible refine (HRG.out _ _ _ (by_below h2.out B3.out)).mono ?_); rintro e w4 ⟨a4, q4, rfl, ho4, hb4⟩
       have hn4 : Below w4.heap.size w4 (w4.alloc (.cells #[.int .i64 K, .int .i64 O, .int .i64 D, .int .i64 E, .int .i64 C, .slice a4 nG q4] 60)) := Me.below_alloc (Below.refl _ _)
       have B4 := Lib.hid (go_on (go_on B3.out hb4.out) hn4)
       have X4 := Lib.hid ((X3.out.on hb4.out).on hn4)
       have Y4 := Lib.hid ((Y3.out.on hb4.out).on hn4)
       have Z4 := Lib.hid (bx6 w4 K O D E C a4 nG q4)
       have O4 := Lib.hid (own_on O3.out (go_on hb4.out hn4) (Nat.le_refl _))
       have R4 := Lib.hid (own_on R3.out (go_on hb4.out hn4) (Nat.le_refl _))
       have G4 := Lib.hid (own_on G3.out (go_on hb4.out hn4) (Nat.le_refl _))
       have H4 := Lib.hid (own_on ho4.out hn4 (Nat.le_refl _))
       have cv1 := conv_own O4.out HLl.out (Below.refl _ _)
       have cv2 := conv_own R4.out HLl.out (Below.refl _ _)
       obtain ⟨y0, y1, y2, y3, y4, y5⟩ := Y4.out _ (Below.refl _ _)
       obtain ⟨z0, z1, z2, z3, z4, z5⟩ := Z4.out _ (Below.refl _ _)
       clear hn4)
    | (go_at_call 28; (with_reducible refine (HS1.out _ _ _ _ _ (own_by G4.out HPl.out) (own_by H4.out HPl.out)).mono ?_); rintro e w5 ⟨rfl, hb5⟩; have B5 := Lib.hid (go_on B4.out hb5.out); have O5 := Lib.hid (own_on O4.out hb5.out (Nat.le_refl _)); have G5 := Lib.hid (own_on G4.out hb5.out (Nat.le_refl _)); have X5 := Lib.hid (X4.out.on hb5.out); have Y5 := Lib.hid (Y4.out.on hb5.out); obtain ⟨u0, u1, u2, u3, u4, u5⟩ := Y5.out _ (Below.refl _ _))
    | (go_at_call 26; (with_reducible refine (HBk.out _ _ _ (own_by O5.out HLl.out)).mono ?_); rintro e w6 ⟨a6, q6, rfl, ho6, hb6⟩
       have hn6 : Below w6.heap.size w6 (w6.alloc (.cells #[.int .i64 k, .int .i64 o, .int .i64 d, .int .i64 ee, .int .i64 cc, .slice a6 n q6] 60)) := Me.below_alloc (Below.refl _ _)
       have B6 := Lib.hid (go_on (go_on B5.out hb6.out) hn6)
       have X6 := Lib.hid ((X5.out.on hb6.out).on hn6)
       have Y6 := Lib.hid ((Y5.out.on hb6.out).on hn6)
       have V6 := Lib.hid (bx6 w6 k o d ee cc a6 n q6)
       have K6 := Lib.hid (own_on ho6.out hn6 (Nat.le_refl _))
       have G6 := Lib.hid (own_on G5.out (go_on hb6.out hn6) (Nat.le_refl _))
       obtain ⟨r0, r1, r2, r3, r4, r5⟩ := X6.out _ (Below.refl _ _)
       obtain ⟨v0, v1, v2, v3, v4, v5⟩ := V6.out _ (Below.refl _ _)
       clear hn6)
    | (go_at_call 28; (with_reducible refine (HS2.out _ _ _ _ _ (own_by K6.out Hpl.out) (by_below h1.out B6.out)).mono ?_); rintro e w7 ⟨rfl, hb7⟩; have B7 := Lib.hid (go_on B6.out hb7.out); have G7 := Lib.hid (own_on G6.out hb7.out (Nat.le_refl _)); have Y7 := Lib.hid (Y6.out.on hb7.out); obtain ⟨s0, s1, s2, s3, s4, s5⟩ := Y7.out _ (Below.refl _ _))
    | (go_at_call 9; refine (awake_any _).mono ?_; rintro e w9 ⟨rfl, hb9⟩; have B9 := Lib.hid (go_on B7.out hb9.out)))
  go_ret
  exact ⟨rfl, B9.out⟩
set_option maxRecDepth 100000 in
set_option maxHeartbeats 32000000 in
theorem evs_01 (w : World) (n n2 nG c c2 z : Nat) (k o d ee cc K O D E C : Int) (A A2 : Option Addr) (p l L P : List Nat)
    (h1 : Hid (BySlice w A n c p)) (h2 : Hid (BySlice w A2 n2 c2 l))
    (HP : Hid (∀ W A c, BySlice W A n c p → Calls Try.prog 24 #[.agg #[.int .i64 k, .int .i64 o, .int .i64 d, .int .i64 ee, .int .i64 cc, .slice A n c]] W fun e w' => ∃ a q, e = .returned (.tuple #[.slice a L.length q, .int .i64 (z : Int)]) ∧ Hid (Me.Own w' W.heap.size (.slice a L.length q) L) ∧ Hid (Below W.heap.size W w')))
    (HRP : Hid (∀ W A c, BySlice W A n c p → Calls Try.prog 25 #[.agg #[.int .i64 k, .int .i64 o, .int .i64 d, .int .i64 ee, .int .i64 cc, .slice A n c]] W fun e w' => ∃ a q, e = .returned (.tuple #[.slice a L.length q, .int .i64 (z : Int)]) ∧ Hid (Me.Own w' W.heap.size (.slice a L.length q) L) ∧ Hid (Below W.heap.size W w')))
    (HG : Hid (∀ W A c, BySlice W A n2 c l → Calls Try.prog 26 #[.slice A n2 c] W fun e w' => ∃ a q, e = .returned (.tuple #[.agg #[.int .i64 K, .int .i64 O, .int .i64 D, .int .i64 E, .int .i64 C, .slice a nG q], .int .i64 (0 : Int)]) ∧ Hid (Me.Own w' W.heap.size (.slice a nG q) P) ∧ Hid (Below W.heap.size W w')))
    (HRG : Hid (∀ W A c, BySlice W A n2 c l → Calls Try.prog 27 #[.slice A n2 c] W fun e w' => ∃ a q, e = .returned (.tuple #[.agg #[.int .i64 K, .int .i64 O, .int .i64 D, .int .i64 E, .int .i64 C, .slice a nG q], .int .i64 (0 : Int)]) ∧ Hid (Me.Own w' W.heap.size (.slice a nG q) P) ∧ Hid (Below W.heap.size W w')))
    (HS1 : Hid (∀ W A B c d', BySlice W A nG c P → BySlice W B nG d' P → Calls Try.prog 28 #[.agg #[.int .i64 K, .int .i64 O, .int .i64 D, .int .i64 E, .int .i64 C, .slice A nG c], .agg #[.int .i64 K, .int .i64 O, .int .i64 D, .int .i64 E, .int .i64 C, .slice B nG d']] W fun e w' => e = .returned (.bool true) ∧ Hid (Below W.heap.size W w')))
    (HLl : Hid (∀ x ∈ L, x < 256)) (HPl : Hid (∀ x ∈ P, x < 256))
    (hz : ((z : Int) == 0) = false)
    (HPb : Hid (∀ W A c, BySlice W A nG c P → Calls Try.prog 24 #[.agg #[.int .i64 K, .int .i64 O, .int .i64 D, .int .i64 E, .int .i64 C, .slice A nG c]] W fun e w' => ∃ a q, e = .returned (.tuple #[.slice a n2 q, .int .i64 (0 : Int)]) ∧ Hid (Me.Own w' W.heap.size (.slice a n2 q) l) ∧ Hid (Below W.heap.size W w')))
    (HCv : Hid (∀ W, Below w.heap.size w W → (convert 44 9 (.slice A2 n2 c2)).run Try.prog W = .ok (.string (strOf l)) W)) (Hll : Hid (∀ x ∈ l, x < 256)) :
    Calls Try.prog 6 #[.agg #[.int .i64 k, .int .i64 o, .int .i64 d, .int .i64 ee, .int .i64 cc, .slice A n c], .slice A2 n2 c2] w fun e w' => e = .returned (.bool true) ∧ Below w.heap.size w w' := by
  have hB0 : Hid (Below w.heap.size w (w.alloc (.cells #[.int .i64 k, .int .i64 o, .int .i64 d, .int .i64 ee, .int .i64 cc, .slice A n c] 60))) := Me.below_alloc (Below.refl _ _)
  have hX0 := Lib.hid (bx6 w k o d ee cc A n c)
  obtain ⟨t0, t1, t2, t3, t4, t5⟩ := hX0.out _ (Below.refl _ _)
  go_enter Try.func6, Try.ntmps6
  go_wp2_with (first
    | (go_at_call 24; (with_reducible refine (HP.out _ _ _ (by_below h1.out hB0.out)).mono ?_); rintro e w1 ⟨a1, q1, rfl, ho1, hb1⟩; have B1 := Lib.hid (go_on hB0.out hb1.out); have X1 := Lib.hid (hX0.out.on hb1.out); obtain ⟨x0, x1, x2, x3, x4, x5⟩ := X1.out _ (Below.refl _ _))
    | (go_at_call 25; (with_reducible refine (HRP.out _ _ _ (by_below h1.out B1.out)).mono ?_); rintro e w2 ⟨a2, q2, rfl, ho2, hb2⟩; have B2 := Lib.hid (go_on B1.out hb2.out); have X2 := Lib.hid (X1.out.on hb2.out); have O2 := Lib.hid (own_on ho1.out hb2.out (Nat.le_refl _)))
    | (go_at_call 26; (with_reducible refine (HG.out _ _ _ (by_below h2.out B2.out)).mono ?_); rintro e w3 ⟨a3, q3, rfl, ho3, hb3⟩
       have hn3 : Below w3.heap.size w3 (w3.alloc (.cells #[.int .i64 K, .int .i64 O, .int .i64 D, .int .i64 E, .int .i64 C, .slice a3 nG q3] 60)) := Me.below_alloc (Below.refl _ _)
       have B3 := Lib.hid (go_on (go_on B2.out hb3.out) hn3)
       have X3 := Lib.hid ((X2.out.on hb3.out).on hn3)
       have Y3 := Lib.hid (bx6 w3 K O D E C a3 nG q3)
       have O3 := Lib.hid (own_on O2.out (go_on hb3.out hn3) (Nat.le_refl _))
       have R3 := Lib.hid (own_on ho2.out (go_on hb3.out hn3) (Nat.le_refl _))
       have G3 := Lib.hid (own_on ho3.out hn3 (Nat.le_refl _))
       clear hn3)
    | (go_at_call 27; (with_reducible refine (HRG.out _ _ _ (by_below h2.out B3.out)).mono ?_); rintro e w4 ⟨a4, q4, rfl, ho4, hb4⟩
       have hn4 : Below w4.heap.size w4 (w4.alloc (.cells #[.int .i64 K, .int .i64 O, .int .i64 D, .int .i64 E, .int .i64 C, .slice a4 nG q4] 60)) := Me.below_alloc (Below.refl _ _)
       have B4 := Lib.hid (go_on (go_on B3.out hb4.out) hn4)
       have X4 := Lib.hid ((X3.out.on hb4.out).on hn4)
       have Y4 := Lib.hid ((Y3.out.on hb4.out).on hn4)
       have Z4 := Lib.hid (bx6 w4 K O D E C a4 nG q4)
       have O4 := Lib.hid (own_on O3.out (go_on hb4.out hn4) (Nat.le_refl _))
       have R4 := Lib.hid (own_on R3.out (go_on hb4.out hn4) (Nat.le_refl _))
       have G4 := Lib.hid (own_on G3.out (go_on hb4.out hn4) (Nat.le_refl _))
       have H4 := Lib.hid (own_on ho4.out hn4 (Nat.le_refl _))
       have cv1 := conv_own O4.out HLl.out (Below.refl _ _)
       have cv2 := conv_own R4.out HLl.out (Below.refl _ _)
       obtain ⟨y0, y1, y2, y3, y4, y5⟩ := Y4.out _ (Below.refl _ _)
       obtain ⟨z0, z1, z2, z3, z4, z5⟩ := Z4.out _ (Below.refl _ _)
       clear hn4)
    | (go_at_call 28; (with_reducible refine (HS1.out _ _ _ _ _ (own_by G4.out HPl.out) (own_by H4.out HPl.out)).mono ?_); rintro e w5 ⟨rfl, hb5⟩; have B5 := Lib.hid (go_on B4.out hb5.out); have O5 := Lib.hid (own_on O4.out hb5.out (Nat.le_refl _)); have G5 := Lib.hid (own_on G4.out hb5.out (Nat.le_refl _)); have X5 := Lib.hid (X4.out.on hb5.out); have Y5 := Lib.hid (Y4.out.on hb5.out); obtain ⟨u0, u1, u2, u3, u4, u5⟩ := Y5.out _ (Below.refl _ _))
    | (go_at_call 24; (with_reducible refine (HPb.out _ _ _ (own_by G5.out HPl.out)).mono ?_); rintro e w8 ⟨a8, q8, rfl, ho8, hb8⟩; have B8 := Lib.hid (go_on B5.out hb8.out); have cv3 := conv_own' ho8.out Hll.out (Below.refl _ _); have cv4 := HCv.out w8 B8.out)
    | (go_at_call 9; refine (awake_any _).mono ?_; rintro e w9 ⟨rfl, hb9⟩; have B9 := Lib.hid (go_on B8.out hb9.out)))
  go_ret
  exact ⟨rfl, B9.out⟩
set_option maxRecDepth 100000 in
set_option maxHeartbeats 32000000 in
theorem evs_00 (w : World) (n n2 nG c c2 z Z : Nat) (k o d ee cc K O D E C : Int) (A A2 : Option Addr) (p l L P : List Nat)
    (h1 : Hid (BySlice w A n c p)) (h2 : Hid (BySlice w A2 n2 c2 l))
    (HP : Hid (∀ W A c, BySlice W A n c p → Calls Try.prog 24 #[.agg #[.int .i64 k, .int .i64 o, .int .i64 d, .int .i64 ee, .int .i64 cc, .slice A n c]] W fun e w' => ∃ a q, e = .returned (.tuple #[.slice a L.length q, .int .i64 (z : Int)]) ∧ Hid (Me.Own w' W.heap.size (.slice a L.length q) L) ∧ Hid (Below W.heap.size W w')))
    (HRP : Hid (∀ W A c, BySlice W A n c p → Calls Try.prog 25 #[.agg #[.int .i64 k, .int .i64 o, .int .i64 d, .int .i64 ee, .int .i64 cc, .slice A n c]] W fun e w' => ∃ a q, e = .returned (.tuple #[.slice a L.length q, .int .i64 (z : Int)]) ∧ Hid (Me.Own w' W.heap.size (.slice a L.length q) L) ∧ Hid (Below W.heap.size W w')))
    (HG : Hid (∀ W A c, BySlice W A n2 c l → Calls Try.prog 26 #[.slice A n2 c] W fun e w' => ∃ a q, e = .returned (.tuple #[.agg #[.int .i64 K, .int .i64 O, .int .i64 D, .int .i64 E, .int .i64 C, .slice a nG q], .int .i64 (Z : Int)]) ∧ Hid (Me.Own w' W.heap.size (.slice a nG q) P) ∧ Hid (Below W.heap.size W w')))
    (HRG : Hid (∀ W A c, BySlice W A n2 c l → Calls Try.prog 27 #[.slice A n2 c] W fun e w' => ∃ a q, e = .returned (.tuple #[.agg #[.int .i64 K, .int .i64 O, .int .i64 D, .int .i64 E, .int .i64 C, .slice a nG q], .int .i64 (Z : Int)]) ∧ Hid (Me.Own w' W.heap.size (.slice a nG q) P) ∧ Hid (Below W.heap.size W w')))
    (HS1 : Hid (∀ W A B c d', BySlice W A nG c P → BySlice W B nG d' P → Calls Try.prog 28 #[.agg #[.int .i64 K, .int .i64 O, .int .i64 D, .int .i64 E, .int .i64 C, .slice A nG c], .agg #[.int .i64 K, .int .i64 O, .int .i64 D, .int .i64 E, .int .i64 C, .slice B nG d']] W fun e w' => e = .returned (.bool true) ∧ Hid (Below W.heap.size W w')))
    (HLl : Hid (∀ x ∈ L, x < 256)) (HPl : Hid (∀ x ∈ P, x < 256))
    (hz : ((z : Int) == 0) = false)
    (hZ : ((Z : Int) == 0) = false)
    (HCv : Hid (∀ W, Below w.heap.size w W → (convert 44 9 (.slice A2 n2 c2)).run Try.prog W = .ok (.string (strOf l)) W)) (Hll : Hid (∀ x ∈ l, x < 256)) :
    Calls Try.prog 6 #[.agg #[.int .i64 k, .int .i64 o, .int .i64 d, .int .i64 ee, .int .i64 cc, .slice A n c], .slice A2 n2 c2] w fun e w' => e = .returned (.bool true) ∧ Below w.heap.size w w' := by
  have hB0 : Hid (Below w.heap.size w (w.alloc (.cells #[.int .i64 k, .int .i64 o, .int .i64 d, .int .i64 ee, .int .i64 cc, .slice A n c] 60))) := Me.below_alloc (Below.refl _ _)
  have hX0 := Lib.hid (bx6 w k o d ee cc A n c)
  obtain ⟨t0, t1, t2, t3, t4, t5⟩ := hX0.out _ (Below.refl _ _)
  go_enter Try.func6, Try.ntmps6
  go_wp2_with (first
    | (go_at_call 24; (with_reducible refine (HP.out _ _ _ (by_below h1.out hB0.out)).mono ?_); rintro e w1 ⟨a1, q1, rfl, ho1, hb1⟩; have B1 := Lib.hid (go_on hB0.out hb1.out); have X1 := Lib.hid (hX0.out.on hb1.out); obtain ⟨x0, x1, x2, x3, x4, x5⟩ := X1.out _ (Below.refl _ _))
    | (go_at_call 25; (with_reducible refine (HRP.out _ _ _ (by_below h1.out B1.out)).mono ?_); rintro e w2 ⟨a2, q2, rfl, ho2, hb2⟩; have B2 := Lib.hid (go_on B1.out hb2.out); have X2 := Lib.hid (X1.out.on hb2.out); have O2 := Lib.hid (own_on ho1.out hb2.out (Nat.le_refl _)))
    | (go_at_call 26; (with_reducible refine (HG.out _ _ _ (by_below h2.out B2.out)).mono ?_); rintro e w3 ⟨a3, q3, rfl, ho3, hb3⟩
       have hn3 : Below w3.heap.size w3 (w3.alloc (.cells #[.int .i64 K, .int .i64 O, .int .i64 D, .int .i64 E, .int .i64 C, .slice a3 nG q3] 60)) := Me.below_alloc (Below.refl _ _)
       have B3 := Lib.hid (go_on (go_on B2.out hb3.out) hn3)
       have X3 := Lib.hid ((X2.out.on hb3.out).on hn3)
       have Y3 := Lib.hid (bx6 w3 K O D E C a3 nG q3)
       have O3 := Lib.hid (own_on O2.out (go_on hb3.out hn3) (Nat.le_refl _))
       have R3 := Lib.hid (own_on ho2.out (go_on hb3.out hn3) (Nat.le_refl _))
       have G3 := Lib.hid (own_on ho3.out hn3 (Nat.le_refl _))
       clear hn3)
    | (go_at_call 27; (with_reducible refine (HRG.out _ _ _ (by_below h2.out B3.out)).mono ?_); rintro e w4 ⟨a4, q4, rfl, ho4, hb4⟩
       have hn4 : Below w4.heap.size w4 (w4.alloc (.cells #[.int .i64 K, .int .i64 O, .int .i64 D, .int .i64 E, .int .i64 C, .slice a4 nG q4] 60)) := Me.below_alloc (Below.refl _ _)
       have B4 := Lib.hid (go_on (go_on B3.out hb4.out) hn4)
       have X4 := Lib.hid ((X3.out.on hb4.out).on hn4)
       have Y4 := Lib.hid ((Y3.out.on hb4.out).on hn4)
       have Z4 := Lib.hid (bx6 w4 K O D E C a4 nG q4)
       have O4 := Lib.hid (own_on O3.out (go_on hb4.out hn4) (Nat.le_refl _))
       have R4 := Lib.hid (own_on R3.out (go_on hb4.out hn4) (Nat.le_refl _))
       have G4 := Lib.hid (own_on G3.out (go_on hb4.out hn4) (Nat.le_refl _))
       have H4 := Lib.hid (own_on ho4.out hn4 (Nat.le_refl _))
       have cv1 := conv_own O4.out HLl.out (Below.refl _ _)
       have cv2 := conv_own R4.out HLl.out (Below.refl _ _)
       obtain ⟨y0, y1, y2, y3, y4, y5⟩ := Y4.out _ (Below.refl _ _)
       obtain ⟨z0, z1, z2, z3, z4, z5⟩ := Z4.out _ (Below.refl _ _)
       clear hn4)
    | (go_at_call 28; (with_reducible refine (HS1.out _ _ _ _ _ (own_by G4.out HPl.out) (own_by H4.out HPl.out)).mono ?_); rintro e w5 ⟨rfl, hb5⟩; have B5 := Lib.hid (go_on B4.out hb5.out); have O5 := Lib.hid (own_on O4.out hb5.out (Nat.le_refl _)); have G5 := Lib.hid (own_on G4.out hb5.out (Nat.le_refl _)); have X5 := Lib.hid (X4.out.on hb5.out); have Y5 := Lib.hid (Y4.out.on hb5.out); obtain ⟨u0, u1, u2, u3, u4, u5⟩ := Y5.out _ (Below.refl _ _))
    | (go_at_call 9; refine (awake_any _).mono ?_; rintro e w9 ⟨rfl, hb9⟩; have B9 := Lib.hid (go_on B5.out hb9.out)))
  go_ret
  exact ⟨rfl, B9.out⟩
end Go.Proofs.Ytpofdimagfldnaa.So
/- The law StoreEvs. -/
namespace Go.Proofs.Ytpofdimagfldnaa.So
open Go.RowKit
open Go.Proofs.Ytpofdimagfldnaa.Me Go.Proofs.Ytpofdimagfldnaa.Sb
open Go.Proofs.Ytpofdimagfldnaa.Mg (by_below OwP conv_own)
set_option linter.unusedVariables false
set_option linter.unusedSimpArgs false

theorem gD_lt {l : List Nat} (h : ∀ z ∈ l, z < 256) : ∀ z ∈ gD l, z < 256 := by
  cases l with
  | nil => intro z hz; cases hz
  | cons k r =>
    show ∀ z ∈ geD k r, z < 256
    unfold geD
    split
    · exact mD_lt fun z hz => h z (by simp [hz])
    · intro z hz; cases hz
theorem storeEvs (q : Evt) (A : Option Addr) (c : Nat) (A2 : Option Addr) (n2 c2 : Nat) (l : List Nat) (w : World) (h : q.p.length ≤ c ∧ c ≤ 140737488351232 ∧ Me.Rd w w.heap.size A q.p ∧ (A = none → q.p.length = 0 ∧ c = 0)) (h2 : BySlice w A2 n2 c2 l) (_ : c2 ≤ 140737488351232) :
    Calls Try.prog 6 #[.agg (evC q.k q.i A q.p.length c), .slice A2 n2 c2] w fun e w' => e = .returned (.bool true) ∧ Below w.heap.size w w' := by
  obtain ⟨k, i, p⟩ := q
  simp only at h
  have h1 : BySlice w A p.length c p := ⟨rfl, h.1, by omega, h.2.2.1, h.2.2.2⟩
  have hp : ∀ z ∈ p, z < 256 := h.2.2.1.1
  have hl : ∀ z ∈ l, z < 256 := h2.2.2.2.1.1
  have hG : ∀ z ∈ gD l, z < 256 := gD_lt hl
  have HP := fun W A c (hb : BySlice W A p.length c p) => PutEv_any k i A c p W hb hp
  have HRP := fun W A c (hb : BySlice W A p.length c p) => RPutEv_any k i A c p W hb hp
  have HG := fun W A c (hb : BySlice W A n2 c l) => GetEv_any A n2 c l W hb hl
  have HRG := fun W A c (hb : BySlice W A n2 c l) => RGetEv_any A n2 c l W hb hl
  have HS1 := fun W A B c d' (ha : BySlice W A (gD l).length c (gD l)) (hb : BySlice W B (gD l).length d' (gD l)) => SameEv_eq (geK l) (gI l) A B (gD l).length c d' (gD l) W ha hb
  have HS2 := fun W A B c d' (ha : BySlice W A p.length c p) (hb : BySlice W B p.length d' p) => SameEv_eq k i A B p.length c d' p W ha hb
  have HBk := fun W A c (hb : BySlice W A (evL k i p).length c (evL k i p)) => GetEv_any A (evL k i p).length c (evL k i p) W hb (evL_lt hp)
  have HPb := fun W A c (hb : BySlice W A (gD l).length c (gD l)) => PutEv_any (geK l) (gI l) A c (gD l) W hb hG
  have HCv : ∀ W, Below w.heap.size w W → (convert 44 9 (.slice A2 n2 c2)).run Try.prog W = .ok (.string (strOf l)) W := fun W hW => by
    have hb := by_below h2 hW
    have hn := hb.1
    subst hn
    exact conv_rd W _ _ l _ hb.2.2.2.1 hb.2.2.2.2
  have hn2 := h2.1
  have hLl : ∀ x ∈ evL k i p, x < 256 := evL_lt hp
  have hbk : chkE k i p.length = 0 → geZ (evL k i p) = 0 ∧ geK (evL k i p) = k ∧ gI (evL k i p) = i ∧ gD (evL k i p) = p := fun h0 => by rw [evL_ok h0]; exact ev_back h0
  have hpb : geZ l = 0 → chkE (geK l) (gI l) (gD l).length = 0 ∧ evL (geK l) (gI l) (gD l) = l := fun h0 => by
    obtain ⟨q1, q2⟩ := ge_back hl h0
    exact ⟨q1, by rw [evL_ok q1]; exact q2⟩
  unfold OwP at HP HRP HPb
  unfold GeE at HG HRG HBk
  obtain ⟨L, hL⟩ : ∃ L, evL k i p = L := ⟨_, rfl⟩
  obtain ⟨z, hz⟩ : ∃ z, chkE k i p.length = z := ⟨_, rfl⟩
  obtain ⟨Z, hZ⟩ : ∃ z, geZ l = z := ⟨_, rfl⟩
  obtain ⟨K, hK⟩ : ∃ z, geK l = z := ⟨_, rfl⟩
  obtain ⟨⟨O, D, E, C⟩, hI⟩ : ∃ z, gI l = z := ⟨_, rfl⟩
  obtain ⟨P, hPP⟩ : ∃ z, gD l = z := ⟨_, rfl⟩
  rw [hL, hz] at HP HRP
  rw [hZ, hK, hI, hPP] at HG HRG
  rw [hK, hI, hPP] at HS1 HPb
  rw [hL] at HBk hbk hLl
  rw [hz] at hbk
  rw [hZ, hK, hI, hPP] at hpb
  rw [hPP] at hG
  obtain ⟨o, d, ee, cc⟩ := i
  simp only [evC] at HP HRP HG HRG HS1 HS2 HBk HPb ⊢
  obtain ⟨n, hn⟩ : ∃ n, p.length = n := ⟨_, rfl⟩
  obtain ⟨nG, hnG⟩ : ∃ n, P.length = n := ⟨_, rfl⟩
  rw [hn] at HP HRP HS2 h1 ⊢
  rw [hnG] at HG HRG HS1 HPb hpb
  have B0 : ∀ x : Nat, ¬ x = 0 → (((x : Nat) : Int) == 0) = false := fun x hx => Mg.nz hx
  by_cases hz0 : z = 0
  · obtain ⟨b1, b2, b3, b4⟩ := hbk hz0
    rw [b1, b2, b3, b4] at HBk
    simp only [hn] at HBk
    by_cases hZ0 : Z = 0
    · obtain ⟨c1, c2'⟩ := hpb hZ0
      rw [c1, c2', ← hn2] at HPb
      subst hz0 hZ0
      exact evs_11 w n n2 nG c c2 k o d ee cc K O D E C A A2 p l L P h1 h2 HP HRP HG HRG HS1 hLl hG HS2 HBk hp HPb HCv hl
    · subst hz0
      exact evs_10 w n n2 nG c c2 Z k o d ee cc K O D E C A A2 p l L P h1 h2 HP HRP HG HRG HS1 hLl hG HS2 HBk hp (B0 Z hZ0) HCv hl
  · by_cases hZ0 : Z = 0
    · obtain ⟨c1, c2'⟩ := hpb hZ0
      rw [c1, c2', ← hn2] at HPb
      subst hZ0
      exact evs_01 w n n2 nG c c2 z k o d ee cc K O D E C A A2 p l L P h1 h2 HP HRP HG HRG HS1 hLl hG (B0 z hz0) HPb HCv hl
    · exact evs_00 w n n2 nG c c2 z Z k o d ee cc K O D E C A A2 p l L P h1 h2 HP HRP HG HRG HS1 hLl hG (B0 z hz0) (B0 Z hZ0) HCv hl
end Go.Proofs.Ytpofdimagfldnaa.So
