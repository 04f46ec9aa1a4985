/- The law's own question 'is what was held there?' is answered true. -/
import Derived.Test.YtpofdimagfldnaaZ18
import Derived.Test.YtpofdimagfldnaaZ20
import Derived.Test.YtpofdimagfldnaaSoFrP
import Derived.Lib.SlBytesConst
namespace Go.Proofs.Ytpofdimagfldnaa.So
open Go.RowKit
open Go.Proofs.Ytpofdimagfldnaa.Me Go.Proofs.Ytpofdimagfldnaa.Sb
set_option linter.unusedVariables false
set_option linter.unusedSimpArgs false

theorem quota_any (w : World) : Calls Try.prog 17 #[] w fun e w' => e = .returned (.agg #[.int .i64 256, .int .i64 1048576, .int .i64 256]) ∧ Hid (Below w.heap.size w w') := by
  have HR := Lib.hid (heap_alloc_new w (.cells #[.int .i64 256, .int .i64 1048576, .int .i64 256] 23))
  have HB : Hid (Below w.heap.size w (w.alloc (.cells #[.int .i64 256, .int .i64 1048576, .int .i64 256] 23))) := Me.below_alloc (Below.refl _ _)
  go_enter Try.func17, Try.ntmps17
  go_wp2
  exact Sb.ret_box (g := w.heap.size) rfl (by rfl) HR.out rfl Try.underlying23 (by kernel_rfl) rfl ⟨rfl, HB.out⟩
def wk0 : Sto := new0 1 256 1048576 256
def wkI : Mg.Id4 := ⟨1, 2, 1, 1⟩
def wk1 : Sto := appE wk0 1 zeroI []
def wk2 : Sto := appE wk1 2 wkI [97]
theorem wk_a : mayE wk0 1 zeroI 0 = 0 := by decide
theorem wk_b : frN wk1 2 = 0 := by decide
theorem wk_c : frI wk1 2 = wkI := by decide
theorem wk_d : mayE wk1 2 wkI 1 = 0 := by decide
theorem wk_e : findH wk2.held wkI = some [97] := by decide
theorem wk_ok : NewOk 1 256 1048576 256 := ⟨by decide, by decide, by decide, by decide, by decide, by decide, by decide, by decide⟩
theorem conv_held {W : World} {B g c : Nat} (o : Obj) (h : Me.Own W B (.slice (some ⟨g, 0, none⟩) 1 c) [97]) : (convert 44 9 (.slice (some ⟨g, 0, none⟩) 1 c)).run Try.prog (W.alloc o) = .ok (.string ⟨#[97]⟩) (W.alloc o) := by
  obtain ⟨A', c', e, h1, h2, h3⟩ := h.held (by decide)
  simp only [Value.slice.injEq] at e
  obtain ⟨rfl, _, rfl⟩ := e
  have hr := h3.rd.below (Me.below_alloc (o := o) (Below.refl W.heap.size W))
  exact conv_rd (W.alloc o) W.heap.size (some ⟨g, 0, none⟩) [97] c hr fun e => by cases e
set_option maxRecDepth 100000 in
set_option maxHeartbeats 16000000 in
theorem awake_any (w : World) : Calls Try.prog 9 #[] w fun e w' => e = .returned (.bool true) ∧ Hid (Below w.heap.size w w') := by
  have HQ := Lib.hid (fun W => quota_any W)
  have HN : Hid (∀ W, w.heap.size ≤ W.heap.size → Calls Try.prog 20 #[.int .i64 1, .agg #[.int .i64 256, .int .i64 1048576, .int .i64 256]] W fun e w' => ∃ D, e = .returned (.tuple #[.pointer (some ⟨D, 0, none⟩), .int .i64 0]) ∧ Hid (Lv w.heap.size (fun _ => False) w' 0 D wk0) ∧ Hid (Below W.heap.size W w')) := fun W hW => New_l w.heap.size (fun _ => False) 1 256 1048576 256 wk_ok W hW fun _ h => h.elim
  have HA : Hid (∀ D W, Lv w.heap.size (fun _ => False) W 0 D wk0 → w.heap.size ≤ W.heap.size → Calls Try.prog 19 #[.pointer (some ⟨D, 0, none⟩), .agg #[.int .i64 1, .int .i64 0, .int .i64 0, .int .i64 0, .int .i64 0, .slice none 0 0]] W fun e w' => e = .returned (.int .i64 0) ∧ Hid (Lv w.heap.size (fun _ => False) w' 1 D wk1) ∧ Hid (But (Out w.heap.size (fun _ => False)) W w')) := fun D W h hW => by
    have := Apply_l w.heap.size (fun _ => False) W 0 D wk0 1 zeroI none 0 [] (by omega) ⟨by simp, by simp⟩ (fun _ => ⟨rfl, rfl⟩) hW (fun _ h => h.elim) h
    rw [show mayE wk0 1 zeroI ([] : List Nat).length = 0 from wk_a] at this
    exact this
  have HF : Hid (∀ D W, Lv w.heap.size (fun _ => False) W 1 D wk1 → Calls Try.prog 10 #[.pointer (some ⟨D, 0, none⟩), .int .i64 2] W fun e w' => e = .returned (.tuple #[.agg #[.int .i64 1, .int .i64 2, .int .i64 1, .int .i64 1], .int .i64 0]) ∧ Hid (Below W.heap.size W w')) := fun D W h => by
    have := Fresh_l w.heap.size (fun _ => False) W 1 D wk1 2 h
    rw [wk_b, wk_c] at this
    exact this
  have HH : Hid (∀ D W (X : Nat) (g : Nat) (c : Nat), Lv w.heap.size (fun k => k = X) W 1 D wk1 → w.heap.size ≤ W.heap.size → X < W.heap.size → Rd W W.heap.size (some ⟨g, 0, none⟩) [97] → Calls Try.prog 19 #[.pointer (some ⟨D, 0, none⟩), .agg #[.int .i64 2, .int .i64 1, .int .i64 2, .int .i64 1, .int .i64 1, .slice (some ⟨g, 0, none⟩) 1 c]] W fun e w' => e = .returned (.int .i64 0) ∧ Hid (Lv w.heap.size (fun k => k = X) w' 2 D wk2) ∧ Hid (But (Out w.heap.size (fun k => k = X)) W w')) := fun D W X g c h hW hX hr => by
    have := Apply_l w.heap.size (fun k => k = X) W 1 D wk1 2 wkI (some ⟨g, 0, none⟩) c [97] (by omega) hr (fun e => by cases e) hW (fun k e => by omega) h
    rw [show mayE wk1 2 wkI ([97] : List Nat).length = 0 from wk_d] at this
    exact this
  have HFi : Hid (∀ D W (X : Nat), Lv w.heap.size (fun k => k = X) W 2 D wk2 → Calls Try.prog 12 #[.pointer (some ⟨D, 0, none⟩), .agg #[.int .i64 1, .int .i64 2, .int .i64 1, .int .i64 1]] W fun e w' => Hid (Below W.heap.size W w') ∧ ∃ g c, e = .returned (.tuple #[.agg #[.int .i64 1, .int .i64 2, .int .i64 1, .int .i64 1, .slice (some ⟨g, 0, none⟩) 1 c], .bool true]) ∧ Hid (Me.Own w' W.heap.size (.slice (some ⟨g, 0, none⟩) 1 c) [97])) := fun D W X h => (Find_l w.heap.size (fun k => k = X) W 2 D wk2 wkI (fit_right (Mg.right_iff.1 (by decide))) h).mono fun e w' hf => by
    unfold FndP at hf
    obtain ⟨hb, hf | ⟨p, hp, A, c, he, ho⟩⟩ := hf
    · rw [wk_e] at hf; exact absurd hf.1 (by simp)
    · rw [wk_e] at hp
      cases hp
      rcases ho.out.2 with ⟨h1, _⟩ | ⟨g, cap, cur, h1, _⟩
      · cases h1
      · injection h1 with h2 _ _
        subst h2
        exact ⟨hb, g, c, he, ho⟩
  have kc := fun (w : World) (C : Array Value) (n c : Nat) => Lib.run_convert_bytes_const (P := Try.prog) w 44 5 C n c Try.underlying44 Try.underlying5
  go_enter Try.func9, Try.ntmps9
  go_wp2_with (first
    | (go_at_call 17; refine (HQ.out _).mono ?_; rintro e w1 ⟨rfl, b1⟩)
    | (go_at_call 20; refine (HN.out w1 b1.out.size).mono ?_; rintro e w2 ⟨D, rfl, l2, b2⟩; have k2 := Lib.hid (go_on b1.out b2.out))
    | (go_at_call 19; (with_reducible refine (HA.out D w2 l2.out k2.out.size).mono ?_); rintro e w3 ⟨rfl, l3, b3⟩; have k3 := Lib.hid (k2.out.trans (but_out b3.out k2.out.size)))
    | (go_at_call 10; refine (HF.out D w3 l3.out).mono ?_; rintro e w4 ⟨rfl, b4⟩; have kc1 := kc (w4.alloc (.cells #[.int .i64 1, .int .i64 2, .int .i64 1, .int .i64 1] 28)) #[.int .u8 97] 1 1; rw [World.size_alloc] at kc1))
  have k4 := Lib.hid (go_on k3.out b4.out)
  have l4 := Lib.hid (l3.out.below b4.out)
  obtain ⟨V, hV⟩ : ∃ V, (w4.alloc (.cells #[.int .i64 1, .int .i64 2, .int .i64 1, .int .i64 1] 28)).alloc (.cells #[.int .u8 97] 5 (1, 2)) = V := ⟨_, rfl⟩
  have hb1 : Below w4.heap.size w4 (w4.alloc (.cells #[.int .i64 1, .int .i64 2, .int .i64 1, .int .i64 1] 28)) := Me.below_alloc (Below.refl _ _)
  have hbV : Below w4.heap.size w4 V := by rw [← hV]; exact Me.below_alloc hb1
  have hxV : V.heap[w4.heap.size]? = some (.cells #[.int .i64 1, .int .i64 2, .int .i64 1, .int .i64 1] 28 (0, 0)) := by
    rw [← hV]
    exact ((Me.below_alloc (Below.refl (w4.alloc (.cells #[.int .i64 1, .int .i64 2, .int .i64 1, .int .i64 1] 28)).heap.size _)).block _ (by simp)).trans (heap_alloc_new w4 _)
  have hrV : Rd V V.heap.size (some ⟨w4.heap.size + 1, 0, none⟩) [97] := by
    rw [← hV]
    have := Me.rd_lit (w := w4.alloc (.cells #[.int .i64 1, .int .i64 2, .int .i64 1, .int .i64 1] 28)) (r := [97]) (by decide) 5 (1, 2)
    rw [show w4.heap.size + 1 = (w4.alloc (.cells #[.int .i64 1, .int .i64 2, .int .i64 1, .int .i64 1] 28)).heap.size from (World.size_alloc ..).symm]
    exact Rd.more this (by simp)
  have lV : Lv w.heap.size (fun k => k = w4.heap.size) V 1 D wk1 := (l4.out.other fun k hk e => by omega).below hbV
  rw [hV]
  have kV := go_on k4.out hbV
  have hXl := (Array.getElem?_eq_some_iff.1 hxV).1
  go_at_call 19
  refine (HH.out D V w4.heap.size (w4.heap.size + 1) 1 lV kV.size hXl hrV).mono ?_
  rintro e w5 ⟨rfl, l5, b5⟩
  have hx5 := Lib.hid (b5.out.at_ hxV (fun h => h.2 rfl))
  have k5 := Lib.hid (kV.trans (but_out b5.out kV.size))
  obtain ⟨X, hX⟩ : ∃ X, w4.heap.size = X := ⟨_, rfl⟩
  rw [hX] at hx5 l5 ⊢
  obtain ⟨y0, y1, y2, y3⟩ := id_cells hx5.out
  clear hV hb1 hbV hxV hrV lV kV hXl hX kc1 b5 l4 k4 b4 l3 k3 b3 HQ HN HA HF HH
  go_wp2_with (go_at_call 12; refine (HFi.out D w5 X l5.out).mono ?_; rintro e w6 ⟨b6, g, c, rfl, ho6⟩; have hx6 := Lib.hid ((b6.out.block X (Array.getElem?_eq_some_iff.1 hx5.out).1).trans hx5.out); have hcv := conv_held (.cells #[.int .i64 1, .int .i64 2, .int .i64 1, .int .i64 1, .slice (some ⟨g, 0, none⟩) 1 c] 46) ho6.out; obtain ⟨y0, y1, y2, y3⟩ := id_cells hx6.out; have hne6 : ¬ X = w6.heap.size := (fun e => by have := (Array.getElem?_eq_some_iff.1 hx6.out).1; omega); obtain ⟨v0, v1, v2, v3⟩ := id_cells (((Me.below_alloc (o := .cells #[.int .i64 1, .int .i64 2, .int .i64 1, .int .i64 1, .slice (some ⟨g, 0, none⟩) 1 c] 46) (Below.refl w6.heap.size w6)).block X (Array.getElem?_eq_some_iff.1 hx6.out).1).trans hx6.out))
  go_ret
  exact ⟨rfl, go_on (go_on k5.out b6.out) (Me.below_alloc (Below.refl _ _))⟩
end Go.Proofs.Ytpofdimagfldnaa.So
/- The law StoreFresh. -/
namespace Go.Proofs.Ytpofdimagfldnaa.So
open Go.RowKit
open Go.Proofs.Ytpofdimagfldnaa.Me Go.Proofs.Ytpofdimagfldnaa.Sb
set_option linter.unusedVariables false
set_option linter.unusedSimpArgs false

/-- The quota laid into its struct. -/
theorem set_q {w : World} {g T : Nat} {a b c d : Value} (x y z : Value) (h : w.heap[g]? = some (.cells #[a, b, c, d] T (0, 0))) : (w.setCells g 1 [x, y, z]).heap[g]? = some (.cells #[a, x, y, z] T (0, 0)) ∧ But (fun k => k = g) w (w.setCells g 1 [x, y, z]) := by
  refine ⟨?_, (but_setCells w g 1 _).1⟩
  obtain ⟨cur', q1, q2, q3, q4⟩ := heap_setCells g T [x, y, z] 1 w _ h
  have e : cur' = #[a, x, y, z] := by
    apply Array.ext_getElem?
    intro k
    have hk : k = 0 ∨ k = 1 ∨ k = 2 ∨ k = 3 ∨ 4 ≤ k := by omega
    rcases hk with rfl | rfl | rfl | rfl | hk
    · rw [q3 0 (by simp)]; rfl
    · rw [show (1 : Nat) = 1 + 0 from rfl, q4 0 (by simp) (by simp)]; rfl
    · rw [show (2 : Nat) = 1 + 1 from rfl, q4 1 (by simp) (by simp)]; rfl
    · rw [show (3 : Nat) = 1 + 2 from rfl, q4 2 (by simp) (by simp)]; rfl
    · rw [Array.getElem?_eq_none (by rw [q2]; simp; omega), Array.getElem?_eq_none (by simp; omega)]
  rw [e] at q1
  exact q1
theorem there4 {w : World} {g T : Nat} {a b c d : Value} (h : w.heap[g]? = some (.cells #[a, b, c, d] T (0, 0))) : w.there g 1 3 := fun j hj => ⟨by
  have hj' : j = 0 ∨ j = 1 ∨ j = 2 := by omega
  rw [cell_of_row _ g _ _ _ (0, 0) h]
  rcases hj' with rfl | rfl | rfl <;> rfl, frozen_of_row w g _ _ _ h⟩
set_option maxRecDepth 100000 in
set_option maxHeartbeats 16000000 in
theorem storeFresh_no (me qh qb qg : Int) (v1 v2 : Value) (w : World) (h : ¬ NewOk me 256 1048576 256) : Calls Try.prog 4 #[.agg #[.int .i64 me, .int .i64 qh, .int .i64 qb, .int .i64 qg], v1, v2] w fun e w' => e = .returned (.bool true) ∧ Below w.heap.size w w' := by
  have HQ := Lib.hid (fun W => quota_any W)
  have HD := Lib.hid (fun W => done0_no me 256 1048576 256 W h)
  have HAw := Lib.hid (fun W => awake_any W)
  have HX : Hid ((w.alloc (.cells #[.int .i64 me, .int .i64 qh, .int .i64 qb, .int .i64 qg] 25)).heap[w.heap.size]? = some (.cells #[.int .i64 me, .int .i64 qh, .int .i64 qb, .int .i64 qg] 25 (0, 0))) := heap_alloc_new w _
  have HB : Hid (Below w.heap.size w (w.alloc (.cells #[.int .i64 me, .int .i64 qh, .int .i64 qb, .int .i64 qg] 25))) := Me.below_alloc (Below.refl _ _)
  unfold rs0 at HD
  clear h
  go_enter Try.func4, Try.ntmps4
  go_wp2_with (first
    | (go_at_call 17; refine (HQ.out _).mono ?_; rintro e w1 ⟨rfl, b1⟩; have HX1 := Lib.hid ((b1.out.block _ (Array.getElem?_eq_some_iff.1 HX.out).1).trans HX.out); have HB1 := Lib.hid (go_on HB.out b1.out))
    | (refine wpList_store_mid rfl 23 (.tmp 17) (.tmp 16) rfl w.heap.size 1 #[.int .i64 256, .int .i64 1048576, .int .i64 256] rfl rfl (there4 HX1.out) (by kernel_rfl) (by kernel_rfl) ?_
       obtain ⟨V, hV⟩ : ∃ V, w1.setCells w.heap.size 1 (#[.int .i64 256, .int .i64 1048576, .int .i64 256] : Array Value).toList = V := ⟨_, rfl⟩
       have hs := set_q (.int .i64 256) (.int .i64 1048576) (.int .i64 256) HX1.out
       rw [show [Value.int .i64 256, .int .i64 1048576, .int .i64 256] = (#[.int .i64 256, .int .i64 1048576, .int .i64 256] : Array Value).toList from rfl, hV] at hs
       rw [hV]
       have HBV : Hid (Below w.heap.size w V) := HB1.out.trans (hs.2.below HB1.out.size fun k hk => by omega)
       obtain ⟨x0, x1, x2, x3⟩ := set_cells hs.1
       clear hV hs)
    | (go_at_call 8; refine (HD.out _).mono ?_; rintro e w2 ⟨rfl, b2⟩)
    | (go_at_call 9; refine (HAw.out _).mono ?_; rintro e w3 ⟨rfl, b3⟩))
  go_ret
  exact ⟨rfl, go_on (go_on (go_on HBV.out b2.out) (Me.below_alloc (Below.refl _ _))) b3.out⟩
/-- What is held between rounds. -/
theorem ki_mv {M : Nat} {w w' : World} {v : Value} {l : List Mg.Id4} (h : Ki w 0 v l) (hb : But (Out M fun k => v.ownBlock = some k) w w') : Ki w' 0 v l := ki_at h fun k e => hb.same k (Ki.lt h e).2 fun ho => ho.2 e
theorem lv_app {M : Nat} {w w' : World} {m D : Nat} {s : Sto} {v v' : Value} {l : List Mg.Id4} (h : Lv M (fun k => v.ownBlock = some k) w m D s) (hk : Ki w 0 v l) (hg : w.grownBy w' v.ownBlock) (hw : v'.ownBlock = v.ownBlock ∨ v'.ownBlock = some w.heap.size) : Lv M (fun k => v'.ownBlock = some k) w' m D s := by
  have h2 : Lv M (fun k => v.ownBlock = some k ∨ k = w.heap.size) w m D s := h.other fun k hk e => e.elim id fun e => by omega
  have hb : But (fun k => v.ownBlock = some k) w w' := (But.refl _ w).grown hg fun r e => .inl e
  have h3 : Lv M (fun k => v.ownBlock = some k ∨ k = w.heap.size) w' m D s := h2.but hb (fun k e => .inl (.inl e)) fun k cs e hc => by
    obtain ⟨cur, hcur⟩ := own_type hk k e
    rw [hc] at hcur
    simp at hcur
  exact h3.other fun k _ e => by
    rcases hw with h4 | h4
    · exact .inl (h4 ▸ e)
    · rw [h4] at e; exact .inr (by simpa using e.symm)
set_option maxRecDepth 100000 in
set_option maxHeartbeats 32000000 in
theorem storeFresh_ok (me qh qb qg : Int) (A1 : Option Addr) (len1 cap1 : Nat) (ls : List Evt) (A2 : Option Addr) (len2 cap2 : Nat) (zs : List Int) (w : World) (h : NewOk me 256 1048576 256) (w1 : len1 = ls.length ∧ len1 ≤ cap1 ∧ cap1 ≤ 9223372036854775807 ∧ Evs w A1 ls) (w2 : Mi.BySlice w A2 len2 cap2 zs) : Calls Try.prog 4 #[.agg #[.int .i64 me, .int .i64 qh, .int .i64 qb, .int .i64 qg], .slice A1 len1 cap1, .slice A2 len2 cap2] w fun e w' => e = .returned (.bool true) ∧ Below w.heap.size w w' := by
  obtain ⟨rfl, hc1, hc2, hev⟩ := w1
  obtain ⟨rfl, hd1, hd2, hrd, hd3, hd4⟩ := w2
  obtain ⟨L, hL⟩ : ∃ L, (ls.take 50).length = L := ⟨_, rfl⟩
  have hL50 : L ≤ 50 ∧ L ≤ ls.length := by rw [← hL, List.length_take]; omega
  have HCut := Lib.hid (fun W => cut_any A1 cap1 ls W hc1 hc2 L hL)
  obtain ⟨n1, hn1⟩ : ∃ n, ls.length = n := ⟨_, rfl⟩
  obtain ⟨N2, hN2⟩ : ∃ n, zs.length = n := ⟨_, rfl⟩
  have HQ := Lib.hid (fun W => quota_any W)
  have HDn := Lib.hid (fun W (hW : w.heap.size ≤ W.heap.size) => done0_ok me 256 1048576 256 W w.heap.size (fun _ => False) hW (fun _ h => h.elim) h)
  have HAw := Lib.hid (fun W => awake_any W)
  have HE : Hid (∀ j, j < L → ∀ W, Below w.heap.size w W → ∃ b off R cr, A1 = some ⟨b, off, none⟩ ∧ W.cell? ⟨b, off + j * 6, none⟩ = some (.int .i64 (evAt ls j).k) ∧ W.cell? ⟨b, off + j * 6 + 1, none⟩ = some (.int .i64 (evAt ls j).i.o) ∧
    W.cell? ⟨b, off + j * 6 + 2, none⟩ = some (.int .i64 (evAt ls j).i.d) ∧ W.cell? ⟨b, off + j * 6 + 3, none⟩ = some (.int .i64 (evAt ls j).i.e) ∧ W.cell? ⟨b, off + j * 6 + 4, none⟩ = some (.int .i64 (evAt ls j).i.c) ∧
    W.cell? ⟨b, off + j * 6 + 5, none⟩ = some (.slice R (evAt ls j).p.length cr) ∧ Me.Rd W W.heap.size R (evAt ls j).p ∧ (R = none → (evAt ls j).p.length = 0 ∧ cr = 0)) := fun j hj W hW => by
    obtain ⟨b, off, R, cr, e1, e2, c0, c1, c2, c3, c4, c5, g1, g2, g3, g4⟩ := hev.below hW j (by omega)
    exact ⟨b, off, R, cr, e1, c0, c1, c2, c3, c4, c5, g3, g4⟩
  have HZ : Hid (∀ j, j < N2 → ∃ b off, A2 = some ⟨b, off, none⟩ ∧ ∀ W, Below w.heap.size w W → W.cell? ⟨b, off + j, none⟩ = some (.int .i64 (Mi.at_ zs j))) := fun j hj => by
    obtain ⟨b, off, e1, e2, e3⟩ := hrd (by omega)
    exact ⟨b, off, e1, fun W hW => (hW.cell (p := ⟨b, off + j, none⟩) e2).trans (e3 j (by omega))⟩
  have HX : Hid ((w.alloc (.cells #[.int .i64 me, .int .i64 qh, .int .i64 qb, .int .i64 qg] 25)).heap[w.heap.size]? = some (.cells #[.int .i64 me, .int .i64 qh, .int .i64 qb, .int .i64 qg] 25 (0, 0))) := heap_alloc_new w _
  have HB : Hid (Below w.heap.size w (w.alloc (.cells #[.int .i64 me, .int .i64 qh, .int .i64 qb, .int .i64 qg] 25))) := Me.below_alloc (Below.refl _ _)
  rw [hn1] at HCut hL50 ⊢
  rw [hN2]
  unfold rsc at HDn
  clear h hc1 hc2 hev hd1 hd2 hd3 hd4 hrd hL hn1 hN2
  go_enter Try.func4, Try.ntmps4
  go_wp2_with (first
    | (go_at_call 17; refine (HQ.out _).mono ?_; rintro e w1 ⟨rfl, b1⟩; have HX1 := Lib.hid ((b1.out.block _ (Array.getElem?_eq_some_iff.1 HX.out).1).trans HX.out); have HB1 := Lib.hid (go_on HB.out b1.out))
    | (refine wpList_store_mid rfl 23 (.tmp 17) (.tmp 16) rfl w.heap.size 1 #[.int .i64 256, .int .i64 1048576, .int .i64 256] rfl rfl (there4 HX1.out) (by kernel_rfl) (by kernel_rfl) ?_
       obtain ⟨V, hV⟩ : ∃ V, w1.setCells w.heap.size 1 (#[.int .i64 256, .int .i64 1048576, .int .i64 256] : Array Value).toList = V := ⟨_, rfl⟩
       have hs := set_q (.int .i64 256) (.int .i64 1048576) (.int .i64 256) HX1.out
       rw [show [Value.int .i64 256, .int .i64 1048576, .int .i64 256] = (#[.int .i64 256, .int .i64 1048576, .int .i64 256] : Array Value).toList from rfl, hV] at hs
       rw [hV]
       have HBV : Hid (Below w.heap.size w V) := HB1.out.trans (hs.2.below HB1.out.size fun k hk => by omega)
       obtain ⟨x0, x1, x2, x3⟩ := set_cells hs.1
       clear hV hs)
    | (go_at_call 8; refine (HDn.out _ HBV.out.size).mono ?_; rintro e w2 ⟨D, rfl, l2, b2⟩; have HB2 := Lib.hid (go_on HBV.out b2.out)
       have HBA := Lib.hid (Me.below_alloc (o := .cells #[.int .i64 me, .int .i64 256, .int .i64 1048576, .int .i64 256, .int .i64 0, .slice none 0 0, .slice none 0 0, .int .i64 256, .slice none 0 0] 36) (Below.refl w2.heap.size w2)))
    | (go_at_call 18; refine (HCut.out _).mono ?_; rintro e w3 ⟨rfl, rfl⟩))
  obtain ⟨V0, hV0⟩ : ∃ V, ((w2.alloc (.cells #[.int .i64 me, .int .i64 256, .int .i64 1048576, .int .i64 256, .int .i64 0, .slice none 0 0, .slice none 0 0, .int .i64 256, .slice none 0 0] 36)).alloc (.cells #[] 28)) = V := ⟨_, rfl⟩
  obtain ⟨WA, hWA⟩ : ∃ V, (w2.alloc (.cells #[.int .i64 me, .int .i64 256, .int .i64 1048576, .int .i64 256, .int .i64 0, .slice none 0 0, .slice none 0 0, .int .i64 256, .slice none 0 0] 36)) = V := ⟨_, rfl⟩
  have hza : w2.heap.size + 1 = WA.heap.size := by rw [← hWA, World.size_alloc]
  have hBA : Below w2.heap.size w2 WA := by rw [← hWA]; exact HBA.out
  rw [hWA] at hV0
  have hBN : Below WA.heap.size WA V0 := by rw [← hV0]; exact Me.below_alloc (Below.refl _ _)
  have hK0 : Ki V0 0 (.slice (some ⟨w2.heap.size + 1, 0, none⟩) 0 0) [] := by
    rw [hza, ← hV0]
    exact own_base (Ki.lit (w := WA)) fun _ _ => Nat.zero_le _
  have hL0 : Lv w.heap.size (fun k => (Value.slice (some ⟨w2.heap.size + 1, 0, none⟩) 0 0).ownBlock = some k) V0 0 D (new0 me 256 1048576 256) := by
    refine Lv.below (Lv.other (l2.out.below hBA) fun k hk e => ?_) hBN
    have e' : w2.heap.size + 1 = k := by simpa [Value.ownBlock] using e
    omega
  have hB0 : Below w.heap.size w V0 := go_on (go_on HB2.out hBA) hBN
  have hM0 : ∀ k, (Value.slice (some ⟨w2.heap.size + 1, 0, none⟩) 0 0).ownBlock = some k → w.heap.size ≤ k := fun k e => by
    have e' : w2.heap.size + 1 = k := by simpa [Value.ownBlock] using e
    have := HB2.out.size
    omega
  rw [hWA, hV0]
  have HK0 := Lib.hid hK0
  have HL0 := Lib.hid hL0
  have HB0 := Lib.hid hB0
  have HM0 := Lib.hid hM0
  clear hV0 hWA hza hBA hBN hK0 hL0 hB0 hM0 HX HB HQ HDn HCut b1 HX1 HB1 HBV x0 x1 x2 x3 l2 b2 HB2 HBA
  go_loopw [10, 11] (fun v10 v11 wr => ∃ (j : Nat) (ids : List Mg.Id4) (s : Sto) (m : Nat), v11 = .int .i64 (j : Int) ∧ j ≤ 50 ∧ Hid (m ≤ 2 * j) ∧ Hid (ids.length ≤ j) ∧ Hid (Lv w.heap.size (fun k => v10.ownBlock = some k) wr m D s) ∧ Hid (Ki wr 0 v10 ids) ∧ Hid (∀ k, v10.ownBlock = some k → w.heap.size ≤ k) ∧ Hid (Used s ids) ∧ Hid (Below w.heap.size w wr)) (fun _ v11 _ => 50 - (intOf v11).toNat)
  case atStart => exact ⟨0, [], _, 0, rfl, by omega, Nat.le_refl _, Nat.le_refl _, HL0, HK0, HM0, Used.nil _, HB0⟩
  case round =>
    obtain ⟨j, ids, s, m, rfl, hj, Hm, Hlen, HL, HK, HMk, HU, HBr⟩ := hrel
    by_cases hD : ¬ j < L ∧ ¬ (j < N2 ∧ j < 50)
    · have hD1 : ¬ (j : Int) < (L : Int) := by omega
      have hD2 : ¬ (j : Int) < (N2 : Int) ∨ ((j : Int) < (N2 : Int) ∧ ¬ (j : Int) < 50) := by omega
      clear hD
      rcases hD2 with hD2 | ⟨hD2, hD3⟩
      all_goals
        go_wp2_with (go_at_call 9; refine (HAw.out _).mono ?_; rintro e w9 ⟨rfl, b9⟩)
        go_ret
        exact ⟨rfl, go_on HBr.out b9.out⟩
    · have hj50 : j < 50 := by omega
      have hjI : (j : Int) < 50 := by omega
      by_cases hA : ¬ j < N2
      · have hjL : j < L := by omega
        have hjL1 : (j : Int) < (L : Int) := by omega
        have hjN1 : ¬ (j : Int) < (N2 : Int) := by omega
        have hjN2 : (N2 : Int) ≤ (j : Int) := by omega
        obtain ⟨b, off, R, cr, rfl, c0, c1, c2, c3, c4, c5, g3, g4⟩ := HE.out j hjL wr HBr.out
        obtain ⟨⟨ek, ⟨eo, ed, ee, ec⟩, ep⟩, hq⟩ : ∃ q, evAt ls j = q := ⟨_, rfl⟩
        rw [hq] at c0 c1 c2 c3 c4 c5 g3 g4
        simp only at c0 c1 c2 c3 c4 c5 g3 g4
        have HAp := Lib.hid (Apply_l w.heap.size (fun k => u10.ownBlock = some k) wr m D s ek ⟨eo, ed, ee, ec⟩ R cr ep (by have := Hm.out; omega) g3 g4 HBr.out.size (fun k e => (Ki.lt HK.out e).2) HL)
        have HU3 := Lib.hid (HU.out.app ek ⟨eo, ed, ee, ec⟩ ep)
        obtain ⟨en, hen⟩ : ∃ n, ep.length = n := ⟨_, rfl⟩
        rw [hen] at HAp c5
        simp only [evC] at HAp
        obtain ⟨mN, hmN⟩ : ∃ n, mayE s ek ⟨eo, ed, ee, ec⟩ en = n := ⟨_, rfl⟩
        obtain ⟨s3, hs3⟩ : ∃ n, appE s ek ⟨eo, ed, ee, ec⟩ ep = n := ⟨_, rfl⟩
        rw [hmN, hs3] at HAp
        rw [hs3] at HU3
        clear hq g3 g4 hen hmN hs3
        clear hD hA
        go_wp2_with (go_at_call 19; (with_reducible refine HAp.out.mono ?_); rintro e w3 ⟨rfl, l3, b3⟩)
        go_roundw
        case rel => exact ⟨j + 1, ids, s3, m + 1, by go_num, by omega, (by have := Hm.out; show m + 1 ≤ _; omega), (by have := Hlen.out; show ids.length ≤ _; omega), l3, ki_mv HK.out b3.out, HMk, HU3, HBr.out.trans (but_out b3.out HBr.out.size)⟩
        case measure => simp [intOf]; omega
      · have hjN : j < N2 := by omega
        have hjN1 : (j : Int) < (N2 : Int) := by omega
        have hjN2 : ¬ (N2 : Int) ≤ (j : Int) := by omega
        obtain ⟨zb, zoff, rfl, HZc⟩ := HZ.out j hjN
        obtain ⟨dd, hdd⟩ : ∃ n, Mi.at_ zs j = n := ⟨_, rfl⟩
        rw [hdd] at HZc
        have HZC := Lib.hid HZc
        clear HZc hdd
        by_cases hjL : j < L
        case' pos =>
          have hjL1 : (j : Int) < (L : Int) := by omega
          obtain ⟨b, off, R, cr, rfl, c0, c1, c2, c3, c4, c5, g3, g4⟩ := HE.out j hjL wr HBr.out
          obtain ⟨⟨ek, ⟨eo, ed, ee, ec⟩, ep⟩, hq⟩ : ∃ q, evAt ls j = q := ⟨_, rfl⟩
          rw [hq] at c0 c1 c2 c3 c4 c5 g3 g4
          simp only at c0 c1 c2 c3 c4 c5 g3 g4
          have HAp := Lib.hid (Apply_l w.heap.size (fun k => u10.ownBlock = some k) wr m D s ek ⟨eo, ed, ee, ec⟩ R cr ep (by have := Hm.out; omega) g3 g4 HBr.out.size (fun k e => (Ki.lt HK.out e).2) HL)
          have HU3 := Lib.hid (HU.out.app ek ⟨eo, ed, ee, ec⟩ ep)
          obtain ⟨en, hen⟩ : ∃ n, ep.length = n := ⟨_, rfl⟩
          rw [hen] at HAp c5
          simp only [evC] at HAp
          obtain ⟨mN, hmN⟩ : ∃ n, mayE s ek ⟨eo, ed, ee, ec⟩ en = n := ⟨_, rfl⟩
          obtain ⟨s3, hs3⟩ : ∃ n, appE s ek ⟨eo, ed, ee, ec⟩ ep = n := ⟨_, rfl⟩
          rw [hmN, hs3] at HAp
          rw [hs3] at HU3
          clear hq g3 g4 hen hmN hs3
          clear hD hA
          go_wp2_with (go_at_call 19; (with_reducible refine HAp.out.mono ?_); rintro e w3 ⟨rfl, l3, b3⟩; have zc := HZC.out w3 (HBr.out.trans (but_out b3.out HBr.out.size)))
          have k3 := Lib.hid (ki_mv HK.out b3.out)
          have B3 : Hid (Below w.heap.size w w3) := HBr.out.trans (but_out b3.out HBr.out.size)
          clear b3 HL HK HU HBr HAp c0 c1 c2 c3 c4 c5
        case' neg =>
          have hjL1 : ¬ (j : Int) < (L : Int) := by omega
          clear hD hA
          have zc := HZC.out wr HBr.out
          go_wp2_with (fail)
          obtain ⟨s3, l3, HU3⟩ : ∃ s3, Hid (Lv w.heap.size (fun k => u10.ownBlock = some k) wr (m + 1) D s3) ∧ Hid (Used s3 ids) := ⟨s, HL.out.mono (Nat.le_succ _), HU⟩
          have k3 := HK
          have B3 := HBr
          obtain ⟨w3, hw3⟩ : ∃ w3, wr = w3 := ⟨_, rfl⟩
          rw [hw3] at l3 k3 B3 ⊢
          clear hw3
          clear HL HK HU HBr
        all_goals
          clear zc
          obtain ⟨fN, hfN⟩ : ∃ n, frN s3 dd = n := ⟨_, rfl⟩
          obtain ⟨⟨fo, fd, fe, fc⟩, hfI⟩ : ∃ x, frI s3 dd = x := ⟨_, rfl⟩
          have HF := Lib.hid (Fresh_l w.heap.size (fun k => u10.ownBlock = some k) w3 (m + 1) D s3 dd l3)
          rw [hfN, hfI] at HF
          simp only [Mg.idC] at HF
          have HNo : Hid (fN = 0 → ∀ i ∈ ids, i ≠ ⟨fo, fd, fe, fc⟩) := fun h0 => by
            have := HU3.out.fresh (d := dd) (hfN.trans h0)
            rw [hfI] at this
            exact this
          have HP : Hid (fN = 0 → mayE s3 2 ⟨fo, fd, fe, fc⟩ ([1] : List Nat).length = 0 → Used (appE s3 2 ⟨fo, fd, fe, fc⟩ [1]) (ids ++ [⟨fo, fd, fe, fc⟩])) := fun h0 h1 => by
            have := HU3.out.put (d := dd) (hfN.trans h0) (p := [1])
            rw [hfI] at this
            exact this h1
          clear hfN hfI
          by_cases c3 : fN = 0
          case neg =>
            have g3 : (((fN : Int)) != 0) = true := by simpa using c3
            go_wp2_with (go_at_call 10; refine HF.out.mono ?_; rintro e w4 ⟨rfl, b4⟩)
            have hbn : Below w4.heap.size w4 (w4.alloc (.cells #[.int .i64 fo, .int .i64 fd, .int .i64 fe, .int .i64 fc] 28)) := Me.below_alloc (Below.refl _ _)
            have hb4 := go_on b4.out hbn
            go_roundw
            case rel => exact ⟨j + 1, ids, s3, m + 1, by go_num, by omega, (by have := Hm.out; show m + 1 ≤ _; omega), (by have := Hlen.out; show ids.length ≤ _; omega), l3.out.below hb4, ki_at k3.out fun k e => hb4.block k (Ki.lt k3.out e).2, HMk, HU3, go_on B3.out hb4⟩
            case measure => simp [intOf]; omega
          case pos =>
            subst c3
            have HNo2 : Hid (∀ i ∈ ids, i ≠ ⟨fo, fd, fe, fc⟩) := HNo.out rfl
            have HP2 : Hid (mayE s3 2 ⟨fo, fd, fe, fc⟩ ([1] : List Nat).length = 0 → Used (appE s3 2 ⟨fo, fd, fe, fc⟩ [1]) (ids ++ [⟨fo, fd, fe, fc⟩])) := HP.out rfl
            clear HNo HP
            go_wp2_with (go_at_call 10; refine HF.out.mono ?_; rintro e w4 ⟨rfl, b4⟩)
            obtain ⟨V, hV⟩ : ∃ V, w4.alloc (.cells #[.int .i64 fo, .int .i64 fd, .int .i64 fe, .int .i64 fc] 28) = V := ⟨_, rfl⟩
            have hbn : Below w4.heap.size w4 V := by rw [← hV]; exact Me.below_alloc (Below.refl _ _)
            have hXV : V.heap[w4.heap.size]? = some (.cells #[.int .i64 fo, .int .i64 fd, .int .i64 fe, .int .i64 fc] 28 (0, 0)) := by rw [← hV]; exact heap_alloc_new w4 _
            have hb4 := go_on b4.out hbn
            have LV : Hid (Lv w.heap.size (fun k => u10.ownBlock = some k ∨ k = w4.heap.size) V (m + 1) D s3) := Lv.below (Lv.other (l3.out.below b4.out) fun k hk e => e.elim id fun e => by omega) hbn
            have hKV : Ki V 0 u10 ids := ki_at k3.out fun k e => hb4.block k (Ki.lt k3.out e).2
            have KV := Lib.hid hKV
            have BV := Lib.hid (go_on B3.out hb4)
            have hXn : u10.ownBlock ≠ some w4.heap.size := fun e => by
              have h1 := (Ki.lt k3.out e).2
              have h2 := b4.out.size
              omega
            have HXn := Lib.hid hXn
            have HXM : Hid (w.heap.size ≤ w4.heap.size) := Nat.le_trans B3.out.size b4.out.size
            rw [hV]
            have HXV := Lib.hid hXV
            obtain ⟨X, hX⟩ : ∃ X, w4.heap.size = X := ⟨_, rfl⟩
            rw [hX] at HXV HXn HXM LV ⊢
            obtain ⟨A, c, rfl, hAc, hcm, _, hIds, hoff⟩ := hKV.form2
            have HIx : Hid (∀ k, k < ids.length → ∃ g, A = some ⟨g, 0, none⟩ ∧ idAt ids k ≠ ⟨fo, fd, fe, fc⟩ ∧ ∀ W, Below V.heap.size V W → W.cell? ⟨g, k * 4, none⟩ = some (.int .i64 (idAt ids k).o) ∧ W.cell? ⟨g, k * 4 + 1, none⟩ = some (.int .i64 (idAt ids k).d) ∧ W.cell? ⟨g, k * 4 + 2, none⟩ = some (.int .i64 (idAt ids k).e) ∧ W.cell? ⟨g, k * 4 + 3, none⟩ = some (.int .i64 (idAt ids k).c)) := fun k hk => by
              obtain ⟨b', off', e1, e2, q0, q1, q2, q3⟩ := hIds k hk
              obtain ⟨rfl, _⟩ := hoff b' off' e1
              rw [Nat.zero_add] at q0 q1 q2 q3
              refine ⟨b', e1, HNo2.out _ ?_, fun W hW => ⟨(hW.cell e2).trans q0, (hW.cell e2).trans q1, (hW.cell e2).trans q2, (hW.cell e2).trans q3⟩⟩
              unfold idAt
              rw [List.getD_eq_getElem?_getD, List.getElem?_eq_getElem hk]
              exact List.getElem_mem hk
            obtain ⟨N, hN⟩ : ∃ N, ids.length = N := ⟨_, rfl⟩
            rw [hN] at HIx hAc KV LV HMk HXn ⊢
            have HN := Lib.hid hN
            clear hV hbn hXV hb4 hKV hXn hX hIds hoff hN HF l3 k3 b4 B3 HNo2 HZC hjN2 hjN1 hjI hjL1
            go_loopw [14] (fun v14 wq => ∃ k : Nat, v14 = .int .i64 (k : Int) ∧ k ≤ N ∧ Hid (Below V.heap.size V wq)) (fun v14 _ => N - (intOf v14).toNat)
            case atStart => exact ⟨0, rfl, Nat.zero_le _, Below.refl _ _⟩
            case round =>
              obtain ⟨k, rfl, hk, Bq⟩ := hrel
              have hXq : wr.heap[X]? = some (.cells #[.int .i64 fo, .int .i64 fd, .int .i64 fe, .int .i64 fc] 28 (0, 0)) := (Bq.out.block X (Array.getElem?_eq_some_iff.1 HXV.out).1).trans HXV.out
              obtain ⟨y0, y1, y2, y3⟩ := id_cells hXq
              by_cases hlt : k < N
              · obtain ⟨g, rfl, hne, hcl⟩ := HIx.out k hlt
                obtain ⟨z0, z1, z2, z3⟩ := hcl wr Bq.out
                have g1 : (k : Int) < (N : Int) := by omega
                obtain ⟨⟨xo, xd, xe, xc⟩, hx⟩ : ∃ x, idAt ids k = x := ⟨_, rfl⟩
                rw [hx] at z0 z1 z2 z3 hne
                simp only at z0 z1 z2 z3
                clear hcl hx
                have HCs : (xo == fo) = false ∨ (xo = fo ∧ (xd == fd) = false) ∨ (xo = fo ∧ xd = fd ∧ (xe == fe) = false) ∨ (xo = fo ∧ xd = fd ∧ xe = fe ∧ (xc == fc) = false) := by
                  by_cases a0 : xo = fo
                  · by_cases a1 : xd = fd
                    · by_cases a2 : xe = fe
                      · exact .inr (.inr (.inr ⟨a0, a1, a2, by simpa using fun h : xc = fc => hne (by rw [a0, a1, a2, h])⟩))
                      · exact .inr (.inr (.inl ⟨a0, a1, by simpa using a2⟩))
                    · exact .inr (.inl ⟨a0, by simpa using a1⟩)
                  · exact .inl (by simpa using a0)
                clear hne hXq
                rcases HCs with g2 | ⟨rfl, g2⟩ | ⟨rfl, rfl, g2⟩ | ⟨rfl, rfl, rfl, g2⟩
                all_goals
                  go_wp2
                  go_quiet (fail)
                  go_wp2
                  go_roundw
                  case rel => exact ⟨k + 1, by go_num, by omega, Me.below_drewN Bq.out _⟩
                  case measure => simp [intOf]; omega
              · have g1 : ¬ (k : Int) < (N : Int) := by omega
                clear HIx
                go_wp2_with (fail)
                obtain ⟨V2, hV2⟩ : ∃ V2, ((wr.alloc (.cells #[.int .u8 1] 5)).alloc (.cells #[.int .i64 fo, .int .i64 fd, .int .i64 fe, .int .i64 fc, .slice (some ⟨wr.heap.size, 0, none⟩) 1 1] 46)) = V2 := ⟨_, rfl⟩
                have hb2 : Below wr.heap.size wr V2 := by rw [← hV2]; exact Me.below_alloc (Me.below_alloc (Below.refl _ _))
                have hR : Rd V2 V2.heap.size (some ⟨wr.heap.size, 0, none⟩) [1] := by
                  have h1 := Me.rd_lit (w := wr) (r := [1]) (by decide) 5 (0, 0)
                  have h2 : Rd (wr.alloc (.cells #[.int .u8 1] 5)) (wr.alloc (.cells #[.int .u8 1] 5)).heap.size (some ⟨wr.heap.size, 0, none⟩) [1] := Rd.more h1 (by simp)
                  rw [← hV2]
                  exact Rd.more (h2.below (Me.below_alloc (Below.refl _ _))) (by simp)
                have hLV2 := (LV.out.below Bq.out).below hb2
                have hBV2 := go_on (go_on BV.out Bq.out) hb2
                have hVw := go_on Bq.out hb2
                have hKV2 : Ki V2 0 (.slice A N c) ids := ki_at KV.out fun k e => hVw.block k (Ki.lt KV.out e).2
                have hXV2 := (hVw.block X (Array.getElem?_eq_some_iff.1 HXV.out).1).trans HXV.out
                have hm1 : m + 1 ≤ 1000000 := by have := Hm.out; omega
                have HH := Apply_l w.heap.size (fun k => (Value.slice A N c).ownBlock = some k ∨ k = X) V2 (m + 1) D s3 2 ⟨fo, fd, fe, fc⟩ (some ⟨wr.heap.size, 0, none⟩) 1 [1] hm1 hR (fun e => by cases e) hBV2.size (fun k e => e.elim (fun e => (Ki.lt hKV2 e).2) fun e => by rw [e]; exact (Array.getElem?_eq_some_iff.1 hXV2).1) hLV2
                rw [hV2]
                refine HH.mono ?_
                rintro e w5 ⟨rfl, l5, b5⟩
                have B5 : Hid (Below w.heap.size w w5) := hBV2.trans (but_out b5.out hBV2.size)
                have hK5 : Ki w5 0 (.slice A N c) ids := ki_at hKV2 fun k e => b5.out.same k (Ki.lt hKV2 e).2 fun ho => ho.2 (.inl e)
                have hX5 := b5.out.at_ hXV2 fun ho => ho.2 (.inr rfl)
                have l5' : Hid (Lv w.heap.size (fun k => (Value.slice A N c).ownBlock = some k) w5 (m + 1 + 1) D (appE s3 2 ⟨fo, fd, fe, fc⟩ [1])) := l5.out.other fun k _ e => .inl e
                have HUa : Hid (Used (appE s3 2 ⟨fo, fd, fe, fc⟩ [1]) ids) := HU3.out.app _ _ _
                obtain ⟨mN, hmN⟩ : ∃ n, mayE s3 2 ⟨fo, fd, fe, fc⟩ ([1] : List Nat).length = n := ⟨_, rfl⟩
                rw [hmN] at HP2 ⊢
                obtain ⟨s5, hs5⟩ : ∃ n, appE s3 2 ⟨fo, fd, fe, fc⟩ [1] = n := ⟨_, rfl⟩
                rw [hs5] at HP2 l5' HUa
                have HK5 := Lib.hid hK5
                have HX5 := Lib.hid hX5
                clear HH hmN hs5 hV2 hb2 hR hLV2 hBV2 hVw hKV2 hXV2 hm1 hK5 hX5 b5 l5 y0 y1 y2 y3 hXq LV KV HXV HU3
                by_cases hm0 : mN = 0
                · have HP3 : Hid (Used s5 (ids ++ [⟨fo, fd, fe, fc⟩])) := HP2.out hm0
                  subst hm0
                  obtain ⟨y0, y1, y2, y3⟩ := id_cells HX5.out
                  obtain ⟨V6, hV6⟩ : ∃ V6, w5.alloc (.cells #[.int .i64 fo, .int .i64 fd, .int .i64 fe, .int .i64 fc] 28) = V6 := ⟨_, rfl⟩
                  have hb6 : Below w5.heap.size w5 V6 := by rw [← hV6]; exact Me.below_alloc (Below.refl _ _)
                  have H6 : Hid (V6.heap[w5.heap.size]? = some (.cells (Mg.idC ⟨fo, fd, fe, fc⟩) 28 (0, 0))) := by rw [← hV6]; exact heap_alloc_new w5 _
                  have K6 : Hid (Ki V6 0 (.slice A N c) ids) := ki_at HK5.out fun k e => hb6.block k (Ki.lt HK5.out e).2
                  have L6 := Lib.hid (l5'.out.below hb6)
                  have B6 := Lib.hid (go_on B5.out hb6)
                  have HV6 := Lib.hid hV6
                  have hl6 : ids.length ≤ 1000 := by have := Hlen.out; omega
                  have Hl6 := Lib.hid hl6
                  clear hV6 hb6 hl6
                  go_wp2_with (first
                    | (rw [HV6.out]; refine wpList_plain rfl fun _ hK => ?_; refine appIdW (.tmp 95) (.tmp 97) rfl (.slice A N c) ids ⟨fo, fd, fe, fc⟩ rfl K6.out w5.heap.size rfl H6.out Hl6.out ?_; intro v' w7 ho7 hg7 hw7; refine hK _ _ ?_; have HO7 := Lib.hid ho7; have HG7 := Lib.hid hg7; have HW7 := Lib.hid hw7; clear ho7 hg7 hw7))
                  have HMv : ∀ k, v'.ownBlock = some k → w.heap.size ≤ k := fun k e => by
                    rcases HW7.out with h1 | h1
                    · exact HMk.out k (h1 ▸ e)
                    · rw [h1] at e
                      have := B6.out.size
                      cases e
                      exact this
                  go_roundw
                  case rel => exact ⟨j + 1, ids ++ [⟨fo, fd, fe, fc⟩], s5, m + 1 + 1, by go_num, by omega, (by have := Hm.out; show m + 1 + 1 ≤ _; omega), (by have := Hlen.out; show (ids ++ [_]).length ≤ _; rw [List.length_append]; show ids.length + 1 ≤ _; omega), lv_app L6.out K6.out HG7.out HW7.out, HO7, HMv, HP3, B6.out.trans (((But.refl (fun k => (Value.slice A N c).ownBlock = some k) V6).grown HG7.out fun r e => .inl e).below B6.out.size fun k e => HMk.out k e)⟩
                  case measure => simp [intOf]; omega
                · have g3 : (((mN : Int)) == 0) = false := Mg.nz hm0
                  go_wp2
                  go_roundw
                  case rel => exact ⟨j + 1, ids, s5, m + 1 + 1, by go_num, by omega, (by have := Hm.out; show m + 1 + 1 ≤ _; omega), (by have := Hlen.out; show ids.length ≤ _; omega), l5', HK5, HMk, HUa, B5⟩
                  case measure => simp [intOf]; omega
theorem storeFresh (me qh qb qg : Int) (A1 : Option Addr) (len1 cap1 : Nat) (ls : List Evt) (A2 : Option Addr) (len2 cap2 : Nat) (zs : List Int) (w : World) (w1 : len1 = ls.length ∧ len1 ≤ cap1 ∧ cap1 ≤ 9223372036854775807 ∧ Evs w A1 ls) (w2 : Mi.BySlice w A2 len2 cap2 zs) (_ : cap2 * 8 ≤ 140737488351232) : Calls Try.prog 4 #[.agg #[.int .i64 me, .int .i64 qh, .int .i64 qb, .int .i64 qg], .slice A1 len1 cap1, .slice A2 len2 cap2] w fun e w' => e = .returned (.bool true) ∧ Below w.heap.size w w' := by
  by_cases h : NewOk me 256 1048576 256
  · exact storeFresh_ok me qh qb qg A1 len1 cap1 ls A2 len2 cap2 zs w h w1 w2
  · exact storeFresh_no me qh qb qg _ _ w h
end Go.Proofs.Ytpofdimagfldnaa.So
