/- The law's own question is answered true, whatever the memory; the walk of the law DiskNil. -/
import Derived.Test.YtdjgkoklkoahbaaDkF
import Derived.Test.YtdjgkoklkoahbaaDkActs
import Derived.Lib.SlBytesConst
namespace Go.Proofs.Ytdjgkoklkoahbaa.Dk
open Go.RowKit
open Go.Proofs.Ytdjgkoklkoahbaa.Me Go.Proofs.Ytdjgkoklkoahbaa.Hd
set_option linter.unusedVariables false
set_option linter.unusedSimpArgs false

def na : Nm := [97]
def t1 : St := appS (newS 9) na [120, 121, 122]
def t2 : St := syncS t1 na
def t3 : St := appS t2 na [117, 118]
def t4 : St := crashS t3 [1]
theorem e1 : appE (newS 9) na [120, 121, 122] = 0 := by decide
theorem e2 : findE t1 na = 0 := by decide
theorem e3 : appE t2 na [117, 118] = 0 := by decide
theorem e4 : findE t4 na = 0 := by decide
theorem e5 : readP t4 na = [120, 121, 122, 117] := by decide
theorem e6 : (fileOf t4 na).safe = 4 := by decide
theorem app_lit {s D mb : Nat} (W : World) (st : St) (h : Hid (Df s W D mb st)) (n : Nm) (l : List Nat) (hl : ∀ z ∈ l, z < 256) (h2 : l.length ≤ 140737488351232) (fr : Nat × Nat) (c : Nat) (hc : appE st n l = c) (st' : St) (hs : appS st n l = st') :
    Calls Try.prog 14 #[.pointer (some ⟨D, 0, none⟩), nmV n, .slice (some ⟨W.heap.size, 0, none⟩) l.length l.length] (W.alloc (.cells (l.map byV).toArray 5 fr)) fun e w' => e = .returned (.int .i64 (c : Int)) ∧ Hid (Df s w' D mb st') ∧ Hid (Below s W w') := by
  have hb : Below W.heap.size W (W.alloc (.cells (l.map byV).toArray 5 fr)) := Me.below_alloc (Below.refl _ _)
  refine (Append_f (W.alloc (.cells (l.map byV).toArray 5 fr)) D mb st (h.out.below hb) n (some ⟨W.heap.size, 0, none⟩) l.length l ((Me.rd_lit (w := W) hl 5 fr).more (by simp)) (fun e => by cases e) h2).mono ?_
  rintro e w' ⟨q1, q2, q3⟩
  rw [hc] at q1
  rw [hs] at q2
  exact ⟨q1, q2, (hb.mono h.out.lt).trans q3.out⟩
theorem crash_lit {s D mb : Nat} (W : World) (st : St) (h : Hid (Df s W D mb st)) (ks : List Int) (h2 : ks.length ≤ 9223372036854775807) (fr : Nat × Nat) (st' : St) (hs : crashS st ks = st') :
    Calls Try.prog 13 #[.pointer (some ⟨D, 0, none⟩), .slice (some ⟨W.heap.size, 0, none⟩) ks.length ks.length] (W.alloc (.cells (ks.map Mi.iV).toArray 3 fr)) fun e w' => e = .returned (.int .i64 0) ∧ Hid (Df s w' D mb st') ∧ Hid (Below s W w') := by
  have hb : Below W.heap.size W (W.alloc (.cells (ks.map Mi.iV).toArray 3 fr)) := Me.below_alloc (Below.refl _ _)
  have hd : Dq (fun k => s ≤ k ∧ k < W.heap.size) W D mb st := h.out.dq.mono fun k hk e => ⟨e, hk⟩
  refine (Crash_f (B := W.heap.size) (W.alloc (.cells (ks.map Mi.iV).toArray 3 fr)) D mb st (hd.below hb) h.out.ok (some ⟨W.heap.size, 0, none⟩) ks.length ks ((Mi.rd_lit (w := W) ks 3 fr).more (by simp)) (Nat.le_refl _) h2 fun a e => by cases e; exact .inr (Nat.le_refl _)).mono ?_
  rintro e w' ⟨q1, q2, q3⟩
  rw [hs] at q2
  exact ⟨q1, q2, (hb.mono h.out.lt).trans q3.out⟩
set_option maxRecDepth 100000 in
set_option maxHeartbeats 2000000 in
theorem awake_any (w : World) : Calls Try.prog 11 #[] w fun e w' => e = .returned (.bool true) ∧ Hid (Below w.heap.size w w') := by
  have kc := fun (w : World) (C : Array Value) (n c : Nat) => Lib.run_convert_bytes_const (P := Try.prog) w 33 5 C n c Try.underlying33 Try.underlying5
  have N := Lib.hid (New_f 9 (by decide) (by decide) w)
  rw [show ((9 : Nat) : Int) = 9 from rfl] at N
  obtain ⟨s, hs⟩ : ∃ s, w.heap.size = s := ⟨_, rfl⟩
  have HSS := Lib.hid hs
  rw [hs] at N ⊢
  have A1 : Hid (∀ W : World, Hid (Df s W (s + 1) s (newS 9)) → Calls Try.prog 14 #[.pointer (some ⟨s + 1, 0, none⟩), .string ⟨#[97]⟩, .slice (some ⟨W.heap.size, 0, none⟩) 3 3] (W.alloc (.cells #[.int .u8 120, .int .u8 121, .int .u8 122] 5 (3, 4))) fun e w' => e = .returned (.int .i64 0) ∧ Hid (Df s w' (s + 1) s t1) ∧ Hid (Below s W w')) :=
    fun W h => app_lit W (newS 9) h na [120, 121, 122] (by decide) (by decide) (3, 4) 0 e1 t1 rfl
  have A2 : Hid (∀ W : World, Hid (Df s W (s + 1) s t2) → Calls Try.prog 14 #[.pointer (some ⟨s + 1, 0, none⟩), .string ⟨#[97]⟩, .slice (some ⟨W.heap.size, 0, none⟩) 2 2] (W.alloc (.cells #[.int .u8 117, .int .u8 118] 5 (2, 3))) fun e w' => e = .returned (.int .i64 0) ∧ Hid (Df s w' (s + 1) s t3) ∧ Hid (Below s W w')) :=
    fun W h => app_lit W t2 h na [117, 118] (by decide) (by decide) (2, 3) 0 e3 t3 rfl
  have S1 : Hid (∀ W : World, Hid (Df s W (s + 1) s t1) → Calls Try.prog 23 #[.pointer (some ⟨s + 1, 0, none⟩), .string ⟨#[97]⟩] W fun e w' => e = .returned (.int .i64 0) ∧ Hid (Df s w' (s + 1) s t2) ∧ Hid (Below s W w')) :=
    fun W h => (Sync_f W (s + 1) s t1 h na).mono fun e w' q => by obtain ⟨q1, q2, q3⟩ := q; rw [e2] at q1; exact ⟨q1, q2, q3⟩
  have C1 : Hid (∀ W : World, Hid (Df s W (s + 1) s t3) → Calls Try.prog 13 #[.pointer (some ⟨s + 1, 0, none⟩), .slice (some ⟨W.heap.size, 0, none⟩) 1 1] (W.alloc (.cells #[.int .i64 1] 3)) fun e w' => e = .returned (.int .i64 0) ∧ Hid (Df s w' (s + 1) s t4) ∧ Hid (Below s W w')) :=
    fun W h => crash_lit W t3 h [1] (by decide) (0, 0) t4 rfl
  have R1 : Hid (∀ W : World, Hid (Df s W (s + 1) s t4) → Calls Try.prog 20 #[.pointer (some ⟨s + 1, 0, none⟩), .string ⟨#[97]⟩] W fun e w' => ∃ A, e = .returned (.tuple #[.slice A 4 4, .int .i64 0]) ∧ Hid ((convert 33 9 (.slice A 4 4)).run Try.prog w' = .ok (.string ⟨#[120, 121, 122, 117]⟩) w') ∧ Hid (Df s w' (s + 1) s t4) ∧ Hid (Below s W w')) :=
    fun W h => (Read_f W (s + 1) s t4 h na).mono fun e w' q => by
      obtain ⟨A, q1, q2, q3, _, q5⟩ := q
      rw [e4, e5] at q1
      rw [e5] at q2 q3
      exact ⟨A, q1, conv_rd w' _ A [120, 121, 122, 117] 4 q2.out (fun e => absurd (q3.out e) (by decide)), h.out.below q5.out, q5.out.mono h.out.lt⟩
  have F1 : Hid (∀ W : World, Hid (Df s W (s + 1) s t4) → Calls Try.prog 21 #[.pointer (some ⟨s + 1, 0, none⟩), .string ⟨#[97]⟩] W fun e w' => e = .returned (.int .i64 4) ∧ W = w') :=
    fun W h => (Safe_f W (s + 1) s t4 h na (by decide)).mono fun e w' q => by obtain ⟨q1, q2⟩ := q; rw [e6] at q1; exact ⟨q1, q2⟩
  clear hs
  go_enter Try.func11, Try.ntmps11
  go_wp2_with (first
    | (go_at_call 9; refine N.out.mono ?_; rintro e w1 ⟨rfl, H1, B1⟩)
    | (go_at_call 14; (with_reducible refine (A1.out w1 H1).mono ?_); rintro e w2 ⟨rfl, H2, B2⟩)
    | (go_at_call 23; refine (S1.out w2 H2).mono ?_; rintro e w3 ⟨rfl, H3, B3⟩)
    | (go_at_call 14; (with_reducible refine (A2.out w3 H3).mono ?_); rintro e w4 ⟨rfl, H4, B4⟩)
    | (go_at_call 13; refine (C1.out w4 H4).mono ?_; rintro e w5 ⟨rfl, H5, B5⟩)
    | (go_at_call 20; refine (R1.out w5 H5).mono ?_; rintro e w6 ⟨A, rfl, hcv, H6, B6⟩; have hcv := hcv.out)
    | (go_at_call 21; refine (F1.out w6 H6).mono ?_; rintro e w' ⟨rfl, rfl⟩))
  go_ret
  exact ⟨rfl, B1.out.trans (B2.out.trans (B3.out.trans (B4.out.trans (B5.out.trans B6.out))))⟩
end Go.Proofs.Ytdjgkoklkoahbaa.Dk
