/- leadingNumber, and the closure that reads a text's numbers. -/
import Derived.Test.YtljndfkmppmbkaaDoorMgTx
import Derived.Test.YtljndfkmppmbkaaDoorMgGath
namespace Go.Proofs.YtljndfkmppmbkaaDoor.Mg
open Go.RowKit
open Go.Proofs.YtljndfkmppmbkaaDoor.Me Go.Proofs.YtljndfkmppmbkaaDoor.Ba Go.Proofs.YtljndfkmppmbkaaDoor.Ma Go.Proofs.YtljndfkmppmbkaaDoor.Hd
set_option linter.unusedVariables false
set_option linter.unusedSimpArgs false

def lenOf : Value → Nat
  | .string b => b.size
  | _ => 0
theorem index_sB (n : List UInt8) {k : Nat} (h : k < n.length) (W : World) : (Instr.index 9 (.string (sB n)) (.int .i64 (k : Int))).run Tryd.prog W = .ok (.int .u8 ((n[k].toNat : Nat) : Int)) W := by
  rw [run_index_string W 9 _ .i64 _ Tryd.underlying9]
  have h1 : (0 : Int) ≤ (k : Int) ∧ (k : Int) < (((sB n).size : Nat) : Int) := ⟨by omega, by rw [sB_size]; omega⟩
  rw [dif_pos h1]
  rfl
theorem index_0 (c : UInt8) (n : List UInt8) (W : World) : (Instr.index 9 (.string (sB (c :: n))) (.int .i64 0)).run Tryd.prog W = .ok (.int .u8 ((c.toNat : Nat) : Int)) W := index_sB (c :: n) (k := 0) (by simp) W
theorem sB_ne (c : UInt8) (r : List UInt8) : ((sB (c :: r)).toList == (⟨#[]⟩ : ByteArray).toList) = false := by
  rw [Lib.toList_data, Lib.toList_data]
  rfl
theorem sB_tail (c : UInt8) (r : List UInt8) : (sB (c :: r)).extract 1 (r.length + 1) = sB r := by
  unfold sB
  apply ByteArray.ext
  simp [ByteArray.data_extract]
set_option maxRecDepth 100000 in
set_option maxHeartbeats 4000000 in
theorem lead_any (s : List UInt8) (w : World) (hs : s.length ≤ 9223372036854775807) : Calls Tryd.prog 47 #[.string (sB s)] w fun e w' => e = .returned (.tuple #[.int .i64 ((ld 0 s).1 : Int), .string (sB (ld 0 s).2)]) ∧ w = w' := by
  obtain ⟨L, hL⟩ : ∃ L, ld 0 s = L := ⟨_, rfl⟩
  have HL := Lib.hid hL
  rw [hL]
  clear hL
  go_enter Tryd.func47, Tryd.ntmps47
  go_wp2
  go_loopw [0, 4] (fun v0 v4 wr => ∃ (n : Nat) (r : List UInt8), v0 = .string (sB r) ∧ v4 = .int .i64 (n : Int) ∧ Hid (ld n r = L) ∧ n ≤ 655359 ∧ Hid (r.length ≤ 9223372036854775807) ∧ w = wr) (fun v0 _ _ => lenOf v0)
  case atStart => exact ⟨0, s, rfl, rfl, HL.out, by omega, hs, rfl⟩
  case round =>
    obtain ⟨n, r, rfl, rfl, hl, hn, hr, rfl⟩ := hrel
    cases r with
    | nil =>
      have he := hl.out
      unfold ld at he
      subst he
      rw [show sB [] = ⟨#[]⟩ from rfl]
      go_wp2
      go_ret2
      exact ⟨rfl, rfl⟩
    | cons c t =>
      have q1 : (sB (c :: t)).toList.isEmpty = false := by rw [Lib.toList_data]; rfl
      have q2 := index_0 c t
      have q3 : (sB (c :: t)).extract 1 (sB (c :: t)).size = sB t := by rw [sB_size]; exact sB_tail c t
      have q4 : (sB (c :: t)).size = t.length + 1 := sB_size _
      have q5 : 1 ≤ (sB (c :: t)).size := by omega
      have q6 : (1 : Int) ≤ ((sB (c :: t)).size : Int) := by omega
      obtain ⟨S, hS⟩ : ∃ S, sB (c :: t) = S := ⟨_, rfl⟩
      have HQ4 := Lib.hid q4
      have HS := Lib.hid hS
      rw [hS] at q1 q2 q3 q5 q6 HQ4 ⊢
      obtain ⟨x, hx⟩ : ∃ x, c.toNat = x := ⟨_, rfl⟩
      have hx2 := hx
      have HX := Lib.hid hx2
      rw [hx] at q2
      clear q4 hS hx hx2
      by_cases a1 : 48 ≤ x
      · by_cases a2 : x ≤ 57
        · by_cases a3 : n ≤ 65535
          · have b1 : (48 : Int) ≤ (x : Int) := by omega
            have b2 : (x : Int) ≤ 57 := by omega
            have b3 : (n : Int) ≤ 65535 := by omega
            have b4 : ((x : Int) - 48) % 256 = ((x - 48 : Nat) : Int) := by omega
            have HE : Hid (ld (10 * n + (x - 48)) t = L) := by
              have h := hl.out
              unfold ld at h
              rw [if_pos ⟨by unfold isD; rw [HX.out]; simp; omega, a3⟩] at h
              unfold dv at h
              rw [HX.out] at h
              exact h
            clear hl
            go_wp2_with (rw [q2])
            go_roundw
            case rel => exact ⟨10 * n + (x - 48), t, rfl, by go_num, HE.out, by omega, Nat.le_trans (Nat.le_succ _) hr.out, trivial⟩
            case measure => simp [lenOf, sB_size]; have := HQ4.out; omega
          · have b1 : (48 : Int) ≤ (x : Int) := by omega
            have b2 : (x : Int) ≤ 57 := by omega
            have b3 : ¬ (n : Int) ≤ 65535 := by omega
            have HE : (n, c :: t) = L := by
              have h := hl.out
              unfold ld at h
              rw [if_neg (fun e => a3 e.2)] at h
              exact h
            subst HE
            clear hl
            go_wp2_with (rw [q2])
            go_ret2
            exact ⟨by rw [HS.out]; rfl, rfl⟩
        · have b1 : (48 : Int) ≤ (x : Int) := by omega
          have b2 : ¬ (x : Int) ≤ 57 := by omega
          have HE : (n, c :: t) = L := by
            have h := hl.out
            unfold ld at h
            rw [if_neg (fun e => by have e1 := e.1; unfold isD at e1; rw [HX.out] at e1; simp at e1; omega)] at h
            exact h
          subst HE
          clear hl
          go_wp2_with (rw [q2])
          go_ret2
          exact ⟨by rw [HS.out]; rfl, rfl⟩
      · have b1 : ¬ (48 : Int) ≤ (x : Int) := by omega
        have HE : (n, c :: t) = L := by
          have h := hl.out
          unfold ld at h
          rw [if_neg (fun e => by have e1 := e.1; unfold isD at e1; rw [HX.out] at e1; simp at e1; omega)] at h
          exact h
        subst HE
        clear hl
        go_wp2_with (rw [q2])
        go_ret2
        exact ⟨by rw [HS.out]; rfl, rfl⟩
set_option maxRecDepth 100000 in
set_option maxHeartbeats 4000000 in
theorem parc (fb : ByteArray) (sz : Int) (p r : List UInt8) (P : Nat) (W : World) (hf : fb = sB p) (hr : r.length ≤ 9223372036854775807) (hP : Hid (W.heap[P]? = some (.cells #[.string (sB r)] 9 (0, 0)))) :
    Calls Tryd.prog 46 #[.agg #[.string fb, .int .i64 sz], .pointer (some ⟨P, 0, none⟩)] W fun e w' => e = .returned (.int .i64 ((ld 0 (Lib.trimPrefix r p)).1 : Int)) ∧ Hid (w'.heap[P]? = some (.cells #[.string (sB (ld 0 (Lib.trimPrefix r p)).2)] 9 (0, 0))) ∧ Hid (But (fun b => b = P) W w') := by
  have hPl := (Array.getElem?_eq_some_iff.1 hP.out).1
  obtain ⟨W1, hW1⟩ : ∃ W1, W.alloc (.cells #[.string fb, .int .i64 sz] 56) = W1 := ⟨_, rfl⟩
  have hb : Below W.heap.size W W1 := by rw [← hW1]; exact Me.below_alloc (Below.refl _ _)
  have hP1h := (hb.block P hPl).trans hP.out
  have hP1 : W1.cell? ⟨P, 0, none⟩ = some (.string (sB r)) := cell_of_row W1 P 0 _ _ (0, 0) hP1h
  have hPf : W1.frozen? ⟨P, 0, none⟩ = false := frozen_of_row W1 P 0 _ _ hP1h
  have hF1 : W1.cell? ⟨W.heap.size, 0, none⟩ = some (.string fb) := by
    rw [← hW1, cell_of_row _ _ _ _ _ (0, 0) (heap_alloc_new W _)]
    rfl
  have HT : Hid (Calls Tryd.prog 48 #[.string (sB r), .string fb] W1 fun e w' => e = .returned (.string (sB (Lib.trimPrefix r p))) ∧ w' = W1) := by
    have := Tryd.TrimP (sB r) fb W1
    subst hf
    exact this
  have HLd := Lib.hid (lead_any (Lib.trimPrefix r p) W1 (Nat.le_trans (Lib.trimPrefix_le r p) hr))
  obtain ⟨x, hx⟩ : ∃ x, ld 0 (Lib.trimPrefix r p) = x := ⟨_, rfl⟩
  obtain ⟨T, hT⟩ : ∃ T, sB (Lib.trimPrefix r p) = T := ⟨_, rfl⟩
  rw [hx] at HLd ⊢
  rw [hT] at HT HLd
  obtain ⟨n, y⟩ := x
  simp only at HLd ⊢
  obtain ⟨Y, hY⟩ : ∃ Y, sB y = Y := ⟨_, rfl⟩
  obtain ⟨R, hR⟩ : ∃ R, sB r = R := ⟨_, rfl⟩
  rw [hY] at HLd ⊢
  rw [hR] at hP1 HT hP1h
  have HQ9 : Hid ((W1.setCell ⟨P, 0, none⟩ (.string Y)).heap[P]? = some (.cells #[.string Y] 9 (0, 0))) := by
    show _ = _
    rw [heap_setCell_same W1 P 0 _ _ _ hP1h]
    rfl
  have HB9 : Hid (But (fun b => b = P) W (W1.setCell ⟨P, 0, none⟩ (.string Y))) := But.set (S := fun b => b = P) (X := W1) (But.of_below hb) (p := ⟨P, 0, none⟩) (.inl rfl) _
  clear hP hb hP1h hPl hx hT hY hR hf hr
  go_enter Tryd.func46, Tryd.ntmps46
  go_wp2_with (first
    | (rw [hW1])
    | (go_at_call 48; refine HT.out.mono ?_; rintro e w' ⟨rfl, rfl⟩)
    | (go_at_call 47; refine HLd.out.mono ?_; rintro e w' ⟨rfl, rfl⟩))
  go_ret
  exact ⟨rfl, HQ9.out, HB9.out⟩
/-- Where the reading stands. -/
def JP (s : List UInt8) (P : Nat) (W3 : World) (k : Nat) (W : World) : Prop := W.heap[P]? = some (.cells #[.string (sB (pst s k))] 9 (0, 0)) ∧ But (fun b => b = P) W3 W
theorem jp_below {s : List UInt8} {P : Nat} {W3 : World} (hP : P < W3.heap.size) : ∀ k W W', JP s P W3 k W → Below W3.heap.size W W' → JP s P W3 k W' :=
  fun k W W' ⟨a, h⟩ hb => ⟨(hb.block P hP).trans a, ⟨hb.os.trans h.os, hb.tape.trans h.tape, hb.output.trans h.output, Nat.le_trans h.size hb.size, fun c hc hn => (hb.block c hc).trans (h.same c hc hn)⟩⟩
theorem ld_len : ∀ (r : List UInt8) (n : Nat), (ld n r).2.length ≤ r.length
  | [], n => by simp [ld]
  | c :: r, n => by
    unfold ld
    split
    · have := ld_len r (10 * n + dv c)
      simp only [List.length_cons]; omega
    · simp
theorem pst_len (s : List UInt8) : ∀ k, (pst s k).length ≤ s.length
  | 0 => Nat.le_refl _
  | k + 1 => Nat.le_trans (ld_len _ _) (Nat.le_trans (Lib.trimPrefix_le _ _) (pst_len s k))
theorem fmB_sg (k : Nat) (hk : k < 4) : fmB k = sB (sg k) := by
  obtain rfl | rfl | rfl | rfl : k = 0 ∨ k = 1 ∨ k = 2 ∨ k = 3 := by omega
  all_goals rfl
theorem jp_reads {s : List UInt8} {P : Nat} {W3 : World} (hP : P < W3.heap.size) (hs : s.length ≤ 9223372036854775807) :
    Reads1 46 (.pointer (some ⟨P, 0, none⟩)) W3.heap.size (fun k => (pnu s k : Int)) (JP s P W3) := by
  intro k hk W ⟨ha, h⟩ hB
  refine (parc (fmB k) (szk k) (sg k) (pst s k) P W (fmB_sg k hk) (Nat.le_trans (pst_len s k) hs) ha).mono fun e w' ⟨he, hq, hbt⟩ => ?_
  exact ⟨he, ⟨hq.out, h.trans hbt.out fun b _ e => e⟩, hbt.out.size, fun b hb1 hb2 => hbt.out.same b hb2 (by omega)⟩
end Go.Proofs.YtljndfkmppmbkaaDoor.Mg
