/- The contract of bits' Put: what it returns, and what lies in the new memory that it made (stage 1's text over the common kit). -/
import Derived.Test.YtohfoieibgmmdaaBtGet
namespace Go.Proofs.Ytohfoieibgmmdaa.Bt
open Go.RowKit
open Go.Proofs.Ytohfoieibgmmdaa.Ma
open Go.Proofs.Ytohfoieibgmmdaa.Ba
open Go.Proofs.Ytohfoieibgmmdaa.Me
set_option linter.unusedVariables false

/-- Behind j rounds of Put: l, the noughts that are left, the j lowest byts. -/
def put_ (l : List Nat) (n s j : Nat) : List Nat := l ++ (List.replicate (s - j) 0 ++ byts n j)
theorem put_length {l : List Nat} {n s j : Nat} (h : j ≤ s) : (put_ l n s j).length = l.length + s := by
  simp [put_, length_byts]; omega
theorem put_set {l : List Nat} {n s j : Nat} (h : j < s) : (put_ l n s j).set (l.length + (s - 1 - j)) (n / 256 ^ j % 256) = put_ l n s (j + 1) := by
  unfold put_
  rw [List.set_append_right _ _ (by omega), Nat.add_sub_cancel_left]
  congr 1
  obtain ⟨t, ht⟩ : ∃ t, s - j = t + 1 := ⟨s - j - 1, by omega⟩
  rw [show s - 1 - j = t by omega, show s - (j + 1) = t by omega, ht, byts, List.replicate_succ', List.append_assoc, List.set_append_right _ _ (by simp)]
  simp
theorem byts_nought {n j : Nat} (h : n / 256 ^ j = 0) : ∀ t, byts n (t + j) = List.replicate t 0 ++ byts n j
  | 0 => by simp
  | t + 1 => by
    have e : t + 1 + j = t + j + 1 := by omega
    have h0 : n / 256 ^ (t + j) % 256 = 0 := by
      rw [Nat.add_comm, Nat.pow_add, ← Nat.div_div_eq_div_mul, h]; simp
    rw [e, byts, byts_nought h t, h0]; rfl
theorem put_end {l : List Nat} {n s j : Nat} (hj : j ≤ s) (h : n / 256 ^ j = 0) : put_ l n s j = l ++ byts n s := by
  have := byts_nought h (s - j)
  rw [show s - j + j = s by omega] at this
  rw [put_, this]
theorem Put_size (l : List Nat) (n : Nat) (s : Int) (A : Option Addr) (cap : Nat) (hs : sizeB 8 s = false) (w : World) :
    Calls Try.prog 38 #[.slice A l.length cap, .int .u64 (n : Int), .int .i64 s] w fun e w' => e = .returned (.tuple #[.slice none 0 0, .int .i64 1]) ∧ w = w' := by
  go_enter Try.func38, Try.ntmps38
  go_wp2
  go_step3
  go_wp2_with (go_at_call 68; refine (sizeInBytes_any _ _).mono ?_; rintro e w' ⟨rfl, rfl⟩)
  try rw [Exit.noGoto_ret]
  go_ret2
  exact ⟨rfl, rfl⟩
/-- n behind j rounds. -/
def sh (n j : Nat) : Nat := n / 256 ^ j
theorem sh_succ (n j : Nat) : sh n (j + 1) = sh n j / 256 := by unfold sh; rw [Nat.pow_succ, Nat.div_div_eq_div_mul]
/-- Where the loop stands: t rounds are ahead. -/
def AtL (l : List Nat) (n s : Nat) (g : Nat) (w : World) (m p : Value) (wr : World) : Prop :=
  ∃ t q : Nat, t ≤ s ∧ q = l.length + t ∧ p = .int .i64 (q : Int) ∧ m = .int .u64 (sh n (s - t) : Int) ∧ Row wr g (put_ l n s (s - t)) ∧ Below g w wr
theorem atL_step {l : List Nat} {n s g u p : Nat} {w wr : World} (hu : u + 1 ≤ s) (hp : p = l.length + u) (hr : Row wr g (put_ l n s (s - (u + 1)))) (hb : Below g w wr) :
    AtL l n s g w (.int .u64 ((sh n (s - (u + 1)) : Int) / 256)) (.int .i64 (p : Int)) (wr.setCell ⟨g, p, none⟩ (.int .u8 ((sh n (s - (u + 1)) : Int) % 256))) := by
  obtain ⟨j, hj⟩ : ∃ j, s - (u + 1) = j := ⟨_, rfl⟩
  have hj1 : s - u = j + 1 := by omega
  rw [hj] at hr ⊢
  refine ⟨u, p, by omega, hp, rfl, ?_, ?_, hb.setCell (Nat.le_refl _) _⟩
  · rw [hj1, sh_succ]; simp
  · have h := hr.store p (sh n j % 256)
    have e : l.length + (s - 1 - j) = p := by omega
    rw [hj1, ← put_set (by omega), e]
    exact h
/-- What Put answers where the size is right, and what lies in its new block. -/
def PutR (l : List Nat) (n s : Nat) (w : World) (e : Ending) (w' : World) : Prop :=
  (n < 256 ^ s ∧ e = .returned (.tuple #[.slice (some ⟨w.heap.size, 0, none⟩) (l.length + s) (l.length + s), .int .i64 0]) ∧ Row w' w.heap.size (l ++ byts n s) ∧ Below w.heap.size w w') ∨
  (256 ^ s ≤ n ∧ e = .returned (.tuple #[.slice none 0 0, .int .i64 3]) ∧ Below w.heap.size w w')
set_option maxRecDepth 20000 in
theorem Put_any (l : List Nat) (n s : Nat) (A : Option Addr) (cap B : Nat) (hs : sizeB 8 s = true) (w : World)
    (hr : Hid (Rd w B A l)) (hB : B ≤ w.heap.size) (hl : l.length ≤ 140737488351232) :
    Calls Try.prog 38 #[.slice A l.length cap, .int .u64 (n : Int), .int .i64 (s : Int)] w (PutR l n s w) := by
  have hsb : 1 ≤ s ∧ s ≤ 8 := by have := of_decide_eq_true hs; omega
  obtain ⟨hs1, hs2⟩ := hsb
  obtain ⟨i0, hi, hz0, hz1, hz2⟩ := info_parts info8
  go_enter Try.func38, Try.ntmps38
  go_wp2
  go_step3
  go_wp2_with (first
    | (go_at_call 68; refine (sizeInBytes_any _ _).mono ?_; rintro e w' ⟨rfl, rfl⟩)
    | (at_make; refine wpList_make_full _ rfl (.tmp 16) (.tmp 16) 24 rfl w.heap.size 5 i0 (.int .u8 0) 1 Try.underlying24 hi hz0 hz1 .i64 .i64 _ _ (l.length + s) rfl rfl (by omega) (by omega) (by rw [hz2]; omega) (by unfold maxLen; omega) (Nat.le_refl _) ?_; intro w1 hown1 hg1; obtain ⟨HR1, hb1⟩ := made_row hown1 hg1; clear hown1 hg1)
    | (with_reducible refine wpList_copy_splice rfl (.tmp 18) (.tmp 19) 24 24 rfl 5 Try.underlying24 size8 _ _ _ _ _ _ rfl rfl w.heap.size 0 _ 5 HR1.out (l.map byV) (min_len l s) (fun h => ⟨rfl, cells_of l A B w w1 hr.out (hb1.mono hB) h⟩) (fit_len l s) (one_cells l) w.heap.size w hb1 (Nat.le_refl _) ?_; intro w2 HR2 hb2; have HR3 := copied_row HR2; clear HR2))
  go_step3
  go_wp2
  go_loopw [1, 9] (fun m p wr => AtL l n s w.heap.size w m p wr) (fun _ p _ => (intOf p).toNat)
  case atStart =>
    refine ⟨s, l.length + s, Nat.le_refl _, rfl, by go_num, by rw [Nat.sub_self]; simp [sh], ?_, hb2⟩
    rw [Nat.sub_self]
    have := HR3.out
    unfold put_ byts
    simpa using this
  case round =>
    obtain ⟨t, q, ht, hq, rfl, rfl, hrow, hbel⟩ := hrel
    by_cases hz : sh n (s - t) < 1
    · have HE : Hid (Row wr w.heap.size (l ++ byts n s)) := by
        rw [← put_end (l := l) (n := n) (s := s) (j := s - t) (by omega) (Nat.lt_one_iff.mp hz)]; exact hrow
      have HN : Hid (n < 256 ^ s) := by
        have h1 : n < 256 ^ (s - t) := Nat.lt_of_div_eq_zero (Nat.pow_pos (by decide)) (Nat.lt_one_iff.mp hz)
        exact Nat.lt_of_lt_of_le h1 (Nat.pow_le_pow_right (by decide) (by omega))
      clear hrow hq
      have hz : ((sh n (s - t) : Int) == 0) = true := by simp only [beq_iff_eq]; omega
      go_wp2
      try rw [Exit.noGoto_ret]
      go_ret2
      exact .inl ⟨HN.out, rfl, HE.out, hbel⟩
    · rcases t with _ | u
      · have HN : Hid (256 ^ s ≤ n) := by
          apply Classical.byContradiction
          intro h
          apply hz
          unfold sh
          rw [Nat.sub_zero, Nat.div_eq_of_lt (Nat.not_le.mp h)]
          decide
        have HB := Lib.hid hbel
        rw [Nat.sub_zero] at hz
        have hq1 : l.length ≤ q := by omega
        have hq2 : q ≤ l.length := by omega
        clear hrow hbel hq
        go_wp2
        try rw [Exit.noGoto_ret]
        go_ret2
        exact .inr ⟨HN.out, rfl, HB.out⟩
      · obtain ⟨p, rfl⟩ : ∃ p, q = p + 1 := ⟨l.length + u, by omega⟩
        have hp1 : l.length + u ≤ p := by omega
        have hp2 : p ≤ l.length + u := by omega
        clear hq
        have hlen : p < (put_ l n s (s - (u + 1))).length := by rw [put_length (by omega)]; omega
        have hcell := hrow.cell hlen
        have hfree := hrow.frozen p
        have HR := Lib.hid hrow
        have HB := Lib.hid hbel
        clear hrow hbel hlen
        go_wp2
        go_roundw
        case rel => exact atL_step ht (by omega) HR.out HB.out
        case measure => simp [intOf]
end Go.Proofs.Ytohfoieibgmmdaa.Bt
