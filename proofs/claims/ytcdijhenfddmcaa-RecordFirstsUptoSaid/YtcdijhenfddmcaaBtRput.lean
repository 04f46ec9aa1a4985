/- The contract of the reference's Put of bits (stage 1's text over the common kit). -/
import Derived.Test.YtcdijhenfddmcaaBtPut
namespace Go.Proofs.Ytcdijhenfddmcaa.Bt
open Go.RowKit
open Go.Proofs.Ytcdijhenfddmcaa.Ma
open Go.Proofs.Ytcdijhenfddmcaa.Ba
open Go.Proofs.Ytcdijhenfddmcaa.Me
set_option linter.unusedVariables false

theorem RPut_size (l : List Nat) (n : Nat) (s : Int) (A : Option Addr) (cap : Nat) (hs : sizeB 8 s = false) (w : World) :
    Calls Try.prog 22 #[.slice A l.length cap, .int .u64 (n : Int), .int .i64 s] w fun e w' => e = .returned (.tuple #[.slice none 0 0, .int .i64 1]) ∧ w = w' := by
  have hsb : ¬ (1 ≤ s ∧ s ≤ 8) := of_decide_eq_false hs
  by_cases h1 : 1 ≤ s
  all_goals
    go_enter Try.func22, Try.ntmps22
    go_wp2
    go_ret2
    exact ⟨rfl, rfl⟩
theorem Fits_at (n : Nat) (i : Int) (s : Nat) (hi : i = s) (hn : Hid (n < U)) (w : World) :
    Calls Try.prog 32 #[.int .u64 (n : Int), .int .i64 i] w fun e w' => e = .returned (.bool (fitsB n s)) ∧ w = w' := by
  subst hi; exact Fits_any n s hn w
theorem fits_256 (n s : Nat) : fitsB n (8 * s) = decide (n < 256 ^ s) := by
  unfold fitsB; rw [Nat.pow_mul]
theorem RPut_long (l : List Nat) (n s : Nat) (A : Option Addr) (cap : Nat) (hs : sizeB 8 s = true) (hU : Hid (n < U)) (hn : Hid (256 ^ s ≤ n)) (w : World) :
    Calls Try.prog 22 #[.slice A l.length cap, .int .u64 (n : Int), .int .i64 (s : Int)] w fun e w' => e = .returned (.tuple #[.slice none 0 0, .int .i64 3]) ∧ w = w' := by
  have hsb : 1 ≤ s ∧ s ≤ 8 := by have := of_decide_eq_true hs; omega
  obtain ⟨hs1, hs2⟩ := hsb
  have hf : fitsB n (8 * s) = false := by rw [fits_256]; exact decide_eq_false (Nat.not_lt.mpr hn.out)
  go_enter Try.func22, Try.ntmps22
  go_wp2_with (go_at_call 32; refine (Fits_at n _ (8 * s) (by omega) hU _).mono ?_; rintro e w' ⟨rfl, rfl⟩)
  go_ret2
  exact ⟨rfl, rfl⟩
/-- Where the loop stands: place t - 1 is next, the bytes behind it are laid. -/
def AtT (n s : Nat) (g : Nat) (w : World) (m p : Value) (wr : World) : Prop :=
  ∃ t : Nat, t ≤ s ∧ p = .int .i64 ((t : Int) - 1) ∧ m = .int .u64 (sh n (s - t) : Int) ∧ Row wr g (put_ [] n s (s - t)) ∧ Below g w wr
theorem atT_step {n s g u : Nat} {w wr : World} (hu : u + 1 ≤ s) (hr : Row wr g (put_ [] n s (s - (u + 1)))) (hb : Below g w wr) :
    AtT n s g w (.int .u64 ((sh n (s - (u + 1)) : Int) / 256)) (.int .i64 ((u : Int) - 1)) (wr.setCell ⟨g, u, none⟩ (.int .u8 ((sh n (s - (u + 1)) : Int) % 256))) := by
  obtain ⟨t, q, h1, h2, h3, h4, h5, h6⟩ := atL_step (l := []) (p := u) hu (by simp) hr hb
  have hq : q = u := by simp at h3; omega
  have ht : t = u := by simp at h2; omega
  subst ht
  exact ⟨t, h1, rfl, h4, h5, h6⟩
theorem quo_wrap {n j : Nat} (hn : n < U) : IntKind.u64.wrap ((sh n j : Int) / 256) = (sh n j : Int) / 256 := by
  have e : ((sh n j : Int) / 256) = ((sh n j / 256 : Nat) : Int) := by simp
  have h : sh n j / 256 < U := Nat.lt_of_le_of_lt (Nat.le_trans (Nat.div_le_self _ _) (Nat.div_le_self _ _)) hn
  rw [e, wrapU_nat h]
theorem len_byts (n s : Nat) : ((byts n s).map byV).length = s * 1 := by simp [length_byts]
theorem own_lit (wr w : World) (hb : Below w.heap.size w wr) : (wr.alloc (.cells #[] 5)).ownsRow w.heap.size 5 1 (.slice (some ⟨wr.heap.size, 0, none⟩) 0 0) 0 [] :=
  World.ownsRow_made wr #[] 0 hb.size (by unfold maxLen; omega) rfl
theorem fin_own {w w2 w3 : World} {v v3 : Value} {n m : Nat} {xs ys : List Value} (hb : Hid (Below w.heap.size w w2)) (ho : w2.ownsRow w.heap.size 5 1 v n xs)
    (h3 : w3.ownsRow w.heap.size 5 1 v3 m ys) (hg : w2.grownBy w3 v.ownBlock) : Hid (w3.ownsRow w.heap.size 5 1 v3 m ys ∧ Below w.heap.size w w3) :=
  ⟨h3, hb.out.grown hg hb.out.size fun k hk => (ho.lt k hk).1⟩
theorem row_ne {w : World} {g : Nat} {l : List Nat} (h : Row w g l) : some g ≠ (Value.slice (some ⟨w.heap.size, 0, none⟩) 0 0).ownBlock := by
  intro e
  have := h.lt
  simp [Value.ownBlock] at e
  omega
theorem first_own {w w2 w3 : World} {v v3 : Value} {n m g : Nat} {xs ys : List Value} {l : List Nat} (hr : Hid (Row w2 g l)) (hb : Hid (Below w.heap.size w w2)) (ho : w2.ownsRow w.heap.size 5 1 v n xs)
    (hne : some g ≠ v.ownBlock) (h3 : w3.ownsRow w.heap.size 5 1 v3 (0 + m) ([] ++ ys)) (hg : w2.grownBy w3 v.ownBlock) :
    w3.ownsRow w.heap.size 5 1 v3 m ys ∧ Hid (Row w3 g l) ∧ Hid (Below w.heap.size w w3) ∧ w.heap.size ≤ w3.heap.size := by
  have hb3 := hb.out.grown hg hb.out.size fun k hk => (ho.lt k hk).1
  rw [Nat.zero_add, List.nil_append] at h3
  exact ⟨h3, (hg.block g hr.out.lt hne).trans hr.out, hb3, hb3.size⟩
theorem RPut_ok (l : List Nat) (n s : Nat) (A : Option Addr) (cap B : Nat) (hs : sizeB 8 s = true) (hU : Hid (n < U)) (hn : Hid (n < 256 ^ s)) (w : World)
    (hr : Hid (Rd w B A l)) (hA : Hid (A = none → l.length = 0 ∧ cap = 0)) (hB : B ≤ w.heap.size) (hl : l.length ≤ 140737488351232) :
    Calls Try.prog 22 #[.slice A l.length cap, .int .u64 (n : Int), .int .i64 (s : Int)] w fun e w' =>
      ∃ v, e = .returned (.tuple #[v, .int .i64 0]) ∧ w'.ownsRow w.heap.size 5 1 v (l.length + s) ((l ++ byts n s).map byV) ∧ Below w.heap.size w w' := by
  have hsb : 1 ≤ s ∧ s ≤ 8 := by have := of_decide_eq_true hs; omega
  obtain ⟨hs1, hs2⟩ := hsb
  have hf : fitsB n (8 * s) = true := by rw [fits_256]; exact decide_eq_true hn.out
  obtain ⟨i0, hi, hz0, hz1, hz2⟩ := info_parts info8
  go_enter Try.func22, Try.ntmps22
  go_wp2_with (first
    | (go_at_call 32; refine (Fits_at n _ (8 * s) (by omega) hU _).mono ?_; rintro e w' ⟨rfl, rfl⟩)
    | (at_make; refine wpList_make_full _ rfl (.tmp 22) (.tmp 22) 22 rfl w.heap.size 5 i0 (.int .u8 0) 1 Try.underlying22 hi hz0 hz1 .i64 .i64 _ _ s rfl rfl (by omega) (by omega) (by rw [hz2]; omega) (by unfold maxLen; omega) (Nat.le_refl _) ?_; intro w1 hown1 hg1; obtain ⟨HR1, hb1⟩ := made_row hown1 hg1; clear hown1 hg1))
  go_loopw [1, 9] (fun m p wr => AtT n s w.heap.size w m p wr) (fun _ p _ => (intOf p + 1).toNat)
  case atStart =>
    refine ⟨s, Nat.le_refl _, rfl, by rw [Nat.sub_self]; simp [sh], ?_, hb1⟩
    rw [Nat.sub_self]
    have := HR1.out
    unfold put_ byts Row
    simpa using this
  case round =>
    obtain ⟨t, ht, rfl, rfl, hrow, hbel⟩ := hrel
    rcases t with _ | u
    · have HR : Hid (Row wr w.heap.size (byts n s)) := by
        have := hrow
        unfold put_ at this
        rw [Nat.sub_zero, Nat.sub_self] at this
        exact this
      have hbel := Lib.hid hbel
      clear hrow
      have O0 := own_lit wr w hbel.out
      have hsz := hbel.out.size
      rcases A with _ | ad
      · obtain ⟨e1, e2⟩ := hA.out rfl
        subst e2
        obtain rfl : l = [] := List.eq_nil_of_length_eq_zero e1
        clear e1
        have HR2 := row_alloc (o := .cells #[] 5) HR
        have hb2 := Lib.hid (below_alloc (o := .cells #[] 5) hbel.out)
        go_wp2_with (first
          | (at_builtin; refine wpList_append_own_none rfl (.tmp 38) (.tmp 39) 22 rfl w.heap.size 5 i0 Try.underlying22 hi _ 0 [] rfl O0 rfl ?_)
          | (at_builtin; refine wpList_append_own _ rfl (.tmp 41) (.tmp 42) 22 rfl w.heap.size 5 i0 (.int .u8 0) 1 1 Try.underlying22 hi hz0 hz1 hz2 rfl (by decide) _ 0 [] rfl O0 ⟨w.heap.size, 0, none⟩ s s ((byts n s).map byV) rfl (len_byts n s) (row_cells HR2) (one_cells _) (by unfold maxLen; omega) (by omega) (by simp; omega) ?_; intro v3 w3 hown3 hg3 _; have E := fin_own hb2 O0 hown3 hg3; clear hown3 hg3))
        go_ret2
        exact ⟨v3, rfl, by simpa using E.out.1, E.out.2⟩
      · have HR2 := row_alloc (o := .cells #[] 5) HR
        have hb2 := Lib.hid (below_alloc (o := .cells #[] 5) hbel.out)
        go_wp2_with (first
          | (at_builtin; refine wpList_append_own _ rfl (.tmp 38) (.tmp 39) 22 rfl w.heap.size 5 i0 (.int .u8 0) 1 1 Try.underlying22 hi hz0 hz1 hz2 rfl (by decide) _ 0 [] rfl O0 ad l.length cap (l.map byV) rfl (len_map l) (rd_cells hr.out (hb2.out.mono hB)) (one_cells _) (by unfold maxLen; omega) (by omega) (by simp; omega) ?_; intro v2 w2 hown2 hg2 _; obtain ⟨O2, HR3, hb3, hs2⟩ := first_own HR2 hb2 O0 (row_ne HR.out) hown2 hg2; clear hown2 hg2)
          | (at_builtin; refine wpList_append_own _ rfl (.tmp 41) (.tmp 42) 22 rfl w.heap.size 5 i0 (.int .u8 0) 1 1 Try.underlying22 hi hz0 hz1 hz2 rfl (by decide) _ l.length (l.map byV) rfl O2 ⟨w.heap.size, 0, none⟩ s s ((byts n s).map byV) rfl (len_byts n s) (row_cells HR3) (one_cells _) (by unfold maxLen; omega) (by omega) hs2 ?_; intro v3 w3 hown3 hg3 _; have E := fin_own hb3 O2 hown3 hg3; clear hown3 hg3))
        go_ret2
        exact ⟨v3, rfl, by rw [List.map_append]; exact E.out.1, E.out.2⟩
    · have hlen : u < (put_ [] n s (s - (u + 1))).length := by rw [put_length (by omega)]; simp; omega
      have hcell := hrow.cell hlen
      have hfree := hrow.frozen u
      have HR := Lib.hid hrow
      have HB := Lib.hid hbel
      clear hrow hbel hlen
      go_wp2
      go_roundw
      case rel =>
        rw [quo_wrap hU.out]
        exact atT_step ht HR.out HB.out
      case measure => simp [intOf]
theorem Put_ok (l : List Nat) (n s : Nat) (A : Option Addr) (cap B : Nat) (hs : sizeB 8 s = true) (hn : n < 256 ^ s) (w : World)
    (hr : Hid (Rd w B A l)) (hB : B ≤ w.heap.size) (hl : l.length ≤ 140737488351232) :
    Calls Try.prog 19 #[.slice A l.length cap, .int .u64 (n : Int), .int .i64 (s : Int)] w fun e w' =>
      e = .returned (.tuple #[.slice (some ⟨w.heap.size, 0, none⟩) (l.length + s) (l.length + s), .int .i64 0]) ∧ Hid (Row w' w.heap.size (l ++ byts n s)) ∧ Hid (Below w.heap.size w w') :=
  (Put_any l n s A cap B hs w hr hB hl).mono fun e w' h => by
    rcases h with ⟨_, h2, h3, h4⟩ | ⟨h, _⟩
    · exact ⟨h2, h3, h4⟩
    · exact absurd hn (Nat.not_lt.mpr h)
end Go.Proofs.Ytcdijhenfddmcaa.Bt
