/- The walk of the law CrcAdds. -/
import Derived.Test.YtlkkindahmnoiaaCrcLaws
import Derived.Deep.RegionHeld
namespace Go.Proofs.Ytlkkindahmnoiaa.Cr
open Go.RowKit
open Go.Proofs.Ytlkkindahmnoiaa.Me
set_option linter.unusedVariables false

theorem Row.setCell {w : World} {g : Nat} {l : List Nat} (h : Row w g l) {p : Addr} (hp : p.block ≠ g) (u : Value) : Row (w.setCell p u) g l :=
  (Below.heap_setCell w p u g (fun e => hp e.symm)).trans h
/-- The law's own copy, in block g: n bytes, whatever they are. -/
def Giv (w : World) (B g n c : Nat) : Prop := ∃ ys : List Nat, ys.length = n ∧ (∀ y ∈ ys, y < 256) ∧ Own w B (.slice (some ⟨g, 0, none⟩) n c) ys
theorem Giv.cell {w : World} {B g n c k : Nat} (h : Giv w B g n c) (hk : k < n) : ∃ y : Nat, y ≤ 255 ∧ w.cell? ⟨g, k, none⟩ = some (.int .u8 (y : Int)) ∧ w.frozen? ⟨g, k, none⟩ = false := by
  obtain ⟨ys, h1, h2, h3⟩ := h
  obtain ⟨a, b⟩ := h3.cell (i := k) (by omega)
  have := h2 (by_ ys k) (by rw [by_get (by omega)]; exact List.getElem_mem _)
  exact ⟨_, by omega, a, b⟩
theorem Giv.store {w : World} {B g n c k : Nat} (h : Giv w B g n c) (y : Nat) : Giv (w.setCell ⟨g, k, none⟩ (.int .u8 (255 - (y : Int)))) B g n c ∨ 255 < y := by
  by_cases hy : y ≤ 255
  · left
    obtain ⟨ys, h1, h2, h3⟩ := h
    have e : (255 - (y : Int)) = ((255 - y : Nat) : Int) := by omega
    rw [e]
    refine ⟨ys.set k (255 - y), by simpa using h1, ?_, h3.store k (255 - y)⟩
    intro z hz
    rcases List.mem_or_eq_of_mem_set hz with h | h
    · exact h2 z h
    · omega
  · right; omega
/-- What is kept till the law ends: p, q and the bytes with their sum. -/
def Kept (wr W : World) : Prop := Below wr.heap.size wr W
theorem kept_go {wr W W' : World} (h : Kept wr W) (hb : Below W.heap.size W W') : Kept wr W' := Below.trans h (Below.mono hb (Below.size h))
/-- What stands at the head of each round. -/
def RelA (w : World) (n c gs : Nat) (L : List Nat) (wr : World) : Prop :=
  Giv wr w.heap.size w.heap.size n c ∧ Hid (Row wr gs L) ∧ Hid (Below w.heap.size w wr)
theorem RelA.store {w : World} {n c gs : Nat} {L : List Nat} {wr : World} (h : RelA w n c gs L wr) (hg : w.heap.size < gs) (k : Nat) {y : Nat} (hy : y ≤ 255) :
    RelA w n c gs L (wr.setCell ⟨w.heap.size, k, none⟩ (.int .u8 (255 - (y : Int)))) := by
  refine ⟨?_, Row.setCell h.2.1.out (by show w.heap.size ≠ gs; omega) _, h.2.2.out.setCell (Nat.le_refl _) _⟩
  rcases h.1.store (k := k) y with h | h
  · exact h
  · omega
set_option maxHeartbeats 4000000 in
theorem adds (A : Option Addr) (len cap : Nat) (l : List Nat) (Aq : Option Addr) (lenq capq : Nat) (q : List Nat) (w : World) (w0 : BySlice w A len cap l) (c0 : cap ≤ 140737488351232) (w1 : BySlice w Aq lenq capq q) (c1 : capq ≤ 140737488351232) :
    Calls Try.prog 5 #[.slice A len cap, .slice Aq lenq capq] w fun e w' => e = .returned (.bool true) ∧ Below w.heap.size w w' := by
  obtain ⟨rfl, h1, h2, h3, hA⟩ := w0
  obtain ⟨rfl, q1, q2, q3, qA⟩ := w1
  have HA := Lib.hid hA
  have HR := Lib.hid h3
  have HQ := Lib.hid q3
  have HQA := Lib.hid qA
  obtain ⟨i0, hi, hz0, hz1, hz2⟩ := info_parts info8
  have HL := Lib.hid (add_bytes h3.1)
  have HRT := Lib.hid (right_add l h3.1)
  have hL : (addL l).length = l.length + 2 := length_add l
  have C2 := fun A cap B W hr hA hB => RAdd_any A cap B l W hr hA hB (by omega)
  have C1 := fun A cap B W hr hB hlc hc => Add_any A cap B l W hr hB hlc hc
  rw [← hL] at C1
  obtain ⟨L, hL'⟩ : ∃ L, addL l = L := ⟨_, rfl⟩
  rw [hL'] at HL HRT hL C1 C2
  have E1 := Lib.hid C1
  have E2 := Lib.hid C2
  have HLn : Hid (L.length ≤ 140737488355000) := by show L.length ≤ 140737488355000; omega
  have C3 : ∀ B A c l W, Hid (Rd W B A l) → B ≤ W.heap.size → l.length ≤ c → c ≤ 9223372036854775807 → ∀ b, rightB l = b → Calls Try.prog 19 #[.slice A l.length c] W fun e w' => e = .returned (.bool b) ∧ Hid (Below W.heap.size W w') :=
    fun B A c l W hr hB hlc hc b hb => hb ▸ Right_any A c B l W hr hB hlc hc
  have E3 := Lib.hid C3
  have hqb : q.length ≤ 140737488355000 := by omega
  clear hL' h3 hA q3 qA C1 C2 C3 hL
  go_enter Try.func5, Try.ntmps5
  go_wp2_with (first
    | (at_make; refine wpList_make_own _ rfl (.const (.int .i64 0)) (.tmp 10) 23 rfl w.heap.size 5 i0 (.int .u8 0) 1 Try.underlying23 hi hz0 hz1 .i64 .i64 _ (l.length + 8) rfl rfl (by omega) (by rw [hz2]; omega) (by unfold maxLen; omega) (Nat.le_refl _) ?_; intro wa howna hga)
    | (at_builtin; refine wpList_append_fits_any _ rfl (.tmp 11) (.tmp 12) 23 rfl w.heap.size 5 i0 1 Try.underlying23 hi hz1 w.heap.size 0 (l.length + 8) [] rfl howna A l.length cap (l.map byV) rfl (len_map l) HA.out (fun ad e => rd_cells (e ▸ HR.out) ((Below.refl _ w).grown hga (Nat.le_refl _) (by simp))) (one_cells _) (by omega) ?_; intro wb hownb hgb; obtain ⟨HG, HRg, hbb, hlt⟩ := given howna hga hownb hgb HR.out.1; clear howna hga hownb hgb)
    | (go_at_call 17; refine (E1.out _ _ _ _ HRg (Nat.le_refl _) (by omega) (by omega)).mono ?_; rintro e wc ⟨rfl, HP, hbc⟩))
  have hRel : Hid (RelA w l.length (l.length + 8) wb.heap.size L wc) := ⟨⟨l, rfl, HR.out.1, own_below HG.out hbc.out⟩, HP, hbb.out.trans (hbc.out.mono (Nat.le_of_lt hlt))⟩
  obtain ⟨gs, hgs⟩ : ∃ gs, wb.heap.size = gs := ⟨_, rfl⟩
  rw [hgs] at hlt hRel ⊢
  clear HG HRg HP hbb hbc hgs
  go_loopw [7] (fun i wr => ∃ k : Nat, k ≤ l.length ∧ i = .int .i64 k ∧ RelA w l.length (l.length + 8) gs L wr) (fun i _ => l.length - (intOf i).toNat)
  case atStart => exact ⟨0, Nat.zero_le _, rfl, hRel.out⟩
  case round =>
    obtain ⟨k, hk, rfl, hrel⟩ := hrel
    by_cases hlk : k < l.length
    · obtain ⟨y, hy, hcell, hfree⟩ := hrel.1.cell hlk
      have HREL := Lib.hid hrel
      clear hrel
      have hy2 : (y : Int) ≤ 255 := by omega
      go_wp2
      go_roundw
      case rel => exact ⟨k + 1, by omega, by go_num, HREL.out.store hlt k hy⟩
      case measure => simp [intOf]; omega
    · have HREL := Lib.hid hrel
      clear hrel
      have CS : ∀ W, Kept wr W → (convert 23 9 (.slice (some ⟨gs, 0, none⟩) L.length L.length)).run Try.prog W = .ok (.string (strOf L)) W :=
        fun W hW => conv_rd W (gs + 1) _ L _ ((HREL.out.2.1.out.rd (Nat.lt_succ_self gs) HL.out).below (Below.mono hW HREL.out.2.1.out.lt)) (fun e => by cases e)
      have RL : ∀ W, Kept wr W → Rd W w.heap.size A l := fun W hW => (HR.out.below HREL.out.2.2.out).below (Below.mono hW HREL.out.2.2.out.size)
      have RQ : ∀ W, Kept wr W → Rd W w.heap.size Aq q := fun W hW => (HQ.out.below HREL.out.2.2.out).below (Below.mono hW HREL.out.2.2.out.size)
      have RS : ∀ W, Kept wr W → Rd W (gs + 1) (some ⟨gs, 0, none⟩) L := fun W hW => (HREL.out.2.1.out.rd (Nat.lt_succ_self gs) HL.out).below (Below.mono hW HREL.out.2.1.out.lt)
      have SZ : ∀ W, Kept wr W → w.heap.size ≤ W.heap.size ∧ gs + 1 ≤ W.heap.size := fun W hW => ⟨Nat.le_trans HREL.out.2.2.out.size (Below.size hW), Nat.le_trans HREL.out.2.1.out.lt (Below.size hW)⟩
      have F2 : Hid (∀ W, Kept wr W → Calls Try.prog 18 #[.slice A l.length cap] W fun e w' => ∃ A1 c1, e = .returned (.slice A1 L.length c1) ∧ Hid ((convert 23 9 (.slice A1 L.length c1)).run Try.prog w' = .ok (.string (strOf L)) w') ∧ Kept wr w') :=
        fun W hW => (E2.out A cap _ W (RL W hW) HA (SZ W hW).1).mono fun e w' ⟨A1, c1, he, _, _, hH, hB⟩ => ⟨A1, c1, he, conv_rd w' _ A1 L c1 hH.out.rd hH.out.2.2, kept_go hW hB.out⟩
      have F3 : Hid (∀ W, Kept wr W → Calls Try.prog 19 #[.slice (some ⟨gs, 0, none⟩) L.length L.length] W fun e w' => e = .returned (.bool true) ∧ Kept wr w') :=
        fun W hW => (E3.out _ _ _ L W (RS W hW) (SZ W hW).2 (Nat.le_refl _) (by have := HLn.out; omega) _ HRT.out).mono fun e w' ⟨he, hB⟩ => ⟨he, kept_go hW hB.out⟩
      have F4 : Hid (∀ W, Kept wr W → Calls Try.prog 19 #[.slice Aq q.length capq] W fun e w' => e = .returned (.bool (rightB q)) ∧ Kept wr w') :=
        fun W hW => (E3.out _ _ _ q W (RQ W hW) (SZ W hW).1 q1 (by omega) _ rfl).mono fun e w' ⟨he, hB⟩ => ⟨he, kept_go hW hB.out⟩
      have F5 : Hid (∀ W, Kept wr W → Calls Try.prog 20 #[.slice Aq q.length capq] W fun e w' => e = .returned (.bool (rightB q)) ∧ Kept wr w') :=
        fun W hW => (RRight_any Aq capq _ q W (RQ W hW) HQA (SZ W hW).1 q1 (by omega)).mono fun e w' ⟨he, hB⟩ => ⟨he, kept_go hW hB.out⟩
      have F6 : Hid (∀ W, Kept wr W → Calls Try.prog 14 #[] W fun e w' => e = .returned (.bool true) ∧ Kept wr w') :=
        fun W hW => (awake_any W).mono fun e w' ⟨he, hB⟩ => ⟨he, kept_go hW hB⟩
      obtain ⟨b, hb⟩ : ∃ b, rightB q = b := ⟨_, rfl⟩
      rw [hb] at F4 F5
      have HCS := Lib.hid CS
      have hK0 : Kept wr wr.drew := (Below.refl _ _).drew
      have hC0 := CS _ hK0
      clear CS RL RQ RS SZ hb E1 E2 E3
      go_wp2
      go_region_held (fun W => (convert 23 9 (.slice (some ⟨gs, 0, none⟩) L.length L.length)).run Try.prog W = .ok (.string (strOf L)) W ∧ Kept wr W)
        (first | assumption | (refine ⟨HCS.out _ ?_, ?_⟩ <;> assumption))
        (first
          | (go_at_call 18; refine (F2.out _ ?_).mono ?_; (exact (And.right (by assumption))); rintro e w1 ⟨A1, c1, rfl, HC1, hK1⟩; have hC1 := HC1.out; have hS1 := HCS.out _ hK1)
          | (go_at_call 19; ((with_reducible refine (F3.out _ ?_).mono ?_); (exact (And.right (by assumption))); rintro e w1 ⟨rfl, hK1⟩; have hS1 := HCS.out _ hK1))
          | (go_at_call 19; ((with_reducible refine (F4.out _ ?_).mono ?_); (exact (And.right (by assumption))); rintro e w1 ⟨rfl, hK1⟩; have hS1 := HCS.out _ hK1))
          | (go_at_call 20; refine (F5.out _ ?_).mono ?_; (exact (And.right (by assumption))); rintro e w1 ⟨rfl, hK1⟩; have hS1 := HCS.out _ hK1)
          | (go_at_call 14; refine (F6.out _ ?_).mono ?_; (exact (And.right (by assumption))); rintro e w1 ⟨rfl, hK1⟩; have hS1 := HCS.out _ hK1))
      all_goals
        rename_i hfin
        go_wp2
        go_ret
        exact ⟨rfl, HREL.out.2.2.out.trans (Below.mono (And.right hfin) HREL.out.2.2.out.size)⟩
end Go.Proofs.Ytlkkindahmnoiaa.Cr
