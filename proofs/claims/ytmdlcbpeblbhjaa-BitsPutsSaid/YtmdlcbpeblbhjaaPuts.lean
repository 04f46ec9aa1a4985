/- The walk of the law BitsPuts. -/
import Derived.Test.YtmdlcbpeblbhjaaGets
namespace Go.Proofs.Ytmdlcbpeblbhjaa.Wc
open Go.RowKit
open Go.Proofs.Ytmdlcbpeblbhjaa.Ma
open Go.Proofs.Ytmdlcbpeblbhjaa.Ba
open Go.Proofs.Ytmdlcbpeblbhjaa.Nu
open Go.Proofs.Ytmdlcbpeblbhjaa.Me
open Go.Proofs.Ytmdlcbpeblbhjaa.Pu
open Go.Proofs.Ytmdlcbpeblbhjaa.Rp
open Go.Proofs.Ytmdlcbpeblbhjaa.Aw
open Go.Proofs.Ytmdlcbpeblbhjaa.Wa
open Go.Proofs.Ytmdlcbpeblbhjaa.Wb
set_option linter.unusedVariables false

/-- A slice's address leads, from block B on, to the bytes l (to nothing, where there are none). -/
def Held (w : World) (B : Nat) (A : Option Addr) (c : Nat) (l : List Nat) : Prop :=
  (∀ z ∈ l, z < 256) ∧ (0 < l.length → ∃ b, A = some ⟨b, 0, none⟩ ∧ B ≤ b ∧ b < w.heap.size ∧ ∀ i, i < l.length → w.cell? ⟨b, i, none⟩ = some (.int .u8 (by_ l i : Int))) ∧ (A = none → l.length = 0 ∧ c = 0)
theorem Held.nil (w : World) (B : Nat) : Held w B none 0 [] := ⟨by simp, by simp, fun _ => ⟨rfl, rfl⟩⟩
theorem Held.rd {w : World} {B c : Nat} {A : Option Addr} {l : List Nat} (h : Held w B A c l) : Rd w w.heap.size A l :=
  ⟨h.1, fun hl => by
    obtain ⟨b, e, _, hb, hc⟩ := h.2.1 hl
    exact ⟨b, 0, e, hb, fun i hi => by rw [Nat.zero_add]; exact hc i hi⟩⟩
theorem Held.below {w w' : World} {B c : Nat} {A : Option Addr} {l : List Nat} (h : Held w B A c l) (hb : Below w.heap.size w w') : Held w' B A c l :=
  ⟨h.1, fun hl => by
    obtain ⟨b, e, h1, h2, hc⟩ := h.2.1 hl
    exact ⟨b, e, h1, Nat.lt_of_lt_of_le h2 hb.size, fun i hi => (hb.cell (p := ⟨b, i, none⟩) h2).trans (hc i hi)⟩, h.2.2⟩
theorem Held.setCell {w : World} {B c : Nat} {A : Option Addr} {l : List Nat} (h : Held w B A c l) {p : Addr} (hp : p.block < B) (u : Value) : Held (w.setCell p u) B A c l :=
  ⟨h.1, fun hl => by
    obtain ⟨b, e, h1, h2, hc⟩ := h.2.1 hl
    refine ⟨b, e, h1, by simpa using h2, fun i hi => ?_⟩
    have hne : (⟨b, i, none⟩ : Addr) ≠ p := fun e => by subst e; exact absurd hp (Nat.not_lt.mpr h1)
    exact (World.cell?_of_block (w := w) (Below.heap_setCell w p u b (by intro e; subst e; omega))).trans (hc i hi), h.2.2⟩
theorem Held.of_own {w : World} {B n c : Nat} {A : Option Addr} {l : List Nat} (hn : n = l.length) (h : w.ownsRow B 5 1 (.slice A n c) n (l.map byV)) (hl : ∀ z ∈ l, z < 256) (h0 : 0 < l.length) : Held w B A c l := by
  obtain ⟨g, c', hv, hg, hlt⟩ := h.form (by omega)
  simp only [Value.slice.injEq, true_and] at hv
  obtain ⟨rfl, rfl⟩ := hv
  refine ⟨hl, fun _ => ⟨g, rfl, hg, hlt, fun i hi => ?_⟩, fun e => by cases e⟩
  rw [h.cellAt i (by omega)]
  simp [hi, byV, by_]
/-- What Put lays, and its word. -/
def putL (l : List Nat) (n : Nat) (s : Int) : List Nat := if sizeB 8 s = true ∧ n < 256 ^ s.toNat then l ++ byts n s.toNat else []
def putX (n : Nat) (s : Int) : Int := if sizeB 8 s = true then (if n < 256 ^ s.toNat then 0 else 3) else 1
theorem Put_u (l : List Nat) (n : Nat) (s : Int) (A : Option Addr) (cap B : Nat) (w : World) (hr : Hid (Rd w B A l)) (hB : B ≤ w.heap.size) (hl : l.length ≤ 140737488351232) :
    Calls Try.prog 11 #[.slice A l.length cap, .int .u64 (n : Int), .int .i64 s] w fun e w' =>
      ∃ A' c', e = .returned (.tuple #[.slice A' (putL l n s).length c', .int .i64 (putX n s)]) ∧ Hid (Held w' w.heap.size A' c' (putL l n s)) ∧ Hid (Below w.heap.size w w') := by
  by_cases hs : sizeB 8 s = true
  · obtain ⟨s, rfl⟩ : ∃ s' : Nat, s = s' := ⟨s.toNat, by have := of_decide_eq_true hs; omega⟩
    have hs1 : 1 ≤ s := by have := of_decide_eq_true hs; omega
    by_cases hf : n < 256 ^ s
    · have e1 : putL l n s = l ++ byts n s := by unfold putL; rw [if_pos ⟨hs, hf⟩]; rfl
      have e2 : putX n s = 0 := by unfold putX; rw [if_pos hs, if_pos (by simpa using hf)]
      rw [e1, e2]
      refine (Put_ok l n s A cap B hs hf w hr hB hl).mono fun e w' ⟨h1, h2, h3⟩ => ⟨some ⟨w.heap.size, 0, none⟩, l.length + s, by rw [length_put]; exact h1, ⟨bytes_put hr.out n s, fun _ => ⟨w.heap.size, rfl, Nat.le_refl _, h2.out.lt, fun i hi => h2.out.cell hi⟩, fun e => by cases e⟩, h3⟩
    · have e1 : putL l n s = [] := by unfold putL; rw [if_neg (fun h => hf (by simpa using h.2))]
      have e2 : putX n s = 3 := by unfold putX; rw [if_pos hs, if_neg (by simpa using hf)]
      rw [e1, e2]
      exact (Put_long l n s A cap B hs (Nat.not_lt.mp hf) w hr hB hl).mono fun e w' ⟨h1, h2⟩ => ⟨none, 0, h1, Held.nil _ _, h2⟩
  · have e1 : putL l n s = [] := by unfold putL; rw [if_neg (fun h => hs h.1)]
    have e2 : putX n s = 1 := by unfold putX; rw [if_neg hs]
    rw [e1, e2]
    exact (Put_size l n s A cap (by simpa using hs) w).mono fun e w' ⟨h1, h2⟩ => ⟨none, 0, h1, Held.nil _ _, by subst h2; exact Below.refl _ _⟩
theorem RPut_u (l : List Nat) (n : Nat) (s : Int) (A : Option Addr) (cap B : Nat) (w : World) (hn : Hid (n < U)) (hr : Hid (Rd w B A l)) (hA : Hid (A = none → l.length = 0 ∧ cap = 0)) (hB : B ≤ w.heap.size) (hl : l.length ≤ 140737488351232) :
    Calls Try.prog 12 #[.slice A l.length cap, .int .u64 (n : Int), .int .i64 s] w fun e w' =>
      ∃ A' c', e = .returned (.tuple #[.slice A' (putL l n s).length c', .int .i64 (putX n s)]) ∧ Hid (Held w' w.heap.size A' c' (putL l n s)) ∧ Hid (Below w.heap.size w w') := by
  by_cases hs : sizeB 8 s = true
  · obtain ⟨s, rfl⟩ : ∃ s' : Nat, s = s' := ⟨s.toNat, by have := of_decide_eq_true hs; omega⟩
    have hs1 : 1 ≤ s := by have := of_decide_eq_true hs; omega
    by_cases hf : n < 256 ^ s
    · have e1 : putL l n s = l ++ byts n s := by unfold putL; rw [if_pos ⟨hs, hf⟩]; rfl
      have e2 : putX n s = 0 := by unfold putX; rw [if_pos hs, if_pos (by simpa using hf)]
      rw [e1, e2]
      refine (RPut_ok l n s A cap B hs hn hf w hr hA hB hl).mono fun e w' ⟨v, h1, h2, h3⟩ => ?_
      obtain ⟨g, c', rfl, hg, hlt⟩ := h2.form (by omega)
      exact ⟨some ⟨g, 0, none⟩, c', by rw [length_put]; exact h1, Held.of_own (by rw [length_put]) h2 (bytes_put hr.out n s) (by rw [length_put]; omega), h3⟩
    · have e1 : putL l n s = [] := by unfold putL; rw [if_neg (fun h => hf (by simpa using h.2))]
      have e2 : putX n s = 3 := by unfold putX; rw [if_pos hs, if_neg (by simpa using hf)]
      rw [e1, e2]
      exact (RPut_long l n s A cap hs hn (Nat.not_lt.mp hf) w).mono fun e w' ⟨h1, h2⟩ => ⟨none, 0, h1, Held.nil _ _, by subst h2; exact Below.refl _ _⟩
  · have e1 : putL l n s = [] := by unfold putL; rw [if_neg (fun h => hs h.1)]
    have e2 : putX n s = 1 := by unfold putX; rw [if_neg hs]
    rw [e1, e2]
    exact (RPut_size l n s A cap (by simpa using hs) w).mono fun e w' ⟨h1, h2⟩ => ⟨none, 0, h1, Held.nil _ _, by subst h2; exact Below.refl _ _⟩
theorem rd_own {w : World} {B c g : Nat} {l : List Nat} (h : w.ownsRow B 5 1 (.slice (some ⟨g, 0, none⟩) l.length c) l.length (l.map byV)) (hg : g < w.heap.size) (hl : ∀ z ∈ l, z < 256) : Rd w w.heap.size (some ⟨g, 0, none⟩) l :=
  ⟨hl, fun _ => ⟨g, 0, rfl, hg, fun i hi => by
    rw [Nat.zero_add, h.cellAt i (by omega)]
    simp [hi, byV, by_]⟩⟩
theorem own_below {w w' : World} {B c g n : Nat} {xs : List Value} (h : w.ownsRow B 5 1 (.slice (some ⟨g, 0, none⟩) n c) n xs) (hb : Below w.heap.size w w') : w'.ownsRow B 5 1 (.slice (some ⟨g, 0, none⟩) n c) n xs := by
  refine ⟨h.1, ?_⟩
  rcases h.2 with h' | ⟨g', cap', cur, h1, h2, h3, h4⟩
  · exact .inl h'
  · have hlt : g' < w.heap.size := by
      apply Classical.byContradiction
      intro hn
      rw [Array.getElem?_eq_none (by omega)] at h3; cases h3
    exact .inr ⟨g', cap', cur, h1, h2, (hb.block g' hlt).trans h3, h4⟩
/-- The law's own copy of b, in block g: bytes, whatever they are. -/
def Giv (w : World) (g n c : Nat) : Prop := ∃ ys : List Int, ys.length = n ∧ w.ownsRow g 5 1 (.slice (some ⟨g, 0, none⟩) n c) n (ys.map (Value.int .u8))
theorem Giv.below {w w' : World} {g n c : Nat} (h : Giv w g n c) (hb : Below w.heap.size w w') : Giv w' g n c := by
  obtain ⟨ys, h1, h2⟩ := h
  exact ⟨ys, h1, own_below h2 hb⟩
theorem Giv.cell {w : World} {g n c k : Nat} (h : Giv w g n c) (hk : k < n) : ∃ y : Int, w.cell? ⟨g, k, none⟩ = some (.int .u8 y) ∧ w.frozen? ⟨g, k, none⟩ = false := by
  obtain ⟨ys, h1, h2⟩ := h
  refine ⟨ys[k], ?_, h2.frozenAt k⟩
  rw [h2.cellAt k (by omega)]
  simp [h1, hk]
theorem Giv.store {w : World} {g n c k : Nat} (h : Giv w g n c) (y : Int) : Giv (w.setCell ⟨g, k, none⟩ (.int .u8 y)) g n c := by
  obtain ⟨ys, h1, h2⟩ := h
  refine ⟨ys.set k y, by simpa using h1, ?_⟩
  have := (h2.stored k (.int .u8 y)).1
  rw [List.map_set]
  exact this
/-- What stands at the head of each round. -/
def Rel (w : World) (n c : Nat) (B1 B2 : Nat) (A1 A2 : Option Addr) (c1 c2 : Nat) (L : List Nat) (wr : World) : Prop :=
  Giv wr w.heap.size n c ∧ Held wr B1 A1 c1 L ∧ Held wr B2 A2 c2 L ∧ Below w.heap.size w wr
theorem Rel.store {w : World} {n c B1 B2 : Nat} {A1 A2 : Option Addr} {c1 c2 : Nat} {L : List Nat} {wr : World} (h : Rel w n c B1 B2 A1 A2 c1 c2 L wr) (h1 : w.heap.size < B1) (h2 : w.heap.size < B2) (k : Nat) (y : Int) :
    Rel w n c B1 B2 A1 A2 c1 c2 L (wr.setCell ⟨w.heap.size, k, none⟩ (.int .u8 y)) :=
  ⟨h.1.store y, h.2.1.setCell h1 _, h.2.2.1.setCell h2 _, h.2.2.2.setCell (Nat.le_refl _) _⟩
theorem given {w wa wb : World} {l : List Nat} (h : wa.ownsRow w.heap.size 5 1 (.slice (some ⟨w.heap.size, 0, none⟩) 0 (l.length + 16)) 0 []) (hga : w.grownBy wa none)
    (h2 : wb.ownsRow w.heap.size 5 1 (.slice (some ⟨w.heap.size, 0, none⟩) (0 + l.length) (l.length + 16)) (0 + l.length) ([] ++ l.map byV)) (hgb : wa.grownBy wb (some w.heap.size)) (hl : ∀ z ∈ l, z < 256) :
    Hid (Giv wb w.heap.size l.length (l.length + 16)) ∧ Hid (Rd wb wb.heap.size (some ⟨w.heap.size, 0, none⟩) l) ∧ Hid (Below w.heap.size w wb) ∧ w.heap.size < wb.heap.size := by
  rw [Nat.zero_add, List.nil_append] at h2
  have hlt : w.heap.size < wb.heap.size := (h2.lt w.heap.size rfl).2
  refine ⟨⟨l.map (fun b : Nat => (b : Int)), by simp, by rw [List.map_map]; exact h2⟩, rd_own h2 hlt hl, ?_, hlt⟩
  exact ((Below.refl _ w).grown hga (Nat.le_refl _) (by simp)).grown hgb hga.size (fun k hk => by injection hk with hk; omega)
theorem puts (A : Option Addr) (len cap : Nat) (l : List Nat) (n s : Int) (w : World) (w0 : BySlice w A len cap l) (c0 : cap ≤ 140737488351232) (w1 : (Lit.int .u64 n).wf = true) (w2 : (Lit.int .i64 s).wf = true) :
    Calls Try.prog 3 #[.slice A len cap, .int .u64 n, .int .i64 s] w fun e w' => e = .returned (.bool true) ∧ Below w.heap.size w w' := by
  obtain ⟨n, rfl, hn⟩ := u64_nat w1
  obtain ⟨rfl, h1, h2, h3, hA⟩ := w0
  have HA := Lib.hid hA
  have HR := Lib.hid h3
  have C1 := fun w A cap B => Put_u l n s A cap B w
  have C2 := fun w A cap B => RPut_u l n s A cap B w hn
  obtain ⟨L, hL⟩ : ∃ L, putL l n s = L := ⟨_, rfl⟩
  obtain ⟨x, hx⟩ : ∃ x, putX n s = x := ⟨_, rfl⟩
  rw [hL, hx] at C1 C2
  have D1 := Lib.hid C1
  have D2 := Lib.hid C2
  have HL := Lib.hid h3.1
  clear C1 C2 hL hx h3 hA w1 w2
  obtain ⟨i0, hi, hz0, hz1, hz2⟩ := info_parts info8
  go_enter Try.func3, Try.ntmps3
  go_wp2_with (first
    | (at_make; refine wpList_make_own _ rfl (.const (.int .i64 0)) (.tmp 15) 22 rfl w.heap.size 5 i0 (.int .u8 0) 1 Try.underlying22 hi hz0 hz1 .i64 .i64 _ (l.length + 16) rfl rfl (by omega) (by rw [hz2]; omega) (by unfold maxLen; omega) (Nat.le_refl _) ?_; intro wa howna hga)
    | (at_builtin; refine wpList_append_fits_any _ rfl (.tmp 16) (.tmp 17) 22 rfl w.heap.size 5 i0 1 Try.underlying22 hi hz1 w.heap.size 0 (l.length + 16) [] rfl howna A l.length cap (l.map byV) rfl (len_map l) HA.out (fun ad e => rd_cells (e ▸ HR.out) ((Below.refl _ w).grown hga (Nat.le_refl _) (by simp))) (one_cells _) (by omega) ?_; intro wb hownb hgb; obtain ⟨HG, HRg, hbb, hlt⟩ := given howna hga hownb hgb HL.out; clear howna hga hownb hgb)
    | (go_at_call 11; refine (D1.out _ _ _ _ HRg (Nat.le_refl _) (by omega)).mono ?_; rintro e wc ⟨Ap, cp, rfl, HP, hbc⟩)
    | (go_at_call 12; refine (D2.out _ A cap w.heap.size (HR.out.below (hbb.out.trans (hbc.out.mono (Nat.le_of_lt hlt)))) HA (Nat.le_trans hbb.out.size hbc.out.size) (by omega)).mono ?_; rintro e wd ⟨Aq, cq, rfl, HQ, hbd⟩))
  have hRel : Hid (Rel w l.length (l.length + 16) wb.heap.size wc.heap.size Ap Aq cp cq L wd) :=
    ⟨(HG.out.below hbc.out).below hbd.out, HP.out.below hbd.out, HQ.out, (hbb.out.trans (hbc.out.mono (Nat.le_of_lt hlt))).trans (hbd.out.mono (Nat.le_trans (Nat.le_of_lt hlt) hbc.out.size))⟩
  have hlt2 : w.heap.size < wc.heap.size := Nat.lt_of_lt_of_le hlt hbc.out.size
  obtain ⟨B1, hB1⟩ : ∃ B1, wb.heap.size = B1 := ⟨_, rfl⟩
  obtain ⟨B2, hB2⟩ : ∃ B2, wc.heap.size = B2 := ⟨_, rfl⟩
  rw [hB1] at hlt hRel
  rw [hB2] at hlt2 hRel
  clear HG HRg HP HQ hbb hbc hbd hB1 hB2
  go_loopw [12] (fun i wr => ∃ k : Nat, k ≤ l.length ∧ i = .int .i64 k ∧ Rel w l.length (l.length + 16) B1 B2 Ap Aq cp cq L wr) (fun i _ => l.length - (intOf i).toNat)
  case atStart => exact ⟨0, Nat.zero_le _, rfl, hRel.out⟩
  case round =>
    obtain ⟨k, hk, rfl, hrel⟩ := hrel
    by_cases hlk : k < l.length
    · obtain ⟨y, hcell, hfree⟩ := hrel.1.cell hlk
      have HREL := Lib.hid hrel
      clear hrel
      go_wp2
      go_roundw
      case rel => exact ⟨k + 1, by omega, by go_num, HREL.out.store hlt hlt2 k _⟩
      case measure => simp [intOf]; omega
    · have K1 := conv_rd wr _ Ap L cp hrel.2.1.rd hrel.2.1.2.2
      have K2 := conv_rd wr _ Aq L cq hrel.2.2.1.rd hrel.2.2.1.2.2
      have hb := Lib.hid hrel.2.2.2
      clear hrel
      go_wp2_with (go_at_call 13; refine (awake_below hb).mono ?_; rintro e w2 ⟨rfl, hb2⟩)
      go_ret
      exact ⟨rfl, hb2.out⟩
end Go.Proofs.Ytmdlcbpeblbhjaa.Wc
