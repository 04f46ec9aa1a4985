/- The contracts of Encode, of the program and of its reference. -/
import Derived.Test.YtoaffkmjobmhaaaHdFeed
namespace Go.Proofs.Ytoaffkmjobmhaaa.Hd
open Go.RowKit
open Go.Proofs.Ytoaffkmjobmhaaa.Me Go.Proofs.Ytoaffkmjobmhaaa.St
open Go.Proofs.Ytoaffkmjobmhaaa.Cr (addL length_add add_bytes Add_long RAdd_any)
set_option linter.unusedVariables false

/-- Bytes appended where there is room. -/
theorem app8f {w0 w : World} {ops : Array Oper} {rest : List Oper} {o : Oper} {a : Act} {Q : Exit → Act → World → Prop} (hgd : o.guard = none) (s x : Operand)
    (ho : o.op = .call { callee := .builtin .append, args := #[s, x], argTypes := #[22, 22] })
    (B Bx g k cap : Nat) (l r : List Nat) (hk : k = l.length) (hs : a.eval s = .slice (some ⟨g, 0, none⟩) k cap) (hown : Own w B (.slice (some ⟨g, 0, none⟩) k cap) l) (hb : Below B w0 w) (hB : B ≤ w.heap.size)
    (A : Option Addr) (c : Nat) (hx : a.eval x = .slice A r.length c) (hr : Rd w Bx A r) (hA : A = none → r.length = 0 ∧ c = 0) (hfit : k + r.length ≤ cap)
    (h : ∀ w', Own w' B (.slice (some ⟨g, 0, none⟩) (k + r.length) cap) (l ++ r) → Below B w0 w' → wpList Try.prog ops Q rest (a.put o.dst (.slice (some ⟨g, 0, none⟩) (k + r.length) cap)) w') : wpList Try.prog ops Q (o :: rest) a w := by
  obtain ⟨i0, hi, hz0, hz1, hz2⟩ := info_parts info8
  subst hk
  refine wpList_append_fits_any w hgd s x 22 ho B 5 i0 1 Try.underlying22 hi hz1 g l.length cap (l.map byV) hs hown A r.length c (r.map byV) hx (len_map r) hA (fun ad e => rd_cells (by rw [← e]; exact hr) (Below.refl _ _)) (one_cells _) hfit ?_
  intro w' h1 h2
  refine h w' ?_ (hb.grown h2 hB fun b e => by cases e; exact (hown.lt g rfl).1)
  unfold Own
  rw [List.length_append, List.map_append]; exact h1
theorem own_lit (w : World) (l : List Nat) (hl : l.length ≤ 9223372036854775807) : Me.Own (w.alloc (.cells (l.map byV).toArray 5)) w.heap.size (.slice (some ⟨w.heap.size, 0, none⟩) l.length l.length) l :=
  ⟨by simp, .inr ⟨w.heap.size, l.length, _, rfl, Nat.le_refl _, heap_alloc_new w _, Nat.le_refl _, by unfold maxLen; omega, by simp, by rw [Nat.mul_one]; simp [List.take_of_length_le]⟩⟩
/-- What Encode answers. -/
def EncP (w : World) (c : List Nat) (e : Ending) (w' : World) : Prop :=
  if fits c then ∃ A k, e = .returned (.tuple #[.slice A (frameL addL c).length k, .int .i64 0]) ∧ Hid (Me.Own w' w.heap.size (.slice A (frameL addL c).length k) (frameL addL c)) ∧ Hid (Below w.heap.size w w')
  else e = .returned (.tuple #[.slice none 0 0, .int .i64 (if c = [] then 2 else 3)]) ∧ Hid (Below w.heap.size w w')
theorem frame_lt {c : List Nat} (h : ∀ z ∈ c, z < 256) : ∀ z ∈ frameL addL c, z < 256 := by
  intro z hz
  simp only [frameL, List.mem_append, List.mem_singleton] at hz
  rcases hz with (rfl | hz) | rfl
  · decide
  · exact stuff_lt (add_bytes h) z hz
  · decide
theorem frame_len {c : List Nat} : (frameL addL c).length = (stuffL (addL c)).length + 2 := by simp [frameL]
theorem EncP.ok {w w' : World} {c : List Nat} {v : Value} (hf : fits c = true) (hl : ∀ z ∈ c, z < 256) (h : Me.Own w' w.heap.size v (frameL addL c)) (hb : Below w.heap.size w w') : EncP w c (.returned (.tuple #[v, .int .i64 0])) w' := by
  obtain ⟨A, k, rfl, h1, h2, h3⟩ := h.held (frame_lt hl)
  unfold EncP
  rw [if_pos hf]
  exact ⟨A, k, rfl, h, hb⟩
set_option maxHeartbeats 2000000 in
theorem Encode_any (A : Option Addr) (cap : Nat) (l : List Nat) (w : World) (hr : Hid (Rd w w.heap.size A l)) (hlc : l.length ≤ cap) (hc : cap ≤ 9223372036854775807) :
    Calls Try.prog 10 #[.slice A l.length cap] w (EncP w l) := by
  obtain ⟨i0, hi, hz0, hz1, hz2⟩ := info_parts info8
  by_cases h0 : l = []
  · subst h0
    go_enter Try.func10, Try.ntmps10
    go_wp2
    go_ret2
    exact ⟨rfl, Below.refl _ _⟩
  · have hpos : 0 < l.length := List.length_pos_iff.mpr h0
    have e0 : ((l.length : Int) == 0) = false := by simp; omega
    by_cases h1 : 128 < l.length
    · have HF : Hid (fits l = false) := by show fits l = false; simp [fits]; omega
      have H0 := Lib.hid h0
      have e1 : (128 : Int) < (l.length : Int) := by omega
      clear h0 h1
      go_enter Try.func10, Try.ntmps10
      go_wp2
      go_ret2
      unfold EncP
      rw [if_neg (by rw [HF.out]; decide), if_neg H0.out]
      exact ⟨rfl, Below.refl _ _⟩
    · have HF : Hid (fits l = true) := by show fits l = true; simp [fits]; omega
      have e1 : ¬ (128 : Int) < (l.length : Int) := by omega
      have h260 := stuffed_len sums (c := l) (by omega)
      have HLb : Hid (∀ z ∈ l, z < 256) := hr.out.1
      have HLa : Hid (∀ z ∈ addL l, z < 256) := add_bytes hr.out.1
      have D1 := Add_long A cap w.heap.size l w hr (Nat.le_refl _) hlc hc (by omega)
      have D2 := fun (w1 : World) (h : Hid (Rd w1 w1.heap.size (some ⟨w.heap.size, 0, none⟩) (addL l))) => Stuff_any (some ⟨w.heap.size, 0, none⟩) (l.length + 2) w1.heap.size (addL l) w1 h (Nat.le_refl _) (by omega)
      simp only [length_add] at D2
      have HD1 := Lib.hid D1
      have HD2 := Lib.hid D2
      have HFR : Hid ([126] ++ stuffL (addL l) ++ [126] = frameL addL l) := rfl
      obtain ⟨s, hs⟩ : ∃ s, stuffL (addL l) = s := ⟨_, rfl⟩
      rw [hs] at HD2 h260 HFR
      clear D1 D2 hs h0 h1
      go_enter Try.func10, Try.ntmps10
      go_wp2_with (first
        | (go_at_call 23; refine HD1.out.mono ?_; rintro e w1 ⟨rfl, hrow, hb1⟩; have hlt1 := hrow.out.lt; have hrd1 : Hid (Rd w1 w1.heap.size (some ⟨w.heap.size, 0, none⟩) (addL l)) := hrow.out.rd hlt1 HLa.out)
        | (go_at_call 22; refine (HD2.out w1 hrd1).mono ?_; rintro e w2 ⟨A2, c2, rfl, h1, h2, HH, hb2⟩; have B2 : Hid (Below w.heap.size w w2) := hb1.out.trans (hb2.out.mono hb1.out.size))
        | (at_make; refine wpList_make_own _ rfl (.const (.int .i64 0)) (.tmp 19) 22 rfl w2.heap.size 5 i0 (.int .u8 0) 1 Try.underlying22 hi hz0 hz1 .i64 .i64 _ (s.length + 2) rfl rfl (by omega) (by rw [hz2]; omega) (by unfold maxLen; omega) (Nat.le_refl _) ?_; intro wa howna hga; have B3 := Lib.hid (B2.out.grown hga B2.out.size (by simp)); have O3 : Hid (Me.Own wa w2.heap.size (.slice (some ⟨w2.heap.size, 0, none⟩) 0 (s.length + 2)) []) := howna; have BA : Hid (Below w2.heap.size w2 (wa.alloc (.cells #[.int .u8 126] 5))) := ((Below.refl _ w2).grown hga (Nat.le_refl _) (by simp)).alloc hga.size _; have hga2 := hga.size; clear howna hga)
        | (at_builtin; refine app8f rfl (.tmp 21) (.tmp 22) rfl w2.heap.size (wa.heap.size + 1) w2.heap.size 0 (s.length + 2) [] [126] rfl rfl (O3.out.alloc _) BA.out BA.out.size (some ⟨wa.heap.size, 0, none⟩) 1 rfl (rd_lit (r := [126]) (by simp) 5) (fun h => by cases h) (by simp) ?_; intro w4 ho4 hb4; have HO4 := Lib.hid ho4; have HB4 := Lib.hid hb4; clear ho4 hb4)
        | (at_builtin; refine app8f rfl (.tmp 24) (.tmp 25) rfl w2.heap.size w2.heap.size w2.heap.size (0 + [126].length) (s.length + 2) ([] ++ [126]) s rfl rfl HO4.out HB4.out HB4.out.size A2 c2 rfl (HH.out.rd.below HB4.out) HH.out.2.2 (by simp; omega) ?_; intro w5 ho5 hb5; have HO5 := Lib.hid ho5; have HB5 := Lib.hid hb5; clear ho5 hb5)
        | (at_builtin; refine app8f rfl (.tmp 27) (.tmp 28) rfl w2.heap.size (w5.heap.size + 1) w2.heap.size (0 + [126].length + s.length) (s.length + 2) ([] ++ [126] ++ s) [126] (by simp; omega) rfl (HO5.out.alloc _) (HB5.out.alloc HB5.out.size _) (Nat.le_trans HB5.out.size (by simp)) (some ⟨w5.heap.size, 0, none⟩) 1 rfl (rd_lit (r := [126]) (by simp) 5) (fun h => by cases h) (by simp; omega) ?_; intro w6 ho6 hb6; have HO6 := Lib.hid ho6; have HB6 := Lib.hid hb6; clear ho6 hb6))
      go_ret2
      have hfin := HO6.out
      rw [List.nil_append, HFR.out] at hfin
      exact EncP.ok HF.out HLb.out (own_base hfin fun k e => Nat.le_trans B2.out.size ((hfin.lt k e).1)) (B2.out.trans (HB6.out.mono B2.out.size))
set_option maxHeartbeats 2000000 in
theorem REncode_any (A : Option Addr) (cap : Nat) (l : List Nat) (w : World) (hr : Hid (Rd w w.heap.size A l)) (hA : Hid (A = none → l.length = 0 ∧ cap = 0)) :
    Calls Try.prog 11 #[.slice A l.length cap] w (EncP w l) := by
  by_cases h0 : l = []
  · subst h0
    go_enter Try.func11, Try.ntmps11
    go_wp2
    go_ret2
    exact ⟨rfl, Below.refl _ _⟩
  · have hpos : 0 < l.length := List.length_pos_iff.mpr h0
    have e0 : ((l.length : Int) == 0) = false := by simp; omega
    by_cases h1 : 128 < l.length
    · have HF : Hid (fits l = false) := by show fits l = false; simp [fits]; omega
      have H0 := Lib.hid h0
      have e1 : (128 : Int) < (l.length : Int) := by omega
      clear h0 h1
      go_enter Try.func11, Try.ntmps11
      go_wp2
      go_ret2
      unfold EncP
      rw [if_neg (by rw [HF.out]; decide), if_neg H0.out]
      exact ⟨rfl, Below.refl _ _⟩
    · have HF : Hid (fits l = true) := by show fits l = true; simp [fits]; omega
      have e1 : ¬ (128 : Int) < (l.length : Int) := by omega
      have h260 := stuffed_len sums (c := l) (by omega)
      have HLb : Hid (∀ z ∈ l, z < 256) := hr.out.1
      have D1 := fun (w1 : World) (h : Hid (Rd w1 w.heap.size A l)) (hB : w.heap.size ≤ w1.heap.size) => RAdd_any A cap w.heap.size l w1 h hA hB (by omega)
      have D2 := fun (w1 : World) (A1 : Option Addr) (c1 : Nat) (h : Hid (Rd w1 w1.heap.size A1 (addL l))) => RStuff_any A1 c1 w1.heap.size (addL l) w1 h (Nat.le_refl _) (by omega)
      have HD1 := Lib.hid D1
      have HD2 := Lib.hid D2
      have HFR : Hid ([126] ++ stuffL (addL l) ++ [126] = frameL addL l) := rfl
      obtain ⟨s, hs⟩ : ∃ s, stuffL (addL l) = s := ⟨_, rfl⟩
      rw [hs] at HD2 h260 HFR
      have B1 : Hid (Below w.heap.size w (w.alloc (.cells #[.int .u8 126] 5))) := below_alloc (Below.refl _ _)
      have O1 : Hid (Me.Own (w.alloc (.cells #[.int .u8 126] 5)) w.heap.size (.slice (some ⟨w.heap.size, 0, none⟩) 1 1) [126]) := own_lit w [126] (by simp)
      clear D1 D2 hs h0 h1
      go_enter Try.func11, Try.ntmps11
      go_wp2_with (first
        | (go_at_call 25; refine (HD1.out _ (hr.out.below B1.out) B1.out.size).mono ?_; rintro e w2 ⟨A1, c1, rfl, _, _, HH1, hb2⟩)
        | (go_at_call 24; refine (HD2.out w2 A1 c1 HH1.out.rd).mono ?_; rintro e w3 ⟨A2, c2, rfl, _, _, HH2, hb3⟩; have O3 : Hid (Me.Own w3 w.heap.size (.slice (some ⟨w.heap.size, 0, none⟩) 1 1) [126]) := own_below (own_below O1.out hb2.out) hb3.out; have B3 : Hid (Below w.heap.size w w3) := (B1.out.trans (hb2.out.mono B1.out.size)).trans (hb3.out.mono (Nat.le_trans B1.out.size hb2.out.size)))
        | (at_builtin; refine app8 rfl (.tmp 12) (.tmp 15) rfl w.heap.size w3.heap.size _ [126] s rfl O3.out B3.out B3.out.size A2 c2 rfl HH2.out.rd HH2.out.2.2 (by simp; omega) ?_; intro v4 w4 ho4 hb4 _; have HO4 := Lib.hid ho4; have HB4 := Lib.hid hb4; clear ho4 hb4)
        | (at_builtin; refine app8 rfl (.tmp 17) (.tmp 18) rfl w.heap.size (w4.heap.size + 1) _ ([126] ++ s) [126] rfl (HO4.out.alloc _) (below_alloc HB4.out) (Nat.le_trans HB4.out.size (by simp)) (some ⟨w4.heap.size, 0, none⟩) 1 rfl (rd_lit (r := [126]) (by simp) 5) (fun h => by cases h) (by simp; omega) ?_; intro v5 w5 ho5 hb5 _; have HO5 := Lib.hid ho5; have HB5 := Lib.hid hb5; clear ho5 hb5))
      go_ret2
      have hfin := HO5.out
      rw [HFR.out] at hfin
      exact EncP.ok HF.out HLb.out hfin HB5.out
end Go.Proofs.Ytoaffkmjobmhaaa.Hd
