/- The document's Put of a word. -/
import Derived.Test.YtohfoieibgmmdaaZ7
import Derived.Test.YtohfoieibgmmdaaZ6
import Derived.Test.YtohfoieibgmmdaaZ3
import Derived.Deep.Strs
import Derived.WideShapes
namespace Go.Proofs.Ytohfoieibgmmdaa.Hp
open Go.RowKit Go.Shelf
open Go.Proofs.Ytohfoieibgmmdaa.Me Go.Proofs.Ytohfoieibgmmdaa.Sb Go.Proofs.Ytohfoieibgmmdaa.Mg Go.Proofs.Ytohfoieibgmmdaa.Ba Go.Proofs.Ytohfoieibgmmdaa.Ma Go.Proofs.Ytohfoieibgmmdaa.Bt
set_option linter.unusedVariables false
set_option linter.unusedSimpArgs false

theorem own_lit (w : World) (l : List Nat) (hl : l.length ≤ 9223372036854775807) : Me.Own (w.alloc (.cells (l.map byV).toArray 5)) w.heap.size (.slice (some ⟨w.heap.size, 0, none⟩) l.length l.length) l :=
  ⟨by simp, .inr ⟨w.heap.size, l.length, _, rfl, Nat.le_refl _, heap_alloc_new w _, Nat.le_refl _, by unfold maxLen; omega, by simp, by rw [Nat.mul_one]; simp [List.take_of_length_le]⟩⟩
section
variable (k n : Int) (i : Id4) (A : Option Addr) (dn dc : Nat) (l : List Nat) (B : Option Addr) (cs : List Int) (cc : Nat) (w : World)
theorem RPut_no (hi : Hid (MsIn w A dn dc l)) (hr : Hid (Mi.Rd w w.heap.size B cs)) (hc : cs.length ≤ 9223372036854775806) (hz : Hid (hopN k n i dn cs ≠ 0)) :
    Calls Try.prog 12 #[.agg (hopC k n i A dn dc B cs.length cc)] w fun e w' => e = .returned (.tuple #[.slice none 0 0, .int .i64 (hopN k n i dn cs : Int)]) ∧ Hid (Below w.heap.size w w') := by
  have HB0 : Hid (Below w.heap.size w (w.alloc (.cells (hopC k n i A dn dc B cs.length cc) 29 (0, 0)))) := Me.below_alloc (Below.refl _ _)
  have hb := HB0.out
  have HK : Hid (∀ W, Below w.heap.size w W → Calls Try.prog 13 #[.agg (hopC k n i A dn dc B cs.length cc)] W fun e w' => e = .returned (.int .i64 (hopN k n i dn cs : Int)) ∧ Hid (Below W.heap.size W w')) := fun W hW => RCheck_any k n i A dn dc l B cs cc W (hi.out.below hW) ((hr.out.below hW).more hW.size) hc
  have HX := Lib.hid (box8 k n i A dn dc B cs.length cc w)
  obtain ⟨z, hzz⟩ : ∃ z, hopN k n i dn cs = z := ⟨_, rfl⟩
  rw [hzz] at hz HK ⊢
  have z1 := nz hz.out
  have z2 : ((z : Int) != 0) = true := by rw [bne, z1]; rfl
  clear hr hb hzz hz hi
  obtain ⟨o, d, ee, c⟩ := i
  simp only [hopC, Hx] at HK HB0 HX ⊢
  go_enter Try.func12, Try.ntmps12
  go_wp2_with (first
    | (go_at_call 13; (with_reducible refine (HK.out _ HB0.out).mono ?_); rintro e w1 ⟨rfl, b1⟩; obtain ⟨⟨x0, x1, x2, x3, x4, x5, x6, x7⟩, bw⟩ := HX.out w1 b1.out)
    | (go_at_call 13; refine (HK.out _ bw).mono ?_; rintro e w2 ⟨rfl, b2⟩; have bw2 : Below w.heap.size w w2 := bw.trans (b2.out.mono bw.size)))
  go_ret2
  exact ⟨rfl, bw2⟩
set_option maxRecDepth 100000 in
theorem RPut_routes (hi : Hid (MsIn w A dn dc l)) (hr : Hid (Mi.Rd w w.heap.size B cs)) (hc : cs.length = 64) (hz : hopN 4 n i dn cs = 0) (hb : cs.any badC = false) :
    Calls Try.prog 12 #[.agg (hopC 4 n i A dn dc B 64 cc)] w fun e w' => OwP (4 :: cs.map Int.toNat) 0 w e w' := by
  have HB0 : Hid (Below w.heap.size w (w.alloc (.cells (hopC 4 n i A dn dc B 64 cc) 29 (0, 0)))) := Me.below_alloc (Below.refl _ _)
  have HK : Hid (∀ W, Below w.heap.size w W → Calls Try.prog 13 #[.agg (hopC 4 n i A dn dc B 64 cc)] W fun e w' => e = .returned (.int .i64 0) ∧ Hid (Below W.heap.size W w')) := fun W hW => by
    have := RCheck_any 4 n i A dn dc l B cs cc W (hi.out.below hW) ((hr.out.below hW).more hW.size) (by omega)
    rw [hz, hc] at this
    exact this
  have HX := Lib.hid (box8 4 n i A dn dc B 64 cc w)
  have HLs : Hid (∀ j, j < 64 → ∃ m : Nat, Mi.at_ cs j = (m : Int) ∧ m ≤ 16 ∧ rouL cs (j + 1) = rouL cs j ++ [m]) := fun j hj => by
    obtain ⟨m, h1, h2⟩ := cost_lt hb (j := j) (by omega)
    exact ⟨m, h1, h2, rouL_succ (by omega) h1⟩
  have HLl : Hid (∀ j, j ≤ 64 → (rouL cs j).length = j + 1) := fun j hj => rouL_len (by omega)
  have HLt := Lib.hid (rouL_lt hb)
  have HL0 : Hid (rouL cs 0 = [4]) := rfl
  have hE : 4 :: cs.map Int.toNat = rouL cs 64 := by unfold rouL; rw [← hc, List.take_length]
  have HN : Hid (cs.length = 64) := hc
  rw [hE]
  obtain ⟨L, hL⟩ : ∃ L, rouL cs = L := ⟨_, rfl⟩
  rw [hL] at HLs HLl HLt HL0 ⊢
  clear hL hE hz hb hc hi
  obtain ⟨o, d, ee, c⟩ := i
  simp only [hopC, Hx] at HK HB0 HX ⊢
  go_enter Try.func12, Try.ntmps12
  go_wp2_with (first
    | (go_at_call 13; refine (HK.out _ HB0.out).mono ?_; rintro e w1 ⟨rfl, b1⟩; obtain ⟨⟨x0, x1, x2, x3, x4, x5, x6, x7⟩, bw⟩ := HX.out w1 b1.out; obtain ⟨⟨y0, y1, y2, y3, y4, y5, y6, y7⟩, bv⟩ := HX.out (w1.alloc (.cells #[.int .u8 4] 5)) (b1.out.alloc b1.out.size _)))
  have HO : Hid (Me.Own (w1.alloc (.cells #[.int .u8 4] 5)) (w.alloc (.cells (hopC 4 n ⟨o, d, ee, c⟩ A dn dc B 64 cc) 29 (0, 0))).heap.size (.slice (some ⟨w1.heap.size, 0, none⟩) 1 1) (L 0)) := by
    show Me.Own _ _ _ _
    rw [HL0.out]
    exact own_base (own_lit w1 [4] (by simp)) fun k e => by cases e; exact b1.out.size
  have HB12 : Hid (Below (w.alloc (.cells (hopC 4 n ⟨o, d, ee, c⟩ A dn dc B 64 cc) 29 (0, 0))).heap.size (w.alloc (.cells (hopC 4 n ⟨o, d, ee, c⟩ A dn dc B 64 cc) 29 (0, 0))) (w1.alloc (.cells #[.int .u8 4] 5))) := b1.out.alloc b1.out.size _
  have HBW : Hid (Below w.heap.size w (w.alloc (.cells (hopC 4 n ⟨o, d, ee, c⟩ A dn dc B 64 cc) 29 (0, 0)))) := Me.below_alloc (Below.refl _ _)
  simp only [hopC] at HB12 HO HBW
  obtain ⟨W0, hW0⟩ : ∃ W0, w.alloc (.cells #[.int .i64 4, .int .i64 n, .int .i64 o, .int .i64 d, .int .i64 ee, .int .i64 c, .slice A dn dc, .slice B 64 cc] 29 (0, 0)) = W0 := ⟨_, rfl⟩
  rw [hW0] at HB12 HO HBW HX
  clear hW0
  clear b1 bw bv x0 x1 x2 x3 x4 x5 x6 x7 y0 y1 y2 y3 y4 y5 y6 y7 HK HB0
  go_loopw [4, 5] (fun v4 v5 wr => ∃ j : Nat, j ≤ 64 ∧ v5 = .int .i64 j ∧ (∃ A c, v4 = .slice A (j + 1) c ∧ Hid (Me.Own wr W0.heap.size (.slice A (j + 1) c) (L j))) ∧ Hid (Below W0.heap.size W0 wr)) (fun _ v _ => 64 - (intOf v).toNat)
  case atStart => exact ⟨0, by omega, rfl, ⟨_, _, rfl, HO.out⟩, HB12.out⟩
  case round =>
    obtain ⟨j, hj, rfl, ⟨A2, c2, rfl, HOj⟩, HBx⟩ := hrel
    obtain ⟨⟨y0, y1, y2, y3, y4, y5, y6, y7⟩, HBj⟩ := HX.out wr HBx.out
    clear HO HB12
    by_cases hlt : j < 64
    · obtain ⟨m, hm1, hm2, hm3⟩ := HLs.out j hlt
      obtain ⟨b, off, rfl, u0⟩ := rd_at (hr.out.below HBj) (i := j) (by rw [HN.out]; exact hlt)
      rw [hm1] at u0
      have hwr := wrap8i (n := m) (by omega)
      have HM3 := Lib.hid hm3
      have HM2 := Lib.hid hm2
      clear hm1 hm3
      go_wp2_with (at_builtin; refine app8 rfl (.tmp 27) (.tmp 34) rfl W0.heap.size (wr.heap.size + 1) _ (L j) [m] rfl (HOj.out.alloc _) (Me.below_alloc HBx.out) (Nat.le_trans HBx.out.size (by simp)) (some ⟨wr.heap.size, 0, none⟩) 1 rfl (rd_lit (r := [m]) (by simp; omega) 5) (fun h => by cases h) (by rw [HLl.out j hj]; simp; omega) ?_; intro v5 w5 ho5 hb5 hg5; rw [← HM3.out] at ho5; obtain ⟨A5, c5, rfl, _, _, _⟩ := ho5.held (HLt.out (j + 1)); rw [HLl.out (j + 1) hlt] at ho5; have HO5 := Lib.hid ho5; have HB5 := Lib.hid hb5; have HG5 := Lib.hid hg5; clear ho5 hb5 hg5)
      go_roundw
      case rel => exact ⟨j + 1, by omega, by go_num, ⟨_, _, by rw [HLl.out (j + 1) hlt], HO5.out⟩, HB5.out⟩
      case measure => simp [intOf]; omega
    · obtain rfl : j = 64 := by omega
      go_wp2
      go_ret2
      exact ⟨A2, c2, by rw [HLl.out 64 (by omega)]; rfl, by rw [HLl.out 64 (by omega)]; exact own_base HOj.out (fun k e => Nat.le_trans HBW.out.size (HOj.out.lt k e).1), HBj⟩
theorem own_belowV {w w' : World} {B : Nat} {v : Value} {l : List Nat} (h : Me.Own w B v l) (hb : Below w.heap.size w w') : Me.Own w' B v l :=
  Sb.own_same h fun k _ hk => hb.block k hk
theorem byts2 {n : Nat} (h : n ≤ 65535) : byts n 2 = [n / 256, n % 256] := by
  simp [byts]
  omega
set_option maxRecDepth 100000 in
theorem RPut_named (K : Nat) (n : Nat) (hi : Hid (MsIn w A dn dc l)) (hn : n ≤ 65535) (hK : K = 1 ∨ K = 2 ∨ K = 3) (hz : hopN K n i dn [] = 0) :
    Calls Try.prog 12 #[.agg (hopC K n i A dn dc B 0 cc)] w fun e w' => OwP ([K] ++ byts n 2 ++ idL i ++ l) 0 w e w' := by
  have HB0 : Hid (Below w.heap.size w (w.alloc (.cells (hopC K n i A dn dc B 0 cc) 29 (0, 0)))) := Me.below_alloc (Below.refl _ _)
  have HK : Hid (∀ W, Below w.heap.size w W → Calls Try.prog 13 #[.agg (hopC K n i A dn dc B 0 cc)] W fun e w' => e = .returned (.int .i64 0) ∧ Hid (Below W.heap.size W w')) := fun W hW => by
    have := RCheck_any K n i A dn dc l B [] cc W (hi.out.below hW) (Mi.Rd.nil _ _ _) (by simp)
    rw [hz] at this
    exact this
  have HX := Lib.hid (box8 K n i A dn dc B 0 cc w)
  have HM : Hid (∀ W, Below w.heap.size w W → Calls Try.prog 41 #[.agg (idC i)] W (OwP (idL i) 0 W)) := fun W hW => by
    have h1 : chkN i = 0 := by
      rcases (hop_zero hz).2.2 with ⟨_, h, _⟩ | ⟨_, h, _⟩ | ⟨h, _⟩
      · exact right_iff.2 (msgN_zero h).1
      · exact h
      · omega
    refine (RPid_any i W).mono fun e w' h => ?_
    unfold pidL at h
    rw [h1, if_pos rfl] at h
    exact h
  have HRl : Hid (∀ W, Below w.heap.size w W → Rd W W.heap.size A l) := fun W hW => (hi.out.below hW).1.2.2.2.1
  have HAn : Hid (A = none → l.length = 0 ∧ dc = 0) := hi.out.1.2.2.2.2
  have HDl : Hid (dn = l.length) := hi.out.1.1
  have HLL : Hid (l.length ≤ 1000) := by
    have := hi.out.1.1
    rcases (hop_zero hz).2.2 with ⟨_, h, _⟩ | ⟨_, _, h, _⟩ | ⟨h, _⟩
    · have := (msgN_zero h).2.2
      show _ ≤ _
      omega
    · show _ ≤ _
      omega
    · omega
  have HLT : Hid (∀ z ∈ idL i, z < 256) := bytK_lt i 4
  have HL2 := Lib.hid hi.out.1.2.2.2.1.1
  have HI6 := Lib.hid (idL_len i)
  obtain ⟨L, hL⟩ : ∃ L, idL i = L := ⟨_, rfl⟩
  rw [hL] at HM HLT HI6 ⊢
  rw [byts2 hn]
  have h1 : n / 256 ≤ 255 := by omega
  have h2 : n % 256 ≤ 255 := by omega
  obtain ⟨x, hx⟩ : ∃ x, n / 256 = x := ⟨_, rfl⟩
  obtain ⟨y, hy⟩ : ∃ y, n % 256 = y := ⟨_, rfl⟩
  rw [hx] at h1 ⊢
  rw [hy] at h2 ⊢
  have e1 : (n : Int) / 256 = (x : Int) := by omega
  have e2 : (n : Int) % 256 = (y : Int) := by omega
  have e3 : (x : Int) % 256 = (x : Int) := by omega
  have e4 : (y : Int) % 256 = (y : Int) := by omega
  have hk8 : K ≤ 255 := by omega
  have r0 := wrap8i hk8
  have g4 : ((K : Int) == 4) = false := beq_eq_false_iff_ne.mpr (by omega)
  clear hL hx hy hz hi hn hK
  obtain ⟨o, d, ee, c⟩ := i
  simp only [hopC, msgC, idC, Hx] at HK HB0 HX HM ⊢
  go_enter Try.func12, Try.ntmps12
  go_wp2_with (first
    | (go_at_call 13; refine (HK.out _ HB0.out).mono ?_; rintro e w1 ⟨rfl, b1⟩; obtain ⟨W0, hW0⟩ : ∃ W0, w.alloc (.cells #[.int .i64 K, .int .i64 n, .int .i64 o, .int .i64 d, .int .i64 ee, .int .i64 c, .slice A dn dc, .slice B 0 cc] 29 (0, 0)) = W0 := ⟨_, rfl⟩; rw [hW0] at HX b1 HB0; obtain ⟨⟨x0, x1, x2, x3, x4, x5, x6, x7⟩, bw⟩ := HX.out w1 b1.out; have hbv : Below W0.heap.size W0 (w1.alloc (.cells #[.int .u8 K] 5)) := b1.out.alloc b1.out.size _; obtain ⟨⟨y0, y1, y2, y3, y4, y5, y6, y7⟩, bv⟩ := HX.out _ hbv; have HBV := Lib.hid hbv; clear hbv hW0; have HO2 : Hid (Me.Own (w1.alloc (.cells #[.int .u8 K] 5)) W0.heap.size (.slice (some ⟨w1.heap.size, 0, none⟩) 1 1) [K]) := own_base (own_lit w1 [K] (by simp)) (fun k e => by cases e; exact b1.out.size))
    | (at_builtin; refine app8 rfl (.tmp 37) (.tmp 46) rfl W0.heap.size (w1.heap.size + 1 + 1) _ [K] [x, y] rfl (HO2.out.alloc _) (Me.below_alloc HBV.out) (Nat.le_trans HBV.out.size (by simp)) (some ⟨w1.heap.size + 1, 0, none⟩) 2 rfl (by have h := rd_lit (w := w1.alloc (.cells #[.int .u8 K] 5)) (r := [x, y]) (by simp; omega) 5; rw [World.size_alloc] at h; exact h) (fun h => by cases h) (by simp) ?_; intro v3 w3 ho3 hb3 _; obtain ⟨A3, c3, rfl, _, _, _⟩ := ho3.held (fun z hz => by simp at hz; omega); obtain ⟨⟨z0, z1, z2, z3, z4, z5, z6, z7⟩, bz⟩ := HX.out _ hb3; have HO3 := Lib.hid ho3; have HB3 := Lib.hid hb3; clear ho3 hb3)
    | (go_at_call 41; refine (HM.out w3 bz).mono ?_; rintro e w4 h4; obtain ⟨A4, c4, rfl, HR4, HN4, b4⟩ := owp_held h4 HLT.out; have HB4 : Hid (Below W0.heap.size W0 w4) := HB3.out.trans (b4.out.mono HB3.out.size); obtain ⟨⟨u0, u1, u2, u3, u4, u5, u6, u7⟩, bu⟩ := HX.out _ HB4.out; have HO4 : Hid (Me.Own w4 W0.heap.size (.slice A3 ([K] ++ [x, y]).length c3) ([K] ++ [x, y])) := own_belowV HO3.out b4.out)
    | (at_builtin; refine app8 rfl (.tmp 55) (.tmp 56) rfl W0.heap.size w4.heap.size _ ([K] ++ [x, y]) L rfl HO4.out HB4.out HB4.out.size A4 c4 rfl HR4.out HN4.out (by have := HI6.out; simp; omega) ?_; intro v5 w5 ho5 hb5 _; obtain ⟨A5, c5, rfl, _, _, _⟩ := ho5.held (fun z hz => by rw [List.mem_append] at hz; exact hz.elim (fun h => by simp at h; omega) (HLT.out z)); obtain ⟨⟨t0, t1, t2, t3, t4, t5, t6, t7⟩, bt⟩ := HX.out _ hb5; have HO5 := Lib.hid ho5; have HB5 := Lib.hid hb5; clear ho5 hb5)
    | (at_builtin; refine app8 rfl (.tmp 58) (.tmp 61) rfl W0.heap.size w5.heap.size _ ([K] ++ [x, y] ++ L) l rfl HO5.out HB5.out HB5.out.size A dc (by rw [← HDl.out]; rfl) (HRl.out _ bt) HAn.out (by have := HI6.out; have := HLL.out; simp; omega) ?_; intro v6 w6 ho6 hb6 _; obtain ⟨A6, c6, rfl, _, _, _⟩ := ho6.held (fun z hz => by rw [List.mem_append, List.mem_append] at hz; exact hz.elim (fun h => h.elim (fun h => by simp at h; omega) (HLT.out z)) (HL2.out z)); have HO6 := Lib.hid ho6; have HB6 := Lib.hid hb6; clear ho6 hb6))
  go_ret2
  have e5 : ([K] ++ [x, y] ++ L ++ l) = K :: x :: y :: (L ++ l) := (by simp)
  have e6 : (K :: x :: y :: (L ++ l)).length = L.length + l.length + 1 + 1 + 1 := (by simp)
  have ho := HO6.out
  rw [e5] at ho
  rw [e6] at ho
  exact ⟨A6, c6, congrArg (fun x => Ending.returned (Value.tuple #[.slice A6 x c6, .int .i64 0])) e6.symm, by rw [e6]; exact own_base ho (fun k e => Nat.le_trans HB0.out.size (ho.lt k e).1), HB0.out.trans (HB6.out.mono HB0.out.size)⟩
theorem RPut_any (hi : Hid (MsIn w A dn dc l)) (hr : Hid (Mi.Rd w w.heap.size B cs)) (hc : cs.length ≤ 9223372036854775806) :
    Calls Try.prog 12 #[.agg (hopC k n i A dn dc B cs.length cc)] w (OwP (putH k n i l cs) (hopN k n i dn cs) w) := by
  have hd := hi.out.1.1
  by_cases hz : hopN k n i dn cs = 0
  · obtain ⟨h1, h2, h3⟩ := hop_zero hz
    obtain ⟨m, rfl⟩ := Int.eq_ofNat_of_zero_le h1
    unfold putH
    rw [← hd, hz, if_neg (by simp)]
    rcases h3 with ⟨rfl, _, rfl⟩ | ⟨rfl | rfl, _, h0, rfl⟩ | ⟨rfl, _, _, _, h4, h5⟩
    · rw [if_neg (by decide), if_pos rfl]
      have := RPut_named i A dn dc l B cc w 1 m hi (by omega) (.inl rfl) hz
      rw [List.append_assoc] at this
      exact this
    · rw [if_neg (by decide), if_neg (by decide)]
      have := RPut_named i A dn dc l B cc w 2 m hi (by omega) (.inr (.inl rfl)) hz
      rw [List.eq_nil_of_length_eq_zero (hd.symm.trans h0), List.append_nil] at this
      exact this
    · rw [if_neg (by decide), if_neg (by decide)]
      have := RPut_named i A dn dc l B cc w 3 m hi (by omega) (.inr (.inr rfl)) hz
      rw [List.eq_nil_of_length_eq_zero (hd.symm.trans h0), List.append_nil] at this
      exact this
    · rw [if_pos rfl, h4]
      exact RPut_routes m i A dn dc l B cs cc w hi hr h4 hz h5
  · refine (RPut_no k n i A dn dc l B cs cc w hi hr hc hz).mono fun e w' ⟨he, hb⟩ => ?_
    unfold putH
    rw [← hd, if_pos hz]
    exact ⟨none, 0, he, Own.nil _ _, hb⟩
end
end Go.Proofs.Ytohfoieibgmmdaa.Hp
/- A word that came in by value. -/
namespace Go.Proofs.Ytohfoieibgmmdaa.Hp
open Go.RowKit Go.Deep Go.Shelf
open Go.ChangeShapes Go.WideShapes Go.Joins
open Go.Proofs.Ytohfoieibgmmdaa.Me Go.Proofs.Ytohfoieibgmmdaa.Sb
set_option linter.unusedVariables false
set_option linter.unusedSimpArgs false

/-- Costs that came in: a slice's address leads to them, and their memory is bounded. -/
def CoIn (w : World) (B : Option Addr) (cs : List Int) (cc : Nat) : Prop := Mi.BySlice w B cs.length cc cs ∧ cc * 8 ≤ 140737488351232
theorem eight_h : Try.prog.cellsOf 29 = 8 := by kernel_rfl
theorem one_sli : Try.prog.cellsOf 27 = 1 := by kernel_rfl
theorem bytes_in : Try.prog.bytesOf 3 = 8 := by kernel_rfl
set_option maxRecDepth 100000 in
theorem ints_in {H : Type} {enc : TypeId × Value → H} {w : World} {base n : Nat} {held : Bool} {v : Value} {d : DataW H} {pl : List MemPlace} (h : DataW.trod enc Try.prog w base (fun _ => true) held n 27 [v] = some (d, pl)) (hw : ∀ x ∈ d.weights Try.prog 27, x ≤ reachBytes) :
    ∃ (B : Option Addr) (cs : List Int) (cc : Nat), v = .slice B cs.length cc ∧ CoIn w B cs cc := by
  rcases open_ints Try.underlying27 Try.underlying3 (by kernel_rfl) h with ⟨hcs, _⟩ | ⟨x, k, c, zs, hcs, _, hl, hm, hz, hy, hcell, hwz⟩
  · simp at hcs
    exact ⟨none, [], 0, hcs, Mi.bySlice_none w, Nat.zero_le _⟩
  · simp at hcs
    obtain ⟨l, hb⟩ := Mi.bySlice_some hl hm (by simpa using hz) hcell hwz
    obtain rfl := hb.1
    refine ⟨some x, l, c, hcs, hb, ?_⟩
    have hmem : c * 8 ≤ reachBytes := by
      refine hw _ ?_
      simp only [Prod.mk.injEq] at hy
      rw [hy.1]
      simp only [DataW.weights, Try.underlying27]
      refine List.mem_cons.2 (.inl ?_)
      rw [bytes_in]
      have hz' : zs.length = c := by simpa using hz
      simp only [lits, List.length_map, List.length_take, List.length_drop]
      omega
    unfold reachBytes at hmem
    exact hmem
set_option maxRecDepth 100000 in
theorem hop_val {H : Type} {enc : TypeId × Value → H} {w : World} {base : Nat} {held : Bool} {v : Value} {D : DataW H} {Pl : List MemPlace} {r : Reach} {b0 : Nat} (hv : Value.okWide Try.prog w r b0 29 v) (h : DataW.Trod enc Try.prog w base (fun _ => true) held 29 v D Pl) (hw : ∀ x ∈ D.weights Try.prog 29, x ≤ reachBytes) :
    ∃ (k n : Int) (i : Mg.Id4) (A : Option Addr) (l : List Nat) (dc : Nat) (B : Option Addr) (cs : List Int) (cc : Nat), v = .agg (hopC k n i A l.length dc B cs.length cc) ∧ (Mg.MsIn w A l.length dc l ∧ CoIn w B cs cc) := by
  obtain ⟨cs, rfl, hsz⟩ := okWide_struct Try.underlying29 hv
  obtain ⟨fuel, hf⟩ := h
  obtain ⟨y0, y1, y2, y3, m, hx, hlen, h0, h1, h2, h3⟩ := Go.Joins.trod_struct4 Try.underlying29 hf
  rw [eight_h] at hlen
  have e0 : (Value.agg cs).cells = cs := rfl
  rw [e0] at hlen h0 h1 h2 h3
  obtain ⟨l, hl⟩ : ∃ l, cs.toList = l := ⟨_, rfl⟩
  rw [hl] at hlen h0 h1 h2 h3
  match l, hlen with
  | [v0, v1, v2, v3, v4, v5, v6, v7], _ =>
    simp only [Mg.one_int, Mg.five_msg, one_sli] at h0 h1 h2 h3
    simp at h0 h1 h2 h3
    simp only [Prod.mk.injEq] at hx
    obtain ⟨k, hk, _, _⟩ := DataW.trod_int Try.underlying3 h0
    obtain ⟨n, hn, _, _⟩ := DataW.trod_int Try.underlying3 h1
    obtain ⟨i, A, kl, c, p, e, hi⟩ := Mg.msg_in h2 fun x hxx => hw x (by
      rw [hx.1]
      simp only [DataW.weights, Try.underlying29]
      simp only [Array.toList, List.map_cons, List.map_nil, DataW.weightsEach, List.mem_append]
      exact .inr (.inr (.inl hxx)))
    obtain ⟨B, qs, cc, eq, hq⟩ := ints_in h3 fun x hxx => hw x (by
      rw [hx.1]
      simp only [DataW.weights, Try.underlying29]
      simp only [Array.toList, List.map_cons, List.map_nil, DataW.weightsEach, List.mem_append]
      exact .inr (.inr (.inr (.inl hxx))))
    simp only [Mg.msgC, List.cons.injEq, and_true] at e
    obtain ⟨e1, e2, e3, e4, e5⟩ := e
    simp only [List.cons.injEq, and_true] at hk hn
    obtain rfl := hi.1.1
    refine ⟨k, n, i, A, p, c, B, qs, cc, ?_, hi, hq⟩
    have : cs = hopC k n i A p.length c B qs.length cc := by
      rw [← Array.toList_inj, hl, hk, hn, e1, e2, e3, e4, e5, eq]
      rfl
    rw [this]
end Go.Proofs.Ytohfoieibgmmdaa.Hp
