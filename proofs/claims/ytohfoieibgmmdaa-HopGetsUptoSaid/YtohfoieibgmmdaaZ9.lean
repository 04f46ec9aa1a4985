/- Put of a word. -/
import Derived.Test.YtohfoieibgmmdaaZ7
import Derived.Test.YtohfoieibgmmdaaZ8
import Derived.Test.YtohfoieibgmmdaaZ6
namespace Go.Proofs.Ytohfoieibgmmdaa.Hp
open Go.RowKit Go.Shelf
open Go.Proofs.Ytohfoieibgmmdaa.Me Go.Proofs.Ytohfoieibgmmdaa.Sb Go.Proofs.Ytohfoieibgmmdaa.Mg Go.Proofs.Ytohfoieibgmmdaa.Ba Go.Proofs.Ytohfoieibgmmdaa.Ma Go.Proofs.Ytohfoieibgmmdaa.Bt
set_option linter.unusedVariables false
set_option linter.unusedSimpArgs false

theorem fe_zero {b : Bool} : fe b = 0 ↔ b = true := by cases b <;> simp [fe]
theorem hop_zero {k n : Int} {i : Id4} {dn : Nat} {cs : List Int} (h : hopN k n i dn cs = 0) :
    0 ≤ n ∧ n ≤ 65535 ∧ ((k = 1 ∧ msgN i dn = 0 ∧ cs = []) ∨ ((k = 2 ∨ k = 3) ∧ chkN i = 0 ∧ dn = 0 ∧ cs = []) ∨ (k = 4 ∧ n = 0 ∧ zeroB i = true ∧ dn = 0 ∧ cs.length = 64 ∧ cs.any badC = false)) := by
  unfold hopN at h
  split at h
  · cases h
  · refine ⟨by omega, by omega, ?_⟩
    split at h
    · unfold offN at h
      split at h
      · contradiction
      · rename_i h1
        rw [fe_zero, decide_eq_true_eq] at h
        exact .inl ⟨by assumption, by omega, List.eq_nil_of_length_eq_zero h⟩
    · split at h
      · unfold ansN at h
        split at h
        · contradiction
        · rename_i h1
          rw [fe_zero, Bool.and_eq_true, decide_eq_true_eq, decide_eq_true_eq] at h
          exact .inr (.inl ⟨by assumption, by omega, h.1, List.eq_nil_of_length_eq_zero h.2⟩)
      · split at h
        · unfold rouN rouB at h
          rw [fe_zero] at h
          simp only [Bool.and_eq_true, decide_eq_true_eq, beq_iff_eq, Bool.not_eq_true'] at h
          exact .inr (.inr ⟨by assumption, h.1, h.2.1, h.2.2.1, h.2.2.2.1, h.2.2.2.2⟩)
        · cases h
/-- A word's bytes. -/
def putH (k n : Int) (i : Id4) (l : List Nat) (cs : List Int) : List Nat :=
  if hopN k n i l.length cs ≠ 0 then [] else if k = 4 then 4 :: cs.map Int.toNat else [k.toNat] ++ byts n.toNat 2 ++ (if k = 1 then idL i ++ l else idL i)
theorem cost_lt {cs : List Int} (h : cs.any badC = false) {j : Nat} (hj : j < cs.length) : ∃ m : Nat, Mi.at_ cs j = (m : Int) ∧ m ≤ 16 := by
  rw [Mi.at_get hj]
  have := List.any_eq_false.1 h _ (List.getElem_mem hj)
  simp only [badC, Bool.or_eq_true, decide_eq_true_eq, not_or, Int.not_lt] at this
  exact ⟨cs[j].toNat, by omega, by omega⟩
theorem putH_lt {k n : Int} {i : Id4} {l : List Nat} {cs : List Int} (h : ∀ z ∈ l, z < 256) : ∀ z ∈ putH k n i l cs, z < 256 := by
  unfold putH
  split
  · simp
  · rename_i h0
    obtain ⟨h1, h2, h3⟩ := hop_zero (Classical.not_not.1 h0)
    split
    · rename_i hk
      intro z hz
      rw [List.mem_cons] at hz
      rcases hz with rfl | hz
      · omega
      · rcases h3 with ⟨rfl, _⟩ | ⟨rfl | rfl, _⟩ | ⟨_, _, _, _, _, h4⟩
        · cases hk
        · cases hk
        · cases hk
        · obtain ⟨x, hx, rfl⟩ := List.mem_map.1 hz
          have := List.any_eq_false.1 h4 _ hx
          simp only [badC, Bool.or_eq_true, decide_eq_true_eq, not_or, Int.not_lt] at this
          omega
    · intro z hz
      simp only [List.mem_append, List.mem_singleton] at hz
      rcases hz with (rfl | hz) | hz
      · omega
      · exact byts_lt _ _ z hz
      · split at hz
        · rw [List.mem_append] at hz
          exact hz.elim (bytK_lt i 4 z) (h z)
        · exact bytK_lt i 4 z hz
theorem putU {n : Nat} (h : n ≤ 65535) : IntKind.u64.wrap (n : Int) = n := wrapU_nat (by have : U = 2 ^ 64 := rfl; omega)
theorem one_byte {k : Nat} (h : k < 256) : byts k 1 = [k] := by
  simp [byts]
  omega
theorem wrap8i {n : Nat} (h : n ≤ 255) : IntKind.u8.wrap (n : Int) = n := wrap8 (by unfold U8; omega)
section
variable (k n : Int) (i : Id4) (A : Option Addr) (dn dc : Nat) (l : List Nat) (B : Option Addr) (cs : List Int) (cc : Nat) (w : World)
theorem Put_no (hr : Hid (Mi.Rd w w.heap.size B cs)) (hc : cs.length ≤ 9223372036854775806) (hz : Hid (hopN k n i dn cs ≠ 0)) :
    Calls Try.prog 11 #[.agg (hopC k n i A dn dc B cs.length cc)] w fun e w' => e = .returned (.tuple #[.slice none 0 0, .int .i64 (hopN k n i dn cs : Int)]) ∧ Hid (Below w.heap.size w w') := by
  have HB0 : Hid (Below w.heap.size w (w.alloc (.cells (hopC k n i A dn dc B cs.length cc) 29 (0, 0)))) := Me.below_alloc (Below.refl _ _)
  have hb := HB0.out
  have HK : Hid (∀ W, Below w.heap.size w W → Calls Try.prog 10 #[.agg (hopC k n i A dn dc B cs.length cc)] W fun e w' => e = .returned (.int .i64 (hopN k n i dn cs : Int)) ∧ Hid (Below W.heap.size W w')) := fun W hW => Check_any k n i A dn dc B cs cc W ((hr.out.below hW).more hW.size) hc
  have HX := Lib.hid (box8 k n i A dn dc B cs.length cc w)
  obtain ⟨z, hzz⟩ : ∃ z, hopN k n i dn cs = z := ⟨_, rfl⟩
  rw [hzz] at hz HK ⊢
  have z1 := nz hz.out
  clear hr hb hzz hz
  obtain ⟨o, d, ee, c⟩ := i
  simp only [hopC, Hx] at HK HB0 HX ⊢
  go_enter Try.func11, Try.ntmps11
  go_wp2_with (go_at_call 10; refine (HK.out _ HB0.out).mono ?_; rintro e w1 ⟨rfl, b1⟩; obtain ⟨⟨x0, x1, x2, x3, x4, x5, x6, x7⟩, bw⟩ := HX.out w1 b1.out)
  go_ret2
  exact ⟨rfl, bw⟩
/-- The bytes of routes, as far as j. -/
def rouL (cs : List Int) (j : Nat) : List Nat := 4 :: (cs.take j).map Int.toNat
theorem rouL_succ {cs : List Int} {j m : Nat} (hj : j < cs.length) (h : Mi.at_ cs j = (m : Int)) : rouL cs (j + 1) = rouL cs j ++ [m] := by
  unfold rouL
  rw [List.take_add_one, List.getElem?_eq_getElem hj, ← Mi.at_get hj, h]
  simp
theorem rouL_len {cs : List Int} {j : Nat} (hj : j ≤ cs.length) : (rouL cs j).length = j + 1 := by
  unfold rouL
  simp
  omega
theorem rouL_lt {cs : List Int} (h : cs.any badC = false) (j : Nat) : ∀ z ∈ rouL cs j, z < 256 := by
  intro z hz
  unfold rouL at hz
  rw [List.mem_cons] at hz
  rcases hz with rfl | hz
  · omega
  · obtain ⟨x, hx, rfl⟩ := List.mem_map.1 hz
    have := List.any_eq_false.1 h _ (List.mem_of_mem_take hx)
    simp only [badC, Bool.or_eq_true, decide_eq_true_eq, not_or, Int.not_lt] at this
    omega
set_option maxRecDepth 100000 in
theorem Put_routes (hr : Hid (Mi.Rd w w.heap.size B cs)) (hc : cs.length = 64) (hz : hopN 4 n i dn cs = 0) (hb : cs.any badC = false) :
    Calls Try.prog 11 #[.agg (hopC 4 n i A dn dc B 64 cc)] w fun e w' => OwP (4 :: cs.map Int.toNat) 0 w e w' := by
  have HB0 : Hid (Below w.heap.size w (w.alloc (.cells (hopC 4 n i A dn dc B 64 cc) 29 (0, 0)))) := Me.below_alloc (Below.refl _ _)
  have HK : Hid (∀ W, Below w.heap.size w W → Calls Try.prog 10 #[.agg (hopC 4 n i A dn dc B 64 cc)] W fun e w' => e = .returned (.int .i64 0) ∧ Hid (Below W.heap.size W w')) := fun W hW => by
    have := Check_any 4 n i A dn dc B cs cc W ((hr.out.below hW).more hW.size) (by omega)
    rw [hz, hc] at this
    exact this
  have HX := Lib.hid (box8 4 n i A dn dc B 64 cc w)
  have HPB : Hid (∀ W, Calls Try.prog 38 #[.slice none 0 0, .int .u64 4, .int .i64 1] W fun e w' => ∃ g, e = .returned (.tuple #[.slice (some ⟨g, 0, none⟩) 1 1, .int .i64 0]) ∧ W.heap.size ≤ g ∧ Hid (Row w' g [4]) ∧ Hid (Below W.heap.size W w')) := fun W => bput [] 4 1 0 none W rfl (by omega) (by decide) (by omega) ⟨by simp, by simp⟩
  have HLs : Hid (∀ j, j < 64 → ∃ m : Nat, Mi.at_ cs j = (m : Int) ∧ m ≤ 16 ∧ rouL cs (j + 1) = rouL cs j ++ [m]) := fun j hj => by
    obtain ⟨m, h1, h2⟩ := cost_lt hb (j := j) (by omega)
    exact ⟨m, h1, h2, rouL_succ (by omega) h1⟩
  have HLl : Hid (∀ j, j ≤ 64 → (rouL cs j).length = j + 1) := fun j hj => rouL_len (by omega)
  have HLt := Lib.hid (rouL_lt hb)
  have HL0 : Hid (rouL cs 0 = [4]) := rfl
  have hE : 4 :: cs.map Int.toNat = rouL cs 64 := by unfold rouL; rw [← hc, List.take_length]
  have HN : Hid (cs.length = 64) := hc
  rw [hE]
  obtain ⟨L, hL⟩ : ∃ L, rouL cs = L := ⟨_, rfl⟩
  rw [hL] at HLs HLl HLt HL0 ⊢
  clear hL hE hz hb hc
  obtain ⟨o, d, ee, c⟩ := i
  simp only [hopC, Hx] at HK HB0 HX ⊢
  go_enter Try.func11, Try.ntmps11
  go_wp2_with (first
    | (go_at_call 10; refine (HK.out _ HB0.out).mono ?_; rintro e w1 ⟨rfl, b1⟩; obtain ⟨⟨x0, x1, x2, x3, x4, x5, x6, x7⟩, bw⟩ := HX.out w1 b1.out)
    | (go_at_call 38; refine (HPB.out _).mono ?_; rintro e w2 ⟨g, rfl, hg, hrow, b2⟩; have HROW := hrow; have B12 : Below w.heap.size w w2 := bw.trans (b2.out.mono bw.size); obtain ⟨⟨y0, y1, y2, y3, y4, y5, y6, y7⟩, bw2⟩ := HX.out w2 (b1.out.trans (b2.out.mono b1.out.size))))
  have HO : Hid (Me.Own w2 w.heap.size (.slice (some ⟨g, 0, none⟩) 1 1) (L 0)) := by
    show Me.Own _ _ _ _
    rw [HL0.out]
    exact row_own hrow.out (Nat.le_trans bw.size hg) (by decide)
  have HB2 := Lib.hid bw2
  have HY : Hid (w2.cell? ⟨w.heap.size, 7, none⟩ = some (.slice B 64 cc)) := y7
  clear HROW hrow b1 b2 B12 bw2 x0 x1 x2 x3 x4 x5 x6 x7 y0 y1 y2 y3 y4 y5 y6 y7 HX HK HB0 HPB
  go_loopw [5, 28] (fun v5 v28 wr => ∃ j : Nat, j ≤ 64 ∧ v28 = .int .i64 j ∧ (∃ A c, v5 = .slice A (j + 1) c ∧ Hid (Me.Own wr w.heap.size (.slice A (j + 1) c) (L j))) ∧ Hid (Below w.heap.size w wr)) (fun _ v _ => 64 - (intOf v).toNat)
  case atStart => exact ⟨0, by omega, rfl, ⟨_, _, rfl, HO.out⟩, HB2.out⟩
  case round =>
    obtain ⟨j, hj, rfl, ⟨A2, c2, rfl, HOj⟩, HBj⟩ := hrel
    clear HO HB2 HY
    by_cases hlt : j < 64
    · obtain ⟨m, hm1, hm2, hm3⟩ := HLs.out j hlt
      obtain ⟨b, off, rfl, y0⟩ := rd_at (hr.out.below HBj.out) (i := j) (by rw [HN.out]; exact hlt)
      rw [hm1] at y0
      have hwr := wrap8i (n := m) (by omega)
      have HM3 := Lib.hid hm3
      have HM2 := Lib.hid hm2
      clear hm1 hm3
      go_wp2_with (at_builtin; refine app8 rfl (.tmp 32) (.tmp 35) rfl w.heap.size (wr.heap.size + 1) _ (L j) [m] rfl (HOj.out.alloc _) (Me.below_alloc HBj.out) (Nat.le_trans HBj.out.size (by simp)) (some ⟨wr.heap.size, 0, none⟩) 1 rfl (rd_lit (r := [m]) (by simp; omega) 5) (fun h => by cases h) (by rw [HLl.out j hj]; simp; omega) ?_; intro v5 w5 ho5 hb5 _; rw [← HM3.out] at ho5; obtain ⟨A5, c5, rfl, _, _, _⟩ := ho5.held (HLt.out (j + 1)); rw [HLl.out (j + 1) hlt] at ho5; have HO5 := Lib.hid ho5; have HB5 := Lib.hid hb5; clear ho5 hb5)
      go_roundw
      case rel => exact ⟨j + 1, by omega, by go_num, ⟨_, _, by rw [HLl.out (j + 1) hlt], HO5.out⟩, HB5.out⟩
      case measure => simp [intOf]; omega
    · obtain rfl : j = 64 := by omega
      go_wp2
      go_ret2
      exact ⟨A2, c2, by rw [HLl.out 64 (by omega)]; rfl, by rw [HLl.out 64 (by omega)]; exact HOj.out, HBj.out⟩
theorem owp_held {L : List Nat} {z : Nat} {w w' : World} {e : Ending} (h : OwP L z w e w') (hl : ∀ z ∈ L, z < 256) : ∃ A c, e = .returned (.tuple #[.slice A L.length c, .int .i64 (z : Int)]) ∧ Hid (Rd w' w'.heap.size A L) ∧ Hid (A = none → L.length = 0 ∧ c = 0) ∧ Hid (Below w.heap.size w w') := by
  obtain ⟨A, c, he, ho, hb⟩ := h
  obtain ⟨A2, c2, e2, _, _, hh⟩ := ho.out.held hl
  cases e2
  exact ⟨A, c, he, hh.rd, hh.2.2, hb⟩
set_option maxRecDepth 100000 in
theorem Put_offer (n : Nat) (hi : Hid (BySlice w A dn dc l)) (hn : n ≤ 65535) (hz : hopN 1 n i dn [] = 0) :
    Calls Try.prog 11 #[.agg (hopC 1 n i A dn dc B 0 cc)] w fun e w' => OwP ([1] ++ byts n 2 ++ (idL i ++ l)) 0 w e w' := by
  have HB0 : Hid (Below w.heap.size w (w.alloc (.cells (hopC 1 n i A dn dc B 0 cc) 29 (0, 0)))) := Me.below_alloc (Below.refl _ _)
  have HK : Hid (∀ W, Below w.heap.size w W → Calls Try.prog 10 #[.agg (hopC 1 n i A dn dc B 0 cc)] W fun e w' => e = .returned (.int .i64 0) ∧ Hid (Below W.heap.size W w')) := fun W hW => by
    have := Check_any 1 n i A dn dc B [] cc W (Mi.Rd.nil _ _ _) (by simp)
    rw [hz] at this
    exact this
  have HX := Lib.hid (box8 1 n i A dn dc B 0 cc w)
  have HPB : Hid (∀ W, Calls Try.prog 38 #[.slice none 0 0, .int .u64 1, .int .i64 1] W fun e w' => ∃ g, e = .returned (.tuple #[.slice (some ⟨g, 0, none⟩) 1 1, .int .i64 0]) ∧ W.heap.size ≤ g ∧ Hid (Row w' g [1]) ∧ Hid (Below W.heap.size W w')) := fun W => bput [] 1 1 0 none W rfl (by omega) (by decide) (by omega) ⟨by simp, by simp⟩
  have HPN : Hid (∀ (W : World) (A2 : Option Addr), Hid (Rd W W.heap.size A2 [1]) → Calls Try.prog 38 #[.slice A2 1 1, .int .u64 (n : Int), .int .i64 2] W fun e w' => ∃ g, e = .returned (.tuple #[.slice (some ⟨g, 0, none⟩) 3 3, .int .i64 0]) ∧ W.heap.size ≤ g ∧ Hid (Row w' g ([1] ++ byts n 2)) ∧ Hid (Below W.heap.size W w')) := fun W A2 h => bput [1] n 2 1 A2 W rfl (by omega) (by decide) (by omega) h
  have hzz := hop_zero hz
  have HM : Hid (∀ W, Below w.heap.size w W → Calls Try.prog 39 #[.agg (msgC i A dn dc)] W (OwP (idL i ++ l) 0 W)) := fun W hW => by
    have h1 : msgN i dn = 0 := by
      rcases hzz.2.2 with ⟨_, h, _⟩ | ⟨h | h, _⟩ | ⟨h, _⟩
      · exact h
      · cases h
      · cases h
      · cases h
    refine (Mg.Put_any i A dn dc l W (by_below hi.out hW)).mono fun e w' h => ?_
    have := h.ow
    unfold putL at this
    rw [h1, if_pos rfl] at this
    exact this
  have hu := putU hn
  have hlen : (byts n 2).length = 2 := length_byts n 2
  have HLT : Hid (∀ z ∈ (idL i ++ l), z < 256) := by
    have := putH_lt (k := 1) (n := (n : Int)) (i := i) (l := l) (cs := []) hi.out.2.2.2.1.1
    unfold putH at this
    rw [← hi.out.1, hz, if_neg (by simp), if_neg (by decide)] at this
    intro z hz
    refine this z ?_
    rw [List.mem_append]
    right
    rw [if_pos rfl]
    exact hz
  have HLL : Hid (((idL i ++ l)).length ≤ 1000) := by
    show _ ≤ _
    have := hi.out.1
    rcases hzz.2.2 with ⟨_, h, _⟩ | ⟨_, _, h, _⟩ | ⟨h, _⟩
    · have := (msgN_zero h).2.2
      simp [idL_len]
      try omega
    · simp [idL_len]
      try omega
    · cases h
  obtain ⟨L, hL⟩ : ∃ L, (idL i ++ l) = L := ⟨_, rfl⟩
  rw [hL] at HM HLT HLL ⊢
  have HBL : Hid (∀ z ∈ byts n 2, z < 256) := byts_lt n 2
  obtain ⟨b, hb⟩ : ∃ b, byts n 2 = b := ⟨_, rfl⟩
  rw [hb] at HPN hlen HBL ⊢
  have HLEN := Lib.hid hlen
  clear hL hb hzz hz hi hn hlen
  obtain ⟨o, d, ee, c⟩ := i
  simp only [hopC, msgC, idC, Hx] at HK HB0 HX HM ⊢
  go_enter Try.func11, Try.ntmps11
  go_wp2_with (first
    | (go_at_call 10; refine (HK.out _ HB0.out).mono ?_; rintro e w1 ⟨rfl, b1⟩; obtain ⟨⟨x0, x1, x2, x3, x4, x5, x6, x7⟩, bw⟩ := HX.out w1 b1.out)
    | (go_at_call 38; (with_reducible refine (HPB.out _).mono ?_); rintro e w2 ⟨g, rfl, hg, hrow, b2⟩; have HRD2 : Hid (Rd w2 w2.heap.size (some ⟨g, 0, none⟩) [1]) := hrow.out.rd hrow.out.lt (by simp); have b12 := b1.out.trans (b2.out.mono b1.out.size); obtain ⟨⟨y0, y1, y2, y3, y4, y5, y6, y7⟩, bw2⟩ := HX.out w2 b12)
    | (go_at_call 38; (with_reducible refine (HPN.out _ _ HRD2).mono ?_); rintro e w3 ⟨g3, rfl, hg3, hrow3, b3⟩; have b13 := b12.trans (b3.out.mono b12.size); obtain ⟨⟨z0, z1, z2, z3, z4, z5, z6, z7⟩, bw3⟩ := HX.out w3 b13)
    | (go_at_call 39; refine (HM.out w3 bw3).mono ?_; rintro e w4 h4; obtain ⟨A4, c4, rfl, HR4, HN4, b4⟩ := owp_held h4 HLT.out; have bw4 : Below w.heap.size w w4 := bw3.trans (b4.out.mono bw3.size); have HO4 : Hid (Me.Own w4 w.heap.size (.slice (some ⟨g3, 0, none⟩) 3 3) ([1] ++ b)) := (by have e3 : ([1] ++ b).length = 3 := (by simp [HLEN.out]); have h3 : Me.Own w4 w.heap.size (.slice (some ⟨g3, 0, none⟩) ([1] ++ b).length ([1] ++ b).length) ([1] ++ b) := Me.own_below (row_own hrow3.out (Nat.le_trans bw2.size hg3) (by simp [HLEN.out])) b4.out; rw [e3] at h3; exact h3))
    | (at_builtin; refine app8 rfl (.tmp 63) (.tmp 64) rfl w.heap.size w4.heap.size _ ([1] ++ b) L rfl HO4.out bw4 bw4.size A4 c4 rfl HR4.out HN4.out (by have := HLL.out; simp [HLEN.out]; omega) ?_; intro v5 w5 ho5 hb5 _; obtain ⟨A5, c5, rfl, _, _, _⟩ := ho5.held (fun z hz => by rw [List.mem_append, List.mem_append] at hz; exact hz.elim (fun h => h.elim (fun h => by simp at h; omega) (fun h => HBL.out z h)) (HLT.out z)); have HO5 := Lib.hid ho5; have HB5 := Lib.hid hb5; clear ho5 hb5))
  go_ret2
  have e5 : ([1] ++ b ++ L).length = b.length + L.length + 1 := (by simp)
  exact ⟨A5, c5, congrArg (fun x => Ending.returned (Value.tuple #[.slice A5 x c5, .int .i64 0])) e5.symm, HO5.out, HB5.out⟩
set_option maxRecDepth 100000 in
theorem Put_ack (n : Nat) (hi : Hid (BySlice w A dn dc l)) (hn : n ≤ 65535) (hz : hopN 2 n i dn [] = 0) :
    Calls Try.prog 11 #[.agg (hopC 2 n i A dn dc B 0 cc)] w fun e w' => OwP ([2] ++ byts n 2 ++ (idL i)) 0 w e w' := by
  have HB0 : Hid (Below w.heap.size w (w.alloc (.cells (hopC 2 n i A dn dc B 0 cc) 29 (0, 0)))) := Me.below_alloc (Below.refl _ _)
  have HK : Hid (∀ W, Below w.heap.size w W → Calls Try.prog 10 #[.agg (hopC 2 n i A dn dc B 0 cc)] W fun e w' => e = .returned (.int .i64 0) ∧ Hid (Below W.heap.size W w')) := fun W hW => by
    have := Check_any 2 n i A dn dc B [] cc W (Mi.Rd.nil _ _ _) (by simp)
    rw [hz] at this
    exact this
  have HX := Lib.hid (box8 2 n i A dn dc B 0 cc w)
  have HPB : Hid (∀ W, Calls Try.prog 38 #[.slice none 0 0, .int .u64 2, .int .i64 1] W fun e w' => ∃ g, e = .returned (.tuple #[.slice (some ⟨g, 0, none⟩) 1 1, .int .i64 0]) ∧ W.heap.size ≤ g ∧ Hid (Row w' g [2]) ∧ Hid (Below W.heap.size W w')) := fun W => bput [] 2 1 0 none W rfl (by omega) (by decide) (by omega) ⟨by simp, by simp⟩
  have HPN : Hid (∀ (W : World) (A2 : Option Addr), Hid (Rd W W.heap.size A2 [2]) → Calls Try.prog 38 #[.slice A2 1 1, .int .u64 (n : Int), .int .i64 2] W fun e w' => ∃ g, e = .returned (.tuple #[.slice (some ⟨g, 0, none⟩) 3 3, .int .i64 0]) ∧ W.heap.size ≤ g ∧ Hid (Row w' g ([2] ++ byts n 2)) ∧ Hid (Below W.heap.size W w')) := fun W A2 h => bput [2] n 2 1 A2 W rfl (by omega) (by decide) (by omega) h
  have hzz := hop_zero hz
  have HM : Hid (∀ W, Below w.heap.size w W → Calls Try.prog 40 #[.agg (idC i)] W (OwP (idL i) 0 W)) := fun W hW => by
    have h1 : chkN i = 0 := by
      rcases hzz.2.2 with ⟨h, _⟩ | ⟨_, h, _⟩ | ⟨h, _⟩
      · cases h
      · exact h
      · cases h
    refine (Pid_any i W).mono fun e w' h => ?_
    unfold pidL at h
    rw [h1, if_pos rfl] at h
    exact h
  have hu := putU hn
  have hlen : (byts n 2).length = 2 := length_byts n 2
  have HLT : Hid (∀ z ∈ (idL i), z < 256) := by
    have := putH_lt (k := 2) (n := (n : Int)) (i := i) (l := l) (cs := []) hi.out.2.2.2.1.1
    unfold putH at this
    rw [← hi.out.1, hz, if_neg (by simp), if_neg (by decide)] at this
    intro z hz
    refine this z ?_
    rw [List.mem_append]
    right
    rw [if_neg (by decide)]
    exact hz
  have HLL : Hid (((idL i)).length ≤ 1000) := by
    show _ ≤ _
    have := hi.out.1
    rcases hzz.2.2 with ⟨_, h, _⟩ | ⟨_, _, h, _⟩ | ⟨h, _⟩
    · have := (msgN_zero h).2.2
      simp [idL_len]
      try omega
    · simp [idL_len]
      try omega
    · cases h
  obtain ⟨L, hL⟩ : ∃ L, (idL i) = L := ⟨_, rfl⟩
  rw [hL] at HM HLT HLL ⊢
  have HBL : Hid (∀ z ∈ byts n 2, z < 256) := byts_lt n 2
  obtain ⟨b, hb⟩ : ∃ b, byts n 2 = b := ⟨_, rfl⟩
  rw [hb] at HPN hlen HBL ⊢
  have HLEN := Lib.hid hlen
  clear hL hb hzz hz hi hn hlen
  obtain ⟨o, d, ee, c⟩ := i
  simp only [hopC, msgC, idC, Hx] at HK HB0 HX HM ⊢
  go_enter Try.func11, Try.ntmps11
  go_wp2_with (first
    | (go_at_call 10; refine (HK.out _ HB0.out).mono ?_; rintro e w1 ⟨rfl, b1⟩; obtain ⟨⟨x0, x1, x2, x3, x4, x5, x6, x7⟩, bw⟩ := HX.out w1 b1.out)
    | (go_at_call 38; (with_reducible refine (HPB.out _).mono ?_); rintro e w2 ⟨g, rfl, hg, hrow, b2⟩; have HRD2 : Hid (Rd w2 w2.heap.size (some ⟨g, 0, none⟩) [2]) := hrow.out.rd hrow.out.lt (by simp); have b12 := b1.out.trans (b2.out.mono b1.out.size); obtain ⟨⟨y0, y1, y2, y3, y4, y5, y6, y7⟩, bw2⟩ := HX.out w2 b12)
    | (go_at_call 38; (with_reducible refine (HPN.out _ _ HRD2).mono ?_); rintro e w3 ⟨g3, rfl, hg3, hrow3, b3⟩; have b13 := b12.trans (b3.out.mono b12.size); obtain ⟨⟨z0, z1, z2, z3, z4, z5, z6, z7⟩, bw3⟩ := HX.out w3 b13)
    | (go_at_call 40; refine (HM.out w3 bw3).mono ?_; rintro e w4 h4; obtain ⟨A4, c4, rfl, HR4, HN4, b4⟩ := owp_held h4 HLT.out; have bw4 : Below w.heap.size w w4 := bw3.trans (b4.out.mono bw3.size); have HO4 : Hid (Me.Own w4 w.heap.size (.slice (some ⟨g3, 0, none⟩) 3 3) ([2] ++ b)) := (by have e3 : ([2] ++ b).length = 3 := (by simp [HLEN.out]); have h3 : Me.Own w4 w.heap.size (.slice (some ⟨g3, 0, none⟩) ([2] ++ b).length ([2] ++ b).length) ([2] ++ b) := Me.own_below (row_own hrow3.out (Nat.le_trans bw2.size hg3) (by simp [HLEN.out])) b4.out; rw [e3] at h3; exact h3))
    | (at_builtin; refine app8 rfl (.tmp 63) (.tmp 64) rfl w.heap.size w4.heap.size _ ([2] ++ b) L rfl HO4.out bw4 bw4.size A4 c4 rfl HR4.out HN4.out (by have := HLL.out; simp [HLEN.out]; omega) ?_; intro v5 w5 ho5 hb5 _; obtain ⟨A5, c5, rfl, _, _, _⟩ := ho5.held (fun z hz => by rw [List.mem_append, List.mem_append] at hz; exact hz.elim (fun h => h.elim (fun h => by simp at h; omega) (fun h => HBL.out z h)) (HLT.out z)); have HO5 := Lib.hid ho5; have HB5 := Lib.hid hb5; clear ho5 hb5))
  go_ret2
  have e5 : ([2] ++ b ++ L).length = b.length + L.length + 1 := (by simp)
  exact ⟨A5, c5, congrArg (fun x => Ending.returned (Value.tuple #[.slice A5 x c5, .int .i64 0])) e5.symm, HO5.out, HB5.out⟩
set_option maxRecDepth 100000 in
theorem Put_refuse (n : Nat) (hi : Hid (BySlice w A dn dc l)) (hn : n ≤ 65535) (hz : hopN 3 n i dn [] = 0) :
    Calls Try.prog 11 #[.agg (hopC 3 n i A dn dc B 0 cc)] w fun e w' => OwP ([3] ++ byts n 2 ++ (idL i)) 0 w e w' := by
  have HB0 : Hid (Below w.heap.size w (w.alloc (.cells (hopC 3 n i A dn dc B 0 cc) 29 (0, 0)))) := Me.below_alloc (Below.refl _ _)
  have HK : Hid (∀ W, Below w.heap.size w W → Calls Try.prog 10 #[.agg (hopC 3 n i A dn dc B 0 cc)] W fun e w' => e = .returned (.int .i64 0) ∧ Hid (Below W.heap.size W w')) := fun W hW => by
    have := Check_any 3 n i A dn dc B [] cc W (Mi.Rd.nil _ _ _) (by simp)
    rw [hz] at this
    exact this
  have HX := Lib.hid (box8 3 n i A dn dc B 0 cc w)
  have HPB : Hid (∀ W, Calls Try.prog 38 #[.slice none 0 0, .int .u64 3, .int .i64 1] W fun e w' => ∃ g, e = .returned (.tuple #[.slice (some ⟨g, 0, none⟩) 1 1, .int .i64 0]) ∧ W.heap.size ≤ g ∧ Hid (Row w' g [3]) ∧ Hid (Below W.heap.size W w')) := fun W => bput [] 3 1 0 none W rfl (by omega) (by decide) (by omega) ⟨by simp, by simp⟩
  have HPN : Hid (∀ (W : World) (A2 : Option Addr), Hid (Rd W W.heap.size A2 [3]) → Calls Try.prog 38 #[.slice A2 1 1, .int .u64 (n : Int), .int .i64 2] W fun e w' => ∃ g, e = .returned (.tuple #[.slice (some ⟨g, 0, none⟩) 3 3, .int .i64 0]) ∧ W.heap.size ≤ g ∧ Hid (Row w' g ([3] ++ byts n 2)) ∧ Hid (Below W.heap.size W w')) := fun W A2 h => bput [3] n 2 1 A2 W rfl (by omega) (by decide) (by omega) h
  have hzz := hop_zero hz
  have HM : Hid (∀ W, Below w.heap.size w W → Calls Try.prog 40 #[.agg (idC i)] W (OwP (idL i) 0 W)) := fun W hW => by
    have h1 : chkN i = 0 := by
      rcases hzz.2.2 with ⟨h, _⟩ | ⟨_, h, _⟩ | ⟨h, _⟩
      · cases h
      · exact h
      · cases h
    refine (Pid_any i W).mono fun e w' h => ?_
    unfold pidL at h
    rw [h1, if_pos rfl] at h
    exact h
  have hu := putU hn
  have hlen : (byts n 2).length = 2 := length_byts n 2
  have HLT : Hid (∀ z ∈ (idL i), z < 256) := by
    have := putH_lt (k := 3) (n := (n : Int)) (i := i) (l := l) (cs := []) hi.out.2.2.2.1.1
    unfold putH at this
    rw [← hi.out.1, hz, if_neg (by simp), if_neg (by decide)] at this
    intro z hz
    refine this z ?_
    rw [List.mem_append]
    right
    rw [if_neg (by decide)]
    exact hz
  have HLL : Hid (((idL i)).length ≤ 1000) := by
    show _ ≤ _
    have := hi.out.1
    rcases hzz.2.2 with ⟨_, h, _⟩ | ⟨_, _, h, _⟩ | ⟨h, _⟩
    · have := (msgN_zero h).2.2
      simp [idL_len]
      try omega
    · simp [idL_len]
      try omega
    · cases h
  obtain ⟨L, hL⟩ : ∃ L, (idL i) = L := ⟨_, rfl⟩
  rw [hL] at HM HLT HLL ⊢
  have HBL : Hid (∀ z ∈ byts n 2, z < 256) := byts_lt n 2
  obtain ⟨b, hb⟩ : ∃ b, byts n 2 = b := ⟨_, rfl⟩
  rw [hb] at HPN hlen HBL ⊢
  have HLEN := Lib.hid hlen
  clear hL hb hzz hz hi hn hlen
  obtain ⟨o, d, ee, c⟩ := i
  simp only [hopC, msgC, idC, Hx] at HK HB0 HX HM ⊢
  go_enter Try.func11, Try.ntmps11
  go_wp2_with (first
    | (go_at_call 10; refine (HK.out _ HB0.out).mono ?_; rintro e w1 ⟨rfl, b1⟩; obtain ⟨⟨x0, x1, x2, x3, x4, x5, x6, x7⟩, bw⟩ := HX.out w1 b1.out)
    | (go_at_call 38; (with_reducible refine (HPB.out _).mono ?_); rintro e w2 ⟨g, rfl, hg, hrow, b2⟩; have HRD2 : Hid (Rd w2 w2.heap.size (some ⟨g, 0, none⟩) [3]) := hrow.out.rd hrow.out.lt (by simp); have b12 := b1.out.trans (b2.out.mono b1.out.size); obtain ⟨⟨y0, y1, y2, y3, y4, y5, y6, y7⟩, bw2⟩ := HX.out w2 b12)
    | (go_at_call 38; (with_reducible refine (HPN.out _ _ HRD2).mono ?_); rintro e w3 ⟨g3, rfl, hg3, hrow3, b3⟩; have b13 := b12.trans (b3.out.mono b12.size); obtain ⟨⟨z0, z1, z2, z3, z4, z5, z6, z7⟩, bw3⟩ := HX.out w3 b13)
    | (go_at_call 40; refine (HM.out w3 bw3).mono ?_; rintro e w4 h4; obtain ⟨A4, c4, rfl, HR4, HN4, b4⟩ := owp_held h4 HLT.out; have bw4 : Below w.heap.size w w4 := bw3.trans (b4.out.mono bw3.size); have HO4 : Hid (Me.Own w4 w.heap.size (.slice (some ⟨g3, 0, none⟩) 3 3) ([3] ++ b)) := (by have e3 : ([3] ++ b).length = 3 := (by simp [HLEN.out]); have h3 : Me.Own w4 w.heap.size (.slice (some ⟨g3, 0, none⟩) ([3] ++ b).length ([3] ++ b).length) ([3] ++ b) := Me.own_below (row_own hrow3.out (Nat.le_trans bw2.size hg3) (by simp [HLEN.out])) b4.out; rw [e3] at h3; exact h3))
    | (at_builtin; refine app8 rfl (.tmp 63) (.tmp 64) rfl w.heap.size w4.heap.size _ ([3] ++ b) L rfl HO4.out bw4 bw4.size A4 c4 rfl HR4.out HN4.out (by have := HLL.out; simp [HLEN.out]; omega) ?_; intro v5 w5 ho5 hb5 _; obtain ⟨A5, c5, rfl, _, _, _⟩ := ho5.held (fun z hz => by rw [List.mem_append, List.mem_append] at hz; exact hz.elim (fun h => h.elim (fun h => by simp at h; omega) (fun h => HBL.out z h)) (HLT.out z)); have HO5 := Lib.hid ho5; have HB5 := Lib.hid hb5; clear ho5 hb5))
  go_ret2
  have e5 : ([3] ++ b ++ L).length = b.length + L.length + 1 := (by simp)
  exact ⟨A5, c5, congrArg (fun x => Ending.returned (Value.tuple #[.slice A5 x c5, .int .i64 0])) e5.symm, HO5.out, HB5.out⟩
theorem Put_any (hi : Hid (BySlice w A dn dc l)) (hr : Hid (Mi.Rd w w.heap.size B cs)) (hc : cs.length ≤ 9223372036854775806) :
    Calls Try.prog 11 #[.agg (hopC k n i A dn dc B cs.length cc)] w (OwP (putH k n i l cs) (hopN k n i dn cs) w) := by
  have hd := hi.out.1
  by_cases hz : hopN k n i dn cs = 0
  · obtain ⟨h1, h2, h3⟩ := hop_zero hz
    obtain ⟨m, rfl⟩ := Int.eq_ofNat_of_zero_le h1
    unfold putH
    rw [← hd, hz, if_neg (by simp)]
    rcases h3 with ⟨rfl, _, rfl⟩ | ⟨rfl | rfl, _, _, rfl⟩ | ⟨rfl, _, _, _, h4, h5⟩
    · rw [if_neg (by decide), if_pos rfl]
      exact Put_offer i A dn dc l B cc w m hi (by omega) hz
    · rw [if_neg (by decide), if_neg (by decide)]
      exact Put_ack i A dn dc l B cc w m hi (by omega) hz
    · rw [if_neg (by decide), if_neg (by decide)]
      exact Put_refuse i A dn dc l B cc w m hi (by omega) hz
    · rw [if_pos rfl, h4]
      exact Put_routes m i A dn dc B cs cc w hr h4 hz h5
  · refine (Put_no k n i A dn dc B cs cc w hr hc hz).mono fun e w' ⟨he, hb⟩ => ?_
    unfold putH
    rw [← hd, if_pos hz]
    exact ⟨none, 0, he, Own.nil _ _, hb⟩
end
end Go.Proofs.Ytohfoieibgmmdaa.Hp
/- The document's Put of a word. -/
namespace Go.Proofs.Ytohfoieibgmmdaa.Hp
open Go.RowKit Go.Shelf
open Go.Proofs.Ytohfoieibgmmdaa.Me Go.Proofs.Ytohfoieibgmmdaa.Sb Go.Proofs.Ytohfoieibgmmdaa.Mg Go.Proofs.Ytohfoieibgmmdaa.Ba Go.Proofs.Ytohfoieibgmmdaa.Ma Go.Proofs.Ytohfoieibgmmdaa.Bt
set_option linter.unusedVariables false
set_option linter.unusedSimpArgs false

theorem own_lit (w : World) (l : List Nat) (hl : l.length ≤ 9223372036854775807) : Me.Own (w.alloc (.cells (l.map byV).toArray 5)) w.heap.size (.slice (some ⟨w.heap.size, 0, none⟩) l.length l.length) l :=
  ⟨by simp, .inr ⟨w.heap.size, l.length, _, rfl, Nat.le_refl _, heap_alloc_new w _, Nat.le_refl _, by unfold maxLen; omega, by simp, by rw [Nat.mul_one]; simp [List.take_of_length_le]⟩⟩
section
variable (k n : Int) (i : Id4) (A : Option Addr) (dn dc : Nat) (l : List Nat) (B : Option Addr) (cs : List Int) (cc : Nat) (w : World)
theorem RPut_no (hi : Hid (BySlice w A dn dc l)) (hr : Hid (Mi.Rd w w.heap.size B cs)) (hc : cs.length ≤ 9223372036854775806) (hz : Hid (hopN k n i dn cs ≠ 0)) :
    Calls Try.prog 12 #[.agg (hopC k n i A dn dc B cs.length cc)] w fun e w' => e = .returned (.tuple #[.slice none 0 0, .int .i64 (hopN k n i dn cs : Int)]) ∧ Hid (Below w.heap.size w w') := by
  have HB0 : Hid (Below w.heap.size w (w.alloc (.cells (hopC k n i A dn dc B cs.length cc) 29 (0, 0)))) := Me.below_alloc (Below.refl _ _)
  have hb := HB0.out
  have HK : Hid (∀ W, Below w.heap.size w W → Calls Try.prog 13 #[.agg (hopC k n i A dn dc B cs.length cc)] W fun e w' => e = .returned (.int .i64 (hopN k n i dn cs : Int)) ∧ Hid (Below W.heap.size W w')) := fun W hW => RCheck_any k n i A dn dc l B cs cc W (by_below hi.out hW) ((hr.out.below hW).more hW.size) hc
  have HX := Lib.hid (box8 k n i A dn dc B cs.length cc w)
  obtain ⟨z, hzz⟩ : ∃ z, hopN k n i dn cs = z := ⟨_, rfl⟩
  rw [hzz] at hz HK ⊢
  have z1 := nz hz.out
  have z2 : ((z : Int) != 0) = true := by rw [bne, z1]; rfl
  clear hr hb hzz hz hi
  obtain ⟨o, d, ee, c⟩ := i
  simp only [hopC, Hx] at HK HB0 HX ⊢
  go_enter Try.func12, Try.ntmps12
  go_wp2_with (first
    | (go_at_call 13; (with_reducible refine (HK.out _ HB0.out).mono ?_); rintro e w1 ⟨rfl, b1⟩; obtain ⟨⟨x0, x1, x2, x3, x4, x5, x6, x7⟩, bw⟩ := HX.out w1 b1.out)
    | (go_at_call 13; refine (HK.out _ bw).mono ?_; rintro e w2 ⟨rfl, b2⟩; have bw2 : Below w.heap.size w w2 := bw.trans (b2.out.mono bw.size)))
  go_ret2
  exact ⟨rfl, bw2⟩
set_option maxRecDepth 100000 in
theorem RPut_routes (hi : Hid (BySlice w A dn dc l)) (hr : Hid (Mi.Rd w w.heap.size B cs)) (hc : cs.length = 64) (hz : hopN 4 n i dn cs = 0) (hb : cs.any badC = false) :
    Calls Try.prog 12 #[.agg (hopC 4 n i A dn dc B 64 cc)] w fun e w' => OwP (4 :: cs.map Int.toNat) 0 w e w' := by
  have HB0 : Hid (Below w.heap.size w (w.alloc (.cells (hopC 4 n i A dn dc B 64 cc) 29 (0, 0)))) := Me.below_alloc (Below.refl _ _)
  have HK : Hid (∀ W, Below w.heap.size w W → Calls Try.prog 13 #[.agg (hopC 4 n i A dn dc B 64 cc)] W fun e w' => e = .returned (.int .i64 0) ∧ Hid (Below W.heap.size W w')) := fun W hW => by
    have := RCheck_any 4 n i A dn dc l B cs cc W (by_below hi.out hW) ((hr.out.below hW).more hW.size) (by omega)
    rw [hz, hc] at this
    exact this
  have HX := Lib.hid (box8 4 n i A dn dc B 64 cc w)
  have HLs : Hid (∀ j, j < 64 → ∃ m : Nat, Mi.at_ cs j = (m : Int) ∧ m ≤ 16 ∧ rouL cs (j + 1) = rouL cs j ++ [m]) := fun j hj => by
    obtain ⟨m, h1, h2⟩ := cost_lt hb (j := j) (by omega)
    exact ⟨m, h1, h2, rouL_succ (by omega) h1⟩
  have HLl : Hid (∀ j, j ≤ 64 → (rouL cs j).length = j + 1) := fun j hj => rouL_len (by omega)
  have HLt := Lib.hid (rouL_lt hb)
  have HL0 : Hid (rouL cs 0 = [4]) := rfl
  have hE : 4 :: cs.map Int.toNat = rouL cs 64 := by unfold rouL; rw [← hc, List.take_length]
  have HN : Hid (cs.length = 64) := hc
  rw [hE]
  obtain ⟨L, hL⟩ : ∃ L, rouL cs = L := ⟨_, rfl⟩
  rw [hL] at HLs HLl HLt HL0 ⊢
  clear hL hE hz hb hc hi
  obtain ⟨o, d, ee, c⟩ := i
  simp only [hopC, Hx] at HK HB0 HX ⊢
  go_enter Try.func12, Try.ntmps12
  go_wp2_with (first
    | (go_at_call 13; refine (HK.out _ HB0.out).mono ?_; rintro e w1 ⟨rfl, b1⟩; obtain ⟨⟨x0, x1, x2, x3, x4, x5, x6, x7⟩, bw⟩ := HX.out w1 b1.out; obtain ⟨⟨y0, y1, y2, y3, y4, y5, y6, y7⟩, bv⟩ := HX.out (w1.alloc (.cells #[.int .u8 4] 5)) (b1.out.alloc b1.out.size _)))
  have HO : Hid (Me.Own (w1.alloc (.cells #[.int .u8 4] 5)) (w.alloc (.cells (hopC 4 n ⟨o, d, ee, c⟩ A dn dc B 64 cc) 29 (0, 0))).heap.size (.slice (some ⟨w1.heap.size, 0, none⟩) 1 1) (L 0)) := by
    show Me.Own _ _ _ _
    rw [HL0.out]
    exact own_base (own_lit w1 [4] (by simp)) fun k e => by cases e; exact b1.out.size
  have HB12 : Hid (Below (w.alloc (.cells (hopC 4 n ⟨o, d, ee, c⟩ A dn dc B 64 cc) 29 (0, 0))).heap.size (w.alloc (.cells (hopC 4 n ⟨o, d, ee, c⟩ A dn dc B 64 cc) 29 (0, 0))) (w1.alloc (.cells #[.int .u8 4] 5))) := b1.out.alloc b1.out.size _
  have HBW : Hid (Below w.heap.size w (w.alloc (.cells (hopC 4 n ⟨o, d, ee, c⟩ A dn dc B 64 cc) 29 (0, 0)))) := Me.below_alloc (Below.refl _ _)
  simp only [hopC] at HB12 HO HBW
  obtain ⟨W0, hW0⟩ : ∃ W0, w.alloc (.cells #[.int .i64 4, .int .i64 n, .int .i64 o, .int .i64 d, .int .i64 ee, .int .i64 c, .slice A dn dc, .slice B 64 cc] 29 (0, 0)) = W0 := ⟨_, rfl⟩
  rw [hW0] at HB12 HO HBW HX
  clear hW0
  clear b1 bw bv x0 x1 x2 x3 x4 x5 x6 x7 y0 y1 y2 y3 y4 y5 y6 y7 HK HB0
  go_loopw [4, 5] (fun v4 v5 wr => ∃ j : Nat, j ≤ 64 ∧ v5 = .int .i64 j ∧ (∃ A c, v4 = .slice A (j + 1) c ∧ Hid (Me.Own wr W0.heap.size (.slice A (j + 1) c) (L j))) ∧ Hid (Below W0.heap.size W0 wr)) (fun _ v _ => 64 - (intOf v).toNat)
  case atStart => exact ⟨0, by omega, rfl, ⟨_, _, rfl, HO.out⟩, HB12.out⟩
  case round =>
    obtain ⟨j, hj, rfl, ⟨A2, c2, rfl, HOj⟩, HBx⟩ := hrel
    obtain ⟨⟨y0, y1, y2, y3, y4, y5, y6, y7⟩, HBj⟩ := HX.out wr HBx.out
    clear HO HB12
    by_cases hlt : j < 64
    · obtain ⟨m, hm1, hm2, hm3⟩ := HLs.out j hlt
      obtain ⟨b, off, rfl, u0⟩ := rd_at (hr.out.below HBj) (i := j) (by rw [HN.out]; exact hlt)
      rw [hm1] at u0
      have hwr := wrap8i (n := m) (by omega)
      have HM3 := Lib.hid hm3
      have HM2 := Lib.hid hm2
      clear hm1 hm3
      go_wp2_with (at_builtin; refine app8 rfl (.tmp 27) (.tmp 34) rfl W0.heap.size (wr.heap.size + 1) _ (L j) [m] rfl (HOj.out.alloc _) (Me.below_alloc HBx.out) (Nat.le_trans HBx.out.size (by simp)) (some ⟨wr.heap.size, 0, none⟩) 1 rfl (rd_lit (r := [m]) (by simp; omega) 5) (fun h => by cases h) (by rw [HLl.out j hj]; simp; omega) ?_; intro v5 w5 ho5 hb5 hg5; rw [← HM3.out] at ho5; obtain ⟨A5, c5, rfl, _, _, _⟩ := ho5.held (HLt.out (j + 1)); rw [HLl.out (j + 1) hlt] at ho5; have HO5 := Lib.hid ho5; have HB5 := Lib.hid hb5; have HG5 := Lib.hid hg5; clear ho5 hb5 hg5)
      go_roundw
      case rel => exact ⟨j + 1, by omega, by go_num, ⟨_, _, by rw [HLl.out (j + 1) hlt], HO5.out⟩, HB5.out⟩
      case measure => simp [intOf]; omega
    · obtain rfl : j = 64 := by omega
      go_wp2
      go_ret2
      exact ⟨A2, c2, by rw [HLl.out 64 (by omega)]; rfl, by rw [HLl.out 64 (by omega)]; exact own_base HOj.out (fun k e => Nat.le_trans HBW.out.size (HOj.out.lt k e).1), HBj⟩
theorem own_belowV {w w' : World} {B : Nat} {v : Value} {l : List Nat} (h : Me.Own w B v l) (hb : Below w.heap.size w w') : Me.Own w' B v l :=
  Sb.own_same h fun k _ hk => hb.block k hk
theorem byts2 {n : Nat} (h : n ≤ 65535) : byts n 2 = [n / 256, n % 256] := by
  simp [byts]
  omega
set_option maxRecDepth 100000 in
theorem RPut_named (K : Nat) (n : Nat) (hi : Hid (BySlice w A dn dc l)) (hn : n ≤ 65535) (hK : K = 1 ∨ K = 2 ∨ K = 3) (hz : hopN K n i dn [] = 0) :
    Calls Try.prog 12 #[.agg (hopC K n i A dn dc B 0 cc)] w fun e w' => OwP ([K] ++ byts n 2 ++ idL i ++ l) 0 w e w' := by
  have HB0 : Hid (Below w.heap.size w (w.alloc (.cells (hopC K n i A dn dc B 0 cc) 29 (0, 0)))) := Me.below_alloc (Below.refl _ _)
  have HK : Hid (∀ W, Below w.heap.size w W → Calls Try.prog 13 #[.agg (hopC K n i A dn dc B 0 cc)] W fun e w' => e = .returned (.int .i64 0) ∧ Hid (Below W.heap.size W w')) := fun W hW => by
    have := RCheck_any K n i A dn dc l B [] cc W (by_below hi.out hW) (Mi.Rd.nil _ _ _) (by simp)
    rw [hz] at this
    exact this
  have HX := Lib.hid (box8 K n i A dn dc B 0 cc w)
  have HM : Hid (∀ W, Below w.heap.size w W → Calls Try.prog 41 #[.agg (idC i)] W (OwP (idL i) 0 W)) := fun W hW => by
    have h1 : chkN i = 0 := by
      rcases (hop_zero hz).2.2 with ⟨_, h, _⟩ | ⟨_, h, _⟩ | ⟨h, _⟩
      · exact right_iff.2 (msgN_zero h).1
      · exact h
      · omega
    refine (RPid_any i W).mono fun e w' h => ?_
    unfold pidL at h
    rw [h1, if_pos rfl] at h
    exact h
  have HRl : Hid (∀ W, Below w.heap.size w W → Rd W W.heap.size A l) := fun W hW => (by_below hi.out hW).2.2.2.1
  have HAn : Hid (A = none → l.length = 0 ∧ dc = 0) := hi.out.2.2.2.2
  have HDl : Hid (dn = l.length) := hi.out.1
  have HLL : Hid (l.length ≤ 1000) := by
    have := hi.out.1
    rcases (hop_zero hz).2.2 with ⟨_, h, _⟩ | ⟨_, _, h, _⟩ | ⟨h, _⟩
    · have := (msgN_zero h).2.2
      show _ ≤ _
      omega
    · show _ ≤ _
      omega
    · omega
  have HLT : Hid (∀ z ∈ idL i, z < 256) := bytK_lt i 4
  have HL2 := Lib.hid hi.out.2.2.2.1.1
  have HI6 := Lib.hid (idL_len i)
  obtain ⟨L, hL⟩ : ∃ L, idL i = L := ⟨_, rfl⟩
  rw [hL] at HM HLT HI6 ⊢
  rw [byts2 hn]
  have h1 : n / 256 ≤ 255 := by omega
  have h2 : n % 256 ≤ 255 := by omega
  obtain ⟨x, hx⟩ : ∃ x, n / 256 = x := ⟨_, rfl⟩
  obtain ⟨y, hy⟩ : ∃ y, n % 256 = y := ⟨_, rfl⟩
  rw [hx] at h1 ⊢
  rw [hy] at h2 ⊢
  have e1 : (n : Int) / 256 = (x : Int) := by omega
  have e2 : (n : Int) % 256 = (y : Int) := by omega
  have e3 : (x : Int) % 256 = (x : Int) := by omega
  have e4 : (y : Int) % 256 = (y : Int) := by omega
  have hk8 : K ≤ 255 := by omega
  have r0 := wrap8i hk8
  have g4 : ((K : Int) == 4) = false := beq_eq_false_iff_ne.mpr (by omega)
  clear hL hx hy hz hi hn hK
  obtain ⟨o, d, ee, c⟩ := i
  simp only [hopC, msgC, idC, Hx] at HK HB0 HX HM ⊢
  go_enter Try.func12, Try.ntmps12
  go_wp2_with (first
    | (go_at_call 13; refine (HK.out _ HB0.out).mono ?_; rintro e w1 ⟨rfl, b1⟩; obtain ⟨W0, hW0⟩ : ∃ W0, w.alloc (.cells #[.int .i64 K, .int .i64 n, .int .i64 o, .int .i64 d, .int .i64 ee, .int .i64 c, .slice A dn dc, .slice B 0 cc] 29 (0, 0)) = W0 := ⟨_, rfl⟩; rw [hW0] at HX b1 HB0; obtain ⟨⟨x0, x1, x2, x3, x4, x5, x6, x7⟩, bw⟩ := HX.out w1 b1.out; have hbv : Below W0.heap.size W0 (w1.alloc (.cells #[.int .u8 K] 5)) := b1.out.alloc b1.out.size _; obtain ⟨⟨y0, y1, y2, y3, y4, y5, y6, y7⟩, bv⟩ := HX.out _ hbv; have HBV := Lib.hid hbv; clear hbv hW0; have HO2 : Hid (Me.Own (w1.alloc (.cells #[.int .u8 K] 5)) W0.heap.size (.slice (some ⟨w1.heap.size, 0, none⟩) 1 1) [K]) := own_base (own_lit w1 [K] (by simp)) (fun k e => by cases e; exact b1.out.size))
    | (at_builtin; refine app8 rfl (.tmp 37) (.tmp 46) rfl W0.heap.size (w1.heap.size + 1 + 1) _ [K] [x, y] rfl (HO2.out.alloc _) (Me.below_alloc HBV.out) (Nat.le_trans HBV.out.size (by simp)) (some ⟨w1.heap.size + 1, 0, none⟩) 2 rfl (by have h := rd_lit (w := w1.alloc (.cells #[.int .u8 K] 5)) (r := [x, y]) (by simp; omega) 5; rw [World.size_alloc] at h; exact h) (fun h => by cases h) (by simp) ?_; intro v3 w3 ho3 hb3 _; obtain ⟨A3, c3, rfl, _, _, _⟩ := ho3.held (fun z hz => by simp at hz; omega); obtain ⟨⟨z0, z1, z2, z3, z4, z5, z6, z7⟩, bz⟩ := HX.out _ hb3; have HO3 := Lib.hid ho3; have HB3 := Lib.hid hb3; clear ho3 hb3)
    | (go_at_call 41; refine (HM.out w3 bz).mono ?_; rintro e w4 h4; obtain ⟨A4, c4, rfl, HR4, HN4, b4⟩ := owp_held h4 HLT.out; have HB4 : Hid (Below W0.heap.size W0 w4) := HB3.out.trans (b4.out.mono HB3.out.size); obtain ⟨⟨u0, u1, u2, u3, u4, u5, u6, u7⟩, bu⟩ := HX.out _ HB4.out; have HO4 : Hid (Me.Own w4 W0.heap.size (.slice A3 ([K] ++ [x, y]).length c3) ([K] ++ [x, y])) := own_belowV HO3.out b4.out)
    | (at_builtin; refine app8 rfl (.tmp 55) (.tmp 56) rfl W0.heap.size w4.heap.size _ ([K] ++ [x, y]) L rfl HO4.out HB4.out HB4.out.size A4 c4 rfl HR4.out HN4.out (by have := HI6.out; simp; omega) ?_; intro v5 w5 ho5 hb5 _; obtain ⟨A5, c5, rfl, _, _, _⟩ := ho5.held (fun z hz => by rw [List.mem_append] at hz; exact hz.elim (fun h => by simp at h; omega) (HLT.out z)); obtain ⟨⟨t0, t1, t2, t3, t4, t5, t6, t7⟩, bt⟩ := HX.out _ hb5; have HO5 := Lib.hid ho5; have HB5 := Lib.hid hb5; clear ho5 hb5)
    | (at_builtin; refine app8 rfl (.tmp 58) (.tmp 61) rfl W0.heap.size w5.heap.size _ ([K] ++ [x, y] ++ L) l rfl HO5.out HB5.out HB5.out.size A dc (by rw [← HDl.out]; rfl) (HRl.out _ bt) HAn.out (by have := HI6.out; have := HLL.out; simp; omega) ?_; intro v6 w6 ho6 hb6 _; obtain ⟨A6, c6, rfl, _, _, _⟩ := ho6.held (fun z hz => by rw [List.mem_append, List.mem_append] at hz; exact hz.elim (fun h => h.elim (fun h => by simp at h; omega) (HLT.out z)) (HL2.out z)); have HO6 := Lib.hid ho6; have HB6 := Lib.hid hb6; clear ho6 hb6))
  go_ret2
  have e5 : ([K] ++ [x, y] ++ L ++ l) = K :: x :: y :: (L ++ l) := (by simp)
  have e6 : (K :: x :: y :: (L ++ l)).length = L.length + l.length + 1 + 1 + 1 := (by simp)
  have ho := HO6.out
  rw [e5] at ho
  rw [e6] at ho
  exact ⟨A6, c6, congrArg (fun x => Ending.returned (Value.tuple #[.slice A6 x c6, .int .i64 0])) e6.symm, by rw [e6]; exact own_base ho (fun k e => Nat.le_trans HB0.out.size (ho.lt k e).1), HB0.out.trans (HB6.out.mono HB0.out.size)⟩
theorem RPut_any (hi : Hid (BySlice w A dn dc l)) (hr : Hid (Mi.Rd w w.heap.size B cs)) (hc : cs.length ≤ 9223372036854775806) :
    Calls Try.prog 12 #[.agg (hopC k n i A dn dc B cs.length cc)] w (OwP (putH k n i l cs) (hopN k n i dn cs) w) := by
  have hd := hi.out.1
  by_cases hz : hopN k n i dn cs = 0
  · obtain ⟨h1, h2, h3⟩ := hop_zero hz
    obtain ⟨m, rfl⟩ := Int.eq_ofNat_of_zero_le h1
    unfold putH
    rw [← hd, hz, if_neg (by simp)]
    rcases h3 with ⟨rfl, _, rfl⟩ | ⟨rfl | rfl, _, h0, rfl⟩ | ⟨rfl, _, _, _, h4, h5⟩
    · rw [if_neg (by decide), if_pos rfl]
      have := RPut_named i A dn dc l B cc w 1 m hi (by omega) (.inl rfl) hz
      rw [List.append_assoc] at this
      exact this
    · rw [if_neg (by decide), if_neg (by decide)]
      have := RPut_named i A dn dc l B cc w 2 m hi (by omega) (.inr (.inl rfl)) hz
      rw [List.eq_nil_of_length_eq_zero (hd.symm.trans h0), List.append_nil] at this
      exact this
    · rw [if_neg (by decide), if_neg (by decide)]
      have := RPut_named i A dn dc l B cc w 3 m hi (by omega) (.inr (.inr rfl)) hz
      rw [List.eq_nil_of_length_eq_zero (hd.symm.trans h0), List.append_nil] at this
      exact this
    · rw [if_pos rfl, h4]
      exact RPut_routes m i A dn dc l B cs cc w hi hr h4 hz h5
  · refine (RPut_no k n i A dn dc l B cs cc w hi hr hc hz).mono fun e w' ⟨he, hb⟩ => ?_
    unfold putH
    rw [← hd, if_pos hz]
    exact ⟨none, 0, he, Own.nil _ _, hb⟩
end
end Go.Proofs.Ytohfoieibgmmdaa.Hp
