/- The document's Get of a word. -/
import Derived.Test.YtohfoieibgmmdaaZ16
import Derived.Test.YtohfoieibgmmdaaHpGet
import Derived.Test.YtohfoieibgmmdaaZ17
namespace Go.Proofs.Ytohfoieibgmmdaa.Hp
open Go.RowKit Go.Shelf
open Go.Proofs.Ytohfoieibgmmdaa.Me Go.Proofs.Ytohfoieibgmmdaa.Sb Go.Proofs.Ytohfoieibgmmdaa.Mg Go.Proofs.Ytohfoieibgmmdaa.Ba Go.Proofs.Ytohfoieibgmmdaa.Ma Go.Proofs.Ytohfoieibgmmdaa.Bt
set_option linter.unusedVariables false
set_option linter.unusedSimpArgs false


theorem guess_any (A : Option Addr) (n cap : Nat) (l : List Nat) (k : Nat) (w : World) (hi : Hid (BySlice w A n cap l)) (hm : l.length ≤ 1048576) :
    Calls Try.prog 46 #[.slice A n cap, .int .i64 (k : Int)] w (AnsW (gsW l k) w) := by
  by_cases h4 : k = 4
  · subst h4
    exact guess_routes A n cap l w hi hm
  · by_cases h9 : 9 ≤ l.length
    · exact guess_named A n cap l k w hi h4 h9 hm
    · exact guess_no A n cap l k w hi h4 (by omega)
theorem gs_k (l : List Nat) (k : Nat) : (gsW l k).k = k ∧ (gsW l k).e = 0 := by
  unfold gsW
  split
  · rename_i h
    exact ⟨h.symm, rfl⟩
  · split <;> exact ⟨rfl, rfl⟩
theorem gs_lt {l : List Nat} (hl : ∀ z ∈ l, z < 256) (k : Nat) : ∀ z ∈ (gsW l k).p, z < 256 := by
  unfold gsW
  split
  · simp
  · split
    · exact fun z hz => hl z (List.mem_of_mem_drop hz)
    · simp
theorem gs_cs (l : List Nat) (k : Nat) : (gsW l k).cs.length ≤ l.length := by
  unfold gsW
  split
  · simp [intL]
  · split <;> simp
/-- Is the guess of a kind the word of the bytes? -/
def hitB (l : List Nat) (k : Nat) : Bool := hopN (gsW l k).k (gsW l k).n (gsW l k).i (gsW l k).p.length (gsW l k).cs == 0 && eqS (putH (gsW l k).k (gsW l k).n (gsW l k).i (gsW l k).p (gsW l k).cs) l
theorem hit_gt {l : List Nat} {k : Nat} (hl : ∀ z ∈ l, z < 256) (h : hitB l k = true) : gtW l = gsW l k := by
  simp only [hitB, Bool.and_eq_true, beq_iff_eq] at h
  refine gs_hit hl h.1 ?_
  have h2 := h.2
  unfold eqS at h2
  refine strOf_inj (putH_lt (gs_lt hl k)) hl ?_
  have := eq_of_beq h2
  unfold strOf at this ⊢
  have h3 : ∀ a b : ByteArray, a.toList = b.toList → a = b := fun a b e => by
    rw [Lib.toList_data, Lib.toList_data] at e
    obtain ⟨⟨a⟩⟩ := a
    obtain ⟨⟨b⟩⟩ := b
    exact congrArg (fun x : List UInt8 => (⟨⟨x⟩⟩ : ByteArray)) e
  exact h3 _ _ this
theorem no_hit {l : List Nat} (hl : ∀ z ∈ l, z < 256) (h : ∀ k, 1 ≤ k → k ≤ 4 → hitB l k = false) : gtW l = Wd0 := by
  have he : (gtW l).e ≠ 0 := by
    intro e
    obtain ⟨h1, h2, h3⟩ := get_pt hl e
    have hk := (hop_zero h1).2.2
    have hb := h (gtW l).k (by omega) (by omega)
    unfold hitB at hb
    rw [gs_of hl e, h1, h2, eqS_self] at hb
    cases hb
  unfold gtW at he ⊢
  split
  · rename_i hc
    rw [if_pos hc] at he
    simp only [Wd.ok, Bool.and_eq_true, beq_iff_eq] at hc
    exact absurd hc.1 he
  · rfl
set_option maxRecDepth 100000 in
set_option maxHeartbeats 2000000 in
theorem RGet_any (A : Option Addr) (n cap : Nat) (l : List Nat) (w : World) (hi : Hid (BySlice w A n cap l)) (hm : l.length ≤ 1048576) :
    Calls Try.prog 16 #[.slice A n cap] w (Ans (gtW l) w) := by
  have HLz : Hid (∀ z ∈ l, z < 256) := hi.out.2.2.2.1.1
  have HGU := Lib.hid (fun (k : Nat) W (hW : Below w.heap.size w W) => guess_any A n cap l k W (by_below hi.out hW) hm)
  have HBy : Hid (∀ W, Below w.heap.size w W → BySlice W A n cap l) := fun W hW => by_below hi.out hW
  have HPP := Lib.hid (fun (x : Wd) (A2 : Option Addr) (c2 : Nat) (B2 : Option Addr) (d2 : Nat) W (h1 : Hid (BySlice W A2 x.p.length c2 x.p)) (h : Hid (Mi.Rd W W.heap.size B2 x.cs)) (hx : x.cs.length ≤ 1048576) => RPut_any x.k x.n x.i A2 x.p.length c2 x.p B2 x.cs d2 W h1 h (by omega))
  have HZi := heap_alloc_new w (.cells #[.int .i64 0, .int .i64 0, .int .i64 0, .int .i64 0, .int .i64 0, .int .i64 0, .slice none 0 0, .slice none 0 0] 29)
  have HBi := Me.below_alloc (o := .cells #[.int .i64 0, .int .i64 0, .int .i64 0, .int .i64 0, .int .i64 0, .int .i64 0, .slice none 0 0, .slice none 0 0] 29) (Below.refl w.heap.size w)
  obtain ⟨W0, hW0⟩ : ∃ W, w.alloc (.cells #[.int .i64 0, .int .i64 0, .int .i64 0, .int .i64 0, .int .i64 0, .int .i64 0, .slice none 0 0, .slice none 0 0] 29 (0, 0)) = W := ⟨_, rfl⟩
  have HW0 := Lib.hid hW0
  rw [hW0] at HZi HBi
  have HZ0 := Lib.hid HZi
  have HB0 := Lib.hid HBi
  have HM := Lib.hid hm
  clear hi hW0 HZi HBi hm
  go_enter Try.func16, Try.ntmps16
  go_wp2_with (rw [HW0.out])
  go_loopw [4] (fun v wr => ∃ j : Nat, 1 ≤ j ∧ j ≤ 5 ∧ v = .int .i64 j ∧ Hid (∀ k, 1 ≤ k → k < j → hitB l k = false) ∧ Hid (wr.heap[w.heap.size]? = some (.cells #[.int .i64 0, .int .i64 0, .int .i64 0, .int .i64 0, .int .i64 0, .int .i64 0, .slice none 0 0, .slice none 0 0] 29 (0, 0))) ∧ Hid (Below w.heap.size w wr)) (fun v _ => 5 - (intOf v).toNat)
  case atStart => exact ⟨1, by omega, by omega, rfl, fun k h1 h2 => by omega, HZ0.out, HB0.out⟩
  case round =>
    obtain ⟨j, h1j, hj5, rfl, HN, HZ, HB⟩ := hrel
    clear HZ0 HB0
    by_cases h4 : j ≤ 4
    · obtain ⟨x, hx⟩ : ∃ x, gsW l j = x := ⟨_, rfl⟩
      have HGJ : Hid (Calls Try.prog 46 #[.slice A n cap, .int .i64 (j : Int)] wr (AnsW x wr)) := by rw [← hx]; exact HGU.out j wr HB.out
      have HXL : Hid (∀ z ∈ x.p, z < 256) := by rw [← hx]; exact gs_lt HLz.out j
      have hxk := (gs_k l j).2
      have HCS : Hid (x.cs.length ≤ 1048576) := by rw [← hx]; exact Nat.le_trans (gs_cs l j) HM.out
      obtain ⟨hb, hhb⟩ : ∃ b, hitB l j = b := ⟨_, rfl⟩
      have HH := Lib.hid hhb
      unfold hitB at hhb
      have HHG : Hid (hb = true → gtW l = x) := fun e => by rw [← hx]; exact hit_gt HLz.out (HH.out.trans e)
      rw [hx] at hhb hxk
      have HPX := Lib.hid (fun A2 c2 B2 d2 W h1 h2 => HPP.out x A2 c2 B2 d2 W h1 h2 HCS.out)
      clear hx HGU HPP
      obtain ⟨xk, xn, ⟨o, d, ee, c⟩, p, cs, e0⟩ := x
      simp only at HXL HCS hhb hxk HPX
      subst hxk
      have HPL := Lib.hid (putH_lt (k := (xk : Int)) (n := (xn : Int)) (i := ⟨o, d, ee, c⟩) (cs := cs) HXL.out)
      obtain ⟨q, hq⟩ : ∃ q, putH (xk : Int) (xn : Int) ⟨o, d, ee, c⟩ p cs = q := ⟨_, rfl⟩
      obtain ⟨z, hz⟩ : ∃ z, hopN (xk : Int) (xn : Int) ⟨o, d, ee, c⟩ p.length cs = z := ⟨_, rfl⟩
      simp only [hq, hz] at hhb HPX HPL
      unfold OwP at HPX
      unfold AnsW at HGJ
      simp only [hopC] at HPX HGJ
      clear hq hz
      have hj4 : (j : Int) ≤ 4 := by omega
      unfold eqS at hhb
      obtain ⟨sq, hsq⟩ : ∃ s, strOf q = s := ⟨_, rfl⟩
      obtain ⟨sl, hsl⟩ : ∃ s, strOf l = s := ⟨_, rfl⟩
      have HKL : Hid (∀ W, Below w.heap.size w W → (convert 24 9 (.slice A n cap)).run Try.prog W = .ok (.string sl) W) := fun W hW => by rw [← hsl]; exact conv_by (HBy.out W hW)
      have HKQ : Hid (∀ A2 c2 W B, Me.Own W B (.slice A2 q.length c2) q → (convert 24 9 (.slice A2 q.length c2)).run Try.prog W = .ok (.string sq) W) := fun A2 c2 W B h => by rw [← hsq]; exact conv_own h HPL.out (Below.refl _ _)
      rw [hsq, hsl] at hhb
      clear hsq hsl HBy
      by_cases hz0 : z = 0
      · subst hz0
        rw [show ((0 : Nat) == 0) = true from rfl, Bool.true_and] at hhb
        rw [show ((0 : Nat) : Int) = 0 from rfl] at HPX
        go_wp2_with (first
          | (go_at_call 46; refine HGJ.out.mono ?_; rintro e w1 ⟨A1, c1, B1, d1, rfl, ho1, hi1, hb1⟩; obtain ⟨W2, hW2⟩ : ∃ W, w1.alloc (.cells #[.int .i64 (xk : Int), .int .i64 (xn : Int), .int .i64 o, .int .i64 d, .int .i64 ee, .int .i64 c, .slice A1 p.length c1, .slice B1 cs.length d1] 29 (0, 0)) = W := ⟨_, rfl⟩; have HW2 := Lib.hid hW2; have hb12 : Below w1.heap.size w1 W2 := (by rw [← hW2]; exact Me.below_alloc (Below.refl _ _)); have hg2 : W2.heap[w1.heap.size]? = some (.cells #[.int .i64 (xk : Int), .int .i64 (xn : Int), .int .i64 o, .int .i64 d, .int .i64 ee, .int .i64 c, .slice A1 p.length c1, .slice B1 cs.length d1] 29 (0, 0)) := (by rw [← hW2]; exact heap_alloc_new w1 _); clear hW2; have HO2 : Hid (Me.Own W2 wr.heap.size (.slice A1 p.length c1) p) := own_belowV ho1.out hb12; have HI2 : Hid (Mi.Own W2 wr.heap.size (.slice B1 cs.length d1) cs) := hi1.out.below hb12; have HB2 : Hid (Below wr.heap.size wr W2) := hb1.out.trans (hb12.mono hb1.out.size); have HG2 := Lib.hid hg2; obtain ⟨q0, q1, q2, q3, q4, q5, q6, q7⟩ := hx_row (i := ⟨o, d, ee, c⟩) hg2; have HYS2 : Hid (BySlice W2 A1 p.length c1 p) := (own_bs HO2.out HXL.out rfl).2; have HR2 := own_riG HI2.out; clear hg2 hb12)
          | (rw [HW2.out])
          | (go_at_call 12; refine (HPX.out A1 c1 B1 d1 W2 HYS2 HR2).mono ?_; rintro e w3 ⟨A3, c3, rfl, ho3, hb3⟩; have HG3 : Hid (w3.heap[w1.heap.size]? = some (.cells #[.int .i64 (xk : Int), .int .i64 (xn : Int), .int .i64 o, .int .i64 d, .int .i64 ee, .int .i64 c, .slice A1 p.length c1, .slice B1 cs.length d1] 29 (0, 0))) := (hb3.out.block _ (Array.getElem?_eq_some_iff.1 HG2.out).1).trans HG2.out; have HBw : Hid (Below wr.heap.size wr w3) := HB2.out.trans (hb3.out.mono HB2.out.size); have HZ3 : Hid (w3.heap[w.heap.size]? = some (.cells #[.int .i64 0, .int .i64 0, .int .i64 0, .int .i64 0, .int .i64 0, .int .i64 0, .slice none 0 0, .slice none 0 0] 29 (0, 0))) := (HBw.out.block _ (Array.getElem?_eq_some_iff.1 HZ.out).1).trans HZ.out; have HB3 : Hid (Below w.heap.size w w3) := HB.out.trans (HBw.out.mono HB.out.size); have k1 := HKQ.out A3 c3 w3 _ ho3.out; have k2 := HKL.out w3 HB3.out)
          | (refine wpList_load_row rfl 29 (.tmp 5) rfl w1.heap.size rfl 29 _ (0, 0) _ HG3.out Try.underlying29 rfl (by kernel_rfl) ?_)
          | (refine wpList_store_row rfl 29 (.tmp 2) (.tmp 29) rfl w.heap.size #[.int .i64 (xk : Int), .int .i64 (xn : Int), .int .i64 o, .int .i64 d, .int .i64 ee, .int .i64 c, .slice A1 p.length c1, .slice B1 cs.length d1] rfl rfl 29 _ HZ3.out (by kernel_rfl) rfl (hop_one _ _ _ _ _ _ _ _ _ _ _ _) ?_))
        · have hbt : hb = true := by assumption
          rw [HHG.out hbt]
          refine Mg.ret_box2 (g := w.heap.size) rfl (by rfl) (setRow_heap _ _ _ _ _ _ HZ3.out) rfl Try.underlying29 (by kernel_rfl) rfl ⟨A1, c1, B1, d1, rfl, ?_, ?_, Sb.below_setRow _ HB3.out (Nat.le_refl _)⟩
          · have h5 : Me.Own w3 wr.heap.size (.slice A1 p.length c1) p := own_belowV HO2.out hb3.out
            refine own_same (own_base h5 fun y e => Nat.le_trans HB.out.size (World.ownsRow.lt h5 y e).1) fun y e hy => setRow_other _ _ y _ ?_
            have h1 := (World.ownsRow.lt h5 y e).1
            have h2 := (Array.getElem?_eq_some_iff.1 HZ.out).1
            omega
          · have h5 : Mi.Own w3 wr.heap.size (.slice B1 cs.length d1) cs := HI2.out.below hb3.out
            refine (h5.base fun y e => Nat.le_trans HB.out.size (World.ownsRow.lt h5 y e).1).same fun y e hy => setRow_other _ _ y _ ?_
            have h1 := (World.ownsRow.lt h5 y e).1
            have h2 := (Array.getElem?_eq_some_iff.1 HZ.out).1
            omega
        · have hbf : hb = false := by first | assumption | exact Bool.eq_false_iff.2 (by assumption)
          exact ⟨⟨j + 1, by omega, by omega, by go_num, fun k h1 h2 => by
            rcases Nat.lt_or_ge k j with h | h
            · exact HN.out k h1 h
            · obtain rfl : k = j := by omega
              exact HH.out.trans hbf, HZ3.out, HB3.out⟩, by simp [intOf]; omega⟩
      · have hz2 := nz hz0
        have HZN : Hid (hb = false) := by show _ = _; rw [← hhb, beq_eq_false_iff_ne.2 hz0, Bool.false_and]
        clear hhb
        go_wp2_with (first
          | (go_at_call 46; refine HGJ.out.mono ?_; rintro e w1 ⟨A1, c1, B1, d1, rfl, ho1, hi1, hb1⟩; obtain ⟨W2, hW2⟩ : ∃ W, w1.alloc (.cells #[.int .i64 (xk : Int), .int .i64 (xn : Int), .int .i64 o, .int .i64 d, .int .i64 ee, .int .i64 c, .slice A1 p.length c1, .slice B1 cs.length d1] 29 (0, 0)) = W := ⟨_, rfl⟩; have HW2 := Lib.hid hW2; have hb12 : Below w1.heap.size w1 W2 := (by rw [← hW2]; exact Me.below_alloc (Below.refl _ _)); have hg2 : W2.heap[w1.heap.size]? = some (.cells #[.int .i64 (xk : Int), .int .i64 (xn : Int), .int .i64 o, .int .i64 d, .int .i64 ee, .int .i64 c, .slice A1 p.length c1, .slice B1 cs.length d1] 29 (0, 0)) := (by rw [← hW2]; exact heap_alloc_new w1 _); clear hW2; have HO2 : Hid (Me.Own W2 wr.heap.size (.slice A1 p.length c1) p) := own_belowV ho1.out hb12; have HI2 : Hid (Mi.Own W2 wr.heap.size (.slice B1 cs.length d1) cs) := hi1.out.below hb12; have HB2 : Hid (Below wr.heap.size wr W2) := hb1.out.trans (hb12.mono hb1.out.size); have HG2 := Lib.hid hg2; obtain ⟨q0, q1, q2, q3, q4, q5, q6, q7⟩ := hx_row (i := ⟨o, d, ee, c⟩) hg2; have HYS2 : Hid (BySlice W2 A1 p.length c1 p) := (own_bs HO2.out HXL.out rfl).2; have HR2 := own_riG HI2.out; clear hg2 hb12)
          | (rw [HW2.out])
          | (go_at_call 12; refine (HPX.out A1 c1 B1 d1 W2 HYS2 HR2).mono ?_; rintro e w3 ⟨A3, c3, rfl, ho3, hb3⟩; have HG3 : Hid (w3.heap[w1.heap.size]? = some (.cells #[.int .i64 (xk : Int), .int .i64 (xn : Int), .int .i64 o, .int .i64 d, .int .i64 ee, .int .i64 c, .slice A1 p.length c1, .slice B1 cs.length d1] 29 (0, 0))) := (hb3.out.block _ (Array.getElem?_eq_some_iff.1 HG2.out).1).trans HG2.out; have HBw : Hid (Below wr.heap.size wr w3) := HB2.out.trans (hb3.out.mono HB2.out.size); have HZ3 : Hid (w3.heap[w.heap.size]? = some (.cells #[.int .i64 0, .int .i64 0, .int .i64 0, .int .i64 0, .int .i64 0, .int .i64 0, .slice none 0 0, .slice none 0 0] 29 (0, 0))) := (HBw.out.block _ (Array.getElem?_eq_some_iff.1 HZ.out).1).trans HZ.out; have HB3 : Hid (Below w.heap.size w w3) := HB.out.trans (HBw.out.mono HB.out.size); have k1 := HKQ.out A3 c3 w3 _ ho3.out; have k2 := HKL.out w3 HB3.out)
          | (refine wpList_load_row rfl 29 (.tmp 5) rfl w1.heap.size rfl 29 _ (0, 0) _ HG3.out Try.underlying29 rfl (by kernel_rfl) ?_)
          | (refine wpList_store_row rfl 29 (.tmp 2) (.tmp 29) rfl w.heap.size #[.int .i64 (xk : Int), .int .i64 (xn : Int), .int .i64 o, .int .i64 d, .int .i64 ee, .int .i64 c, .slice A1 p.length c1, .slice B1 cs.length d1] rfl rfl 29 _ HZ3.out (by kernel_rfl) rfl (hop_one _ _ _ _ _ _ _ _ _ _ _ _) ?_))
        exact ⟨⟨j + 1, by omega, by omega, by go_num, fun k h1 h2 => by
          rcases Nat.lt_or_ge k j with h | h
          · exact HN.out k h1 h
          · obtain rfl : k = j := by omega
            exact HH.out.trans HZN.out, HZ3.out, HB3.out⟩, by simp [intOf]; omega⟩
    · obtain rfl : j = 5 := by omega
      have HNN := Lib.hid (no_hit HLz.out fun k h1 h2 => HN.out k h1 (by omega))
      have h5 : ¬ ((5 : Nat) : Int) ≤ 4 := by omega
      have h5' : (4 : Int) < ((5 : Nat) : Int) := by omega
      go_wp2_with (refine wpList_store_row rfl 29 (.tmp 2) (.tmp 30) rfl w.heap.size #[.int .i64 0, .int .i64 0, .int .i64 0, .int .i64 0, .int .i64 0, .int .i64 0, .slice none 0 0, .slice none 0 0] rfl rfl 29 _ HZ.out (by kernel_rfl) rfl (hop_one _ _ _ _ _ _ _ _ _ _ _ _) ?_)
      rw [HNN.out]
      exact Mg.ret_box2 (g := w.heap.size) rfl (by rfl) (setRow_heap _ _ _ _ _ _ HZ.out) rfl Try.underlying29 (by kernel_rfl) rfl (Ans.no rfl rfl rfl (Sb.below_setRow _ HB.out (Nat.le_refl _)))
end Go.Proofs.Ytohfoieibgmmdaa.Hp
/- The law HopGets. -/
namespace Go.Proofs.Ytohfoieibgmmdaa.Hp
open Go.RowKit Go.Shelf
open Go.Proofs.Ytohfoieibgmmdaa.Me Go.Proofs.Ytohfoieibgmmdaa.Sb Go.Proofs.Ytohfoieibgmmdaa.Mg
set_option linter.unusedVariables false
set_option linter.unusedSimpArgs false

set_option maxRecDepth 100000 in
set_option maxHeartbeats 4000000 in
theorem gets (A : Option Addr) (n c : Nat) (l : List Nat) (w : World) (hi : MsIn w A n c l) (hm : l.length ≤ 1048576) : Calls Try.prog 4 #[.slice A n c] w fun e w' => e = .returned (.bool true) ∧ Below w.heap.size w w' := by
  obtain rfl : n = l.length := hi.1.1
  have HI := Lib.hid hi
  have HLb : Hid (∀ z ∈ l, z < 256) := hi.1.2.2.2.1.1
  have HLN : Hid (([] : List Nat).length + l.length ≤ 140737488355328) := by
    show 0 + _ ≤ _
    omega
  have HG := Lib.hid (fun (A1 : Option Addr) (c1 : Nat) W (h : Hid (BySlice W A1 l.length c1 l)) => Get_any A1 l.length c1 l W h)
  have HRG := Lib.hid (fun (A1 : Option Addr) (c1 : Nat) W (h : Hid (BySlice W A1 l.length c1 l)) => RGet_any A1 l.length c1 l W h hm)
  have HML := Lib.hid (gt_lt hi.1.2.2.2.1.1)
  have HCS := gt_cs l
  unfold Ans at HG HRG
  obtain ⟨x, hx⟩ : ∃ x, gtW l = x := ⟨_, rfl⟩
  simp only [hx] at HG HRG HML HCS
  clear hi hx hm
  obtain ⟨xk, xn, ⟨o, dd, ee, cc⟩, p, cs, z⟩ := x
  simp only at HG HRG HML HCS
  have HS := Lib.hid (fun (A1 A2 : Option Addr) (c1 c2 : Nat) (B1 B2 : Option Addr) (d1 d2 : Nat) W (h1 : Hid (BySlice W A1 p.length c1 p)) (h2 : Hid (BySlice W A2 p.length c2 p)) (h3 : Hid (Mi.Rd W W.heap.size B1 cs)) (h4 : Hid (Mi.Rd W W.heap.size B2 cs)) => RSame_self xk xn ⟨o, dd, ee, cc⟩ A1 c1 p B1 d1 cs A2 c2 B2 d2 W h1 h2 h3 h4 (by omega))
  clear HCS
  simp only [hopC] at HG HRG HS
  go_enter Try.func4, Try.ntmps4
  go_wp2_with (first
    | (at_builtin; refine app8 rfl (.tmp 9) (.tmp 10) rfl w.heap.size w.heap.size _ [] l rfl (Own.lit (Below.refl _ _)) (Me.below_alloc (Below.refl _ _)) (by simp) A c rfl ((HI.out.1.2.2.2.1).below (Me.below_alloc (Below.refl _ _))) HI.out.1.2.2.2.2 HLN.out ?_; intro v1 w1 ho1 hb1 _; rw [List.nil_append] at ho1; obtain ⟨A1, c1, rfl, p1, p2, _⟩ := ho1.held HLb.out; have HO1 := Lib.hid ho1; have HB1 := Lib.hid hb1; have HY1 := Lib.hid (Mg.own_by ho1 HLb.out); clear ho1 hb1 p1 p2)
    | (go_at_call 15; refine (HG.out A1 c1 _ HY1).mono ?_; rintro e w2 ⟨A2, c2, B2, d2, rfl, HO2, HC2, HB2⟩))
  obtain ⟨V3, hV3⟩ : ∃ V, w2.alloc (.cells #[.int .i64 (xk : Int), .int .i64 (xn : Int), .int .i64 o, .int .i64 dd, .int .i64 ee, .int .i64 cc, .slice A2 p.length c2, .slice B2 cs.length d2] 29) = V := ⟨_, rfl⟩
  rw [hV3]
  have k12 := HB2.out.size
  have e1 : V3.heap[w2.heap.size]? = some (.cells #[.int .i64 (xk : Int), .int .i64 (xn : Int), .int .i64 o, .int .i64 dd, .int .i64 ee, .int .i64 cc, .slice A2 p.length c2, .slice B2 cs.length d2] 29 (0, 0)) := by
    rw [← hV3]
    exact heap_alloc_new w2 _
  have b23 : Below w2.heap.size w2 V3 := by rw [← hV3]; exact Me.below_alloc (Below.refl _ _)
  have b13 : Below w1.heap.size w1 V3 := HB2.out.trans (b23.mono k12)
  have b03 : Below w.heap.size w V3 := HB1.out.trans (b13.mono HB1.out.size)
  have o2 : Own V3 w1.heap.size (.slice A2 p.length c2) p := own_same HO2.out fun k _ hk => b23.block k hk
  have i2 : Mi.Own V3 w1.heap.size (.slice B2 cs.length d2) cs := HC2.out.below b23
  have hlt1 : ∀ k, (Value.slice A1 l.length c1).ownBlock = some k → w.heap.size ≤ k ∧ k < w1.heap.size := fun k e => HO1.out.lt k e
  have HGV : Hid (Giv V3 (.slice A1 l.length c1) l.length) := ⟨l, rfl, HLb.out, own_base (B' := 0) (own_same HO1.out fun k _ hk => b13.block k hk) fun _ _ => Nat.zero_le _⟩
  have HF : Hid (∀ W, But (fun k => (Value.slice A1 l.length c1).ownBlock = some k) V3 W → Below w.heap.size w W ∧ W.heap[w2.heap.size]? = some (.cells #[.int .i64 (xk : Int), .int .i64 (xn : Int), .int .i64 o, .int .i64 dd, .int .i64 ee, .int .i64 cc, .slice A2 p.length c2, .slice B2 cs.length d2] 29 (0, 0)) ∧ BySlice W A2 p.length c2 p ∧ BySlice W A l.length c l ∧ Mi.Rd W W.heap.size B2 cs) := fun W hW => by
    have hb := b03.trans (hW.below b03.size fun k e => (hlt1 k e).1)
    refine ⟨hb, hW.at_ e1 (fun e => ?_), Mg.own_by (own_same o2 fun k e hk => hW.same k hk fun e' => ?_) HML.out, by_below HI.out.1 hb, (own_ri (i2.same fun k e hk => hW.same k hk fun e' => ?_)).out⟩
    · have := hlt1 _ e; omega
    · have := (hlt1 k e').2; have := (o2.lt k e).1; omega
    · have := (hlt1 k e').2; have := (World.ownsRow.lt i2 k e).1; omega
  obtain ⟨E1, hE1⟩ : ∃ E, w2.heap.size = E := ⟨_, rfl⟩
  rw [hE1] at HF
  rw [hE1]
  clear hV3 k12 e1 b23 b13 b03 o2 i2 hlt1 hE1 HO1 HO2 HB1 HB2 HY1 HG HC2
  go_loopw [6] (fun i wr => ∃ k : Nat, k ≤ l.length ∧ i = .int .i64 k ∧ Hid (Giv wr (.slice A1 l.length c1) l.length) ∧ Hid (But (fun k => (Value.slice A1 l.length c1).ownBlock = some k) V3 wr)) (fun i _ => l.length - (intOf i).toNat)
  case atStart => exact ⟨0, Nat.zero_le _, rfl, HGV.out, But.refl _ _⟩
  case round =>
    obtain ⟨k, hk, rfl, HGW, HBT⟩ := hrel
    clear HGV
    by_cases hlt : k < l.length
    · obtain ⟨g, y, rfl, hy, hc1, hf1, hob⟩ := HGW.out.cell hlt
      have HOB := Lib.hid hob
      have ht := turn8 hy
      have HY : Hid (255 - y < 256) := by show _ < _; omega
      have ht2 : (255 - (y : Int)) % 256 = ((255 - y : Nat) : Int) := by omega
      have hL2 : l.length ≤ 140737488355328 := by have h := HLN.out; simpa using h
      have hkL : (k : Int) < (l.length : Int) := by omega
      clear hob
      go_wp2
      have HN : Hid (Giv (wr.setCell ⟨g, k, none⟩ (.int .u8 ((255 - y : Nat) : Int))) (.slice (some ⟨g, 0, none⟩) l.length c1) l.length) := Giv.put HGW.out HY.out
      have HT2 : Hid (But (fun k => (Value.slice (some ⟨g, 0, none⟩) l.length c1).ownBlock = some k) V3 (wr.setCell ⟨g, k, none⟩ (.int .u8 ((255 - y : Nat) : Int)))) := But.set (X := wr) HBT.out (.inl HOB.out) _
      go_roundw
      case rel => exact ⟨k + 1, by omega, by go_num, HN.out, HT2.out⟩
      case measure => simp [intOf]; omega
    · obtain rfl : k = l.length := by omega
      have HB0 := Lib.hid ((HF.out wr HBT.out).1)
      have HYr := Lib.hid ((HF.out wr HBT.out).2.2.2.1)
      have HFF : Hid (∀ W, Below wr.heap.size wr W → _) := fun W hW => HF.out W (HBT.out.trans (But.of_below (S := fun _ => False) hW) fun _ _ e => e.elim)
      clear hlt hk HGW HF
      go_wp2_with (first
        | (go_at_call 16; refine (HRG.out A c _ HYr).mono ?_; rintro e w4 ⟨A4, c4, B4, d4, rfl, HO4, HC4, HB4⟩
           obtain ⟨V5, hV5⟩ : ∃ V, w4.alloc (.cells #[.int .i64 (xk : Int), .int .i64 (xn : Int), .int .i64 o, .int .i64 dd, .int .i64 ee, .int .i64 cc, .slice A4 p.length c4, .slice B4 cs.length d4] 29) = V := ⟨_, rfl⟩
           have HV5 := Lib.hid hV5
           have hb45 : Below w4.heap.size w4 V5 := (by rw [← hV5]; exact Me.below_alloc (Below.refl _ _))
           have hR5 : V5.heap[w4.heap.size]? = some (.cells #[.int .i64 (xk : Int), .int .i64 (xn : Int), .int .i64 o, .int .i64 dd, .int .i64 ee, .int .i64 cc, .slice A4 p.length c4, .slice B4 cs.length d4] 29 (0, 0)) := (by rw [← hV5]; exact heap_alloc_new w4 _)
           have HB5 := Lib.hid (HB4.out.trans (hb45.mono HB4.out.size))
           obtain ⟨_, f1, HF2, _, HF3⟩ := HFF.out _ HB5.out
           obtain ⟨a0, a1, a2, a3, a4, a5, a6, a7⟩ := hx_row (i := ⟨o, dd, ee, cc⟩) f1
           obtain ⟨b0, b1, b2, b3, b4, b5, b6, b7⟩ := hx_row (i := ⟨o, dd, ee, cc⟩) hR5
           have HO5 := Lib.hid (Mg.own_by (own_belowV HO4.out hb45) HML.out)
           have HC5 := own_ri (HC4.out.below hb45)
           have HF2 := Lib.hid HF2
           have HF3 := Lib.hid HF3
           clear f1 hR5 hb45 hV5)
        | (rw [HV5.out])
        | (go_at_call 17; refine (HS.out A2 A4 c2 c4 B2 B4 d2 d4 _ HF2 HO5 HF3 HC5).mono ?_; rintro e w6 ⟨rfl, HB6⟩; have HB96 := Lib.hid (HB5.out.trans (HB6.out.mono HB5.out.size)))
        | (go_at_call 14; refine (awake_any _).mono ?_; rintro e w7 ⟨rfl, HB7⟩))
      go_ret
      exact ⟨rfl, HB0.out.trans ((HB96.out.trans (HB7.out.mono HB96.out.size)).mono HB0.out.size)⟩
theorem getsL (A : Option Addr) (n c : Nat) (l : List Nat) (w : World) (hi : BySlice w A n c l) (hc : c ≤ 1048576) : Calls Try.prog 4 #[.slice A n c] w fun e w' => e = .returned (.bool true) ∧ Below w.heap.size w w' := gets A n c l w ⟨hi, by omega⟩ (by have := hi.2.1; omega)
end Go.Proofs.Ytohfoieibgmmdaa.Hp
