/- The call Put of both lines. -/
import Derived.Test.YtcdpdijfgeeenaaLnPlay0
import Derived.Test.YtcdpdijfgeeenaaLnWholeW
namespace Go.Proofs.Ytcdpdijfgeeenaa.Li
open Go.RowKit
open Go.Proofs.Ytcdpdijfgeeenaa.Sb
set_option linter.unusedVariables false
set_option linter.unusedSimpArgs false

theorem Ba.alloc {w : World} {g : Nat} {k a n : Int} {R : Option Addr} {pn cr : Nat} (h : Ba w g k a n R pn cr) (o : Obj) : (w.alloc o).cell? ⟨g, 3, none⟩ = some (.slice R pn cr) :=
  (Ba.cells (show Ba (w.alloc o) g k a n R pn cr from (Below.heap_alloc w o g h.lt).trans h)).2.2.2
set_option maxRecDepth 100000 in
set_option maxHeartbeats 4000000 in
theorem play_put (M : Nat) (w : World) (D : Nat) (s : Ln) (A : Option Addr) (n c : Nat) (a m : Int) (R : Option Addr) (cr : Nat) (p : List Nat) (h : Hid (Lr M (fun _ => False) w D s)) (hr : Hid (RW w A n c (ways s))) (hp : Hid (Me.Rd w w.heap.size R p)) (hnil : Hid (R = none → p.length = 0 ∧ cr = 0)) (hpl : p.length ≤ 3000) :
    Calls Try.prog 10 #[.pointer (some ⟨D, 0, none⟩), .agg (lnV s.delay A n c), .agg (acV 0 a m R p.length cr)] w fun e w' => ∃ A' n' c', e = .returned (.tuple #[.agg (lnV s.delay A' n' c'), .bool true]) ∧ Hid (Pst M w D (putL s p) A' n' c' w') := by
  obtain ⟨w1, hw1, hB1, hBa, hB2, hsz, hb⟩ := three_bx w s.delay A n c 0 a m R p.length cr
  have HW1 := Lib.hid hw1
  have HBl := Lib.hid hB1
  have HBa := Lib.hid hBa
  have HZ := Lib.hid hB2
  have HSz := Lib.hid hsz
  have HBel := Lib.hid hb
  obtain ⟨a0, a1, a2, a3⟩ := hBa.cells
  have f3 := hBa.alloc (.cells #[] 5)
  have HO0 : Hid (Me.Own (w1.alloc (.cells #[] 5)) w1.heap.size (.slice (some ⟨w1.heap.size, 0, none⟩) 0 0) []) := Me.Own.lit (Below.refl _ w1)
  have HPR : Hid (∀ W, Below w.heap.size w W → Me.Rd W W.heap.size R p) := fun W hW => (hp.out.below hW).more hW.size
  have HLp : Hid (([] : List Nat).length + p.length ≤ 140737488355328) := by show _ ≤ _; simp; omega
  have HF2 : Hid (∀ W v, Me.Own W w1.heap.size v ([] ++ p) → ∃ A2 c2, v = .slice A2 p.length c2 ∧ Me.Own W w1.heap.size v p ∧ (A2 = none → p.length = 0 ∧ c2 = 0)) := fun W v h1 => by
    rw [List.nil_append] at h1
    obtain ⟨A2, c2, e, _, _, _, h4⟩ := own_read (Sb.own_base h1 fun _ _ => Nat.zero_le _) hp.out.1
    exact ⟨A2, c2, e, h1, h4⟩
  have HRd2 : Hid (∀ W A2 c2, Me.Own W 0 (.slice A2 p.length c2) p → Me.Rd W W.heap.size A2 p) := fun W A2 c2 h1 => by
    obtain ⟨A3, c3, e, _, _, h3, _⟩ := own_read h1 hp.out.1
    injection e with e1
    subst e1
    exact h3
  have HS : Hid (∀ W, RW W A n c (ways s) → Me.Rd W W.heap.size R p → Calls Try.prog 20 #[.agg (lnV s.delay A n c), .slice R p.length cr] W fun e w' => ∃ A' n' c', e = .returned (.tuple #[.agg (lnV s.delay A' n' c'), .int .i64 (putN s p : Int)]) ∧ Hid (RW w' A' n' c' (ways (putL s p))) ∧ Hid (Below W.heap.size W w')) := fun W h1 h2 => RPut_s h.out.ok A n c R cr p W h1 h2 (by omega)
  have HP : Hid (∀ O W A2 c2, Lr M O W D s → Me.Rd W W.heap.size A2 p → (A2 = none → p.length = 0 ∧ c2 = 0) → Calls Try.prog 14 #[.pointer (some ⟨D, 0, none⟩), .slice A2 p.length c2] W fun e w' => e = .returned (.int .i64 (putN s p : Int)) ∧ Hid (Lr M O w' D (putL s p)) ∧ Hid (But (Out M O) W w')) := fun O W A2 c2 hW h1 h2 => Put_s (Lib.hid hW) A2 p.length c2 p rfl h1 h2 (by omega)
  obtain ⟨E, hE⟩ : ∃ E : Int, ((putN s p : Nat) : Int) = E := ⟨_, rfl⟩
  rw [hE] at HS HP
  have HBt : Hid (∀ z ∈ p, z < 256) := hp.out.1
  obtain ⟨pl, hpl2⟩ : ∃ x, p.length = x := ⟨_, rfl⟩
  have HPL : Hid (p.length = pl) := hpl2
  rw [hpl2] at HW1 HBa a3 f3 HF2 HRd2 HS HP hpl hnil ⊢
  obtain ⟨dl, hdl⟩ : ∃ x, s.delay = x := ⟨_, rfl⟩
  rw [hdl] at HW1 HBl HS ⊢
  clear hw1 hB1 hBa hB2 hsz hb hE hdl hpl2
  go_enter Try.func10, Try.ntmps10
  go_wp2_with (first
    | (refine Mi.allocTo rfl (.pointer (some ⟨_, 0, none⟩)) (.cells (lnV dl A n c) 29 (0, 0)) (exec_boxl _ _ dl A n c (.tmp 1) rfl rfl _) ?_)
    | (refine allocAt rfl (w.heap.size + 1) (.cells (acV 0 a m R pl cr) 35 (0, 0)) (exec_boxa _ _ 0 a m R pl cr (.tmp 2) rfl rfl _) (World.size_alloc _ _) ?_)
    | (refine allocAt rfl (w.heap.size + 2) (.cells (lnV 0 none 0 0) 29 (0, 0)) (alloc_ln _ _ rfl _) ((World.size_alloc _ _).trans (congrArg (· + 1) (World.size_alloc _ _))) ?_; rw [HW1.out])
    | (at_builtin; refine Me.app8 (w0 := w1) rfl (.tmp 25) (.tmp 27) rfl w1.heap.size w1.heap.size _ [] p rfl HO0.out (Me.below_alloc (Below.refl _ _)) (by simp) R cr (by show _ = Value.slice R _ cr; rw [HPL.out]; rfl) ((HPR.out w1 HBel.out).below (Me.below_alloc (Below.refl _ _))) (by rw [HPL.out]; exact hnil.out) HLp.out ?_; intro v2 w2 ho2 hb2 _; obtain ⟨A2, c2, rfl, ho2', hA2⟩ := HF2.out w2 v2 ho2; have HO2 := Lib.hid ho2'; have HB2 := Lib.hid hb2; have HA2 := Lib.hid hA2; have HBl2 : Hid (Bl w2 w.heap.size dl A n c) := HBl.out.below hb2; obtain ⟨_, _, _, x3⟩ := Ba.cells (show Ba w2 (w.heap.size + 1) 0 a m R pl cr from (hb2.block _ HBa.out.lt).trans HBa.out); clear ho2 ho2' hb2 hA2)
    | (refine wpList_load_row rfl 29 (.tmp 4) rfl w.heap.size rfl 29 _ (0, 0) _ HBl2.out Try.underlying29 rfl (ln_size _ _ _ _) ?_)
    | (go_at_call 20; refine (HS.out w2 (hr.out.below (HBel.out.trans (HB2.out.mono HBel.out.size))) (HPR.out w2 (HBel.out.trans (HB2.out.mono HBel.out.size)))).mono ?_; rintro e w3 ⟨A', n', c', rfl, hq3, hb3⟩; have HZ3 : Hid (Bl (w3.alloc (.cells (lnV 0 none 0 0) 29)) w3.heap.size 0 none 0 0) := heap_alloc_new w3 _)
    | (refine Mi.allocTo rfl (.pointer (some ⟨_, 0, none⟩)) (.cells (lnV 0 none 0 0) 29 (0, 0)) (alloc_ln _ _ rfl _) ?_)
    | (refine wpList_store_row rfl 29 (.tmp 9) (.tmp 34) rfl w3.heap.size (lnV dl A' n' c') rfl rfl 29 _ HZ3.out (ln_size _ _ _ _) rfl (ln_one _ _ _ _) ?_
       refine Hid.out ?_))
  have HB8 : Hid (Bl ((w3.alloc (.cells (lnV 0 none 0 0) 29)).setRow w3.heap.size (lnV dl A' n' c')) w3.heap.size dl A' n' c') := setRow_heap _ _ _ _ _ _ HZ3.out
  have hb4 : Below w3.heap.size w3 ((w3.alloc (.cells (lnV 0 none 0 0) 29)).setRow w3.heap.size (lnV dl A' n' c')) := Sb.below_setRow _ (Me.below_alloc (Below.refl _ _)) (Nat.le_refl _)
  obtain ⟨w4, hw4⟩ : ∃ w4, (w3.alloc (.cells (lnV 0 none 0 0) 29)).setRow w3.heap.size (lnV dl A' n' c') = w4 := ⟨_, rfl⟩
  rw [hw4] at HB8 hb4 ⊢
  clear hw4 HZ3 a0 a1 a2 a3 x3 f3 HBl2 HO0
  have hk14 : Below w1.heap.size w1 w4 := HB2.out.trans ((go_on hb3.out hb4).mono HB2.out.size)
  have HK14 := Lib.hid hk14
  have HK04 : Hid (Below w.heap.size w w4) := HBel.out.trans (hk14.mono HBel.out.size)
  have ho4 : Me.Own w4 w1.heap.size (.slice A2 pl c2) p := own_same HO2.out fun k _ hk => (go_on hb3.out hb4).block k hk
  have HO4 := Lib.hid ho4
  have HRW4 : Hid (RW w4 A' n' c' (ways (putL s p))) := hq3.out.below hb4
  have hL4 : Lr M (fun k => (Value.slice A2 pl c2).ownBlock = some k ∨ Ko w4 k) w4 D s := (h.out.wider (O' := fun k => (Value.slice A2 pl c2).ownBlock = some k) HK04.out (fun k e => .inr ⟨Nat.le_trans HBel.out.size (ho4.lt k e).1, (ho4.lt k e).2⟩)).ko
  have HL4 := Lib.hid (HP.out _ w4 A2 c2 hL4 (HRd2.out w4 A2 c2 (Sb.own_base ho4 fun _ _ => Nat.zero_le _)) HA2.out)
  have HZ4 : Hid (Bl w4 (w.heap.size + 2) 0 none 0 0) := (HK14.out.block _ HZ.out.lt).trans HZ.out
  have hne3 : w3.heap.size ≠ w.heap.size + 2 := by have := hb3.out.size; have := HB2.out.size; have := HSz.out; omega
  clear hb4 hk14 ho4 hL4
  unfold Hid
  go_wp2_with (go_at_call 14; refine HL4.out.mono ?_; rintro e w5 ⟨rfl, hl5, hb5⟩)
  have ho5 : Me.Own w5 0 (.slice A2 pl c2) p := own_same (Sb.own_base HO4.out fun _ _ => Nat.zero_le _) fun k e hk => hb5.out.same k hk fun hs => hs.2 (.inl e)
  have HO5 := Lib.hid ho5
  have hb45 : But (Ok2 M w4) w4 w5 := hb5.out.mono fun k _ hk => (⟨hk.1, fun h => hk.2 (.inr h)⟩ : Ok2 M w4 k)
  have HB45 := Lib.hid hb45
  clear ho5 hb45
  go_loopw [12] (fun u12 wr => ∃ i : Nat, i ≤ pl ∧ u12 = .int .i64 (i : Int) ∧ Hid (∃ l', Me.Own wr 0 (.slice A2 pl c2) l' ∧ l'.length = pl ∧ ∀ z ∈ l', z < 256) ∧ Hid (But (fun k => (Value.slice A2 pl c2).ownBlock = some k) w5 wr)) (fun u12 _ => pl - (intOf u12).toNat)
  case atStart => exact ⟨0, Nat.zero_le _, rfl, ⟨p, HO5.out, HPL.out, HBt.out⟩, But.refl _ _⟩
  case round =>
    obtain ⟨i, hi, rfl, ⟨l', hol, hll, hlb⟩, HBr⟩ := hrel
    by_cases hip : i < pl
    · have q1 : (i : Int) < (pl : Int) := by omega
      obtain ⟨g, c', e, _, hgl⟩ := Me.Own.form hol (by omega)
      injection e with e1 e2 e3
      subst e1 e3
      obtain ⟨x1, x2⟩ := Me.Own.cell hol (i := i) (by omega)
      have hxb := by_lt hlb i
      obtain ⟨x, hx⟩ : ∃ x, Me.by_ l' i = x := ⟨_, rfl⟩
      rw [hx] at x1 hxb
      have HWx : Hid (IntKind.u8.wrap (255 - (x : Int)) = ((255 - x : Nat) : Int)) := by
        have e1 : (255 - (x : Int)) = ((255 - x : Nat) : Int) := by omega
        show _ = _
        rw [e1]
        exact Me.wrap8 (by unfold Me.U8; omega)
      have HS2 := Lib.hid (Me.Own.store hol i (255 - x))
      have HOL := Lib.hid hol
      have HLL := Lib.hid hll
      have HLB := Lib.hid hlb
      have qx := HWx.out
      have q3 : i < pl := hip
      clear hol hll hlb hx
      go_wp2
      go_roundw
      case rel => exact ⟨i + 1, by omega, by go_num, ⟨l'.set i (255 - x), HS2.out, by rw [List.length_set]; exact HLL.out, fun z hz => by
        rcases List.mem_or_eq_of_mem_set hz with hz | rfl
        · exact HLB.out z hz
        · omega⟩, HBr.out.set (p := ⟨g, i, none⟩) (.inl rfl) _⟩
      case measure => simp [intOf]; omega
    · obtain rfl : i = pl := by omega
      have q1 : ¬ (i : Int) < (i : Int) := by omega
      have hox : ∀ {k : Nat} {cs : Array Value} {T : TypeId} {fr : Nat × Nat}, w5.heap[k]? = some (.cells cs T fr) → T ≠ 5 → wr.heap[k]? = w5.heap[k]? := fun {k cs T fr} hk hT => HBr.out.same k (Array.getElem?_eq_some_iff.1 hk).1 fun e => own_ne HO5.out hk (Ne.symm hT) e
      have h85 : Bl w5 w3.heap.size dl A' n' c' := ok2_bl HB45.out HB8.out
      have hZ5 : Bl w5 (w.heap.size + 2) 0 none 0 0 := ok2_bl HB45.out HZ4.out
      have HB9 : Hid (Bl wr w3.heap.size dl A' n' c') := (hox h85 (by decide)).trans h85
      have HZ9 : Hid (Bl wr (w.heap.size + 2) 0 none 0 0) := (hox hZ5 (by decide)).trans hZ5
      have HRW9 : Hid (RW wr A' n' c' (ways (putL s p))) := (ok2_rw HB45.out HRW4.out).keep fun k ⟨cs, hk⟩ => hox hk (by decide)
      have HL9 := Lib.hid (hl5.out.but HBr.out fun k e => .inl (.inl e))
      have HB9w : Hid (But (Ok2 M w) w wr) := (ok2_chain HK04.out HB45.out).trans HBr.out fun k hk e => by
        have h1 := (HO4.out.lt k e).1
        have h2 := HBel.out.size
        omega
      clear h85 hZ5 hox
      go_wp2_with (first
        | (refine wpList_load_row rfl 29 (.tmp 9) rfl w3.heap.size rfl 29 _ (0, 0) _ HB9.out Try.underlying29 rfl (ln_size _ _ _ _) ?_)
        | (refine wpList_store_row rfl 29 (.tmp 6) (.tmp 53) rfl (w.heap.size + 2) (lnV dl A' n' c') rfl rfl 29 _ HZ9.out (ln_size _ _ _ _) rfl (ln_one _ _ _ _) ?_))
      have hbs : But (fun k => k = w.heap.size + 2) wr (wr.setRow (w.heap.size + 2) (lnV dl A' n' c')) := (But.refl (fun k => k = w.heap.size + 2) wr).setRow (D := w.heap.size + 2) (.inl rfl) _
      have hlr : Lr M (fun _ => False) (wr.setRow (w.heap.size + 2) (lnV dl A' n' c')) D (putL s p) := (HL9.out.but hbs fun k e => .inl (.inr (by rw [e]; exact HZ4.out.ko))).no
      have hbf : But (Ok2 M w) w (wr.setRow (w.heap.size + 2) (lnV dl A' n' c')) := HB9w.out.setRow (D := w.heap.size + 2) (.inr (by omega)) _
      exact ret_box2 rfl rfl (setRow_heap _ _ _ _ _ _ HZ9.out) rfl Try.underlying29 (ln_size _ _ _ _) rfl ⟨A', n', c', rfl, HZ9.out.rw_set HRW9.out _, hlr, hbf⟩
end Go.Proofs.Ytcdpdijfgeeenaa.Li
