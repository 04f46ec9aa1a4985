/- The law SeenAny. -/
import Derived.Test.YtjgdkpgkonnhnaaSeAnyP
import Derived.Test.YtjgdkpgkonnhnaaSeIdl
import Derived.Test.YtjgdkpgkonnhnaaSeSame
import Derived.Test.YtjgdkpgkonnhnaaSeHasM
import Derived.Test.YtjgdkpgkonnhnaaSeAddA
import Derived.Test.YtjgdkpgkonnhnaaSeWoke
namespace Go.Proofs.Ytjgdkpgkonnhnaa.Se
open Go.RowKit
open Go.Proofs.Ytjgdkpgkonnhnaa.Me Go.Proofs.Ytjgdkpgkonnhnaa.Sb
set_option linter.unusedVariables false
set_option linter.unusedSimpArgs false

theorem rem_below (N : Int) (m : Nat) (h0 : 0 < m) : ∃ a t : Nat, IntKind.u64.wrap N = (a : Int) ∧ ((a : Int).tmod (m : Int)) = (t : Int) ∧ t < m := by
  obtain ⟨a, ha⟩ : ∃ a : Nat, IntKind.u64.wrap N = (a : Int) := by
    refine ⟨(IntKind.u64.wrap N).toNat, ?_⟩
    simp [IntKind.wrap, IntKind.bits, IntKind.signed]
    omega
  exact ⟨a, a % m, ha, by rw [← Int.ofNat_tmod], Nat.mod_lt a h0⟩
theorem Set.butA {S : Nat → Prop} {w w' : World} {t : Bool} {D b n : Nat} {s : St} (h : Set w t D b n s) (hb : But S w w') (hD : ¬ S D) (hB : ¬ S b) (hI : ∀ (k : Nat) (cs : Array Value), w.heap[k]? = some (.cells cs 3 (0, 0)) → ¬ S k) : Set w' t D b n s :=
  h.keep (hb.same _ h.lt.1 hD) (hb.same _ h.lt.2 hB) (Ints.but hb hI)
theorem Set.notIntA {w : World} {t : Bool} {D b n : Nat} {s : St} (h : Set w t D b n s) (k : Nat) (cs : Array Value) (hk : w.heap[k]? = some (.cells cs 3 (0, 0))) : ¬ (k = D ∨ k = b) := by
  rintro (rfl | rfl)
  · rw [h.box] at hk
    injection hk with hk
    injection hk with _ hT _
    exact absurd hT (by decide)
  · obtain ⟨es, c, hm⟩ := h.map.isMap
    rw [hm] at hk; cases hk
theorem Ids.butA {S : Nat → Prop} {w w' : World} {A : Option Addr} {l : List Mg.Id4} (h : Ids w A l) (hb : But S w w') (hS : ∀ g off, A = some ⟨g, off, none⟩ → ¬ S g) : Ids w' A l := fun j hj => by
  obtain ⟨b, off, e1, e2, c0, c1, c2, c3⟩ := h j hj
  have hk := hb.same b e2 (hS b off e1)
  exact ⟨b, off, e1, Nat.lt_of_lt_of_le e2 hb.size, (World.cell?_of_block hk).trans c0, (World.cell?_of_block hk).trans c1, (World.cell?_of_block hk).trans c2, (World.cell?_of_block hk).trans c3⟩
theorem idAt_mem {l : List Mg.Id4} {j : Nat} (h : j < l.length) : idAt l j ∈ l := by
  unfold idAt
  rw [List.getD_eq_getElem?_getD, List.getElem?_eq_getElem h]
  exact List.getElem_mem h
theorem idAt_get {l : List Mg.Id4} {j : Nat} (h : j < l.length) : l[j]? = some (idAt l j) := by
  unfold idAt
  rw [List.getD_eq_getElem?_getD, List.getElem?_eq_getElem h]
  rfl
theorem idAt_take {l : List Mg.Id4} {j : Nat} (h : j < l.length) : l.take (j + 1) = l.take j ++ [idAt l j] := takeP_snoc (idAt_get h)
/-- What holds in the first loop. -/
structure An (w : World) (Da ba Db bb : Nat) (l : List Mg.Id4) (wr : World) (s : St) : Prop where
  a : ∃ n, n ≤ l.length ∧ Set wr true Da ba n s
  b : Set wr true Db bb 0 ⟨256, 0, fun _ _ => none⟩
  inv : Inv l s
  below : Below w.heap.size w wr
/-- What holds in the second loop: done were added, R are left. -/
structure Bn (w : World) (Da ba Db bb : Nat) (sa : St) (ls dn R : List Mg.Id4) (v : Value) (wr : World) (s : St) : Prop where
  a : ∃ n, n ≤ 60 ∧ Set wr true Da ba n sa
  b : ∃ n, n ≤ dn.length ∧ Set wr true Db bb n s
  inv : Inv dn s
  perm : (dn ++ R).Perm ls
  rest : ∃ A c, v = .slice A R.length c ∧ R.length ≤ c ∧ c ≤ 9223372036854775807 ∧ (A = none → c = 0) ∧ Ids wr A R ∧ ∀ g off, A = some ⟨g, off, none⟩ → off = 0 ∧ w.heap.size ≤ g ∧ ¬ (g = Da ∨ g = ba ∨ g = Db ∨ g = bb)
  below : Below w.heap.size w wr
set_option maxRecDepth 100000 in
set_option maxHeartbeats 16000000 in
theorem seenAny_ok (A : Option Addr) (len cap : Nat) (ls : List Mg.Id4) (A2 : Option Addr) (len2 cap2 : Nat) (or : List Int) (w : World) (hl : (len = ls.length ∧ len ≤ cap ∧ cap ≤ 9223372036854775807 ∧ Ids w A ls) ∧ (A = none → cap = 0)) (ho : Mi.BySlice w A2 len2 cap2 or) : Calls Try.prog 6 #[.slice A len cap, .slice A2 len2 cap2] w fun e w' => e = .returned (.bool true) ∧ Below w.heap.size w w' := by
  have HN := Lib.hid (fun W => New_ok 256 (by omega) (by omega) W)
  have HA := Lib.hid (fun W => awake_any W)
  obtain ⟨⟨hl1, hl2, hl3, hids⟩, hAn⟩ := hl
  have HCut := Lib.hid (fun W => cutL_any A len cap hl2 hl3 (fun hlt => by obtain ⟨b, off, e, _⟩ := hids 0 (by omega); exact ⟨b, off, e⟩) W)
  obtain ⟨N, hN⟩ : ∃ N, min len 60 = N := ⟨_, rfl⟩
  obtain ⟨l60, hl60⟩ : ∃ l60, ls.take N = l60 := ⟨_, rfl⟩
  have hNl : l60.length = N := by rw [← hl60, List.length_take]; omega
  have HI60 : Hid (Ids w A l60) := by rw [← hl60]; exact hids.take N
  have hN3 : N ≤ 60 := by omega
  have hN4 : N ≤ cap := by omega
  have HNl := Lib.hid hNl
  have HAn := Lib.hid hAn
  have HO := Lib.hid ho
  have HC3 := Lib.hid hl3
  clear hids hl1 hl2 hl3 hNl hl60 hAn ho
  rw [hN] at HCut
  clear hN
  go_enter Try.func6, Try.ntmps6
  go_wp2_with (first
    | (go_at_call 9; refine (HN.out w).mono ?_; rintro e w1 ⟨Da, ba, rfl, hSa, hDa, hba, hb1⟩)
    | (go_at_call 9; refine (HN.out w1).mono ?_; rintro e w2 ⟨Db, bb, rfl, hSb, hDb, hbb, hb2⟩)
    | (go_at_call 12; refine (HCut.out _).mono ?_; rintro e w3 ⟨rfl, rfl⟩))
  have hlt := hSa.lt
  have HAn0 : Hid (An w Da ba Db bb [] w2 ⟨256, 0, fun _ _ => none⟩) := ⟨⟨0, Nat.le_refl _, hSa.below hb2.out⟩, hSb, Inv.nil hSa.ok, go_on hb1.out hb2.out⟩
  have hs1 := hb1.out.size
  have HGe : Hid (w.heap.size ≤ Da ∧ w.heap.size ≤ ba ∧ w.heap.size ≤ Db ∧ w.heap.size ≤ bb ∧ ¬ (Db = Da ∨ Db = ba) ∧ ¬ (bb = Da ∨ bb = ba) ∧ ¬ (Da = Db ∨ Da = bb) ∧ ¬ (ba = Db ∨ ba = bb)) := by show _ ∧ _; omega
  clear hSa hDa hba hb1 hSb hDb hbb hb2 hlt hs1 HN HCut
  go_loopw [9] (fun v9 wr => ∃ (j : Nat) (s : St), v9 = .int .i64 (j : Int) ∧ j ≤ N ∧ Hid (An w Da ba Db bb (l60.take j) wr s)) (fun i _ => N - (intOf i).toNat)
  case atStart => exact ⟨0, _, rfl, Nat.zero_le _, by simpa using HAn0⟩
  case round =>
    obtain ⟨j, s, rfl, hj, HX⟩ := hrel
    by_cases hlt : j < N
    · obtain ⟨⟨n, hn, hS⟩, hSb, hinv, hbel⟩ := HX.out
      obtain ⟨bl, off, rfl, hbl, c0, c1, c2, c3⟩ := HI60.out j (by have := HNl.out; omega)
      have g1 : (j : Int) < (N : Int) := by omega
      have g2 : ¬ ((N : Int) ≤ (j : Int)) := by omega
      have htk := idAt_take (l := l60) (j := j) (by have := HNl.out; omega)
      have hlen : (l60.take j).length ≤ 60 := by rw [List.length_take]; omega
      obtain ⟨x, hx⟩ : ∃ x, idAt l60 j = x := ⟨_, rfl⟩
      rw [hx] at c0 c1 c2 c3 htk
      clear hx
      have hAdd := Add_all Da ba n s x wr hS (by omega)
      have hinv2 := hinv.add x (by omega)
      rw [← htk] at hinv2
      have hni := hS.notIntA
      obtain ⟨p, q, r, t⟩ := x
      simp only at c0 c1 c2 c3
      have e0 := (hbel.cell (p := ⟨bl, off + j * 4, none⟩) hbl).trans c0
      have e1 := (hbel.cell (p := ⟨bl, off + j * 4 + 1, none⟩) hbl).trans c1
      have e2 := (hbel.cell (p := ⟨bl, off + j * 4 + 2, none⟩) hbl).trans c2
      have e3 := (hbel.cell (p := ⟨bl, off + j * 4 + 3, none⟩) hbl).trans c3
      have HAdd : Hid (Calls Try.prog 18 #[.pointer (some ⟨Da, 0, none⟩), .agg #[.int .i64 p, .int .i64 q, .int .i64 r, .int .i64 t]] wr (AddP Da ba n s ⟨p, q, r, t⟩ wr)) := hAdd
      have HNx : Hid (∀ n4 W, n4 ≤ n + 1 → Set W true Da ba n4 (addS s ⟨p, q, r, t⟩) → But (fun k => k = Da ∨ k = ba) wr W → An w Da ba Db bb (l60.take (j + 1)) W (addS s ⟨p, q, r, t⟩)) := fun n4 W h4 hW hB => by
        have hge := HGe.out
        refine ⟨⟨n4, ?_, hW⟩, hSb.butA hB (by omega) (by omega) hni, hinv2, hbel.trans (hB.below hbel.size fun k hk => by omega)⟩
        rw [htk, List.length_append]
        show n4 ≤ (l60.take j).length + 1
        omega
      obtain ⟨S2, hS2⟩ : ∃ S2, addS s ⟨p, q, r, t⟩ = S2 := ⟨_, rfl⟩
      unfold AddP at HAdd
      rw [hS2] at HAdd HNx
      clear hS2 hS hSb hinv hbel c0 c1 c2 c3 hbl htk hlen hAdd hinv2 hni hn HX
      go_wp2_with (go_at_call 18; refine HAdd.out.mono ?_; rintro e w4 ⟨rfl, n4, hn4, hS4, hB4⟩)
      go_roundw
      case rel => exact ⟨j + 1, S2, by go_num, hlt, HNx.out n4 _ hn4 hS4.out hB4.out⟩
      case measure => simp [intOf]; omega
    · obtain rfl : j = N := by omega
      have g1 : ¬ (j : Int) < (j : Int) := by omega
      obtain ⟨⟨n, hn, hS⟩, hSb, hinv, hbel⟩ := HX.out
      have htk : l60.take j = l60 := List.take_of_length_le (by have := HNl.out; omega)
      rw [htk] at hinv
      have HA60 : Hid (Ids (wr.alloc (.cells #[] 39)) A l60) := HI60.out.below (Me.below_alloc hbel)
      have HBel := Lib.hid hbel
      have HS1 := Lib.hid hS
      have HSb := Lib.hid hSb
      have HInv := Lib.hid hinv
      have HL60 : Hid (([] : List Mg.Id4).length + l60.length ≤ 1000) := by have := HNl.out; show _ ≤ _; simp; omega
      have HK0 : Hid (Ki (wr.alloc (.cells #[] 39)) wr.heap.size (.slice (some ⟨wr.heap.size, 0, none⟩) 0 0) []) := Ki.lit
      have hn60 : n ≤ 60 := by have := HNl.out; rw [List.length_take] at hn; omega
      clear hbel hS hSb hinv htk HX hn
      go_wp2_with (at_builtin; refine appIds rfl (.tmp 51) (.tmp 52) rfl wr.heap.size _ [] l60 rfl HK0.out (by simp) A j cap HNl.out.symm rfl HA60.out HAn.out HL60.out ?_; intro v5 w5 ho5 hg5 hk5; have HO5 := Lib.hid ho5; have HG5 := Lib.hid hg5; have HKk := Lib.hid hk5; clear ho5 hg5 hk5)
      have hb5 : Below wr.heap.size wr w5 := (Me.below_alloc (Below.refl _ _)).grown HG5.out (by simp) HKk.out
      obtain ⟨A5, c5, rfl, q1, q2, q3, q4, q5⟩ := HO5.out.form2
      have hge := HGe.out
      have hsl := HS1.out.lt
      have hsb := HSb.out.lt
      have HBn : Hid (Bn w Da ba Db bb s l60 [] l60 (.slice A5 l60.length c5) w5 ⟨256, 0, fun _ _ => none⟩) := by
        refine ⟨⟨n, hn60, HS1.out.below hb5⟩, ⟨0, Nat.le_refl _, HSb.out.below hb5⟩, Inv.nil HSb.out.ok, List.Perm.refl _, ⟨A5, c5, rfl, q1, q2, q3, q4, fun g off hA => ?_⟩, go_on HBel.out hb5⟩
        obtain ⟨h1, h2⟩ := q5 g off hA
        have h3 := HBel.out.size
        exact ⟨h1, by omega, by omega⟩
      have HNN : Hid (0 + l60.length = j) := by have := HNl.out; show _ = _; omega
      clear HA60 HSb HK0 HL60 HO5 HG5 HKk hb5 q1 q2 q3 q4 q5 hsl hsb hge hn60 HS1
      try simp only [List.nil_append]
      go_loopw [10, 11] (fun v10 v11 wq => ∃ (k : Nat) (dn R : List Mg.Id4) (sb : St), v11 = .int .i64 (k : Int) ∧ Hid (k + R.length = j) ∧ Hid (dn.length = k) ∧ Hid (Bn w Da ba Db bb s l60 dn R v10 wq sb)) (fun _ v11 _ => j - (intOf v11).toNat)
      case atStart => exact ⟨0, [], l60, _, rfl, HNN, rfl, HBn⟩
      case round =>
        obtain ⟨k, dn, R, sb, rfl, HKR, HDn, HB⟩ := hrel
        obtain ⟨⟨na, hna, hSa⟩, ⟨nb, hnb, hSb⟩, hinv, hperm, ⟨A6, c6, rfl, q1, q2, q3, q4, q5⟩, hbel⟩ := HB.out
        by_cases hR : R.length = 0
        · have hR0 : R = [] := List.eq_nil_of_length_eq_zero hR
          subst hR0
          have hmemb : ∀ x, x ∈ l60 ↔ x ∈ dn := fun x => by
            have := hperm.mem_iff (a := x)
            rw [List.append_nil] at this
            exact this.symm
          have hke := HInv.out.one_eq hinv hmemb
          have HHas : Hid (∀ i, i < j → hasS sb (idAt l60 i) = decide (Mg.chkN (idAt l60 i) = 0)) := fun i hi => hinv.has ((hmemb _).1 (idAt_mem (by have := HNl.out; omega)))
          have HSa := Lib.hid hSa
          have HSb2 := Lib.hid hSb
          have HKe := Lib.hid hke
          have HBl := Lib.hid hbel
          have HNa := Lib.hid hna
          have HNb : Hid (nb ≤ 60) := by have := HDn.out; have := HKR.out; show _ ≤ _; simp at this; omega
          obtain ⟨Wx, hWx⟩ : ∃ Wx, wr = Wx := ⟨_, rfl⟩
          rw [hWx] at HSa HSb2 HBl ⊢
          clear hSa hSb hinv hperm q1 q2 q3 q4 q5 hbel hmemb hke HB hWx hna hnb HInv HKR HDn
          simp only [List.length_nil]
          go_wp2
          go_loopw [14] (fun v14 wq => ∃ i : Nat, i ≤ j ∧ v14 = .int .i64 (i : Int) ∧ Hid (Below Wx.heap.size Wx wq)) (fun v14 _ => j - (intOf v14).toNat)
          case atStart => exact ⟨0, Nat.zero_le _, rfl, Below.refl _ _⟩
          case round =>
            obtain ⟨i, hi, rfl, HBq⟩ := hrel
            by_cases hil : i < j
            · obtain ⟨bl, off, rfl, hbl, c0, c1, c2, c3⟩ := HI60.out i (by have := HNl.out; omega)
              have hh := HHas.out i hil
              obtain ⟨x, hx⟩ : ∃ x, idAt l60 i = x := ⟨_, rfl⟩
              rw [hx] at c0 c1 c2 c3 hh
              have HCk : Hid (∀ W, Calls Try.prog 28 #[.agg (Mg.idC x)] W fun e w' => e = .returned (.int .i64 (Mg.chkN x : Int)) ∧ Hid (Below W.heap.size W w')) := fun W => Mg.RCheck_any x W
              have HHs : Hid (∀ W, Below Wx.heap.size Wx W → Calls Try.prog 23 #[.pointer (some ⟨Db, 0, none⟩), .agg (Mg.idC x)] W fun e w' => e = .returned (.bool (decide (Mg.chkN x = 0))) ∧ Hid (Below W.heap.size W w')) := fun W hW => by
                rw [← hh]
                exact Has_any true Db bb nb sb x W (HSb2.out.below hW)
              obtain ⟨B, hBd⟩ : ∃ B, decide (Mg.chkN x = 0) = B := ⟨_, rfl⟩
              have HB5 : Hid ((((Mg.chkN x : Nat) : Int) == 0) = B) := by
                show _ = _
                rw [← hBd]
                by_cases hz : Mg.chkN x = 0
                · simp [hz]
                · have : ¬ ((Mg.chkN x : Nat) : Int) = 0 := by omega
                  simp [hz, this]
              rw [hBd] at HHs
              obtain ⟨ck, hck⟩ : ∃ ck : Nat, Mg.chkN x = ck := ⟨_, rfl⟩
              rw [hck] at HB5 HCk
              obtain ⟨p, q, r, t⟩ := x
              simp only at c0 c1 c2 c3
              simp only [Mg.idC] at HCk HHs
              have HXc : Hid (∀ W, Below Wx.heap.size Wx W → W.cell? ⟨bl, off + i * 4, none⟩ = some (.int .i64 p) ∧ W.cell? ⟨bl, off + i * 4 + 1, none⟩ = some (.int .i64 q) ∧ W.cell? ⟨bl, off + i * 4 + 2, none⟩ = some (.int .i64 r) ∧ W.cell? ⟨bl, off + i * 4 + 3, none⟩ = some (.int .i64 t)) := fun W hW => by
                have hb := go_on HBl.out hW
                exact ⟨(hb.cell hbl).trans c0, (hb.cell hbl).trans c1, (hb.cell hbl).trans c2, (hb.cell hbl).trans c3⟩
              have g3 : (i : Int) < (j : Int) := by omega
              have g4 : ¬ ((j : Int) ≤ (i : Int)) := by omega
              clear c0 c1 c2 c3 hbl hh hx hBd hck
              go_wp2
              have S0 : Below Wx.heap.size Wx wr.drew := HBq.out.drew
              refine wp_region_held_drew (S := fun W => Below Wx.heap.size Wx W) (by kernel_rfl) S0 (fun hHeld => ?_)
              refine wpAnyH_take (i := 0) (v := .slice (some ⟨bl, off, none⟩) j cap) rfl (by kernel_rfl) (by kernel_rfl) (by kernel_rfl) (fun _ _ _ h => h) (Or.inl ⟨by rfl, ?_⟩) (by first | assumption | exact trivial) ?_
              · intro W hSW; go_simp; try (with_reducible rfl)
              simp only [Act.put, List.getElem_toArray, List.getElem_cons_succ, List.getElem_cons_zero, List.setIfInBounds_toArray, List.set_cons_zero, List.set_cons_succ]
              refine wpAnyH_take (i := 1) (v := .int .i64 (i : Int)) rfl (by kernel_rfl) (by kernel_rfl) (by kernel_rfl) (fun _ _ _ h => h) (Or.inl ⟨by rfl, ?_⟩) (by first | assumption | exact trivial) ?_
              · intro W hSW; go_simp; try (with_reducible rfl)
              simp only [Act.put, List.getElem_toArray, List.getElem_cons_succ, List.getElem_cons_zero, List.setIfInBounds_toArray, List.set_cons_zero, List.set_cons_succ]
              refine wpAnyH_take (i := 2) (v := .pointer (some ⟨bl, off + i * 4, none⟩)) rfl (by kernel_rfl) (by kernel_rfl) (by kernel_rfl) (fun _ _ _ h => h) (Or.inl ⟨by rfl, ?_⟩) (by first | assumption | exact trivial) ?_
              · intro W hSW; go_simp; try (with_reducible rfl)
              simp only [Act.put, List.getElem_toArray, List.getElem_cons_succ, List.getElem_cons_zero, List.setIfInBounds_toArray, List.set_cons_zero, List.set_cons_succ]
              refine wpAnyH_take (i := 3) (v := .agg #[.int .i64 p, .int .i64 q, .int .i64 r, .int .i64 t]) rfl (by kernel_rfl) (by kernel_rfl) (by kernel_rfl) (fun _ _ _ h => h) (Or.inl ⟨by rfl, ?_⟩) (by first | assumption | exact trivial) ?_
              · intro W hSW; obtain ⟨e0, e1, e2, e3⟩ := HXc.out W hSW; go_simp; try (with_reducible rfl)
              simp only [Act.put, List.getElem_toArray, List.getElem_cons_succ, List.getElem_cons_zero, List.setIfInBounds_toArray, List.set_cons_zero, List.set_cons_succ]
              refine wpAnyH_take (i := 6) (v := .pointer (some ⟨Db, 0, none⟩)) rfl (by kernel_rfl) (by kernel_rfl) (by kernel_rfl) (fun _ _ _ h => h) (Or.inl ⟨by rfl, ?_⟩) (by first | assumption | exact trivial) ?_
              · intro W hSW; go_simp; try (with_reducible rfl)
              simp only [Act.put, List.getElem_toArray, List.getElem_cons_succ, List.getElem_cons_zero, List.setIfInBounds_toArray, List.set_cons_zero, List.set_cons_succ]
              refine wpAnyH_take (i := 7) (v := .slice (some ⟨bl, off, none⟩) j cap) rfl (by kernel_rfl) (by kernel_rfl) (by kernel_rfl) (fun _ _ _ h => h) (Or.inl ⟨by rfl, ?_⟩) (by first | assumption | exact trivial) ?_
              · intro W hSW; go_simp; try (with_reducible rfl)
              simp only [Act.put, List.getElem_toArray, List.getElem_cons_succ, List.getElem_cons_zero, List.setIfInBounds_toArray, List.set_cons_zero, List.set_cons_succ]
              refine wpAnyH_take (i := 8) (v := .int .i64 (i : Int)) rfl (by kernel_rfl) (by kernel_rfl) (by kernel_rfl) (fun _ _ _ h => h) (Or.inl ⟨by rfl, ?_⟩) (by first | assumption | exact trivial) ?_
              · intro W hSW; go_simp; try (with_reducible rfl)
              simp only [Act.put, List.getElem_toArray, List.getElem_cons_succ, List.getElem_cons_zero, List.setIfInBounds_toArray, List.set_cons_zero, List.set_cons_succ]
              refine wpAnyH_take (i := 9) (v := .pointer (some ⟨bl, off + i * 4, none⟩)) rfl (by kernel_rfl) (by kernel_rfl) (by kernel_rfl) (fun _ _ _ h => h) (Or.inl ⟨by rfl, ?_⟩) (by first | assumption | exact trivial) ?_
              · intro W hSW; go_simp; try (with_reducible rfl)
              simp only [Act.put, List.getElem_toArray, List.getElem_cons_succ, List.getElem_cons_zero, List.setIfInBounds_toArray, List.set_cons_zero, List.set_cons_succ]
              refine wpAnyH_take (i := 10) (v := .agg #[.int .i64 p, .int .i64 q, .int .i64 r, .int .i64 t]) rfl (by kernel_rfl) (by kernel_rfl) (by kernel_rfl) (fun _ _ _ h => h) (Or.inl ⟨by rfl, ?_⟩) (by first | assumption | exact trivial) ?_
              · intro W hSW; obtain ⟨e0, e1, e2, e3⟩ := HXc.out W hSW; go_simp; try (with_reducible rfl)
              simp only [Act.put, List.getElem_toArray, List.getElem_cons_succ, List.getElem_cons_zero, List.setIfInBounds_toArray, List.set_cons_zero, List.set_cons_succ]
              refine wpAnyH_ready (rs := [4]) (by kernel_rfl) (by simp) ?_
              refine AllReadyH.cons rfl (fun K hK => ?_) AllReadyH.nil
              go_simp
              go_wp2_with (go_at_call 28; refine (HCk.out _).mono ?_; rintro e w4 ⟨rfl, hb4⟩)
              have S4 := go_on S0 hb4.out
              refine hK.out _ _ (S4) (fun hHeld => ?_)
              clear hK K
              refine wpAnyH_take (i := 5) (v := .bool B) rfl (by kernel_rfl) (by kernel_rfl) (by kernel_rfl) (fun _ _ _ h => h) (Or.inl ⟨by rfl, ?_⟩) (by first | assumption | exact trivial) ?_
              · intro W hSW; have q5 := HB5.out; go_simp; try (with_reducible rfl)
              simp only [Act.put, List.getElem_toArray, List.getElem_cons_succ, List.getElem_cons_zero, List.setIfInBounds_toArray, List.set_cons_zero, List.set_cons_succ]
              refine wpAnyH_ready (rs := [11]) (by kernel_rfl) (by simp) ?_
              refine AllReadyH.cons rfl (fun K hK => ?_) AllReadyH.nil
              go_simp
              go_wp2_with (go_at_call 23; refine (HHs.out _ S4).mono ?_; rintro e w5 ⟨rfl, hb5⟩)
              have S5 := go_on S4 hb5.out
              refine hK.out _ _ (S5) (fun hHeld => ?_)
              clear hK K
              refine wpAnyH_take (i := 12) (v := .bool false) rfl (by kernel_rfl) (by kernel_rfl) (by kernel_rfl) (fun _ _ _ h => h) (Or.inl ⟨by rfl, ?_⟩) (by first | assumption | exact trivial) ?_
              · intro W hSW; go_simp; try (with_reducible rfl)
              simp only [Act.put, List.getElem_toArray, List.getElem_cons_succ, List.getElem_cons_zero, List.setIfInBounds_toArray, List.set_cons_zero, List.set_cons_succ]
              refine wpAnyH_done (by kernel_rfl) ?_ _
              have HS5 : Hid (Below Wx.heap.size Wx w5) := S5
              clear hHeld S0 S4 S5 hb4 hb5
              go_wp2
              go_roundw
              case rel => exact ⟨i + 1, hil, by go_num, HS5⟩
              case measure => simp [intOf]; omega
            · obtain rfl : i = j := by omega
              have g3 : ¬ (i : Int) < (i : Int) := by omega
              have hM1 := Lib.hid (Marks_any true Da ba na s wr (HSa.out.below HBq.out) (by have := HNa.out; omega))
              go_wp2_with (first
                | (go_at_call 20; (with_reducible refine hM1.out.mono ?_); rintro e w11 ⟨v1, P1, L1, rfl, hM11, hb11, hO1, hP1⟩; have hM2 := Lib.hid (Marks_any true Db bb nb sb w11 (HSb2.out.below (go_on HBq.out hb11.out)) (by have := HNb.out; omega)))
                | (go_at_call 20; (with_reducible refine hM2.out.mono ?_); rintro e w12 ⟨v2, P2, L2, rfl, hM12, hb12, hO2, hP2⟩)
                | (go_at_call 19; refine (Same_eq _ _ P1 P2 w12 (hM11.out.below hb12.out).mv hM12.out.mv (by
                    have h1 := hO1.out
                    rw [HKe.out] at h1
                    show _ = _
                    rw [hP1.out, hP2.out, HKe.out, h1.one hO2.out]) (by
                    have h1 := hO1.out.le
                    have h2 := congrArg List.length hP1.out
                    have h3 := HNa.out
                    simp at h2
                    omega)).mono ?_; rintro e w13 ⟨rfl, hb13⟩)
                | (go_at_call 11; refine (HA.out _).mono ?_; rintro e w14 ⟨rfl, hb14⟩))
              go_ret
              exact ⟨rfl, go_on (go_on (go_on (go_on (go_on HBl.out HBq.out) hb11.out) hb12.out) hb13.out) hb14.out⟩
        · obtain ⟨z2, z3, z4, z5, z6, z7⟩ := HO.out
          subst z2
          obtain ⟨T, hT⟩ : ∃ T, (if k < or.length then ((IntKind.u64.wrap (Mi.at_ or k)).toNat % R.length) else 0) = T := ⟨_, rfl⟩
          have hTR : T < R.length := by
            rw [← hT]
            split
            · exact Nat.mod_lt _ (by omega)
            · omega
          obtain ⟨bl, off, hA6, hbl, c0, c1, c2, c3⟩ := q4 T hTR
          subst hA6
          obtain ⟨rfl, hgl, hgn⟩ := q5 bl off rfl
          have hxT := idAt_get hTR
          obtain ⟨x, hx⟩ : ∃ x, idAt R T = x := ⟨_, rfl⟩
          rw [hx] at c0 c1 c2 c3 hxT
          have hAdd := Add_all Db bb nb sb x wr hSb (by have := HDn.out; have := HKR.out; omega)
          have hinv2 := hinv.add x (by have := HDn.out; have := HKR.out; omega)
          have hp2 := (out_perm dn R T x hxT).trans hperm
          have hni := hSb.notIntA
          have hni2 : ∀ (k' : Nat) (cs : Array Value), wr.heap[k']? = some (.cells cs 3 (0, 0)) → ¬ (k' = Db ∨ k' = bb) := hni
          obtain ⟨p, q, r, t⟩ := x
          simp only at c0 c1 c2 c3
          have HNx : Hid (∀ n4 w4 w5 v5 A5 c5, n4 ≤ nb + 1 → Set w4 true Db bb n4 (addS sb ⟨p, q, r, t⟩) → But (fun k => k = Db ∨ k = bb) wr w4 → Below w4.heap.size w4 w5 → v5 = .slice A5 (R.take T ++ R.drop (T + 1)).length c5 → (R.take T ++ R.drop (T + 1)).length ≤ c5 → c5 ≤ 9223372036854775807 → (A5 = none → c5 = 0) → Ids w5 A5 (R.take T ++ R.drop (T + 1)) → (∀ g off, A5 = some ⟨g, off, none⟩ → off = 0 ∧ w4.heap.size ≤ g) → Bn w Da ba Db bb s l60 (dn ++ [⟨p, q, r, t⟩]) (R.take T ++ R.drop (T + 1)) v5 w5 (addS sb ⟨p, q, r, t⟩)) := fun n4 w4 w5 v5 A5 c5 h4 hS4 hB4 hb5 e1 e2 e3 e4 e5 e6 => by
            have hge := HGe.out
            have hlb := hSb.lt
            have hla := hSa.lt
            have h1 := hB4.size
            refine ⟨⟨na, hna, (hSa.butA hB4 (by omega) (by omega) hni).below hb5⟩, ⟨n4, by rw [List.length_append]; simp; omega, hS4.below hb5⟩, hinv2, hp2, ⟨A5, c5, e1, e2, e3, e4, e5, fun g off hA => ?_⟩, go_on (hbel.trans (hB4.below hbel.size fun k hk => by omega)) hb5⟩
            obtain ⟨e7, e8⟩ := e6 g off hA
            have h2 := hbel.size
            exact ⟨e7, by omega, by omega⟩
          have HAdd : Hid (Calls Try.prog 18 #[.pointer (some ⟨Db, 0, none⟩), .agg #[.int .i64 p, .int .i64 q, .int .i64 r, .int .i64 t]] wr (AddP Db bb nb sb ⟨p, q, r, t⟩ wr)) := hAdd
          have HRd : Hid (∀ W, But (fun k => k = Db ∨ k = bb) wr W → Ids W (some ⟨bl, 0, none⟩) R) := fun W hW => q4.butA hW fun g off hA => by
            cases hA
            exact fun hk => hgn (by rcases hk with hk | hk <;> simp [hk])
          have HLen : Hid ((R.take T ++ R.drop (T + 1)).length = R.length - 1) := by show _ = _; rw [List.length_append, List.length_take, List.length_drop]; omega
          obtain ⟨S2, hS2⟩ : ∃ S2, addS sb ⟨p, q, r, t⟩ = S2 := ⟨_, rfl⟩
          unfold AddP at HAdd
          rw [hS2] at HAdd HNx
          have hd2 : (dn ++ [(⟨p, q, r, t⟩ : Mg.Id4)]).length = k + 1 := by rw [List.length_append, HDn.out]; rfl
          have HD2 := Lib.hid hd2
          have hKR := HKR.out
          have q0 : (0 : Int) < (R.length : Int) := by omega
          clear hS2 hSa hSb hinv hperm hbl hx hxT hAdd hinv2 hp2 hni hni2 q4 q5 hgn hd2 hna hnb hgl HB
          by_cases hk2 : k < or.length
          · obtain ⟨f, fo, rfl, hf, hfc⟩ := z5 (by omega)
            have hz := (hbel.cell (p := ⟨f, fo + k, none⟩) hf).trans (hfc k hk2)
            obtain ⟨a, t', ha, ht, htl⟩ := rem_below (Mi.at_ or k) R.length (by omega)
            have hTt : T = t' := by
              rw [if_pos hk2, ha, Int.toNat_natCast] at hT
              rw [← Int.ofNat_tmod] at ht
              omega
            subst hTt
            obtain ⟨z, hzz⟩ : ∃ z, Mi.at_ or k = z := ⟨_, rfl⟩
            rw [hzz] at hz ha
            clear hT hzz hfc
            have HA4 : Hid (∀ W, But (fun k => k = Db ∨ k = bb) wr W → Ids (W.alloc (.cells #[] 39)) (some ⟨bl, 0, none⟩) (R.take T)) := fun W hW => ((HRd.out W hW).below (Me.below_alloc (Below.refl _ _))).take T
            have HT1 : Hid (T = (R.take T).length) := by show _ = _; rw [List.length_take]; omega
            have HT2 : Hid (([] : List Mg.Id4).length + (R.take T).length ≤ 1000) := by show _ ≤ _; rw [List.length_take]; simp; omega
            obtain ⟨M, hM⟩ : ∃ M, R.length = M := ⟨_, rfl⟩
            rw [hM] at q1 q0 ht hKR hTR
            have HM := Lib.hid hM
            rw [hM]
            have wl : IntKind.u64.wrap (M : Int) = (M : Int) := by simp [IntKind.wrap, IntKind.bits, IntKind.signed]; omega
            have wt : IntKind.i64.wrap (T : Int) = (T : Int) := Mi.fits' ⟨by omega, by omega⟩
            have m0 : ¬ (M : Int) = 0 := by omega
            have g1 : (k : Int) < (or.length : Int) := by omega
            have g2 : ¬ ((or.length : Int) ≤ (k : Int)) := by omega
            have g3 : (T : Int) < (M : Int) := by omega
            have g4 : ¬ ((M : Int) ≤ (T : Int)) := by omega
            have g5 : T ≤ c6 := by omega
            have g6 : T + 1 ≤ M := by omega
            simp only [Nat.zero_add] at c0 c1 c2 c3
            have HW := Lib.hid (And.intro wl wt)
            clear hM htl hR
            obtain ⟨wl, wt⟩ := HW.out
            have HT3 : Hid (M - (T + 1) = (R.drop (T + 1)).length) := by show _ = _; rw [List.length_drop, HM.out]
            have HT4 : Hid (([] ++ R.take T : List Mg.Id4).length + (R.drop (T + 1)).length ≤ 1000) := by show _ ≤ _; rw [List.nil_append, List.length_take, List.length_drop, HM.out]; omega
            have HD0 : Hid (c6 = T + 1 → ∀ W : World, Ids W (some ⟨bl, 0, none⟩) (R.drop (T + 1))) := fun h W j' hj' => by rw [List.length_drop, HM.out] at hj'; omega
            have HD1 : Hid (∀ W, But (fun k => k = Db ∨ k = bb) wr W → Ids W (some ⟨bl, (T + 1) * 4, none⟩) (R.drop (T + 1))) := fun W hW j' hj' => by
              rw [List.length_drop] at hj'
              obtain ⟨b', off', e1, e2, x0, x1, x2, x3⟩ := HRd.out W hW (T + 1 + j') (by omega)
              cases e1
              have e : idAt (R.drop (T + 1)) j' = idAt R (T + 1 + j') := by
                unfold idAt
                rw [List.getD_eq_getElem?_getD, List.getD_eq_getElem?_getD, List.getElem?_drop]
              rw [e]
              rw [show 0 + (T + 1 + j') * 4 = (T + 1) * 4 + j' * 4 by omega] at x0 x1 x2 x3
              exact ⟨bl, (T + 1) * 4, rfl, e2, x0, x1, x2, x3⟩
            have g7 : T + 1 ≤ c6 := by omega
            have g8 : (T : Int) + 1 ≤ (M : Int) := by omega
            have HJ : Hid (k + 1 + (M - 1) = j) := by show _ = _; omega
            have hJk : k < j := by omega
            have HMe : Hid (c6 = T + 1 → M = T + 1) := fun h => by omega
            clear q0
            by_cases hce : c6 = T + 1
            case' pos =>
              subst hce
              replace HD0 : Hid (∀ W : World, Ids W (some ⟨bl, 0, none⟩) (R.drop (T + 1))) := HD0.out rfl
              replace HT3 : Hid (0 = (R.drop (T + 1)).length) := by show _ = _; rw [List.length_drop, HM.out]; omega
            all_goals
              go_wp2_with (first
                | (go_at_call 18; refine HAdd.out.mono ?_; rintro e w4 ⟨rfl, n4, hn4, hS4, hB4⟩; have HA5 := Lib.hid (HA4.out w4 hB4.out); have HK0 : Hid (Ki (w4.alloc (.cells #[] 39)) w4.heap.size (.slice (some ⟨w4.heap.size, 0, none⟩) 0 0) []) := Ki.lit)
                | (at_builtin; refine appIds rfl (.tmp 79) (.tmp 82) rfl w4.heap.size _ [] (R.take T) rfl HK0.out (by simp) (some ⟨bl, 0, none⟩) T _ HT1.out rfl HA5.out (by simp) HT2.out ?_; intro v6 w6 ho6 hg6 hk6; have hb6 : Hid (Below w4.heap.size w4 w6) := ((Me.below_alloc (Below.refl _ _)).grown hg6 (by simp) hk6); obtain ⟨A7, c7, rfl, _, _, _, _, _⟩ := ho6.form2; obtain ⟨n7, hn7⟩ : ∃ n7, ([] ++ R.take T : List Mg.Id4).length = n7 := ⟨_, rfl⟩; rw [hn7] at ho6 ⊢; have HO6 := Lib.hid ho6; clear ho6 hg6 hk6 hn7)
                | (at_builtin; refine appIds rfl (.tmp 84) (.tmp 88) rfl w4.heap.size _ ([] ++ R.take T) (R.drop (T + 1)) rfl HO6.out hb6.out.size (some ⟨bl, 0, none⟩) _ _ HT3.out rfl (HD0.out w6) (fun h => by cases h) HT4.out ?_; intro v8 w8 ho8 hg8 hk8; have HG8 := Lib.hid hg8; have HK8 := Lib.hid hk8; obtain ⟨A9, c9, rfl, _, _, _, _, _⟩ := ho8.form2; obtain ⟨n9, hn9⟩ : ∃ n9, ([] ++ R.take T ++ R.drop (T + 1) : List Mg.Id4).length = n9 := ⟨_, rfl⟩; rw [hn9] at ho8 ⊢; have HN9 := Lib.hid hn9; have HO8 := Lib.hid ho8; clear ho8 hg8 hk8 hn9)
                | (at_builtin; refine appIds rfl (.tmp 84) (.tmp 88) rfl w4.heap.size _ ([] ++ R.take T) (R.drop (T + 1)) rfl HO6.out hb6.out.size (some ⟨bl, (T + 1) * 4, none⟩) (M - (T + 1)) (c6 - (T + 1)) HT3.out rfl ((HD1.out w4 hB4.out).below hb6.out) (fun h => by cases h) HT4.out ?_; intro v8 w8 ho8 hg8 hk8; have HG8 := Lib.hid hg8; have HK8 := Lib.hid hk8; obtain ⟨A9, c9, rfl, _, _, _, _, _⟩ := ho8.form2; obtain ⟨n9, hn9⟩ : ∃ n9, ([] ++ R.take T ++ R.drop (T + 1) : List Mg.Id4).length = n9 := ⟨_, rfl⟩; rw [hn9] at ho8 ⊢; have HN9 := Lib.hid hn9; have HO8 := Lib.hid ho8; clear ho8 hg8 hk8 hn9))
              have hb8 : Below w4.heap.size w4 w8 := hb6.out.grown HG8.out hb6.out.size HK8.out
              have hn9 : (R.take T ++ R.drop (T + 1)).length = n9 := HN9.out
              have ho8 : Ki w8 w4.heap.size (.slice A9 (R.take T ++ R.drop (T + 1)).length c9) (R.take T ++ R.drop (T + 1)) := by rw [hn9]; exact HO8.out
              obtain ⟨A9', c9', e9, f1, f2, f3, f4, f5⟩ := ho8.form2
              injection e9 with e9 _ e10
              subst e9 e10
              have HF := Lib.hid (HNx.out n4 w4 w8 (.slice A9 n9 c9) A9 c9 hn4 hS4.out hB4.out hb8 (by rw [hn9]) f1 f2 f3 f4 f5)
              clear hb8 ho8 f1 f2 f3 f4 f5 hB4 hS4 hb6 hn9
              go_roundw
              case rel => exact ⟨k + 1, _, _, _, by go_num, (by rw [HLen.out, HM.out]; exact HJ.out), HD2.out, HF⟩
              case measure => simp [intOf]; omega
          · rw [if_neg hk2] at hT
            subst hT
            simp only [Nat.zero_add] at HNx HLen
            have HA4 : Hid (∀ W, But (fun k => k = Db ∨ k = bb) wr W → Ids (W.alloc (.cells #[] 39)) (some ⟨bl, 0, none⟩) (R.take 0)) := fun W hW => ((HRd.out W hW).below (Me.below_alloc (Below.refl _ _))).take 0
            have HT1 : Hid (0 = (R.take 0).length) := by show _ = _; rw [List.length_take]; omega
            have HT2 : Hid (([] : List Mg.Id4).length + (R.take 0).length ≤ 1000) := by show _ ≤ _; simp
            obtain ⟨M, hM⟩ : ∃ M, R.length = M := ⟨_, rfl⟩
            rw [hM] at q1 q0 hKR hTR
            have HM := Lib.hid hM
            rw [hM]
            have m0 : ¬ (M : Int) = 0 := by omega
            have g1 : ¬ (k : Int) < (or.length : Int) := by omega
            have g2 : (or.length : Int) ≤ (k : Int) := by omega
            have g3 : (0 : Int) < (M : Int) := by omega
            have g4 : ¬ ((M : Int) ≤ 0) := by omega
            have g6 : 1 ≤ M := by omega
            simp only [Nat.zero_mul, Nat.zero_add] at c0 c1 c2 c3
            clear hM hR
            have HT3 : Hid (M - (1) = (R.drop (1)).length) := by show _ = _; rw [List.length_drop, HM.out]
            have HT4 : Hid (([] ++ R.take 0 : List Mg.Id4).length + (R.drop (1)).length ≤ 1000) := by show _ ≤ _; rw [List.nil_append, List.length_take, List.length_drop, HM.out]; omega
            have HD0 : Hid (c6 = 1 → ∀ W : World, Ids W (some ⟨bl, 0, none⟩) (R.drop (1))) := fun h W j' hj' => by rw [List.length_drop, HM.out] at hj'; omega
            have HD1 : Hid (∀ W, But (fun k => k = Db ∨ k = bb) wr W → Ids W (some ⟨bl, 4, none⟩) (R.drop (1))) := fun W hW j' hj' => by
              rw [List.length_drop] at hj'
              obtain ⟨b', off', e1, e2, x0, x1, x2, x3⟩ := HRd.out W hW (1 + j') (by omega)
              cases e1
              have e : idAt (R.drop (1)) j' = idAt R (1 + j') := by
                unfold idAt
                rw [List.getD_eq_getElem?_getD, List.getD_eq_getElem?_getD, List.getElem?_drop]
              rw [e]
              rw [show 0 + (1 + j') * 4 = 4 + j' * 4 by omega] at x0 x1 x2 x3
              exact ⟨bl, 4, rfl, e2, x0, x1, x2, x3⟩
            have g7 : 1 ≤ c6 := by omega
            have g8 : (1 : Int) ≤ (M : Int) := by omega
            have HJ : Hid (k + 1 + (M - 1) = j) := by show _ = _; omega
            have hJk : k < j := by omega
            have HMe : Hid (c6 = 1 → M = 1) := fun h => by omega
            clear q0
            by_cases hce : c6 = 1
            case' pos =>
              subst hce
              replace HD0 : Hid (∀ W : World, Ids W (some ⟨bl, 0, none⟩) (R.drop (1))) := HD0.out rfl
              replace HT3 : Hid (0 = (R.drop (1)).length) := by show _ = _; rw [List.length_drop, HM.out]; omega
            all_goals
              go_wp2_with (first
                | (go_at_call 18; refine HAdd.out.mono ?_; rintro e w4 ⟨rfl, n4, hn4, hS4, hB4⟩; have HA5 := Lib.hid (HA4.out w4 hB4.out); have HK0 : Hid (Ki (w4.alloc (.cells #[] 39)) w4.heap.size (.slice (some ⟨w4.heap.size, 0, none⟩) 0 0) []) := Ki.lit)
                | (at_builtin; refine appIds rfl (.tmp 79) (.tmp 82) rfl w4.heap.size _ [] (R.take 0) rfl HK0.out (by simp) (some ⟨bl, 0, none⟩) 0 _ HT1.out rfl HA5.out (by simp) HT2.out ?_; intro v6 w6 ho6 hg6 hk6; have hb6 : Hid (Below w4.heap.size w4 w6) := ((Me.below_alloc (Below.refl _ _)).grown hg6 (by simp) hk6); obtain ⟨A7, c7, rfl, _, _, _, _, _⟩ := ho6.form2; obtain ⟨n7, hn7⟩ : ∃ n7, ([] ++ R.take 0 : List Mg.Id4).length = n7 := ⟨_, rfl⟩; rw [hn7] at ho6 ⊢; have HO6 := Lib.hid ho6; clear ho6 hg6 hk6 hn7)
                | (at_builtin; refine appIds rfl (.tmp 84) (.tmp 88) rfl w4.heap.size _ ([] ++ R.take 0) (R.drop (1)) rfl HO6.out hb6.out.size (some ⟨bl, 0, none⟩) _ _ HT3.out rfl (HD0.out w6) (fun h => by cases h) HT4.out ?_; intro v8 w8 ho8 hg8 hk8; have HG8 := Lib.hid hg8; have HK8 := Lib.hid hk8; obtain ⟨A9, c9, rfl, _, _, _, _, _⟩ := ho8.form2; obtain ⟨n9, hn9⟩ : ∃ n9, ([] ++ R.take 0 ++ R.drop (1) : List Mg.Id4).length = n9 := ⟨_, rfl⟩; rw [hn9] at ho8 ⊢; have HN9 := Lib.hid hn9; have HO8 := Lib.hid ho8; clear ho8 hg8 hk8 hn9)
                | (at_builtin; refine appIds rfl (.tmp 84) (.tmp 88) rfl w4.heap.size _ ([] ++ R.take 0) (R.drop (1)) rfl HO6.out hb6.out.size (some ⟨bl, 4, none⟩) (M - (1)) (c6 - (1)) HT3.out rfl ((HD1.out w4 hB4.out).below hb6.out) (fun h => by cases h) HT4.out ?_; intro v8 w8 ho8 hg8 hk8; have HG8 := Lib.hid hg8; have HK8 := Lib.hid hk8; obtain ⟨A9, c9, rfl, _, _, _, _, _⟩ := ho8.form2; obtain ⟨n9, hn9⟩ : ∃ n9, ([] ++ R.take 0 ++ R.drop (1) : List Mg.Id4).length = n9 := ⟨_, rfl⟩; rw [hn9] at ho8 ⊢; have HN9 := Lib.hid hn9; have HO8 := Lib.hid ho8; clear ho8 hg8 hk8 hn9))
              have hb8 : Below w4.heap.size w4 w8 := hb6.out.grown HG8.out hb6.out.size HK8.out
              have hn9 : (R.take 0 ++ R.drop (1)).length = n9 := HN9.out
              have ho8 : Ki w8 w4.heap.size (.slice A9 (R.take 0 ++ R.drop (1)).length c9) (R.take 0 ++ R.drop (1)) := by rw [hn9]; exact HO8.out
              obtain ⟨A9', c9', e9, f1, f2, f3, f4, f5⟩ := ho8.form2
              injection e9 with e9 _ e10
              subst e9 e10
              have HF := Lib.hid (HNx.out n4 w4 w8 (.slice A9 n9 c9) A9 c9 hn4 hS4.out hB4.out hb8 (by rw [hn9]) f1 f2 f3 f4 f5)
              clear hb8 ho8 f1 f2 f3 f4 f5 hB4 hS4 hb6 hn9
              go_roundw
              case rel => exact ⟨k + 1, _, _, _, by go_num, (by rw [HLen.out, HM.out]; exact HJ.out), HD2.out, HF⟩
              case measure => simp [intOf]; omega
theorem seenAny (A : Option Addr) (len cap : Nat) (ls : List Mg.Id4) (A2 : Option Addr) (len2 cap2 : Nat) (or : List Int) (w : World) (w0 : (len = ls.length ∧ len ≤ cap ∧ cap ≤ 9223372036854775807 ∧ Ids w A ls) ∧ (A = none → cap = 0)) (w1 : Mi.BySlice w A2 len2 cap2 or) (c1 : cap2 * 8 ≤ 140737488351232) : Calls Try.prog 6 #[.slice A len cap, .slice A2 len2 cap2] w fun e w' => e = .returned (.bool true) ∧ Below w.heap.size w w' :=
  seenAny_ok A len cap ls A2 len2 cap2 or w w0 w1
end Go.Proofs.Ytjgdkpgkonnhnaa.Se
