/- What record's Each promises: an iterator over the places and the payloads of a row's records. -/
import Derived.Test.YtcdijhenfddmcaaRcIter
namespace Go.Proofs.Ytcdijhenfddmcaa.Rc
open Go.RowKit
open Go.Proofs.Ytcdijhenfddmcaa.Me Go.Proofs.Ytcdijhenfddmcaa.Ma Go.Proofs.Ytcdijhenfddmcaa.Hd Go.Proofs.Ytcdijhenfddmcaa.It
set_option linter.unusedVariables false
set_option linter.unusedSimpArgs false
attribute [local go_sem] Oper.semAt_some

theorem Each_any (A : Option Addr) (cap B : Nat) (l : List Nat) (w : World) (hr : Hid (Rd w B A l)) (hA : Hid (A = none → l.length = 0 ∧ cap = 0)) (hB : B ≤ w.heap.size) (hc : l.length ≤ 140737488355328) :
    Calls Try.prog 17 #[.slice A l.length cap] w fun e w' => ∃ bk A1 c1, e = .returned (.func (.func 28) #[] #[.pointer (some ⟨bk, 0, none⟩)]) ∧ Hid (Boxed w' bk 22 (.slice A1 l.length c1)) ∧
      Hid (Held w' w.heap.size A1 c1 l) ∧ Hid (Below w.heap.size w w') ∧ w.heap.size ≤ bk ∧ l.length ≤ c1 ∧ c1 ≤ 9223372036854775807 := by
  have HD := Lib.hid (BClone_any A cap B l w hr hA hB hc)
  have HL := Lib.hid hr.out.1
  go_enter Try.func17, Try.ntmps17
  go_wp2_with (go_at_call 25; refine HD.out.mono ?_; rintro e w1 ⟨v, rfl, HO, HB⟩; obtain ⟨A1, c1, rfl, g1, g2, HH⟩ := HO.out.held HL.out; have HH1 := Lib.hid HH; clear HH)
  go_ret
  exact ⟨_, _, _, rfl, Boxed.new _ _ _, HH1.out.below ((Below.refl _ _).alloc (Nat.le_refl _) _), HB.out.trans (((Below.refl _ _).alloc (Nat.le_refl _) _).mono HB.out.size), HB.out.size, g1, g2⟩
theorem add_at (b off f : Nat) : (some (⟨b, off, none⟩ : Addr)).map (fun x => x.add f) = some ⟨b, off + f, none⟩ := by
  simp only [Option.map_some, Option.some.injEq]; unfold Addr.add; split <;> simp_all
theorem piece_rd {X : World} {B k : Nat} {A : Option Addr} {zs : List Nat} (h : Rd X B A zs) (hk : k < (recs zs).length) :
    Rd X B ((A.map fun x => x.add (offs (recs zs) k)).map fun x => x.add 8) (lsAt (recs zs) k) ∧ ((A.map fun x => x.add (offs (recs zs) k)).map fun x => x.add 8) ≠ none := by
  obtain ⟨h1, h2, h3, h4⟩ := piece_at hk
  obtain ⟨b, off, rfl, hb, hcs⟩ := h.2 (by omega)
  refine ⟨?_, by simp⟩
  have h5 := (Rd.drop ⟨h.1, fun _ => ⟨b, off, rfl, hb, hcs⟩⟩ (offs (recs zs) k + 8)).take (lsAt (recs zs) k).length
  rw [← h2] at h5
  rw [add_at, add_at, Nat.add_assoc]
  exact h5
/-- What stands behind the call of yield in a round. -/
def PostE (W0 bk l : Nat) (f : Int) (pv : Value) (Z : Bool → World → Prop) (a' : Act) (w' : World) : Prop :=
  ∃ (u5 u6 u7 u8 u9 u10 u11 u12 : Value) (bb : Bool), a' = { tmps := #[.func (.yield l) #[] #[], .pointer (some ⟨bk, 0, none⟩), .pointer (some ⟨W0, 0, none⟩), .int .i64 f, pv, u5, u6, u7, u8, u9, u10, u11, u12, .bool bb, .bool (!bb)], defers := [] } ∧ Z bb w'
set_option maxHeartbeats 4000000 in
theorem each_iter (bk : Nat) (A : Option Addr) (c : Nat) (zs : List Nat) (hz : ∀ z ∈ zs, z < 256) (hA : A = none → zs.length = 0 ∧ c = 0) (hlc : zs.length ≤ c) (hc : c ≤ 9223372036854775807) :
    Iter2 28 #[.pointer (some ⟨bk, 0, none⟩)] 4 (recs zs).length (KeptB bk A c zs) (fun _ => True) (fun B k v u X => v = .int .i64 (offs (recs zs) k : Int) ∧ Me.Own X B u (lsAt (recs zs) k)) := by
  intro l W J Jx hJ hJx hR hskip hY h0
  have hbox := (hR 0 W h0).1
  refine callsIn_of_wp_marks Try.func28 rfl trivial ?_ rfl
  simp only [Try.ntmps28, List.size_toArray, List.length_cons, List.length_nil, Nat.reduceAdd, Nat.reduceSub, Array.replicate_succ, Array.replicate_zero, List.push_toArray, List.append_toArray, List.nil_append, List.cons_append]
  have HR := Lib.hid hR
  have HY := Lib.hid hY
  have HJ := Lib.hid hJ
  have HJx := Lib.hid hJx
  clear hR hskip hY hJ hJx
  have hwbk := World.block_lt_of_cell? W _ hbox
  gi_wp2_with (refine ⟨trivial, rfl, ?_⟩; gi_at_call 27; refine (callsIn_wide.2 (records_any _ _ _ _)).mono ?_; rintro e w' ⟨rfl, rfl⟩)
  have B1 := (Boxed.new W 53 (.func (.yield l) #[] #[])).alloc (.cells #[.slice A zs.length c] 22)
  have B2 := Boxed.new (W.alloc (.cells #[.func (.yield l) #[] #[]] 53)) 22 (.slice A zs.length c)
  simp only [World.size_alloc] at B2
  have hB0 : Below W.heap.size W ((W.alloc (.cells #[.func (.yield l) #[] #[]] 53)).alloc (.cells #[.slice A zs.length c] 22)) := ((Below.refl _ W).alloc (Nat.le_refl _) _).alloc (by simp) _
  have hsz : ((W.alloc (.cells #[.func (.yield l) #[] #[]] 53)).alloc (.cells #[.slice A zs.length c] 22)).heap.size = W.heap.size + 2 := by simp
  obtain ⟨W3, hW3⟩ : ∃ W3, (W.alloc (.cells #[.func (.yield l) #[] #[]] 53)).alloc (.cells #[.slice A zs.length c] 22) = W3 := ⟨_, rfl⟩
  rw [hW3] at B1 B2 hB0 hsz ⊢
  clear hW3
  refine range2_law2 (gf := 35) (lb := #[.pointer (some ⟨W.heap.size + 1, 0, none⟩)]) rfl (enters_of Try.func35 (by kernel_rfl) rfl) (records_iter (W.heap.size + 1) A c zs hlc hc)
    (fun k X => (J k X ∧ Boxed X W.heap.size 53 (.func (.yield l) #[] #[])) ∧ Boxed X (W.heap.size + 1) 22 (.slice A zs.length c))
    (fun c' X => c' = .ret ∧ Jx X)
    (fun k => Abid.and (Abid.and ((HJ.out k).part (by omega) (by omega)) (Abid.boxed (.inl (by omega)))) (Abid.boxed (.inl (by omega))))
    (fun c' X Y row h hg hr => ⟨h.1, (HJx.out.part (by omega) (by omega)) X Y row h.2 hg hr⟩)
    (fun k X h => ⟨h.2.cell, (HR.out k X h.1.1).2⟩)
    (fun k X hk hc' h => absurd trivial hc')
    (fun _ _ _ _ _ _ _ h _ _ => h) (fun _ _ _ _ _ _ h _ => h)
    ⟨⟨(HJ.out 0).below h0 hB0, B1⟩, B2⟩
    ?round ?done ?stop
  case round =>
    rintro l' k v u X hk hcut ⟨⟨hj, b1⟩, b2⟩ ⟨rfl, rfl⟩
    gi_wp2
    refine ⟨trivial, ?_⟩
    rintro X ⟨⟨hj, b1⟩, b2⟩ _ hX
    have hmx : Try.prog.follows .mixedOrders = true := by kernel_rfl
    have c1 : X.drew.cell? ⟨W.heap.size, 0, none⟩ = some (.func (.yield l) #[] #[]) := b1.cell
    have hwX : W.heap.size < X.drew.heap.size := b1.lt
    obtain ⟨hpr, hpn⟩ := piece_rd (X := X.drew) ((HR.out k X hj).2.below (Below.refl _ X).drew) hk
    have hpl := piece_at hk
    have hpv : pieceV A c zs k = .slice ((A.map fun x => x.add (offs (recs zs) k)).map fun x => x.add 8) (lsAt (recs zs) k).length (c - offs (recs zs) k - 8) := rfl
    have HC : Hid (Calls Try.prog 25 #[pieceV A c zs k] X.drew fun e w' => ∃ v, e = .returned v ∧ w'.cell? ⟨W.heap.size, 0, none⟩ = some (.func (.yield l) #[] #[]) ∧ (Me.Own w' X.drew.heap.size v (lsAt (recs zs) k) ∧ Below X.drew.heap.size X.drew w')) := by
      rw [hpv]
      refine (BClone_any _ _ X.drew.heap.size (lsAt (recs zs) k) X.drew hpr (fun e => absurd e hpn) (Nat.le_refl _) (by omega)).mono ?_
      rintro e w' ⟨v, he, hO, hB⟩
      exact ⟨v, he, (hB.out.cell (p := ⟨W.heap.size, 0, none⟩) hwX).trans c1, hO.out, hB.out⟩
    obtain ⟨Y, hYd⟩ : ∃ Y : Value → World → Prop, Y = fun v w' => Me.Own w' X.drew.heap.size v (lsAt (recs zs) k) ∧ Below X.drew.heap.size X.drew w' := ⟨_, rfl⟩
    obtain ⟨Z, hZd⟩ : ∃ Z : Bool → World → Prop, Z = fun bb w' => KeepR W.heap.size 4 X w' ∧ (bb = true → J (k + 1) w') ∧ (bb = false → Jx w') := ⟨_, rfl⟩
    have HYd : Hid (∀ v w', Y v w' → YieldAt Wd 0 Try.prog l #[.int .i64 (offs (recs zs) k : Int), v] w' fun e w'' => ∃ bb : Bool, e = .returned (.bool bb) ∧ Z bb w'') := by
      subst hYd hZd
      rintro v w' ⟨hO, hB⟩
      have hB2 : Below X.heap.size X w' := (Below.refl _ X).drew.trans hB
      refine (HY.out k _ v X w' hk trivial hj hB2 ⟨rfl, hO⟩ (by rw [hsz] at hX; exact hX)).mono ?_
      rintro e w'' ⟨bb, he, hk, ht, hf⟩
      exact ⟨bb, he, (KeepR.of_below hB2).trans hk, ht, hf⟩
    have HC2 : Hid (Calls Try.prog 25 #[pieceV A c zs k] X.drew fun e w' => ∃ v, e = .returned v ∧ w'.cell? ⟨W.heap.size, 0, none⟩ = some (.func (.yield l) #[] #[]) ∧ Y v w') := by
      subst hYd; exact HC
    clear HC
    have hfol : ∀ (tm : Array Value) (Q : Exit → Act → World → Prop) (ops : Array Oper) (S : Act → World → Prop), (Code.region 4 ops true).wpIn (Wd.inRound l') 0 Try.prog (fun e a' w' => e = .normal ∧ S a' w') { tmps := tm, defers := [] } X →
        (∀ a' w', S a' w' → Q .normal a' w') → (Code.region 4 ops true).wpIn (Wd.inRound l') 0 Try.prog Q { tmps := tm, defers := [] } X :=
      fun tm Q ops S h hq => wpIn_mono h (by rintro e a' w' ⟨rfl, hs⟩; exact hq a' w' hs)
    obtain ⟨pv, hpd⟩ : ∃ pv, pieceV A c zs k = pv := ⟨_, rfl⟩
    obtain ⟨f, hfd⟩ : ∃ f : Int, (offs (recs zs) k : Int) = f := ⟨_, rfl⟩
    rw [hpd] at HC2 ⊢
    rw [hfd] at HYd ⊢
    gi_wp2
    refine hfol _ _ _ (PostE W.heap.size bk l f pv Z) ?_ ?_
    · obtain ⟨W0, hW0⟩ : ∃ W0, W.heap.size = W0 := ⟨_, rfl⟩
      rw [hW0] at c1 HC2 ⊢
      clear hfol hpr hpn hpl hpv hYd hZd hj b1 b2 HR HY HJ HJx h0 hbox hwbk B1 B2 hB0 hsz hX hwX hlc hc hz hA hk hcut hW0 hpd hfd
      gi_region_with_o (first
        | (refine ⟨trivial, rfl, ?_⟩; gi_at_call 25; refine (CallsIn.inRound l' (callsIn_wide.2 HC2.out)).mono ?_; rintro e X2 ⟨v2, rfl, c1', hY2⟩; obtain ⟨fn, tmps, assign, body, hy, hRd⟩ := HYd.out v2 X2 hY2)
        | (refine ⟨rfl, RoundIn.mono hRd ?_⟩; rintro e X3 ⟨bb, rfl, hZ3⟩))
      all_goals exact ⟨rfl, _, _, _, _, _, _, _, _, _, rfl, hZ3⟩
    · rintro a' w' ⟨u5, u6, u7, u8, u9, u10, u11, u12, bb, rfl, hz⟩
      rw [hZd] at hz
      obtain ⟨hk', ht, hf⟩ := hz
      have hk3 : KeepR W3.heap.size (2 + 0) X w' := hk'.part (by omega) (by omega)
      have d1 : Boxed w' W.heap.size 53 (.func (.yield l) #[] #[]) := hk'.at_ (Nat.le_refl _) (by omega) b1
      have d2 : Boxed w' (W.heap.size + 1) 22 (.slice A zs.length c) := hk'.at_ (by omega) (by omega) b2
      clear hfol hZd hYd HC2 HYd
      cases bb with
      | true =>
        have hj' := ht rfl
        clear ht hf hk' b1 b2 c1 hj
        gi_wp2
        exact ⟨hk3, ⟨hj', d1⟩, d2⟩
      | false =>
        have hj' := hf rfl
        clear ht hf hk' b1 b2 c1 hj
        gi_wp2
        exact ⟨hk3, rfl, hj'⟩
  case done =>
    rintro X ⟨⟨hj, _⟩, _⟩ hK
    gi_wp2
    refine ⟨by simp, .inl ⟨_, _, rfl, run_takeDeferred hK, ?_⟩⟩
    exact ⟨_, results_none rfl _ _ _, ⟨_, rfl⟩, .inl ((HJ.out _).putObj hj (by omega) (by omega) _)⟩
  case stop =>
    rintro c' X ⟨rfl, hj⟩ hK
    gi_wp2
    refine ⟨by simp, .inl ⟨_, _, rfl, run_takeDeferred hK, ?_⟩⟩
    exact ⟨_, results_none rfl _ _ _, ⟨_, rfl⟩, .inr (HJx.out.putObj hj (by omega) (by omega) _)⟩
end Go.Proofs.Ytcdijhenfddmcaa.Rc
