/- What stuff's Parts promises: an iterator over the parts of bytes between flags. -/
import Derived.Test.YtpnmigfgeieggaaStIter
namespace Go.Proofs.Ytpnmigfgeieggaa.St
open Go.RowKit
open Go.Proofs.Ytpnmigfgeieggaa.Me Go.Proofs.Ytpnmigfgeieggaa.It
set_option linter.unusedVariables false
attribute [local go_sem] Oper.semAt_some

theorem Parts_any (A : Option Addr) (cap B : Nat) (l : List Nat) (w : World) (hr : Hid (Rd w B A l)) (hA : Hid (A = none → l.length = 0 ∧ cap = 0)) (hB : B ≤ w.heap.size) (hc : l.length ≤ 140737488355328) :
    Calls Try.prog 16 #[.slice A l.length cap] w fun e w' => ∃ bk A1 c1, e = .returned (.func (.func 21) #[] #[.pointer (some ⟨bk, 0, none⟩)]) ∧ Hid (Boxed w' bk 22 (.slice A1 l.length c1)) ∧
      Hid (Held w' w.heap.size A1 c1 l) ∧ Hid (Below w.heap.size w w') ∧ w.heap.size ≤ bk ∧ l.length ≤ c1 ∧ c1 ≤ 9223372036854775807 := by
  have HD := Lib.hid (Clone_any A cap B l w hr hA hB hc)
  have HL := Lib.hid hr.out.1
  go_enter Try.func16, Try.ntmps16
  go_wp2_with (go_at_call 20; refine HD.out.mono ?_; rintro e w1 ⟨v, rfl, HO, HB⟩; obtain ⟨A1, c1, rfl, g1, g2, HH⟩ := HO.out.held HL.out; have HH1 := Lib.hid HH; clear HH)
  go_ret
  exact ⟨_, _, _, rfl, Boxed.new _ _ _, HH1.out.below ((Below.refl _ _).alloc (Nat.le_refl _) _), HB.out.trans (((Below.refl _ _).alloc (Nat.le_refl _) _).mono HB.out.size), HB.out.size, g1, g2⟩
theorem seg_rd {X : World} {B c k : Nat} {A : Option Addr} {zs : List Nat} (h : Rd X B A zs) (hk : k ≤ zs.length) (hc : zs.length ≤ c) (hcf : ¬ c = frm zs k) (hA : A = none → zs.length = 0 ∧ c = 0) :
    Rd X B (Option.map (fun x => x.add (frm zs k)) A) (seg zs k) ∧ (Option.map (fun x => x.add (frm zs k)) A = none → (seg zs k).length = 0 ∧ c - frm zs k = 0) := by
  have hsl := seg_length hk
  have hf := frm_le zs k
  refine ⟨⟨fun z hz => h.1 z (List.mem_of_mem_take (List.mem_of_mem_drop hz)), fun hp => ?_⟩, fun e => ?_⟩
  · obtain ⟨b, off, rfl, hb, hcs⟩ := h.2 (by omega)
    have := ((Rd.take ⟨h.1, fun _ => ⟨b, off, rfl, hb, hcs⟩⟩ k).drop (frm zs k)).2 hp
    obtain ⟨b', off', e, h1, h2⟩ := this
    refine ⟨b', off', ?_, h1, h2⟩
    rw [← e]
    show some (Addr.add ⟨b, off, none⟩ (frm zs k)) = _
    congr 1
    unfold Addr.add; split <;> simp_all
  · rcases A with _ | ad
    · have := hA rfl
      omega
    · cases e
/-- What stands behind the call of yield in a round. -/
def PostP (W0 bk l k : Nat) (Z : Bool → World → Prop) (a' : Act) (w' : World) : Prop :=
  ∃ (u5 u8 u9 u10 u11 u12 u13 : Value) (bb : Bool), a' = { tmps := #[.func (.yield l) #[] #[], .pointer (some ⟨bk, 0, none⟩), .pointer (some ⟨W0, 0, none⟩), .pointer (some ⟨W0 + 1, 0, none⟩), .int .i64 k, u5, .func (.func 23) #[] #[.pointer (some ⟨W0 + 1 + 1, 0, none⟩)], .int .i64 k, u8, u9, u10, u11, u12, u13, .bool bb, .bool (!bb), undef, undef], defers := [] } ∧ Z bb w'
theorem cut_rd {X : World} {B c k : Nat} {A : Option Addr} {zs : List Nat} (h : Rd X B A zs) (hk : k ≤ zs.length) (hc : zs.length ≤ c) (hA : A = none → zs.length = 0 ∧ c = 0) :
    ∃ A2, (if c = frm zs k then A else Option.map (fun x => x.add (frm zs k)) A) = A2 ∧ Rd X B A2 (seg zs k) ∧ (A2 = none → (seg zs k).length = 0 ∧ c - frm zs k = 0) := by
  refine ⟨_, rfl, ?_⟩
  by_cases hcf : c = frm zs k
  · have hsl := seg_length hk
    have hseg : seg zs k = [] := List.eq_nil_of_length_eq_zero (by omega)
    rw [if_pos hcf, hseg]
    exact ⟨⟨by simp, by simp⟩, fun _ => ⟨rfl, by omega⟩⟩
  · rw [if_neg hcf]
    exact seg_rd h hk hc hcf hA
set_option maxHeartbeats 4000000 in
theorem parts_iter (bk : Nat) (A : Option Addr) (c : Nat) (zs : List Nat) (hn : zs.length ≤ 140737488355328) (hz : ∀ z ∈ zs, z < 256) (hA : A = none → zs.length = 0 ∧ c = 0) (hc : zs.length ≤ c) :
    Iter 21 #[.pointer (some ⟨bk, 0, none⟩)] 5 (zs.length + 1) (KeptB bk A c zs) (fun k => isCut zs k = true) (fun B k v X => Me.Own X B v (seg zs k)) := by
  intro l W J Jx hJ hJx hR hskip hY h0
  have hbox := (hR 0 W h0).1
  refine callsIn_of_wp_marks Try.func21 rfl trivial ?_ rfl
  simp only [Try.ntmps21, List.size_toArray, List.length_cons, List.length_nil, Nat.reduceAdd, Nat.reduceSub, Array.replicate_succ, Array.replicate_zero, List.push_toArray, List.append_toArray, List.nil_append, List.cons_append]
  have HR := Lib.hid hR
  have HS := Lib.hid hskip
  have HY := Lib.hid hY
  have HJ := Lib.hid hJ
  have HJx := Lib.hid hJx
  clear hR hskip hY hJ hJx
  have hwbk := World.block_lt_of_cell? W _ hbox
  gi_wp2_with (refine ⟨trivial, rfl, ?_⟩; gi_at_call 22; refine (callsIn_wide.2 (ends_any _ _ _ _)).mono ?_; rintro e w' ⟨rfl, rfl⟩)
  have B1 := ((Boxed.new W 26 (.func (.yield l) #[] #[])).alloc (.cells #[.int .i64 0] 3)).alloc (.cells #[.slice A zs.length c] 22)
  have B2 := (Boxed.new (W.alloc (.cells #[.func (.yield l) #[] #[]] 26)) 3 (.int .i64 0)).alloc (.cells #[.slice A zs.length c] 22)
  have B3 := Boxed.new ((W.alloc (.cells #[.func (.yield l) #[] #[]] 26)).alloc (.cells #[.int .i64 0] 3)) 22 (.slice A zs.length c)
  simp only [World.size_alloc] at B2 B3
  have hB0 : Below W.heap.size W (((W.alloc (.cells #[.func (.yield l) #[] #[]] 26)).alloc (.cells #[.int .i64 0] 3)).alloc (.cells #[.slice A zs.length c] 22)) := (((Below.refl _ W).alloc (Nat.le_refl _) _).alloc (by simp) _).alloc (by simp; omega) _
  have hsz : (((W.alloc (.cells #[.func (.yield l) #[] #[]] 26)).alloc (.cells #[.int .i64 0] 3)).alloc (.cells #[.slice A zs.length c] 22)).heap.size = W.heap.size + 3 := by simp
  obtain ⟨W3, hW3⟩ : ∃ W3, ((W.alloc (.cells #[.func (.yield l) #[] #[]] 26)).alloc (.cells #[.int .i64 0] 3)).alloc (.cells #[.slice A zs.length c] 22) = W3 := ⟨_, rfl⟩
  rw [hW3] at B1 B2 B3 hB0 hsz ⊢
  clear hW3
  refine range_law (gf := 23) (lb := #[.pointer (some ⟨W.heap.size + 1 + 1, 0, none⟩)]) rfl (enters_of Try.func23 (by kernel_rfl) rfl) (ends_iter (W.heap.size + 1 + 1) A c zs (by omega))
    (fun k X => (J k X ∧ Boxed X W.heap.size 26 (.func (.yield l) #[] #[])) ∧ (Boxed X (W.heap.size + 1) 3 (.int .i64 (frm zs k : Int)) ∧ Boxed X (W.heap.size + 1 + 1) 22 (.slice A zs.length c)))
    (fun c' X => c' = .ret ∧ Jx X)
    (fun k => Abid.and (Abid.and ((HJ.out k).part (by omega) (by omega)) (Abid.boxed (.inl (by omega)))) (Abid.and (Abid.boxed (.inl (by omega))) (Abid.boxed (.inl (by omega)))))
    (fun c' X Y row h hg hr => ⟨h.1, (HJx.out.part (by omega) (by omega)) X Y row h.2 hg hr⟩)
    (fun k X h => ⟨h.2.2.cell, (HR.out k X h.1.1).2⟩)
    (fun k X hk hc' h => ⟨⟨HS.out k X hk hc' h.1.1, h.1.2⟩, by rw [frm_skip hc']; exact h.2.1, h.2.2⟩)
    (fun _ _ _ _ _ _ h _ _ => h) (fun _ _ _ _ _ h _ => h)
    ⟨⟨(HJ.out 0).below h0 hB0, B1⟩, B2, B3⟩
    (fun v => { tmps := #[.func (.yield l) #[] #[], .pointer (some ⟨bk, 0, none⟩), .pointer (some ⟨W.heap.size, 0, none⟩), .pointer (some ⟨W.heap.size + 1, 0, none⟩), v, .slice A zs.length c, .func (.func 23) #[] #[.pointer (some ⟨W.heap.size + 1 + 1, 0, none⟩)], v, undef, undef, undef, undef, undef, undef, undef, undef, undef, undef], defers := [] })
    ?assign ?body ?done ?stop
  case assign =>
    intro l' v X K' hK
    gi_wp2
    exact hK
  case body =>
    rintro l' k v X hk hcut ⟨⟨hj, b1⟩, b2, b3⟩ rfl hX
    have hmx : Try.prog.follows .mixedOrders = true := by kernel_rfl
    have c1 : X.drew.cell? ⟨W.heap.size, 0, none⟩ = some (.func (.yield l) #[] #[]) := b1.cell
    have c2 : X.drew.cell? ⟨W.heap.size + 1, 0, none⟩ = some (.int .i64 (frm zs k : Int)) := b2.cell
    have c3 : X.drew.cell? ⟨bk, 0, none⟩ = some (.slice A zs.length c) := (HR.out k X hj).1
    have hfk := frm_le zs k
    have hwX : W.heap.size < X.drew.heap.size := b1.lt
    have g1 : (frm zs k : Int) ≤ (k : Int) := by omega
    have g2 : (k : Int) ≤ (c : Int) := by omega
    have hfol : ∀ (Q : Exit → Act → World → Prop) (ops : Array Oper) (S : Act → World → Prop), (Code.region 4 ops true).wpIn (Wd.inRound l') 0 Try.prog (fun e a' w' => e = .normal ∧ S a' w')
        { tmps := #[.func (.yield l) #[] #[], .pointer (some ⟨bk, 0, none⟩), .pointer (some ⟨W.heap.size, 0, none⟩), .pointer (some ⟨W.heap.size + 1, 0, none⟩), .int .i64 k, .slice A zs.length c, .func (.func 23) #[] #[.pointer (some ⟨W.heap.size + 1 + 1, 0, none⟩)], .int .i64 k, undef, undef, undef, undef, undef, undef, undef, undef, undef, undef], defers := [] } X →
        (∀ a' w', S a' w' → Q .normal a' w') → (Code.region 4 ops true).wpIn (Wd.inRound l') 0 Try.prog Q
        { tmps := #[.func (.yield l) #[] #[], .pointer (some ⟨bk, 0, none⟩), .pointer (some ⟨W.heap.size, 0, none⟩), .pointer (some ⟨W.heap.size + 1, 0, none⟩), .int .i64 k, .slice A zs.length c, .func (.func 23) #[] #[.pointer (some ⟨W.heap.size + 1 + 1, 0, none⟩)], .int .i64 k, undef, undef, undef, undef, undef, undef, undef, undef, undef, undef], defers := [] } X :=
      fun Q ops S h hq => wpIn_mono h (by rintro e a' w' ⟨rfl, hs⟩; exact hq a' w' hs)
    gi_wp2
    refine hfol _ _ (PostP W.heap.size bk l k fun bb w' => KeepR W.heap.size 5 X w' ∧ (bb = true → J (k + 1) w') ∧ (bb = false → Jx w')) ?_ ?_
    · clear hfol
      have hlk : k ≤ zs.length := by omega
      obtain ⟨A2, hA2, hr2, hn2⟩ := cut_rd (X := X.drew) ((HR.out k X hj).2.below (Below.refl _ X).drew) hlk hc hA
      have HC : Hid (Calls Try.prog 20 #[.slice A2 (k - frm zs k) (c - frm zs k)] X.drew fun e w' => ∃ v, e = .returned v ∧ w'.cell? ⟨W.heap.size, 0, none⟩ = some (.func (.yield l) #[] #[]) ∧ (Me.Own w' X.drew.heap.size v (seg zs k) ∧ Below X.drew.heap.size X.drew w')) := by
        have h := Clone_any A2 (c - frm zs k) X.drew.heap.size (seg zs k) X.drew hr2 hn2 (Nat.le_refl _) (by rw [seg_length hlk]; omega)
        rw [seg_length hlk] at h
        exact h.mono fun e w' ⟨v, he, hO, hB⟩ => ⟨v, he, (hB.out.cell (p := ⟨W.heap.size, 0, none⟩) hwX).trans c1, hO.out, hB.out⟩
      obtain ⟨Y, hYd⟩ : ∃ Y : Value → World → Prop, Y = fun v w' => Me.Own w' X.drew.heap.size v (seg zs k) ∧ Below X.drew.heap.size X.drew w' := ⟨_, rfl⟩
      obtain ⟨Z, hZd⟩ : ∃ Z : Bool → World → Prop, Z = fun bb w' => KeepR W.heap.size 5 X w' ∧ (bb = true → J (k + 1) w') ∧ (bb = false → Jx w') := ⟨_, rfl⟩
      have HYd : Hid (∀ v w', Y v w' → YieldAt Wd 0 Try.prog l #[v] w' fun e w'' => ∃ bb : Bool, e = .returned (.bool bb) ∧ Z bb w'') := by
        subst hYd hZd
        rintro v w' ⟨hO, hB⟩
        have hB2 : Below X.heap.size X w' := (Below.refl _ X).drew.trans hB
        refine (HY.out k v X w' (by omega) hcut hj hB2 hO (by rw [hsz] at hX; exact hX)).mono ?_
        rintro e w'' ⟨bb, he, hk, ht, hf⟩
        exact ⟨bb, he, (KeepR.of_below hB2).trans hk, ht, hf⟩
      have HC2 : Hid (Calls Try.prog 20 #[.slice A2 (k - frm zs k) (c - frm zs k)] X.drew fun e w' => ∃ v, e = .returned v ∧ w'.cell? ⟨W.heap.size, 0, none⟩ = some (.func (.yield l) #[] #[]) ∧ Y v w') := by
        subst hYd; exact HC
      rw [← hZd]
      have hsz0 : 0 ≤ W.heap.size := Nat.zero_le _
      obtain ⟨W0, hW0⟩ : ∃ W0, W.heap.size = W0 := ⟨_, rfl⟩
      obtain ⟨fr, hfr⟩ : ∃ fr, frm zs k = fr := ⟨_, rfl⟩
      obtain ⟨n, hn'⟩ : ∃ n, zs.length = n := ⟨_, rfl⟩
      rw [hW0] at c1 c2 HC2 ⊢
      rw [hfr] at c2 g1 hA2 HC2
      rw [hn'] at c3 ⊢
      clear HC hYd hZd hr2 hn2 hj b1 b2 b3 HR HS HY HJ HJx h0 hbox hwbk B1 B2 B3 hB0 hsz hX hfk hwX hn hz hA hc hk hcut hlk hsz0 hW0 hfr hn'
      gi_region_with_o (first
        | (refine ⟨trivial, rfl, ?_⟩; gi_at_call 20; refine (CallsIn.inRound l' (callsIn_wide.2 HC2.out)).mono ?_; rintro e X2 ⟨v2, rfl, c1', hY2⟩; obtain ⟨fn, tmps, assign, body, hy, hRd⟩ := HYd.out v2 X2 hY2)
        | (refine ⟨rfl, RoundIn.mono hRd ?_⟩; rintro e X3 ⟨bb, rfl, hZ3⟩))
      all_goals exact ⟨rfl, _, _, _, _, _, _, _, _, rfl, hZ3⟩
    · clear hfol
      rintro a' w' ⟨u5, u8, u9, u10, u11, u12, u13, bb, rfl, hk', ht, hf⟩
      have hk3 : KeepR W3.heap.size (2 + 0) X w' := hk'.part (by omega) (by omega)
      have d1 : Boxed w' W.heap.size 26 (.func (.yield l) #[] #[]) := hk'.at_ (Nat.le_refl _) (by omega) b1
      have d2 : Boxed w' (W.heap.size + 1) 3 (.int .i64 (frm zs k : Int)) := hk'.at_ (by omega) (by omega) b2
      have d3 : Boxed w' (W.heap.size + 1 + 1) 22 (.slice A zs.length c) := hk'.at_ (by omega) (by omega) b3
      cases bb with
      | true =>
        have hj' := ht rfl
        have e1 := d2.cell
        have e2 := d2.frozen
        clear ht hf hk' b1 b2 b3 c1 c2 c3 hj
        gi_wp2
        refine ⟨hk3.trans (KeepR.of_grown (grownBy_setCell' _ _ _) fun r e => by cases e; omega), ⟨(HJ.out (k + 1)) _ _ _ hj' (grownBy_setCell' _ _ _) (fun r e => by cases e; omega), d1.other (by omega) _⟩, ?_, d3.other (by omega) _⟩
        rw [frm_cut hcut]
        exact d2.set _
      | false =>
        have hj' := hf rfl
        clear ht hf hk' b1 b2 b3 c1 c2 c3 hj
        gi_wp2
        exact ⟨hk3, rfl, hj'⟩
  case done =>
    rintro X ⟨⟨hj, _⟩, _⟩ hK
    gi_wp2
    refine ⟨by simp, .inl ⟨_, _, rfl, run_takeDeferred hK, ?_⟩⟩
    exact ⟨_, results_none rfl _ _ _, ⟨_, rfl⟩, .inl ((HJ.out _).putObj hj (by omega) (by omega) _)⟩
  case stop =>
    rintro c' X ⟨rfl, hj⟩ hK
    gi_wp2
    refine ⟨by simp, .inl ⟨_, _, rfl, run_takeDeferred hK, ?_⟩⟩
    exact ⟨_, results_none rfl _ _ _, ⟨_, rfl⟩, .inr (HJx.out.putObj hj (by omega) (by omega) _)⟩
end Go.Proofs.Ytpnmigfgeieggaa.St
