/- play: Reset and none of the kinds. -/
import Derived.Test.YtdfjlhiliifapaaSnPlay
import Derived.Test.YtdfjlhiliifapaaSnRefC
namespace Go.Proofs.Ytdfjlhiliifapaa.Sn
open Go.RowKit
open Go.Proofs.Ytdfjlhiliifapaa.Me Go.Proofs.Ytdfjlhiliifapaa.Hd
set_option linter.unusedVariables false
set_option linter.unusedSimpArgs false
/-- Reset, whose list lies in blocks ahead of N. -/
theorem Reset_n {M N : Nat} {X0 : Nat → Prop} {w : World} {D : Nat} {s : Snd} {l : List (List Nat)} {A : Option Addr} {c : Nat} {u : Value} {r : List Nat} (h : Pl M (fun q => X0 q ∨ N ≤ q) w D s l A c u r) (ok : s.Ok) :
    Calls Try.prog 22 #[.pointer (some ⟨D, 0, none⟩)] w fun e w' => ∃ Aq, e = .returned (.slice Aq s.l.length s.l.length) ∧ Ls (fun q => q < N) w' Aq s.l.length s.l ∧ Pl M (fun q => X0 q ∨ N ≤ q) w' D (newS s.size) l A c u r ∧ But (Out M (fun q => X0 q ∨ N ≤ q)) w w' := by
  obtain ⟨G, ⟨F, A1, c1, hq, hF⟩, h2, h3, h4, h5⟩ := h
  refine (Reset_any w D s A1 c1 (Lib.hid hq)).mono ?_
  rintro e w' ⟨rfl, l1, l2, l3⟩
  obtain ⟨f1, f2, f3⟩ := hF D hq.f
  have hb : But (Out M (fun q => G q ∨ (X0 q ∨ N ≤ q))) w w' := l3.out.mono fun k _ hk => by subst hk; exact ⟨f1, f3⟩
  have hsn : Sn M (fun q => G q ∨ (X0 q ∨ N ≤ q)) w' D (newS s.size) := ⟨fun k => k = D, none, 0, l2.out, fun k hk => by subst hk; exact ⟨f1, l2.out.lt, f3⟩⟩
  exact ⟨A1, rfl, l1.out.kept fun k _ hk => ⟨rfl, by
    have := (hF k (by first | exact hk | exact hk.1)).2.2
    exact Nat.lt_of_not_le fun h => this (.inr (.inr h))⟩, (Pl.call h2 h3 h4 h5 hsn hb).1, (Pl.call h2 h3 h4 h5 hsn hb).2⟩
theorem Pl.low {M N : Nat} {X0 : Nat → Prop} {w : World} {D : Nat} {s : Snd} {l : List (List Nat)} {A : Option Addr} {c : Nat} {u : Value} {r : List Nat} (h : Pl M (fun q => X0 q ∨ N ≤ q) w D s l A c u r) : Ls (fun q => q < N) w A c l := by
  obtain ⟨G, h1, h2, h3, h4, h5⟩ := h
  exact h2.mono fun k _ hk => Nat.lt_of_not_le fun h => (h4 k hk).2.2 (.inr h)
theorem Pl.none {M : Nat} {X : Nat → Prop} {w : World} {D : Nat} {s : Snd} {l : List (List Nat)} {A : Option Addr} {c : Nat} {u : Value} {r : List Nat} (h : Pl M X w D s l A c u r) : Pl M X w D s [] none 0 (.slice none 0 0) [] := by
  obtain ⟨G, h1, h2, h3, h4, h5⟩ := h
  exact ⟨G, h1, Ls.nil _ _, El.nil _ _, h4, h5⟩
/-- On the way through Reset of both: the sender is s1, the result's box holds zc, the list stands at o. -/
structure Rs (M N D : Nat) (X0 : Nat → Prop) (w : World) (s : Snd) (A : Option Addr) (c : Nat) (s1 : Snd) (zc : Array Value) (o : Option (Option Addr)) (W : World) : Prop where
  pl : Pl M (fun q => X0 q ∨ N ≤ q) W D s1 s.l A c (.slice none 0 0) []
  x : KeptX N s A c W
  z : W.heap[N + 1 + 1]? = some (.cells zc 29 (0, 0))
  b : But (Out M X0) w W
  m : M ≤ N
  k : ∀ q, X0 q → q < N
  ls : ∀ a, o = some a → Ls (fun q => q < N) W a s.l.length s.l
theorem Rs.lt {M N D : Nat} {X0 : Nat → Prop} {w : World} {s : Snd} {A : Option Addr} {c : Nat} {s1 : Snd} {zc : Array Value} {o : Option (Option Addr)} {W : World} (h : Rs M N D X0 w s A c s1 zc o W) : N + 1 + 1 < W.heap.size := (Array.getElem?_eq_some_iff.1 h.z).1
theorem Rs.below {M N D : Nat} {X0 : Nat → Prop} {w : World} {s : Snd} {A : Option Addr} {c : Nat} {s1 : Snd} {zc : Array Value} {o : Option (Option Addr)} {W W' : World} (h : Rs M N D X0 w s A c s1 zc o W) (hb : Below W.heap.size W W') : Rs M N D X0 w s A c s1 zc o W' :=
  ⟨h.pl.grow hb fun q hq => .inl hq, (hb.block _ (by have := h.lt; omega)).trans h.x, (hb.block _ h.lt).trans h.z, but_more h.b hb, h.m, h.k, fun a ha => (h.ls a ha).below hb⟩
theorem Rs.reset {M N D : Nat} {X0 : Nat → Prop} {w : World} {s : Snd} {A : Option Addr} {c : Nat} {zc : Array Value} {W : World} (h : Hid (Rs M N D X0 w s A c s zc none W)) (ok : Hid s.Ok) :
    Calls Try.prog 22 #[.pointer (some ⟨D, 0, none⟩)] W fun e w' => ∃ Aq, e = .returned (.slice Aq s.l.length s.l.length) ∧ Hid (Rs M N D X0 w s A c (newS s.size) zc (some Aq) w') := by
  refine (Reset_n h.out.pl ok.out).mono ?_
  rintro e w' ⟨Aq, rfl, l1, p1, b1⟩
  have hlt := h.out.lt
  have hm := h.out.m
  exact ⟨Aq, rfl, p1, (b1.same _ (by omega) fun hk => hk.2 (.inr (Nat.le_refl _))).trans h.out.x, (b1.same _ hlt fun hk => hk.2 (.inr (by omega))).trans h.out.z, h.out.b.trans b1 fun k _ hk => ⟨hk.1, fun h => hk.2 (.inl h)⟩, hm, h.out.k, fun a ha => by cases ha; exact l1⟩
theorem Rs.store {M N D : Nat} {X0 : Nat → Prop} {w : World} {s : Snd} {A : Option Addr} {c : Nat} {s1 : Snd} {zc : Array Value} {o : Option (Option Addr)} {W : World} (h : Rs M N D X0 w s A c s1 zc o W) (row : Array Value) : Rs M N D X0 w s A c s1 row o (W.setRow (N + 1 + 1) row) := by
  have hb : But (fun k => k = N + 1 + 1) W (W.setRow (N + 1 + 1) row) := ⟨rfl, rfl, rfl, by simp [World.setRow], fun k _ hk => setRow_other _ _ k _ hk⟩
  have hm := h.m
  exact ⟨h.pl.but hb fun q hq => by subst hq; exact .inr (by omega), (setRow_other _ _ _ _ (by omega)).trans h.x, setRow_heap _ _ _ _ _ _ h.z, h.b.trans hb fun k _ hk => (by subst hk; exact ⟨by omega, fun hx => by have := h.k _ hx; omega⟩), hm, h.k, fun a ha => (h.ls a ha).but hb fun q hq e => by subst e; exact absurd hq (by omega)⟩
theorem Rs.same {M N D : Nat} {X0 : Nat → Prop} {w : World} {s : Snd} {A : Option Addr} {c : Nat} {s1 : Snd} {zc : Array Value} {Aq : Option Addr} {W : World} (h : Hid (Rs M N D X0 w s A c s1 zc (some Aq) W)) (ok : Hid s.Ok) :
    Calls Try.prog 23 #[.slice Aq s.l.length s.l.length, .slice A s.l.length c] W fun e w' => e = .returned (.bool true) ∧ Hid (Rs M N D X0 w s A c s1 zc (some Aq) w') := by
  obtain ⟨l1, n1⟩ := (h.out.ls Aq rfl).lst ok.out.bytes
  obtain ⟨l2, n2⟩ := h.out.pl.low.lst ok.out.bytes
  refine (Hd.Same_any W Aq A s.l.length c s.l s.l (Lib.hid l1) (Lib.hid n1) (Lib.hid l2) (Lib.hid n2) (by have := ok.out.q; omega)).mono ?_
  rintro e w' ⟨rfl, hb⟩
  exact ⟨by simp, h.out.below hb.out⟩
set_option maxRecDepth 100000 in
set_option maxHeartbeats 4000000 in
theorem play4 (M D : Nat) (w : World) (s : Snd) (A : Option Addr) (c : Nat) (an : Int) (R : Option Addr) (cr : Nat) (p : List Nat) (X0 : Nat → Prop) (hX0 : Hid (∀ q, X0 q → q < w.heap.size)) (h : Hid (Pl M X0 w D s s.l A c (.slice none 0 0) [])) (ok : Hid s.Ok) (hM : Hid (M ≤ w.heap.size)) :
    Calls Try.prog 13 #[.pointer (some ⟨D, 0, none⟩), rval s A c, .agg #[.int .i64 4, .int .i64 an, .slice R p.length cr]] w (PlayP M X0 D w) := by
  rw [show rval s A c = .agg #[.int .i64 (s.size : Int), .int .i64 (s.base : Int), .slice A s.l.length c, .int .i64 (s.under : Int)] from rfl]
  have HT0 : Bt w s A c 4 an R p.length cr (((w.alloc (.cells #[.int .i64 (s.size : Int), .int .i64 (s.base : Int), .slice A s.l.length c, .int .i64 (s.under : Int)] 29)).alloc (.cells #[.int .i64 4, .int .i64 an, .slice R p.length cr] 38)).alloc (.cells #[.int .i64 0, .int .i64 0, .slice none 0 0, .int .i64 0] 29)) := Bt.new w s A c 4 an R p.length cr
  have HOK' : Hid (newS s.size).Ok := Snd.Ok.new ok.out.s1 ok.out.s63
  have HRR := Lib.hid fun (W : World) => RReset_any W s A c
  go_enter Try.func13, Try.ntmps13
  go_wp2
  have HJ : Hid (Rs M w.heap.size D X0 w s A c s zcells none ((((w.alloc (.cells #[.int .i64 (s.size : Int), .int .i64 (s.base : Int), .slice A s.l.length c, .int .i64 (s.under : Int)] 29)).alloc (.cells #[.int .i64 4, .int .i64 an, .slice R p.length cr] 38)).alloc (.cells #[.int .i64 0, .int .i64 0, .slice none 0 0, .int .i64 0] 29))).drew) := by
    generalize (((w.alloc (.cells #[.int .i64 (s.size : Int), .int .i64 (s.base : Int), .slice A s.l.length c, .int .i64 (s.under : Int)] 29)).alloc (.cells #[.int .i64 4, .int .i64 an, .slice R p.length cr] 38)).alloc (.cells #[.int .i64 0, .int .i64 0, .slice none 0 0, .int .i64 0] 29)) = W0 at HT0 ⊢
    exact Rs.below ⟨h.out.grow HT0.b fun q hq => hq, HT0.x.x, HT0.x.z, But.of_below HT0.b, hM.out, hX0.out, fun a ha => by cases ha⟩ (Below.refl _ _).drew
  clear HT0
  generalize (((w.alloc (.cells #[.int .i64 (s.size : Int), .int .i64 (s.base : Int), .slice A s.l.length c, .int .i64 (s.under : Int)] 29)).alloc (.cells #[.int .i64 4, .int .i64 an, .slice R p.length cr] 38)).alloc (.cells #[.int .i64 0, .int .i64 0, .slice none 0 0, .int .i64 0] 29)) = W0 at HJ ⊢
  have S0 : KeptX w.heap.size s A c W0.drew := HJ.out.x
  refine wp_region_held_drew (S := KeptX w.heap.size s A c) (by kernel_rfl) S0 (fun hHeld => ?_)
  refine wpAnyH_take (i := 0) (v := ?vz1) rfl (by kernel_rfl) (by kernel_rfl) (by kernel_rfl) (fun _ _ _ h => h) (Or.inl ⟨by rfl, ?hyz1⟩) (by first | assumption | exact trivial) ?restz1
  case hyz1 => intro W hSW; obtain ⟨n0, n1, n2, n3⟩ := KeptX.row hSW; go_simp; try (with_reducible rfl)
  simp only [Act.put, List.getElem_toArray, List.getElem_cons_succ, List.getElem_cons_zero, List.setIfInBounds_toArray, List.set_cons_zero, List.set_cons_succ]
  refine wpAnyH_take (i := 2) (v := ?vz2) rfl (by kernel_rfl) (by kernel_rfl) (by kernel_rfl) (fun _ _ _ h => h) (Or.inl ⟨by rfl, ?hyz2⟩) (by first | assumption | exact trivial) ?restz2
  case hyz2 => intro W hSW; go_simp; try (with_reducible rfl)
  simp only [Act.put, List.getElem_toArray, List.getElem_cons_succ, List.getElem_cons_zero, List.setIfInBounds_toArray, List.set_cons_zero, List.set_cons_succ]
  refine wpAnyH_take (i := 4) (v := ?vz3) rfl (by kernel_rfl) (by kernel_rfl) (by kernel_rfl) (fun _ _ _ h => h) (Or.inl ⟨by rfl, ?hyz3⟩) (by first | assumption | exact trivial) ?restz3
  case hyz3 => intro W hSW; go_simp; try (with_reducible rfl)
  simp only [Act.put, List.getElem_toArray, List.getElem_cons_succ, List.getElem_cons_zero, List.setIfInBounds_toArray, List.set_cons_zero, List.set_cons_succ]
  refine wpAnyH_take (i := 5) (v := ?vz4) rfl (by kernel_rfl) (by kernel_rfl) (by kernel_rfl) (fun _ _ _ h => h) (Or.inl ⟨by rfl, ?hyz4⟩) (by first | assumption | exact trivial) ?restz4
  case hyz4 => intro W hSW; obtain ⟨n0, n1, n2, n3⟩ := KeptX.row hSW; go_simp; try (with_reducible rfl)
  simp only [Act.put, List.getElem_toArray, List.getElem_cons_succ, List.getElem_cons_zero, List.setIfInBounds_toArray, List.set_cons_zero, List.set_cons_succ]
  refine wpAnyH_ready (rs := [1]) (by kernel_rfl) (by simp) ?_
  refine AllReadyH.cons rfl (fun K hK => ?_) AllReadyH.nil
  go_simp
  go_wp2_with (go_at_call 30; refine (HRR.out _).mono ?_; rintro e w1 ⟨he, b1⟩; unfold rval rcells newS at he; subst he)
  have HJ1 := Lib.hid (HJ.out.below b1.out)
  clear HJ
  have HJ := HJ1
  clear HJ1
  have S1 : KeptX w.heap.size s A c _ := HJ.out.x
  refine hK.out _ _ (S1) (fun hHeld => ?_)
  clear hK K
  refine wpAnyH_ready (rs := [3]) (by kernel_rfl) (by simp) ?_
  refine AllReadyH.cons rfl (fun K hK => ?_) AllReadyH.nil
  go_simp
  go_wp2_with (go_at_call 22; refine (Rs.reset HJ ok).mono ?_; rintro e w2 ⟨Aq, rfl, HJ2⟩)
  clear HJ
  have HJ := HJ2
  clear HJ2
  have S2 : KeptX w.heap.size s A c _ := HJ.out.x
  refine hK.out _ _ (S2) (fun hHeld => ?_)
  clear hK K
  refine wpAnyH_ready (rs := [6]) (by kernel_rfl) (by simp) ?_
  refine AllReadyH.cons rfl (fun K hK => ?_) AllReadyH.nil
  go_simp
  go_wp2_with (go_at_call 23; refine (Rs.same HJ ok).mono ?_; rintro e w3 ⟨rfl, HJ3⟩)
  clear HJ
  have HJ := HJ3
  clear HJ3
  have S3 : KeptX w.heap.size s A c _ := HJ.out.x
  refine hK.out _ _ (S3) (fun hHeld => ?_)
  clear hK K
  refine wpAnyH_ready (rs := [7]) (by kernel_rfl) (by simp) ?_
  refine AllReadyH.cons rfl (fun K hK => ?_) AllReadyH.nil
  rw [if_pos (by kernel_rfl)]
  refine wp_store_row 29 (.tmp 6) (.tmp 169) rfl (w.heap.size + 1 + 1) (rcells (newS s.size) none 0) rfl (by rfl) 29 _ HJ.out.z (by kernel_rfl) rfl (rc_one _ _ _) ?_
  simp only [Act.put, List.getElem_toArray, List.getElem_cons_succ, List.getElem_cons_zero, List.setIfInBounds_toArray, List.set_cons_zero, List.set_cons_succ]
  have HJ4 := Lib.hid (HJ.out.store (rcells (newS s.size) none 0))
  clear HJ
  have HJ := HJ4
  clear HJ4
  have S4 : KeptX w.heap.size s A c _ := HJ.out.x
  refine hK.out _ _ (S4) (fun hHeld => ?_)
  clear hK K
  refine wpAnyH_take (i := 8) (v := ?vz5) rfl (by kernel_rfl) (by kernel_rfl) (by kernel_rfl) (fun _ _ _ h => h) (Or.inl ⟨by rfl, ?hyz5⟩) (by first | assumption | exact trivial) ?restz5
  case hyz5 => intro W hSW; go_simp; try (with_reducible rfl)
  simp only [Act.put, List.getElem_toArray, List.getElem_cons_succ, List.getElem_cons_zero, List.setIfInBounds_toArray, List.set_cons_zero, List.set_cons_succ]
  refine wpAnyH_done (by kernel_rfl) ?_ _
  go_wp2
  refine ret_cell rfl rfl HJ.out.z rfl Try.underlying29 (by kernel_rfl) rfl ?_
  exact ⟨newS s.size, none, 0, rfl, HOK', HJ.out.pl.none.less (fun q hq => .inl hq), HJ.out.b⟩
set_option maxRecDepth 100000 in
set_option maxHeartbeats 4000000 in
theorem playx (M D : Nat) (w : World) (s : Snd) (A : Option Addr) (c : Nat) (kd : Int) (an : Int) (R : Option Addr) (cr : Nat) (p : List Nat) (X0 : Nat → Prop) (hX0 : Hid (∀ q, X0 q → q < w.heap.size)) (h : Hid (Pl M X0 w D s s.l A c (.slice none 0 0) [])) (ok : Hid s.Ok) (hM : Hid (M ≤ w.heap.size)) (g0 : (kd == 0) = false) (g1 : (kd == 1) = false) (g2 : (kd == 2) = false) (g3 : (kd == 3) = false) (g4 : (kd == 4) = false) :
    Calls Try.prog 13 #[.pointer (some ⟨D, 0, none⟩), rval s A c, .agg #[.int .i64 kd, .int .i64 an, .slice R p.length cr]] w (PlayP M X0 D w) := by
  rw [show rval s A c = .agg #[.int .i64 (s.size : Int), .int .i64 (s.base : Int), .slice A s.l.length c, .int .i64 (s.under : Int)] from rfl]
  have HT0 : Bt w s A c kd an R p.length cr (((w.alloc (.cells #[.int .i64 (s.size : Int), .int .i64 (s.base : Int), .slice A s.l.length c, .int .i64 (s.under : Int)] 29)).alloc (.cells #[.int .i64 kd, .int .i64 an, .slice R p.length cr] 38)).alloc (.cells #[.int .i64 0, .int .i64 0, .slice none 0 0, .int .i64 0] 29)) := Bt.new w s A c kd an R p.length cr
  go_enter Try.func13, Try.ntmps13
  go_wp2_with (generalize (((w.alloc (.cells #[.int .i64 (s.size : Int), .int .i64 (s.base : Int), .slice A s.l.length c, .int .i64 (s.under : Int)] 29)).alloc (.cells #[.int .i64 kd, .int .i64 an, .slice R p.length cr] 38)).alloc (.cells #[.int .i64 0, .int .i64 0, .slice none 0 0, .int .i64 0] 29)) = W0 at HT0 ⊢; obtain ⟨p1, m1, l1⟩ := play_at h.out hX0.out HT0.b; have HZ := Lib.hid HT0.x.z; have FIN := Lib.hid (play_fin p1 (.inr ⟨by omega, by have := HT0.n; omega⟩) (fun q hq => .inl hq) (fun q hq => by have := hX0.out q hq; omega) HZ.out m1 (by have := hM.out; omega)); clear p1 m1 l1 HT0; refine wpList_store_row rfl 29 (.tmp 6) (.tmp 175) rfl (w.heap.size + 1 + 1) (rcells s A c) rfl rfl 29 _ HZ.out (by kernel_rfl) rfl (rc_one _ _ _) ?_)
  refine ret_cell rfl rfl FIN.out.1 rfl Try.underlying29 (by kernel_rfl) rfl ?_
  exact ⟨s, A, c, rfl, ok, FIN.out.2.1, FIN.out.2.2⟩
end Go.Proofs.Ytdfjlhiliifapaa.Sn
