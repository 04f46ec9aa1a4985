/- The program's From, where there is no store. -/
import Derived.Test.YtfnlhfelpdkieaaGreatZ26
import Derived.Test.YtfnlhfelpdkieaaGreatZ18
import Derived.Test.YtfnlhfelpdkieaaGreatZ17
namespace Go.Proofs.YtfnlhfelpdkieaaGreat.So
open Go.RowKit
open Go.Proofs.YtfnlhfelpdkieaaGreat.Me Go.Proofs.YtfnlhfelpdkieaaGreat.Sb
set_option linter.unusedVariables false
set_option linter.unusedSimpArgs false

/-- A state as it comes in, with its quota. -/
structure Fq where
  me : Int
  qh : Int
  qb : Int
  qg : Int
  ep : Int
  N : Ns
  H : List It
  P : List Se.Pm
def Fq.ms (q : Fq) : List Se.Mr := q.P.map Se.Pm.m
/-- What From answers. -/
noncomputable def frmN (q : Fq) : Nat :=
  if ¬ NewOk q.me q.qh q.qb q.qg then 1 else if Se.ckE q.qg q.ms = 2 ∨ rgB q.me q.ep q.N q.H q.ms = false then 2
  else if Se.ckE q.qg q.ms ≠ 0 ∨ q.qh < q.H.length ∨ q.qb < bytesOf q.H then 6 else 0
/-- It lies in memory. -/
structure FqAt (w : World) (q : Fq) (AN AH AM : Option Addr) (cM : Nat) : Prop where
  n : Nq w AN q.N
  nl : q.N.length ≤ 100000000000000
  h : Mq w AH q.H
  hl : q.H.length ≤ 10000000000000
  m : Se.Mv w (.slice AM q.P.length cM) q.P
  ml : Se.Msn q.P
theorem FqAt.below {w w' : World} {q : Fq} {AN AH AM : Option Addr} {cM : Nat} (h : FqAt w q AN AH AM cM) (hb : Below w.heap.size w w') : FqAt w' q AN AH AM cM := ⟨h.n.below hb, h.nl, h.h.below hb, h.hl, h.m.below hb, h.ml⟩
theorem quota_cells {w : World} {b : Nat} {v0 v1 v2 : Value} (h : w.heap[b]? = some (.cells #[v0, v1, v2] 23 (0, 0))) : w.cell? ⟨b, 0, none⟩ = some v0 ∧ w.cell? ⟨b, 1, none⟩ = some v1 ∧ w.cell? ⟨b, 2, none⟩ = some v2 :=
  ⟨cell_of_row w b 0 _ _ (0, 0) h, cell_of_row w b 1 _ _ (0, 0) h, cell_of_row w b 2 _ _ (0, 0) h⟩
theorem ckE_of {g : Int} {ms : List Se.Mr} (h0 : 0 ≤ g) (h1 : g ≤ 256) : (Se.ckE g ms = 2 ∧ ¬ Se.okMs ms ms.length) ∨ (Se.okMs ms ms.length ∧ g < Se.gapsTo ms ms.length ∧ Se.ckE g ms = 6) ∨ (Se.okMs ms ms.length ∧ ¬ g < Se.gapsTo ms ms.length ∧ Se.ckE g ms = 0) := by
  unfold Se.ckE
  rw [if_neg (by omega)]
  by_cases h : Se.okMs ms ms.length
  · right
    rw [if_neg (fun e => e h)]
    by_cases h2 : g < Se.gapsTo ms ms.length
    · left; rw [if_pos h2]; exact ⟨h, h2, rfl⟩
    · right; rw [if_neg h2]; exact ⟨h, h2, rfl⟩
  · left; rw [if_pos h]; exact ⟨rfl, h⟩
/-- The program's From of marks, whatever they are: its first answer is a pointer or nil. -/
theorem SFrom_all (g : Int) (A : Option Addr) (c : Nat) (P : List Se.Pm) (w : World) (hv : Hid (Se.Mv w (.slice A P.length c) P)) (hz : Hid (Se.Msn P)) (h0 : 0 ≤ g) (h1 : g ≤ 256) :
    Calls Tryz.prog 53 #[.int .i64 g, .slice A P.length c] w fun e w' => (∃ p, e = .returned (.tuple #[.pointer p, .int .i64 (Se.ckE g (P.map Se.Pm.m) : Int)])) ∧ Hid (Below w.heap.size w w') := by
  rcases ckE_of (ms := P.map Se.Pm.m) h0 h1 with ⟨e, h⟩ | ⟨h, h2, e⟩ | ⟨h, h2, e⟩
  · refine (Se.From_bad g A P.length c P _ w hv hz rfl (.inr h)).mono ?_
    rintro e w' ⟨rfl, hb⟩
    exact ⟨⟨none, rfl⟩, hb⟩
  · refine (Se.From_goodL (fun _ => True) g A P.length c P _ w (fun _ _ => trivial) hv hz rfl h0 h1 h).mono ?_
    rintro e1 w' ⟨hb, ⟨_, rfl⟩ | ⟨h3, _⟩⟩
    · rw [e]; exact ⟨⟨none, rfl⟩, hb⟩
    · exact absurd h2 h3
  · refine (Se.From_goodL (fun _ => True) g A P.length c P _ w (fun _ _ => trivial) hv hz rfl h0 h1 h).mono ?_
    rintro e1 w' ⟨hb, ⟨h3, _⟩ | ⟨_, D, b, rfl, _⟩⟩
    · exact absurd h3 h2
    · rw [e]; exact ⟨⟨_, rfl⟩, hb⟩
theorem hd48 {q : Fq} (h : rgB q.me q.ep q.N q.H q.ms = true) : ∀ x ∈ q.H, x.p.length ≤ 48 := fun x hx => by
  unfold rgB at h
  simp only [Bool.and_eq_true] at h
  have h1 := (of_decide_eq_true (show decide _ = true from h.1.2)).1 x hx
  unfold hdB at h1
  exact (msgN_zero (of_decide_eq_true h1).1).2.2
set_option maxRecDepth 100000 in
set_option maxHeartbeats 16000000 in
theorem From_no (q : Fq) (AN AH AM : Option Addr) (cN cH cM : Nat) (w : World) (hq : Hid (FqAt w q AN AH AM cM)) (z : Nat) (hzz : frmN q = z) (hz0 : z ≠ 0) :
    Calls Tryz.prog 20 #[.agg #[.int .i64 q.qh, .int .i64 q.qb, .int .i64 q.qg], .agg #[.int .i64 q.me, .int .i64 q.ep, .slice AN q.N.length cN, .slice AH q.H.length cH, .slice AM q.P.length cM]] w fun e w' => e = .returned (.tuple #[.pointer none, .int .i64 (z : Int)]) ∧ Hid (Below w.heap.size w w') := by
  have hb1 : Below w.heap.size w (w.alloc (.cells #[.int .i64 q.qh, .int .i64 q.qb, .int .i64 q.qg] 23)) := Me.below_alloc (Below.refl _ _)
  have hx1 := heap_alloc_new w (.cells #[.int .i64 q.qh, .int .i64 q.qb, .int .i64 q.qg] 23 (0, 0))
  obtain ⟨V1, hV1⟩ : ∃ V, w.alloc (.cells #[.int .i64 q.qh, .int .i64 q.qb, .int .i64 q.qg] 23) = V := ⟨_, rfl⟩
  have hs1 : V1.heap.size = w.heap.size + 1 := by rw [← hV1]; simp
  rw [hV1] at hb1 hx1
  have hb2 : Below V1.heap.size V1 (V1.alloc (.cells #[.int .i64 q.me, .int .i64 q.ep, .slice AN q.N.length cN, .slice AH q.H.length cH, .slice AM q.P.length cM] 59)) := Me.below_alloc (Below.refl _ _)
  have hx2 := heap_alloc_new V1 (.cells #[.int .i64 q.me, .int .i64 q.ep, .slice AN q.N.length cN, .slice AH q.H.length cH, .slice AM q.P.length cM] 59 (0, 0))
  obtain ⟨V, hV⟩ : ∃ V, V1.alloc (.cells #[.int .i64 q.me, .int .i64 q.ep, .slice AN q.N.length cN, .slice AH q.H.length cH, .slice AM q.P.length cM] 59) = V := ⟨_, rfl⟩
  rw [hV] at hb2 hx2
  have HLv : Hid (∀ W, Below V.heap.size V W → W.heap[w.heap.size]? = some (.cells #[.int .i64 q.qh, .int .i64 q.qb, .int .i64 q.qg] 23 (0, 0)) ∧ W.heap[w.heap.size + 1]? = some (.cells #[.int .i64 q.me, .int .i64 q.ep, .slice AN q.N.length cN, .slice AH q.H.length cH, .slice AM q.P.length cM] 59 (0, 0)) ∧ Below w.heap.size w W) := fun W hW => by
    have k := go_on hb1 hb2
    have hx1' := (hb2.block _ (Array.getElem?_eq_some_iff.1 hx1).1).trans hx1
    rw [hs1] at hx2
    exact ⟨(hW.block _ (Array.getElem?_eq_some_iff.1 hx1').1).trans hx1', (hW.block _ (Array.getElem?_eq_some_iff.1 hx2).1).trans hx2, go_on k hW⟩
  have HFq : Hid (∀ W, Below V.heap.size V W → FqAt W q AN AH AM cM) := fun W hW => hq.out.below (HLv.out W hW).2.2
  have HV : Hid ((w.alloc (.cells #[.int .i64 q.qh, .int .i64 q.qb, .int .i64 q.qg] 23)).alloc (.cells #[.int .i64 q.me, .int .i64 q.ep, .slice AN q.N.length cN, .slice AH q.H.length cH, .slice AM q.P.length cM] 59) = V) := by show _ = _; rw [hV1, hV]
  have HS1 : Hid ((w.alloc (.cells #[.int .i64 q.qh, .int .i64 q.qb, .int .i64 q.qg] 23)).heap.size = w.heap.size + 1) := by show _ = _; rw [hV1]; exact hs1
  clear hV1 hs1 hb1 hx1 hb2 hx2 hV hq
  obtain ⟨me, qh, qb, qg, ep, N, H, P⟩ := q
  simp only at HLv HFq HV HS1 ⊢
  obtain ⟨y0, y1, y2⟩ := quota_cells (HLv.out V (Below.refl _ _)).1
  obtain ⟨x0, x1, x2, x3, x4⟩ := state_cells (HLv.out V (Below.refl _ _)).2.1
  by_cases hno : ¬ NewOk me qh qb qg
  · have HF : Hid (z = 1) := by show _ = _; rw [← hzz]; unfold frmN; rw [if_pos hno]
    have HN := Lib.hid (fun W => New_no me qh qb qg hno W)
    obtain ⟨LN, hLN⟩ : ∃ x, N.length = x := ⟨_, rfl⟩
    obtain ⟨LH, hLH⟩ : ∃ x, H.length = x := ⟨_, rfl⟩
    obtain ⟨LP, hLP⟩ : ∃ x, P.length = x := ⟨_, rfl⟩
    rw [hLN, hLH, hLP] at HLv HV ⊢
    rw [hLN] at x2
    rw [hLH] at x3
    rw [hLP] at x4
    clear hLN hLH hLP HFq hzz hz0 hno
    go_enter Tryz.func20, Tryz.ntmps20
    go_wp2_with (first
      | (rw [HV.out])
      | (go_at_call 7; refine (HN.out _).mono ?_; rintro e w1 ⟨rfl, b1⟩))
    go_ret2
    exact ⟨by rw [HF.out]; rfl, (HLv.out _ b1.out).2.2⟩
  have hno : NewOk me qh qb qg := Decidable.not_not.1 hno
  have HN := Lib.hid (fun W => New_ok (fun _ => True) me qh qb qg hno W)
  have HSf : Hid (∀ W, Below V.heap.size V W → Calls Tryz.prog 53 #[.int .i64 qg, .slice AM P.length cM] W fun e w' => (∃ p, e = .returned (.tuple #[.pointer p, .int .i64 (Se.ckE qg (P.map Se.Pm.m) : Int)])) ∧ Hid (Below W.heap.size W w')) := fun W hW => SFrom_all qg AM cM P W (HFq.out W hW).m (HFq.out W hW).ml hno.g0 hno.g1
  have HIr : Hid (∀ W, Below V.heap.size V W → Calls Tryz.prog 54 #[.agg #[.int .i64 me, .int .i64 ep, .slice AN N.length cN, .slice AH H.length cH, .slice AM P.length cM]] W fun e w' => e = .returned (.bool (rgB me ep N H (P.map Se.Pm.m))) ∧ Hid (Below W.heap.size W w')) := fun W hW => isRight_any me ep AN AH AM cN cH cM N H P _ W (HFq.out W hW).n (HFq.out W hW).nl (HFq.out W hW).h (HFq.out W hW).hl (HFq.out W hW).m (HFq.out W hW).ml rfl
  have HSz : Hid (rgB me ep N H (P.map Se.Pm.m) = true → ¬ qh < H.length → ∀ W, Below V.heap.size V W → Calls Tryz.prog 55 #[.slice AH H.length cH] W fun e w' => e = .returned (.int .i64 (bytesOf H)) ∧ Hid (Below W.heap.size W w')) := fun hr hl W hW => sizeOf_any AH cH H W (HFq.out W hW).h (hd48 (q := ⟨me, qh, qb, qg, ep, N, H, P⟩) hr) (by have := hno.h1; omega)
  have hz : z = if Se.ckE qg (P.map Se.Pm.m) = 2 ∨ rgB me ep N H (P.map Se.Pm.m) = false then 2 else if Se.ckE qg (P.map Se.Pm.m) ≠ 0 ∨ qh < H.length ∨ qb < bytesOf H then 6 else 0 := by
    rw [← hzz]
    unfold frmN
    rw [if_neg (fun h => h hno)]
    rfl
  have hck := ckE_of (ms := P.map Se.Pm.m) hno.g0 hno.g1
  obtain ⟨fc, hfc⟩ : ∃ x, Se.ckE qg (P.map Se.Pm.m) = x := ⟨_, rfl⟩
  obtain ⟨r, hr⟩ : ∃ x, rgB me ep N H (P.map Se.Pm.m) = x := ⟨_, rfl⟩
  obtain ⟨by0, hby⟩ : ∃ x, bytesOf H = x := ⟨_, rfl⟩
  obtain ⟨LN, hLN⟩ : ∃ x, N.length = x := ⟨_, rfl⟩
  obtain ⟨LH, hLH⟩ : ∃ x, H.length = x := ⟨_, rfl⟩
  obtain ⟨LP, hLP⟩ : ∃ x, P.length = x := ⟨_, rfl⟩
  rw [hfc] at HSf hz hck
  rw [hr] at HIr HSz hz
  rw [hby] at HSz hz
  rw [hLN] at HIr
  rw [hLH] at HIr HSz hz
  rw [hLP] at HIr HSf
  rw [hLN, hLH, hLP] at HLv HV ⊢
  rw [hLN] at x2
  rw [hLH] at x3
  rw [hLP] at x4
  have hfc3 : fc = 2 ∨ fc = 6 ∨ fc = 0 := by rcases hck with h | h | h <;> omega
  have Hz := Lib.hid hz
  have Hz0 := Lib.hid hz0
  clear hz hck hfc hr hby hLN hLH hLP HFq hzz hz0 hno
  rcases hfc3 with rfl | hfc3
  · have HF : Hid (z = 2) := by show _ = _; rw [Hz.out, if_pos (.inl rfl)]
    simp only [show ((2 : Nat) : Int) = 2 from rfl] at HSf
    clear Hz Hz0 HSz HIr
    go_enter Tryz.func20, Tryz.ntmps20
    go_wp2_with (first
      | (rw [HV.out])
      | (go_at_call 7; refine (HN.out _).mono ?_; rintro e w1 ⟨D, hb, sd, sb, rfl, _, _, b1⟩; obtain ⟨k1, k2, _⟩ := HLv.out _ b1.out; clear x0 x1 x2 x3 x4 y0 y1 y2; obtain ⟨y0, y1, y2⟩ := quota_cells k1; obtain ⟨x0, x1, x2, x3, x4⟩ := state_cells k2; clear k1 k2)
      | (go_at_call 53; refine (HSf.out _ b1.out).mono ?_; rintro e w2 ⟨⟨p, rfl⟩, b2⟩; have B2 := Lib.hid (go_on b1.out b2.out)))
    go_ret2
    exact ⟨by rw [HF.out]; rfl, (HLv.out _ B2.out).2.2⟩
  have hfl : fc ≠ 2 := by omega
  cases r with
  | false =>
    have HF : Hid (z = 2) := by show _ = _; rw [Hz.out, if_pos (.inr rfl)]
    have hfb : ((fc : Int) == 2) = false := by simpa using fun e : (fc : Int) = 2 => hfl (by omega)
    clear Hz Hz0 HSz hfc3 hfl
    go_enter Tryz.func20, Tryz.ntmps20
    go_wp2_with (first
      | (rw [HV.out])
      | (go_at_call 7; refine (HN.out _).mono ?_; rintro e w1 ⟨D, hb, sd, sb, rfl, _, _, b1⟩; obtain ⟨k1, k2, _⟩ := HLv.out _ b1.out; clear x0 x1 x2 x3 x4 y0 y1 y2; obtain ⟨y0, y1, y2⟩ := quota_cells k1; obtain ⟨x0, x1, x2, x3, x4⟩ := state_cells k2; clear k1 k2)
      | (go_at_call 53; refine (HSf.out _ b1.out).mono ?_; rintro e w2 ⟨⟨p, rfl⟩, b2⟩; have B2 := Lib.hid (go_on b1.out b2.out); obtain ⟨k1, k2, _⟩ := HLv.out _ B2.out; clear x0 x1 x2 x3 x4 y0 y1 y2; obtain ⟨x0, x1, x2, x3, x4⟩ := state_cells k2; clear k1 k2)
      | (go_at_call 54; refine (HIr.out _ B2.out).mono ?_; rintro e w3 ⟨rfl, b3⟩; have B3 := Lib.hid (go_on B2.out b3.out)))
    go_ret2
    exact ⟨by rw [HF.out]; rfl, (HLv.out _ B3.out).2.2⟩
  | true =>
    have hz := Hz.out
    rw [if_neg (fun h => h.elim hfl (fun h => by cases h))] at hz
    have hor : fc ≠ 0 ∨ qh < (LH : Int) ∨ qb < by0 := by
      by_cases h : fc ≠ 0 ∨ qh < (LH : Int) ∨ qb < by0
      · exact h
      · rw [if_neg h] at hz; exact absurd hz Hz0.out
    have HF : Hid (z = 6) := by show _ = _; rw [hz, if_pos hor]
    have hfb : ((fc : Int) == 2) = false := by simpa using fun e : (fc : Int) = 2 => hfl (by omega)
    have HOr := Lib.hid hor
    have HF0 := HF
    have HFc := Lib.hid hfc3
    have HSz1 := Lib.hid (HSz.out rfl)
    clear hz hor Hz Hz0 HSz hfl hfc3
    go_enter Tryz.func20, Tryz.ntmps20
    go_wp2_with (first
      | (rw [HV.out])
      | (go_at_call 7; refine (HN.out _).mono ?_; rintro e w1 ⟨D, hb, sd, sb, rfl, _, _, b1⟩; obtain ⟨k1, k2, _⟩ := HLv.out _ b1.out; clear x0 x1 x2 x3 x4 y0 y1 y2; obtain ⟨y0, y1, y2⟩ := quota_cells k1; obtain ⟨x0, x1, x2, x3, x4⟩ := state_cells k2; clear k1 k2)
      | (go_at_call 53; refine (HSf.out _ b1.out).mono ?_; rintro e w2 ⟨⟨p, rfl⟩, b2⟩; have B2 := Lib.hid (go_on b1.out b2.out); obtain ⟨k1, k2, _⟩ := HLv.out _ B2.out; clear x0 x1 x2 x3 x4 y0 y1 y2; obtain ⟨x0, x1, x2, x3, x4⟩ := state_cells k2; clear k1 k2)
      | (go_at_call 54; refine (HIr.out _ B2.out).mono ?_; rintro e w3 ⟨rfl, b3⟩; have B3 := Lib.hid (go_on B2.out b3.out)))
    clear x0 x1 x2 x3 x4 hfb
    have S0 : Below V.heap.size V w3.drew := B3.out.drew
    refine wp_region_held_drew (S := fun W => Below V.heap.size V W) (by kernel_rfl) S0 (fun hHeld => ?_)
    rcases HFc.out with rfl | rfl
    · clear HOr HSz1
      refine wpAnyH_take (i := 0) (v := .int .i64 6) rfl (by kernel_rfl) (by kernel_rfl) (by kernel_rfl) (fun _ _ _ h => h) (Or.inl ⟨by rfl, ?_⟩) (by first | assumption | exact trivial) ?_
      · intro W hSW; go_simp; try (with_reducible rfl)
      simp only [Act.put, List.getElem_toArray, List.getElem_cons_succ, List.getElem_cons_zero, List.setIfInBounds_toArray, List.set_cons_zero, List.set_cons_succ]
      refine wpAnyH_take (i := 1) (v := .bool true) rfl (by kernel_rfl) (by kernel_rfl) (by kernel_rfl) (fun _ _ _ h => h) (Or.inl ⟨by rfl, ?_⟩) (by first | assumption | exact trivial) ?_
      · intro W hSW; go_simp; try (with_reducible rfl)
      simp only [Act.put, List.getElem_toArray, List.getElem_cons_succ, List.getElem_cons_zero, List.setIfInBounds_toArray, List.set_cons_zero, List.set_cons_succ]
      refine wpAnyH_take (i := 2) (v := .bool true) rfl (by kernel_rfl) (by kernel_rfl) (by kernel_rfl) (fun _ _ _ h => h) (Or.inl ⟨by rfl, ?_⟩) (by first | assumption | exact trivial) ?_
      · intro W hSW; go_simp; try (with_reducible rfl)
      simp only [Act.put, List.getElem_toArray, List.getElem_cons_succ, List.getElem_cons_zero, List.setIfInBounds_toArray, List.set_cons_zero, List.set_cons_succ]
      refine wpAnyH_take (i := 3) (v := undef) rfl (by kernel_rfl) (by kernel_rfl) (by kernel_rfl) (fun _ _ _ h => h) (Or.inr ⟨by rfl, rfl⟩) (by first | assumption | exact trivial) ?restz1
      simp only [Act.put, List.getElem_toArray, List.getElem_cons_succ, List.getElem_cons_zero, List.setIfInBounds_toArray, List.set_cons_zero, List.set_cons_succ]
      refine wpAnyH_take (i := 4) (v := undef) rfl (by kernel_rfl) (by kernel_rfl) (by kernel_rfl) (fun _ _ _ h => h) (Or.inr ⟨by rfl, rfl⟩) (by first | assumption | exact trivial) ?restz2
      simp only [Act.put, List.getElem_toArray, List.getElem_cons_succ, List.getElem_cons_zero, List.setIfInBounds_toArray, List.set_cons_zero, List.set_cons_succ]
      refine wpAnyH_take (i := 5) (v := undef) rfl (by kernel_rfl) (by kernel_rfl) (by kernel_rfl) (fun _ _ _ h => h) (Or.inr ⟨by rfl, rfl⟩) (by first | assumption | exact trivial) ?restz3
      simp only [Act.put, List.getElem_toArray, List.getElem_cons_succ, List.getElem_cons_zero, List.setIfInBounds_toArray, List.set_cons_zero, List.set_cons_succ]
      refine wpAnyH_take (i := 6) (v := undef) rfl (by kernel_rfl) (by kernel_rfl) (by kernel_rfl) (fun _ _ _ h => h) (Or.inr ⟨by rfl, rfl⟩) (by first | assumption | exact trivial) ?restz4
      simp only [Act.put, List.getElem_toArray, List.getElem_cons_succ, List.getElem_cons_zero, List.setIfInBounds_toArray, List.set_cons_zero, List.set_cons_succ]
      refine wpAnyH_take (i := 7) (v := undef) rfl (by kernel_rfl) (by kernel_rfl) (by kernel_rfl) (fun _ _ _ h => h) (Or.inr ⟨by rfl, rfl⟩) (by first | assumption | exact trivial) ?restz5
      simp only [Act.put, List.getElem_toArray, List.getElem_cons_succ, List.getElem_cons_zero, List.setIfInBounds_toArray, List.set_cons_zero, List.set_cons_succ]
      refine wpAnyH_take (i := 8) (v := undef) rfl (by kernel_rfl) (by kernel_rfl) (by kernel_rfl) (fun _ _ _ h => h) (Or.inr ⟨by rfl, rfl⟩) (by first | assumption | exact trivial) ?restz6
      simp only [Act.put, List.getElem_toArray, List.getElem_cons_succ, List.getElem_cons_zero, List.setIfInBounds_toArray, List.set_cons_zero, List.set_cons_succ]
      refine wpAnyH_take (i := 9) (v := .bool true) rfl (by kernel_rfl) (by kernel_rfl) (by kernel_rfl) (fun _ _ _ h => h) (Or.inl ⟨by rfl, ?_⟩) (by first | assumption | exact trivial) ?_
      · intro W hSW; go_simp; try (with_reducible rfl)
      simp only [Act.put, List.getElem_toArray, List.getElem_cons_succ, List.getElem_cons_zero, List.setIfInBounds_toArray, List.set_cons_zero, List.set_cons_succ]
      refine wpAnyH_take (i := 10) (v := .bool true) rfl (by kernel_rfl) (by kernel_rfl) (by kernel_rfl) (fun _ _ _ h => h) (Or.inl ⟨by rfl, ?_⟩) (by first | assumption | exact trivial) ?_
      · intro W hSW; go_simp; try (with_reducible rfl)
      simp only [Act.put, List.getElem_toArray, List.getElem_cons_succ, List.getElem_cons_zero, List.setIfInBounds_toArray, List.set_cons_zero, List.set_cons_succ]
      refine wpAnyH_take (i := 11) (v := undef) rfl (by kernel_rfl) (by kernel_rfl) (by kernel_rfl) (fun _ _ _ h => h) (Or.inr ⟨by rfl, rfl⟩) (by first | assumption | exact trivial) ?restz7
      simp only [Act.put, List.getElem_toArray, List.getElem_cons_succ, List.getElem_cons_zero, List.setIfInBounds_toArray, List.set_cons_zero, List.set_cons_succ]
      refine wpAnyH_take (i := 12) (v := undef) rfl (by kernel_rfl) (by kernel_rfl) (by kernel_rfl) (fun _ _ _ h => h) (Or.inr ⟨by rfl, rfl⟩) (by first | assumption | exact trivial) ?restz8
      simp only [Act.put, List.getElem_toArray, List.getElem_cons_succ, List.getElem_cons_zero, List.setIfInBounds_toArray, List.set_cons_zero, List.set_cons_succ]
      refine wpAnyH_take (i := 13) (v := undef) rfl (by kernel_rfl) (by kernel_rfl) (by kernel_rfl) (fun _ _ _ h => h) (Or.inr ⟨by rfl, rfl⟩) (by first | assumption | exact trivial) ?restz9
      simp only [Act.put, List.getElem_toArray, List.getElem_cons_succ, List.getElem_cons_zero, List.setIfInBounds_toArray, List.set_cons_zero, List.set_cons_succ]
      refine wpAnyH_take (i := 14) (v := undef) rfl (by kernel_rfl) (by kernel_rfl) (by kernel_rfl) (fun _ _ _ h => h) (Or.inr ⟨by rfl, rfl⟩) (by first | assumption | exact trivial) ?restz10
      simp only [Act.put, List.getElem_toArray, List.getElem_cons_succ, List.getElem_cons_zero, List.setIfInBounds_toArray, List.set_cons_zero, List.set_cons_succ]
      refine wpAnyH_take (i := 15) (v := undef) rfl (by kernel_rfl) (by kernel_rfl) (by kernel_rfl) (fun _ _ _ h => h) (Or.inr ⟨by rfl, rfl⟩) (by first | assumption | exact trivial) ?restz11
      simp only [Act.put, List.getElem_toArray, List.getElem_cons_succ, List.getElem_cons_zero, List.setIfInBounds_toArray, List.set_cons_zero, List.set_cons_succ]
      refine wpAnyH_take (i := 16) (v := undef) rfl (by kernel_rfl) (by kernel_rfl) (by kernel_rfl) (fun _ _ _ h => h) (Or.inr ⟨by rfl, rfl⟩) (by first | assumption | exact trivial) ?restz12
      simp only [Act.put, List.getElem_toArray, List.getElem_cons_succ, List.getElem_cons_zero, List.setIfInBounds_toArray, List.set_cons_zero, List.set_cons_succ]
      refine wpAnyH_take (i := 17) (v := .bool true) rfl (by kernel_rfl) (by kernel_rfl) (by kernel_rfl) (fun _ _ _ h => h) (Or.inl ⟨by rfl, ?_⟩) (by first | assumption | exact trivial) ?_
      · intro W hSW; go_simp; try (with_reducible rfl)
      simp only [Act.put, List.getElem_toArray, List.getElem_cons_succ, List.getElem_cons_zero, List.setIfInBounds_toArray, List.set_cons_zero, List.set_cons_succ]
      refine wpAnyH_take (i := 18) (v := .bool true) rfl (by kernel_rfl) (by kernel_rfl) (by kernel_rfl) (fun _ _ _ h => h) (Or.inl ⟨by rfl, ?_⟩) (by first | assumption | exact trivial) ?_
      · intro W hSW; go_simp; try (with_reducible rfl)
      simp only [Act.put, List.getElem_toArray, List.getElem_cons_succ, List.getElem_cons_zero, List.setIfInBounds_toArray, List.set_cons_zero, List.set_cons_succ]
      refine wpAnyH_done (by kernel_rfl) ?_ _
      go_wp2
      go_ret2
      exact ⟨by rw [HF.out]; rfl, (HLv.out _ S0).2.2⟩
    · clear HF
      have HF : Hid (z = 6) := HF0.out
      refine wpAnyH_take (i := 0) (v := .int .i64 0) rfl (by kernel_rfl) (by kernel_rfl) (by kernel_rfl) (fun _ _ _ h => h) (Or.inl ⟨by rfl, ?_⟩) (by first | assumption | exact trivial) ?_
      · intro W hSW; go_simp; try (with_reducible rfl)
      simp only [Act.put, List.getElem_toArray, List.getElem_cons_succ, List.getElem_cons_zero, List.setIfInBounds_toArray, List.set_cons_zero, List.set_cons_succ]
      refine wpAnyH_take (i := 1) (v := .bool false) rfl (by kernel_rfl) (by kernel_rfl) (by kernel_rfl) (fun _ _ _ h => h) (Or.inl ⟨by rfl, ?_⟩) (by first | assumption | exact trivial) ?_
      · intro W hSW; go_simp; try (with_reducible rfl)
      simp only [Act.put, List.getElem_toArray, List.getElem_cons_succ, List.getElem_cons_zero, List.setIfInBounds_toArray, List.set_cons_zero, List.set_cons_succ]
      refine wpAnyH_take (i := 2) (v := .bool false) rfl (by kernel_rfl) (by kernel_rfl) (by kernel_rfl) (fun _ _ _ h => h) (Or.inl ⟨by rfl, ?_⟩) (by first | assumption | exact trivial) ?_
      · intro W hSW; go_simp; try (with_reducible rfl)
      simp only [Act.put, List.getElem_toArray, List.getElem_cons_succ, List.getElem_cons_zero, List.setIfInBounds_toArray, List.set_cons_zero, List.set_cons_succ]
      refine wpAnyH_take (i := 3) (v := .pointer (some ⟨w.heap.size + 1, 3, none⟩)) rfl (by kernel_rfl) (by kernel_rfl) (by kernel_rfl) (fun _ _ _ h => h) (Or.inl ⟨by rfl, ?_⟩) (by first | assumption | exact trivial) ?_
      · intro W hSW; go_simp; try (with_reducible rfl)
      simp only [Act.put, List.getElem_toArray, List.getElem_cons_succ, List.getElem_cons_zero, List.setIfInBounds_toArray, List.set_cons_zero, List.set_cons_succ]
      refine wpAnyH_take (i := 4) (v := .slice AH LH cH) rfl (by kernel_rfl) (by kernel_rfl) (by kernel_rfl) (fun _ _ _ h => h) (Or.inl ⟨by rfl, ?_⟩) (by first | assumption | exact trivial) ?_
      · intro W hSW; obtain ⟨x0, x1, x2, x3, x4⟩ := state_cells (HLv.out _ hSW).2.1; go_simp; try (with_reducible rfl)
      simp only [Act.put, List.getElem_toArray, List.getElem_cons_succ, List.getElem_cons_zero, List.setIfInBounds_toArray, List.set_cons_zero, List.set_cons_succ]
      refine wpAnyH_take (i := 5) (v := .int .i64 (LH : Int)) rfl (by kernel_rfl) (by kernel_rfl) (by kernel_rfl) (fun _ _ _ h => h) (Or.inl ⟨by rfl, ?_⟩) (by first | assumption | exact trivial) ?_
      · intro W hSW; go_simp; try (with_reducible rfl)
      simp only [Act.put, List.getElem_toArray, List.getElem_cons_succ, List.getElem_cons_zero, List.setIfInBounds_toArray, List.set_cons_zero, List.set_cons_succ]
      refine wpAnyH_take (i := 6) (v := .pointer (some ⟨w.heap.size, 0, none⟩)) rfl (by kernel_rfl) (by kernel_rfl) (by kernel_rfl) (fun _ _ _ h => h) (Or.inl ⟨by rfl, ?_⟩) (by first | assumption | exact trivial) ?_
      · intro W hSW; go_simp; try (with_reducible rfl)
      simp only [Act.put, List.getElem_toArray, List.getElem_cons_succ, List.getElem_cons_zero, List.setIfInBounds_toArray, List.set_cons_zero, List.set_cons_succ]
      refine wpAnyH_take (i := 7) (v := .int .i64 qh) rfl (by kernel_rfl) (by kernel_rfl) (by kernel_rfl) (fun _ _ _ h => h) (Or.inl ⟨by rfl, ?_⟩) (by first | assumption | exact trivial) ?_
      · intro W hSW; obtain ⟨y0, y1, y2⟩ := quota_cells (HLv.out _ hSW).1; go_simp; try (with_reducible rfl)
      simp only [Act.put, List.getElem_toArray, List.getElem_cons_succ, List.getElem_cons_zero, List.setIfInBounds_toArray, List.set_cons_zero, List.set_cons_succ]
      by_cases h1 : qh < (LH : Int)
      · clear HOr HSz1
        refine wpAnyH_take (i := 8) (v := .bool true) rfl (by kernel_rfl) (by kernel_rfl) (by kernel_rfl) (fun _ _ _ h => h) (Or.inl ⟨by rfl, ?_⟩) (by first | assumption | exact trivial) ?_
        · intro W hSW; go_simp; try (with_reducible rfl)
        simp only [Act.put, List.getElem_toArray, List.getElem_cons_succ, List.getElem_cons_zero, List.setIfInBounds_toArray, List.set_cons_zero, List.set_cons_succ]
        refine wpAnyH_take (i := 9) (v := .bool true) rfl (by kernel_rfl) (by kernel_rfl) (by kernel_rfl) (fun _ _ _ h => h) (Or.inl ⟨by rfl, ?_⟩) (by first | assumption | exact trivial) ?_
        · intro W hSW; go_simp; try (with_reducible rfl)
        simp only [Act.put, List.getElem_toArray, List.getElem_cons_succ, List.getElem_cons_zero, List.setIfInBounds_toArray, List.set_cons_zero, List.set_cons_succ]
        refine wpAnyH_take (i := 10) (v := .bool true) rfl (by kernel_rfl) (by kernel_rfl) (by kernel_rfl) (fun _ _ _ h => h) (Or.inl ⟨by rfl, ?_⟩) (by first | assumption | exact trivial) ?_
        · intro W hSW; go_simp; try (with_reducible rfl)
        simp only [Act.put, List.getElem_toArray, List.getElem_cons_succ, List.getElem_cons_zero, List.setIfInBounds_toArray, List.set_cons_zero, List.set_cons_succ]
        refine wpAnyH_take (i := 11) (v := undef) rfl (by kernel_rfl) (by kernel_rfl) (by kernel_rfl) (fun _ _ _ h => h) (Or.inr ⟨by rfl, rfl⟩) (by first | assumption | exact trivial) ?restz13
        simp only [Act.put, List.getElem_toArray, List.getElem_cons_succ, List.getElem_cons_zero, List.setIfInBounds_toArray, List.set_cons_zero, List.set_cons_succ]
        refine wpAnyH_take (i := 12) (v := undef) rfl (by kernel_rfl) (by kernel_rfl) (by kernel_rfl) (fun _ _ _ h => h) (Or.inr ⟨by rfl, rfl⟩) (by first | assumption | exact trivial) ?restz14
        simp only [Act.put, List.getElem_toArray, List.getElem_cons_succ, List.getElem_cons_zero, List.setIfInBounds_toArray, List.set_cons_zero, List.set_cons_succ]
        refine wpAnyH_take (i := 13) (v := undef) rfl (by kernel_rfl) (by kernel_rfl) (by kernel_rfl) (fun _ _ _ h => h) (Or.inr ⟨by rfl, rfl⟩) (by first | assumption | exact trivial) ?restz15
        simp only [Act.put, List.getElem_toArray, List.getElem_cons_succ, List.getElem_cons_zero, List.setIfInBounds_toArray, List.set_cons_zero, List.set_cons_succ]
        refine wpAnyH_take (i := 14) (v := undef) rfl (by kernel_rfl) (by kernel_rfl) (by kernel_rfl) (fun _ _ _ h => h) (Or.inr ⟨by rfl, rfl⟩) (by first | assumption | exact trivial) ?restz16
        simp only [Act.put, List.getElem_toArray, List.getElem_cons_succ, List.getElem_cons_zero, List.setIfInBounds_toArray, List.set_cons_zero, List.set_cons_succ]
        refine wpAnyH_take (i := 15) (v := undef) rfl (by kernel_rfl) (by kernel_rfl) (by kernel_rfl) (fun _ _ _ h => h) (Or.inr ⟨by rfl, rfl⟩) (by first | assumption | exact trivial) ?restz17
        simp only [Act.put, List.getElem_toArray, List.getElem_cons_succ, List.getElem_cons_zero, List.setIfInBounds_toArray, List.set_cons_zero, List.set_cons_succ]
        refine wpAnyH_take (i := 16) (v := undef) rfl (by kernel_rfl) (by kernel_rfl) (by kernel_rfl) (fun _ _ _ h => h) (Or.inr ⟨by rfl, rfl⟩) (by first | assumption | exact trivial) ?restz18
        simp only [Act.put, List.getElem_toArray, List.getElem_cons_succ, List.getElem_cons_zero, List.setIfInBounds_toArray, List.set_cons_zero, List.set_cons_succ]
        refine wpAnyH_take (i := 17) (v := .bool true) rfl (by kernel_rfl) (by kernel_rfl) (by kernel_rfl) (fun _ _ _ h => h) (Or.inl ⟨by rfl, ?_⟩) (by first | assumption | exact trivial) ?_
        · intro W hSW; go_simp; try (with_reducible rfl)
        simp only [Act.put, List.getElem_toArray, List.getElem_cons_succ, List.getElem_cons_zero, List.setIfInBounds_toArray, List.set_cons_zero, List.set_cons_succ]
        refine wpAnyH_take (i := 18) (v := .bool true) rfl (by kernel_rfl) (by kernel_rfl) (by kernel_rfl) (fun _ _ _ h => h) (Or.inl ⟨by rfl, ?_⟩) (by first | assumption | exact trivial) ?_
        · intro W hSW; go_simp; try (with_reducible rfl)
        simp only [Act.put, List.getElem_toArray, List.getElem_cons_succ, List.getElem_cons_zero, List.setIfInBounds_toArray, List.set_cons_zero, List.set_cons_succ]
        refine wpAnyH_done (by kernel_rfl) ?_ _
        go_wp2
        go_ret2
        exact ⟨by rw [HF.out]; rfl, (HLv.out _ S0).2.2⟩
      · have h2 : qb < by0 := by rcases HOr.out with h | h | h; exact absurd rfl h; exact absurd h h1; exact h
        have HSz2 := Lib.hid (HSz1.out (by omega))
        refine wpAnyH_take (i := 8) (v := .bool false) rfl (by kernel_rfl) (by kernel_rfl) (by kernel_rfl) (fun _ _ _ h => h) (Or.inl ⟨by rfl, ?_⟩) (by first | assumption | exact trivial) ?_
        · intro W hSW; go_simp; try (with_reducible rfl)
        simp only [Act.put, List.getElem_toArray, List.getElem_cons_succ, List.getElem_cons_zero, List.setIfInBounds_toArray, List.set_cons_zero, List.set_cons_succ]
        refine wpAnyH_take (i := 9) (v := .bool false) rfl (by kernel_rfl) (by kernel_rfl) (by kernel_rfl) (fun _ _ _ h => h) (Or.inl ⟨by rfl, ?_⟩) (by first | assumption | exact trivial) ?_
        · intro W hSW; go_simp; try (with_reducible rfl)
        simp only [Act.put, List.getElem_toArray, List.getElem_cons_succ, List.getElem_cons_zero, List.setIfInBounds_toArray, List.set_cons_zero, List.set_cons_succ]
        refine wpAnyH_take (i := 10) (v := .bool false) rfl (by kernel_rfl) (by kernel_rfl) (by kernel_rfl) (fun _ _ _ h => h) (Or.inl ⟨by rfl, ?_⟩) (by first | assumption | exact trivial) ?_
        · intro W hSW; go_simp; try (with_reducible rfl)
        simp only [Act.put, List.getElem_toArray, List.getElem_cons_succ, List.getElem_cons_zero, List.setIfInBounds_toArray, List.set_cons_zero, List.set_cons_succ]
        refine wpAnyH_take (i := 11) (v := .pointer (some ⟨w.heap.size + 1, 3, none⟩)) rfl (by kernel_rfl) (by kernel_rfl) (by kernel_rfl) (fun _ _ _ h => h) (Or.inl ⟨by rfl, ?_⟩) (by first | assumption | exact trivial) ?_
        · intro W hSW; go_simp; try (with_reducible rfl)
        simp only [Act.put, List.getElem_toArray, List.getElem_cons_succ, List.getElem_cons_zero, List.setIfInBounds_toArray, List.set_cons_zero, List.set_cons_succ]
        refine wpAnyH_take (i := 12) (v := .slice AH LH cH) rfl (by kernel_rfl) (by kernel_rfl) (by kernel_rfl) (fun _ _ _ h => h) (Or.inl ⟨by rfl, ?_⟩) (by first | assumption | exact trivial) ?_
        · intro W hSW; obtain ⟨x0, x1, x2, x3, x4⟩ := state_cells (HLv.out _ hSW).2.1; go_simp; try (with_reducible rfl)
        simp only [Act.put, List.getElem_toArray, List.getElem_cons_succ, List.getElem_cons_zero, List.setIfInBounds_toArray, List.set_cons_zero, List.set_cons_succ]
        refine wpAnyH_take (i := 14) (v := .pointer (some ⟨w.heap.size, 1, none⟩)) rfl (by kernel_rfl) (by kernel_rfl) (by kernel_rfl) (fun _ _ _ h => h) (Or.inl ⟨by rfl, ?_⟩) (by first | assumption | exact trivial) ?_
        · intro W hSW; go_simp; try (with_reducible rfl)
        simp only [Act.put, List.getElem_toArray, List.getElem_cons_succ, List.getElem_cons_zero, List.setIfInBounds_toArray, List.set_cons_zero, List.set_cons_succ]
        refine wpAnyH_take (i := 15) (v := .int .i64 qb) rfl (by kernel_rfl) (by kernel_rfl) (by kernel_rfl) (fun _ _ _ h => h) (Or.inl ⟨by rfl, ?_⟩) (by first | assumption | exact trivial) ?_
        · intro W hSW; obtain ⟨y0, y1, y2⟩ := quota_cells (HLv.out _ hSW).1; go_simp; try (with_reducible rfl)
        simp only [Act.put, List.getElem_toArray, List.getElem_cons_succ, List.getElem_cons_zero, List.setIfInBounds_toArray, List.set_cons_zero, List.set_cons_succ]
        refine wpAnyH_ready (rs := [13]) (by kernel_rfl) (by simp) ?_
        refine AllReadyH.cons rfl (fun K hK => ?_) AllReadyH.nil
        go_simp
        go_wp2_with (go_at_call 55; refine (HSz2.out _ S0).mono ?_; rintro e w4 ⟨rfl, b4⟩)
        have S4 := go_on S0 b4.out
        refine hK.out _ _ (S4) (fun hHeld => ?_)
        clear hK K
        refine wpAnyH_take (i := 16) (v := .bool true) rfl (by kernel_rfl) (by kernel_rfl) (by kernel_rfl) (fun _ _ _ h => h) (Or.inl ⟨by rfl, ?_⟩) (by first | assumption | exact trivial) ?_
        · intro W hSW; go_simp; try (with_reducible rfl)
        simp only [Act.put, List.getElem_toArray, List.getElem_cons_succ, List.getElem_cons_zero, List.setIfInBounds_toArray, List.set_cons_zero, List.set_cons_succ]
        refine wpAnyH_take (i := 17) (v := .bool true) rfl (by kernel_rfl) (by kernel_rfl) (by kernel_rfl) (fun _ _ _ h => h) (Or.inl ⟨by rfl, ?_⟩) (by first | assumption | exact trivial) ?_
        · intro W hSW; go_simp; try (with_reducible rfl)
        simp only [Act.put, List.getElem_toArray, List.getElem_cons_succ, List.getElem_cons_zero, List.setIfInBounds_toArray, List.set_cons_zero, List.set_cons_succ]
        refine wpAnyH_take (i := 18) (v := .bool true) rfl (by kernel_rfl) (by kernel_rfl) (by kernel_rfl) (fun _ _ _ h => h) (Or.inl ⟨by rfl, ?_⟩) (by first | assumption | exact trivial) ?_
        · intro W hSW; go_simp; try (with_reducible rfl)
        simp only [Act.put, List.getElem_toArray, List.getElem_cons_succ, List.getElem_cons_zero, List.setIfInBounds_toArray, List.set_cons_zero, List.set_cons_succ]
        refine wpAnyH_done (by kernel_rfl) ?_ _
        go_wp2
        go_ret2
        exact ⟨by rw [HF.out]; rfl, (HLv.out _ S4).2.2⟩
end Go.Proofs.YtfnlhfelpdkieaaGreat.So
/- The store that From makes: plain data, its block. -/
namespace Go.Proofs.YtfnlhfelpdkieaaGreat.So
open Go.RowKit
open Go.Proofs.YtfnlhfelpdkieaaGreat.Me Go.Proofs.YtfnlhfelpdkieaaGreat.Sb
set_option linter.unusedVariables false
set_option linter.unusedSimpArgs false

set_option maxRecDepth 100000 in
theorem Box.cnt (f : Nat → Int) {w : World} {D : Nat} {s : Sto} {hb sd : Nat} {v : Value} {n : Int} (h : Box w D s hb sd v n) : Box (w.setCells D 5 (lastV f).toList) D ⟨s.self, s.qh, s.qb, s.qg, s.epoch, f, s.held, s.seen⟩ hb sd v n := by
  have hl : (lastV f).toList.length = 64 := by rw [Array.length_toList, lastV_size]
  have hz : ∀ j, j < 64 → (lastV f).toList[j]? = some (.int .i64 (f j)) := fun j hj => by rw [Array.getElem?_toList]; exact lastV_at f hj
  obtain ⟨z, hzz⟩ : ∃ z, (lastV f).toList = z := ⟨_, rfl⟩
  rw [hzz] at hl hz ⊢
  clear hzz
  obtain ⟨cur, hcur⟩ : ∃ x, scs s hb sd v n = x := ⟨_, rfl⟩
  have hs : cur.size = 73 := by rw [← hcur]; exact row_size _
  have hat : ∀ k, k < 73 → cur[k]? = some (gc s.self s.qh s.qb s.qg s.epoch s.last (.map (some hb)) v n (.pointer (some ⟨sd, 0, none⟩)) k) := fun k hk => by rw [← hcur]; exact row_at _ hk
  have h' : w.heap[D]? = some (.cells cur 79 (0, 0)) := by rw [← hcur]; exact h
  clear hcur h
  obtain ⟨cur', q1, q2, q3, q4⟩ := heap_setCells D 79 z 5 w cur h'
  have hc : cur' = row (gc s.self s.qh s.qb s.qg s.epoch f (.map (some hb)) v n (.pointer (some ⟨sd, 0, none⟩))) := by
    apply Array.ext_getElem?
    intro k
    by_cases hk : k < 73
    · rw [row_at _ hk]
      by_cases h5 : 5 ≤ k ∧ k < 69
      · obtain ⟨j, rfl⟩ : ∃ j, k = 5 + j := ⟨k - 5, by omega⟩
        rw [q4 j (by rw [hl]; omega) (by rw [hs]; omega), gc_last _ _ _ _ _ _ _ _ _ _ (by omega), hz j (by omega)]
      · rw [q3 k (by rw [hl]; omega), hat k hk]
        congr 1
        unfold gc
        by_cases k5 : k < 5
        · have : k = 0 ∨ k = 1 ∨ k = 2 ∨ k = 3 ∨ k = 4 := by omega
          rcases this with rfl | rfl | rfl | rfl | rfl <;> rfl
        · have : k = 69 ∨ k = 70 ∨ k = 71 ∨ k = 72 := by omega
          rcases this with rfl | rfl | rfl | rfl <;> rfl
    · rw [Array.getElem?_eq_none (by rw [q2, hs]; omega), Array.getElem?_eq_none (by rw [row_size]; omega)]
  rw [hc] at q1
  exact q1
theorem gc_setP (a b c d e : Int) (f : Nat → Int) (m v : Value) (n : Int) (p p' : Value) : (row (gc a b c d e f m v n p)).setIfInBounds 72 p' = row (gc a b c d e f m v n p') := by
  rw [row_set]
  refine row_congr fun k hk => ?_
  unfold gc
  by_cases h : k = 72
  · simp [h]
  · have h2 : k < 72 := by omega
    rw [if_neg h]
    by_cases h69 : k < 69
    · simp [h69]
    · have : k = 69 ∨ k = 70 ∨ k = 71 := by omega
      rcases this with rfl | rfl | rfl <;> rfl
theorem Box.setP {w : World} {D : Nat} {s : Sto} {hb sd : Nat} {v : Value} {n : Int} (h : Box w D s hb sd v n) (sd' : Nat) : Box (w.setCell ⟨D, 72, none⟩ (.pointer (some ⟨sd', 0, none⟩))) D s hb sd' v n := by
  unfold Box
  rw [heap_setCell_same w D 72 _ _ _ h]
  unfold scs
  rw [gc_setP]
/-- The store behind the first messages. -/
noncomputable def midS (q : Fq) (j : Nat) : Sto := ⟨q.me, q.qh, q.qb, q.qg, q.ep, cntOf q.N, q.H.take j, ⟨q.qg, Se.gapsTo q.ms q.ms.length, Se.keptTo q.ms q.ms.length⟩⟩
noncomputable def fromS (q : Fq) : Sto := midS q q.H.length
theorem frm_zero {q : Fq} (h : frmN q = 0) : NewOk q.me q.qh q.qb q.qg ∧ rgB q.me q.ep q.N q.H q.ms = true ∧ Se.okMs q.ms q.ms.length ∧ ¬ q.qg < Se.gapsTo q.ms q.ms.length ∧ Se.ckE q.qg q.ms = 0 ∧ ¬ q.qh < q.H.length ∧ ¬ q.qb < bytesOf q.H := by
  unfold frmN at h
  split at h
  · cases h
  rename_i h0
  have h0 := Decidable.not_not.1 h0
  split at h
  · cases h
  rename_i h1
  split at h
  · cases h
  rename_i h2
  have hc : Se.ckE q.qg q.ms = 0 := by
    by_cases e : Se.ckE q.qg q.ms = 0
    · exact e
    · exact absurd (.inl e) h2
  refine ⟨h0, by simpa using fun e => h1 (.inr e), ?_, ?_, hc, fun e => h2 (.inr (.inl e)), fun e => h2 (.inr (.inr e))⟩
  · rcases ckE_of (ms := q.ms) h0.g0 h0.g1 with ⟨e, _⟩ | ⟨e, _⟩ | ⟨e, _⟩
    · rw [hc] at e; cases e
    · exact e
    · exact e
  · rcases ckE_of (ms := q.ms) h0.g0 h0.g1 with ⟨e, _⟩ | ⟨_, _, e⟩ | ⟨_, e, _⟩
    · rw [hc] at e; cases e
    · rw [hc] at e; cases e
    · exact e
theorem bytesOf_take (H : List It) (j : Nat) : bytesOf (H.take j) ≤ bytesOf H := by
  have h1 := bytesOf_app (H.take j) (H.drop j)
  rw [List.take_append_drop] at h1
  have h2 := bytesOf_nonneg (H.drop j)
  omega
theorem rg_parts {q : Fq} (h : rgB q.me q.ep q.N q.H q.ms = true) : 0 ≤ q.ep ∧ q.ep ≤ 65535 ∧ nxB q.me 0 q.N = true ∧ (∀ x ∈ q.H, hdB q.me q.ep (cntOf q.N) x = true) ∧ (q.H.map It.i).Nodup ∧ orgB q.me q.ms = false := by
  unfold rgB nxOk hdOk at h
  simp only [Bool.and_eq_true, decide_eq_true_eq, Bool.not_eq_true'] at h
  exact ⟨h.1.1.1.1, h.1.1.1.2, h.1.1.2.1, h.1.2.1, h.1.2.2, h.2⟩
theorem hd_parts {me ep : Int} {f : Nat → Int} {x : It} (h : hdB me ep f x = true) : Mg.msgN x.i x.p.length = 0 ∧ fitsB x.i me ep = true := by
  unfold hdB at h
  exact ⟨(of_decide_eq_true h).1, (of_decide_eq_true h).2.1⟩
theorem mid_ok {q : Fq} (h : frmN q = 0) (hb : ∀ x ∈ q.H, ∀ z ∈ x.p, z < 256) (j : Nat) : Ok (midS q j) := by
  obtain ⟨h0, h1, h2, h3, _, h4, h5⟩ := frm_zero h
  obtain ⟨e0, e1, n1, d1, d2, _⟩ := rg_parts h1
  refine ⟨h0.s0, h0.s1, h0.h0, h0.h1, h0.b0, h0.b1, e0, e1, fun k _ => cntOf_le n1 k, ?_, ?_, ?_, fun x hx => ?_, rfl, Se.okk_from h0.g0 h0.g1 h2 (by omega)⟩
  · show ((q.H.take j).length : Int) ≤ q.qh
    rw [List.length_take]; omega
  · have := bytesOf_take q.H j
    show bytesOf (q.H.take j) ≤ q.qb
    omega
  · exact List.Nodup.sublist ((List.take_sublist j q.H).map It.i) d2
  · have hm : x ∈ q.H := List.mem_of_mem_take hx
    exact ⟨(hd_parts (d1 x hm)).1, (hd_parts (d1 x hm)).2, hb x hm⟩
theorem mid_step {q : Fq} {j : Nat} {x : It} (hx : q.H[j]? = some x) : holdS (midS q j) x.i x.p = midS q (j + 1) := by
  unfold holdS midS
  simp only
  rw [List.take_add_one, hx]
  rfl
theorem mid_no {q : Fq} (h : frmN q = 0) {j : Nat} {x : It} (hx : q.H[j]? = some x) : findH (midS q j).held x.i = none := by
  obtain ⟨_, h1, _⟩ := frm_zero h
  obtain ⟨_, _, _, _, d2, _⟩ := rg_parts h1
  refine findH_none.2 fun hm => ?_
  have e : q.H.take (j + 1) = q.H.take j ++ [x] := by rw [List.take_add_one, hx]; rfl
  have hs := List.Nodup.sublist ((List.take_sublist (j + 1) q.H).map It.i) d2
  rw [e, List.map_append, List.nodup_append] at hs
  exact hs.2.2 _ hm x.i (by simp) rfl
end Go.Proofs.YtfnlhfelpdkieaaGreat.So
