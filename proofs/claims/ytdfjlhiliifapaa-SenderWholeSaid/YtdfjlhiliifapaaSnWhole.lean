/- The walk of the law SenderWhole. -/
import Derived.Test.YtdfjlhiliifapaaSnOrder
import Derived.Test.YtdfjlhiliifapaaSameL
namespace Go.Proofs.Ytdfjlhiliifapaa.Sn
open Go.RowKit
open Go.Proofs.Ytdfjlhiliifapaa.Me Go.Proofs.Ytdfjlhiliifapaa.Hd
set_option linter.unusedVariables false
set_option linter.unusedSimpArgs false

/-- The sender behind a change of other memory, which may have new blocks. -/
theorem Sn.grow {M : Nat} {O O' S : Nat → Prop} {w w' : World} {D : Nat} {s : Snd} (h : Sn M O w D s) (hb : But S w w') (hS : ∀ k, k < w.heap.size → S k → O k) (hO' : ∀ k, O' k → O k ∨ w.heap.size ≤ k) : Sn M O' w' D s := by
  obtain ⟨F, A, c, hq, hF⟩ := h
  refine ⟨F, A, c, hq.kept fun k hk hf => ⟨hb.same k hk fun hs => (hF k hf).2.2 (hS k hk hs), hf⟩, fun k hk => ⟨(hF k hk).1, Nat.lt_of_lt_of_le (hF k hk).2.1 hb.size, fun ho => ?_⟩⟩
  obtain ⟨f1, f2, f3⟩ := hF k hk
  rcases hO' k ho with h' | h'
  · exact f3 h'
  · omega
/-- What a round of SenderWhole holds. -/
def WhoI (w0 : World) (D n : Nat) (ps : List (List Nat)) (g k : Nat) (A : Option Addr) (c : Nat) (s : Snd) (wr : World) : Prop :=
  ∃ G, s.Ok ∧ s.size = n ∧ Gone s ps g ∧ ps.length ≤ k ∧ Sn w0.heap.size G wr D s ∧ Ls G wr A c ps ∧ (∀ q, G q → w0.heap.size ≤ q ∧ q < wr.heap.size) ∧ Below w0.heap.size w0 wr ∧ ∀ r ∈ ps, ∀ z ∈ r, z < 256
/-- A sender's call behind which the law's list stands as it stood. -/
theorem WhoI.call {w0 w w2 : World} {D n g' k' : Nat} {ps : List (List Nat)} {A : Option Addr} {c : Nat} {s' : Snd} {G : Nat → Prop} (ok : s'.Ok) (hsz : s'.size = n) (hgn : Gone s' ps g') (hk : ps.length ≤ k') (hl : Ls G w A c ps) (hG : ∀ q, G q → w0.heap.size ≤ q ∧ q < w.heap.size) (hb : Below w0.heap.size w0 w) (hbs : ∀ r ∈ ps, ∀ z ∈ r, z < 256)
    (h2 : Sn w0.heap.size G w2 D s') (b2 : But (Out w0.heap.size G) w w2) : WhoI w0 D n ps g' k' A c s' w2 :=
  ⟨G, ok, hsz, hgn, hk, h2, hl.but b2 fun q hq h => h.2 hq, fun q hq => ⟨(hG q hq).1, Nat.lt_of_lt_of_le (hG q hq).2 b2.size⟩, hb.trans (but_out b2 hb.size), hbs⟩
/-- The list ahead of the append, in the world in which the payload's copy lies in a block. -/
theorem who_pre {w0 w2 w3 : World} {ps : List (List Nat)} {A A3 : Option Addr} {c c3 : Nat} {p : List Nat} {G : Nat → Prop} (hl : Ls G w2 A c ps) (hb : Below w2.heap.size w2 w3) (hp : 0 < p.length) (ho : Me.Own w3 w2.heap.size (.slice A3 p.length c3) p) :
    Ls (fun q => G q ∨ w2.heap.size ≤ q) (w3.alloc (.cells #[.slice A3 p.length c3] 36)) A c ps ∧ ∀ j, j < [p].length → ∃ u, [Value.slice A3 p.length c3][j]? = some u ∧ El (fun q => G q ∨ w2.heap.size ≤ q) (w3.alloc (.cells #[.slice A3 p.length c3] 36)) u (lsAt [p] j) := by
  have hb4 := hb.alloc hb.size (.cells #[.slice A3 p.length c3] 36)
  refine ⟨(hl.below hb4).mono fun _ _ h => .inl h, fun j hj => ?_⟩
  obtain rfl : j = 0 := by simpa using hj
  refine ⟨_, rfl, A3, c3, by simp [lsAt], ?_, fun a ea => .inr (ho.lt a.block (by rw [ea]; rfl)).1⟩
  simp only [lsAt, List.getD_cons_zero]
  exact own_base (B' := 0) (own_same ho fun k _ hk => Below.heap_alloc _ _ _ hk) fun _ _ => Nat.zero_le _
theorem WhoI.push {w0 w w2 w3 w4 : World} {D n g k : Nat} {ps : List (List Nat)} {A A3 A4 : Option Addr} {c c3 c4 : Nat} {s : Snd} {p : List Nat} {G : Nat → Prop} (ok : s.Ok) (hsz : s.size = n) (hgn : Gone s ps g) (hk : ps.length ≤ k) (hl : Ls G w A c ps) (hG : ∀ q, G q → w0.heap.size ≤ q ∧ q < w.heap.size) (hb : Below w0.heap.size w0 w) (hbs : ∀ r ∈ ps, ∀ z ∈ r, z < 256)
    (h2 : Sn w0.heap.size G w2 D (pushS s p)) (b2 : But (Out w0.heap.size G) w w2) (he : pushE s p = 0) (hpb : ∀ z ∈ p, z < 256) (b3 : Below w2.heap.size w2 w3)
    (hl4 : Ls (fun q => (G q ∨ w2.heap.size ≤ q) ∨ (w3.alloc (.cells #[.slice A3 p.length c3] 36)).heap.size ≤ q) w4 A4 c4 (ps ++ [p])) (b4 : But (bk A) (w3.alloc (.cells #[.slice A3 p.length c3] 36)) w4) : WhoI w0 D n (ps ++ [p]) g (k + 1) A4 c4 (pushS s p) w4 := by
  obtain ⟨q1, q2, q3⟩ := hgn.push p he
  have hl2 : Ls G w2 A c ps := hl.but b2 fun q hq h => h.2 hq
  have hb2 : Below w0.heap.size w0 w2 := hb.trans (but_out b2 hb.size)
  have b23 := b3.alloc b3.size (.cells #[.slice A3 p.length c3] 36)
  have hbA : ∀ k, bk A k → G k := fun k hk => (hl2.blk k hk).1
  have b24 : But G w2 w4 := (But.of_below b23).trans b4 fun k _ hk => hbA k hk
  refine ⟨fun q => (G q ∨ w2.heap.size ≤ q) ∧ q < w4.heap.size, ok.push hpb, q2.trans hsz, q1, by simp; omega, h2.grow b24 (fun _ _ h => h) (fun q hq => hq.1), hl4.mono fun q hq h => ⟨?_, hq⟩, fun q hq => ⟨?_, hq.2⟩, hb2.trans (b24.below hb2.size fun q hq => (hG q hq).1), fun r hr => ?_⟩
  · rcases h with h | h
    · exact h
    · exact .inr (Nat.le_trans b23.size h)
  · rcases hq.1 with h | h
    · exact (hG q h).1
    · exact Nat.le_trans hb2.size h
  · rcases List.mem_append.mp hr with h | h
    · exact hbs r h
    · obtain rfl : r = p := by simpa using h
      exact hpb
/-- What the law asks behind each call. -/
theorem who_end {w0 w4 : World} {D n g k : Nat} {ps : List (List Nat)} {A : Option Addr} {c : Nat} {s : Snd} (h : WhoI w0 D n ps g k A c s w4) (hp : ps.length ≤ 301) :
    ∃ (s' : Snd) (O : Nat → Prop), WhoI w0 D n ps g k A c s' w4 ∧ s'.Ok ∧ (Calls Try.prog 18 #[.pointer (some ⟨D, 0, none⟩)] w4 fun e w' => e = .returned (.int .i64 (s'.l.length : Int)) ∧ w4 = w') ∧
      (Calls Try.prog 17 #[.pointer (some ⟨D, 0, none⟩)] w4 fun e w' => e = .returned (.int .i64 (s'.base : Int)) ∧ w4 = w') ∧ RowKit.wrap64 ((g : Int) + (s'.l.length : Int)) = (ps.length : Int) ∧ Int.tmod (g : Int) 128 = (s'.base : Int) := by
  have h0 := h
  obtain ⟨G, ok, hsz, hgn, hk, hsn, _⟩ := h
  refine ⟨s, G, h0, ok, Len_s _ G w4 D s hsn, Base_s _ G w4 D s hsn, ?_, ?_⟩
  · rw [Mi.fits ⟨by omega, by have := hgn.1; omega⟩]; have := hgn.1; omega
  · rw [hgn.2.2]; exact (Int.ofNat_tmod g 128).symm
theorem Under_n {M : Nat} {O : Nat → Prop} {w : World} {D : Nat} {s : Snd} (h : Hid (Sn M O w D s)) (ok : Hid s.Ok) : Calls Try.prog 15 #[.pointer (some ⟨D, 0, none⟩)] w fun e w' => ∃ A c, e = .returned (.slice A s.under c) ∧ Hid (Below w.heap.size w w') := by
  refine (Under_s M O w D s h ok).mono ?_
  rintro e w' ⟨v4, rfl, o4, b4⟩
  obtain ⟨A, c, rfl⟩ := under_form o4.out
  exact ⟨A, c, rfl, b4⟩
set_option maxRecDepth 100000 in
set_option maxHeartbeats 4000000 in
theorem whole (size : Int) (Al : Option Addr) (len cap : Nat) (ls0 : List Ac) (w : World) (w0 : (Lit.int .i64 size).wf = true) (w1 : len = ls0.length ∧ len ≤ cap ∧ cap ≤ 9223372036854775807 ∧ Acts w Al ls0) :
    Calls Try.prog 5 #[.int .i64 size, .slice Al len cap] w fun e w' => e = .returned (.bool true) ∧ Below w.heap.size w w' := by
  obtain ⟨rfl, hlc, hm, hacts⟩ := w1
  by_cases hbad : size < 1 ∨ 63 < size
  · have N := Lib.hid (New_bad size hbad w)
    have HW := Lib.hid (awake_any w)
    by_cases h1 : size < 1
    all_goals
      try (have h2 : 63 < size := by omega)
      clear hbad w0 hacts
      go_enter Try.func5, Try.ntmps5
      go_wp2_with (first
        | (go_at_call 9; refine N.out.mono ?_; rintro e w' ⟨rfl, rfl⟩)
        | (go_at_call 11; refine HW.out.mono ?_; rintro e w9 ⟨rfl, hb9⟩))
      go_ret
      exact ⟨rfl, hb9.out⟩
  · obtain ⟨n, rfl⟩ : ∃ n : Nat, size = (n : Int) := ⟨size.toNat, by omega⟩
    have hn1 : 1 ≤ n := by omega
    have hn2 : n ≤ 63 := by omega
    have N := Lib.hid (New_s w.heap.size no n hn1 hn2 w (Nat.le_refl _) (fun k hk => hk.elim))
    obtain ⟨ls, hls⟩ : ∃ ls, ls0.take 300 = ls := ⟨_, rfl⟩
    have HC := Lib.hid (fun W => cutA_any Al cap ls0 W hlc hm ls.length (by rw [hls]))
    have HA : Hid (Acts w Al ls) := by rw [← hls]; exact hacts.take 300
    have h300 : ls.length ≤ 300 := by rw [← hls]; simp; omega
    have H300 := Lib.hid h300
    have HNEW : Hid ((newS n).Ok) := Snd.Ok.new hn1 hn2
    obtain ⟨L0, hL0⟩ : ∃ L0, ls0.length = L0 := ⟨_, rfl⟩
    rw [hL0] at HC ⊢
    clear hbad hn1 hn2 w0 hls hlc hm hacts h300 hL0
    go_enter Try.func5, Try.ntmps5
    go_wp2_with (first
      | (go_at_call 9; refine N.out.mono ?_; rintro e w1 ⟨rfl, H1, B1⟩)
      | (go_at_call 12; refine (HC.out _).mono ?_; rintro e w' ⟨rfl, rfl⟩))
    have HI0 : Hid (WhoI w w.heap.size n [] 0 0 (some ⟨w1.heap.size, 0, none⟩) 0 (newS n) (w1.alloc (.cells #[] 36))) := by
      have hs := B1.out.size
      refine ⟨fun q => q = w1.heap.size, HNEW.out, rfl, Gone.new n, Nat.le_refl _, ?_, ?_, fun q hq => by subst hq; exact ⟨hs, by simp⟩, Me.below_alloc B1.out, by simp⟩
      · exact H1.out.swap (World.grownBy_alloc w1 _ none) (fun k e => by cases e) fun k e => .inr (Nat.le_of_eq e.symm)
      · exact .inr ⟨w1.heap.size, 0, #[], rfl, rfl, heap_alloc_new w1 _, by simp, by simp, by simp, fun j hj => absurd hj (by simp)⟩
    clear H1 B1 N HC
    obtain ⟨W0, hW0⟩ : ∃ W0, w1.alloc (.cells #[] 36) = W0 := ⟨_, rfl⟩
    obtain ⟨g0, hg0⟩ : ∃ g0, w1.heap.size = g0 := ⟨_, rfl⟩
    rw [hW0, hg0] at HI0
    rw [hW0, hg0]
    clear hW0 hg0
    go_loopw [7, 8, 9] (fun v o i wr => ∃ (k g : Nat) (ps : List (List Nat)) (A : Option Addr) (c : Nat) (s : Snd), k ≤ ls.length ∧ i = .int .i64 k ∧ o = .int .i64 g ∧ v = .slice A ps.length c ∧ WhoI w w.heap.size n ps g k A c s wr) (fun _ _ i _ => ls.length - (intOf i).toNat)
    case atStart => exact ⟨0, 0, [], _, 0, newS n, Nat.zero_le _, rfl, rfl, rfl, HI0.out⟩
    case round =>
      obtain ⟨k, g, ps, A, c, s, hk, rfl, rfl, rfl, G, ok, hsz, hgn, hpk, hsn, hl, hG, hbl, hbs⟩ := hrel
      have OK := Lib.hid ok
      have HSZ := Lib.hid hsz
      have HGN := Lib.hid hgn
      have HPK := Lib.hid hpk
      have HSN := Lib.hid hsn
      have HL := Lib.hid hl
      have HG := Lib.hid hG
      have HBL := Lib.hid hbl
      have HBS := Lib.hid hbs
      have HO : Hid (∀ q, G q → q < wr.heap.size) := fun q hq => (hG q hq).2
      clear ok hsz hgn hpk hsn hl hG hbl hbs HI0
      by_cases hlt : k < ls.length
      · obtain ⟨b, off, R, cr, rfl, hbb, c0, c1, c2, r1, r2, r3, r4⟩ := HA.out k hlt
        have hk300 : (k : Int) < 300 := by have := H300.out; omega
        have d0 := (HBL.out.cell (p := ⟨b, off + k * 3, none⟩) hbb).trans c0
        have d1 := (HBL.out.cell (p := ⟨b, off + k * 3 + 1, none⟩) hbb).trans c1
        have d2 := (HBL.out.cell (p := ⟨b, off + k * 3 + 2, none⟩) hbb).trans c2
        obtain ⟨⟨kd, an, p⟩, hac⟩ : ∃ a, acAt ls k = a := ⟨_, rfl⟩
        rw [hac] at d0 d1 d2 r1 r3 r4 c2
        simp only at d0 d1 d2 r1 r3 r4 c2
        have HR3 := Lib.hid r3
        have HR4 := Lib.hid r4
        have HBB := Lib.hid hbb
        have C2 := Lib.hid c2
        have hgps : g ≤ 300 := by have := HGN.out.1; have := HPK.out; have := H300.out; omega
        clear c0 c1 c2 hac
        by_cases hk0 : kd = 0
        · subst hk0
          have hpl : p.length ≤ 140737488355328 := by omega
          have PP := Push_s w.heap.size G wr w.heap.size s HSN OK HBL.out.size HO R cr p ((HR3.out.below HBL.out).more HBL.out.size) HR4 hpl
          by_cases he : pushE s p = 0
          · rw [he] at PP
            have hp0 : 0 < p.length := by
              apply Classical.byContradiction
              intro hn
              unfold pushE at he
              rw [if_pos (by omega)] at he
              cases he
            have HPP := Lib.hid PP
            have HE := Lib.hid he
            have HP0 := Lib.hid hp0
            have HPLL := Lib.hid (show ([] : List Nat).length + p.length ≤ 140737488355328 by simpa using hpl)
            have HLN := Lib.hid (show (ps.length + [p].length) * 24 ≤ 140737488355328 by have := HPK.out; have := H300.out; simp; omega)
            have HLE := Lib.hid (show (ps ++ [p]).length ≤ 301 by have := HPK.out; have := H300.out; simp; omega)
            clear PP he hp0 hpl
            go_wp2_with (first
              | (go_at_call 19; refine HPP.out.mono ?_; rintro e w2 ⟨rfl, H2, b2⟩; have B2 : Hid (Below w.heap.size w w2) := HBL.out.trans (but_out b2.out HBL.out.size); have x2 := (B2.out.cell (p := ⟨b, off + k * 3 + 2, none⟩) HBB.out).trans C2.out; have x3 : (w2.alloc (.cells #[] 5)).cell? ⟨b, off + k * 3 + 2, none⟩ = some (.slice R p.length cr) := ((Me.below_alloc B2.out).cell (p := ⟨b, off + k * 3 + 2, none⟩) HBB.out).trans C2.out)
              | (at_builtin; refine app8 rfl (.tmp 64) (.tmp 69) rfl w2.heap.size w.heap.size _ [] p rfl (Me.Own.lit (Below.refl _ _)) (Me.below_alloc (Below.refl _ _)) (by simp) R cr rfl (HR3.out.below (Me.below_alloc B2.out)) HR4.out HPLL.out ?_; intro v3 w3 ho3 hb3 _; rw [List.nil_append] at ho3; obtain ⟨A3, c3, rfl, _, _, _⟩ := ho3.held HR3.out.1; obtain ⟨l1, l2⟩ := who_pre (w0 := w) (HL.out.but b2.out fun q hq h => h.2 hq) hb3 HP0.out ho3; have L1 := Lib.hid l1; have L2 := Lib.hid l2; have B3 := Lib.hid hb3; clear l1 l2 hb3 ho3)
              | (at_builtin; refine appL rfl (.tmp 63) (.tmp 71) rfl (fun q => G q ∨ w2.heap.size ≤ q) A c ps [p] rfl L1.out (.slice (some ⟨w3.heap.size, 0, none⟩) 1 1) [.slice A3 p.length c3] (by rfl) (src_one rfl) L2.out HLN.out ?_; intro A4 c4 w4 hl4 hb4 _; obtain ⟨s', O4, hi4, hq4, hn4, hb4', e1, e2⟩ := who_end (WhoI.push OK.out HSZ.out HGN.out HPK.out HL.out HG.out HBL.out HBS.out H2.out b2.out HE.out HR3.out.1 B3.out hl4 hb4) HLE.out; have HI4 := Lib.hid hi4; have HLN4 := Lib.hid hn4; have HBN4 := Lib.hid hb4'; clear hl4 hb4 hi4 hn4 hb4' hq4)
              | (go_at_call 18; refine HLN4.out.mono ?_; rintro e w' ⟨rfl, rfl⟩)
              | (go_at_call 17; refine HBN4.out.mono ?_; rintro e w' ⟨rfl, rfl⟩))
            go_roundw
            case rel => exact ⟨k + 1, g, ps ++ [p], A4, c4, s', by omega, by go_num, rfl, by rw [List.length_append]; rfl, HI4.out⟩
            case measure => simp [intOf]; omega
          · have HE : Hid (pushS s p = s) := Gone.keep he
            rw [HE.out] at PP
            obtain ⟨ee, hee⟩ : ∃ ee, pushE s p = ee := ⟨_, rfl⟩
            rw [hee] at PP he
            have ge : ((ee : Int) == 0) = false := beq_eq_false_iff_ne.mpr (by omega)
            have HPP := Lib.hid PP
            clear PP he hee hpl
            go_wp2_with (first
              | (go_at_call 19; refine HPP.out.mono ?_; rintro e w2 ⟨rfl, H2, b2⟩; obtain ⟨s', O4, hi4, hq4, hn4, hb4', e1, e2⟩ := who_end (WhoI.call (k' := k + 1) OK.out HSZ.out HGN.out (Nat.le_succ_of_le HPK.out) HL.out HG.out HBL.out HBS.out H2.out b2.out) (Nat.le_trans HPK.out (by have := H300.out; omega)); have HI4 := Lib.hid hi4; have HLN4 := Lib.hid hn4; have HBN4 := Lib.hid hb4'; clear hi4 hn4 hb4' hq4)
              | (go_at_call 18; refine HLN4.out.mono ?_; rintro e w' ⟨rfl, rfl⟩)
              | (go_at_call 17; refine HBN4.out.mono ?_; rintro e w' ⟨rfl, rfl⟩))
            go_roundw
            case rel => exact ⟨k + 1, g, ps, A, c, s', by omega, by go_num, rfl, rfl, HI4.out⟩
            case measure => simp [intOf]; omega
        · have hkb : (kd == 0) = false := beq_eq_false_iff_ne.mpr hk0
          by_cases hk2 : kd = 2
          · subst hk2
            have AA := Ack_s w.heap.size G wr w.heap.size s HSN OK HBL.out.size HO an
            obtain ⟨q1, q2, q3⟩ := HGN.out.ack OK.out an
            have hu := OK.out.u
            have h63 := OK.out.s63
            obtain ⟨a, ha⟩ : ∃ a, ackN s an = a := ⟨_, rfl⟩
            obtain ⟨s2, hs2⟩ : ∃ s2, ackS s an = s2 := ⟨_, rfl⟩
            have ok2 := OK.out.ack an
            rw [ha] at AA q1 q3
            rw [hs2] at AA q1 q2 q3 ok2
            have HAA := Lib.hid AA
            have HQ1 := Lib.hid q1
            have HQ2 := Lib.hid (q2.trans HSZ.out)
            have HOK2 := Lib.hid ok2
            have ha63 : (a : Int) ≤ 63 := by omega
            have hg3 : (g : Int) ≤ 300 := by omega
            clear q1 q2 q3 AA hkb hk0 hu h63 ha hs2 ok2
            go_wp2_with (first
              | (go_at_call 20; refine HAA.out.mono ?_; rintro e w2 ⟨rfl, H2, b2⟩; obtain ⟨s', O4, hi4, hq4, hn4, hb4', e1, e2⟩ := who_end (WhoI.call (k' := k + 1) HOK2.out HQ2.out HQ1.out (Nat.le_succ_of_le HPK.out) HL.out HG.out HBL.out HBS.out H2.out b2.out) (Nat.le_trans HPK.out (by have := H300.out; omega)); have HI4 := Lib.hid hi4; have HLN4 := Lib.hid hn4; have HBN4 := Lib.hid hb4'; clear hi4 hn4 hb4' hq4; rw [Int.natCast_add] at e1 e2)
              | (go_at_call 18; refine HLN4.out.mono ?_; rintro e w' ⟨rfl, rfl⟩)
              | (go_at_call 17; refine HBN4.out.mono ?_; rintro e w' ⟨rfl, rfl⟩))
            go_roundw
            case rel => exact ⟨k + 1, g + a, ps, A, c, s', by omega, by go_num, by first | rfl | (rw [Int.natCast_add]) | go_num, rfl, HI4.out⟩
            case measure => simp [intOf]; omega
          · have hkc : (kd == 2) = false := beq_eq_false_iff_ne.mpr hk2
            obtain ⟨q1, q2, q3⟩ := HGN.out.send
            have ok2 := OK.out.send
            obtain ⟨s2, hs2⟩ : ∃ s2, sendS s = s2 := ⟨_, rfl⟩
            have SS := Send_v w.heap.size G wr w.heap.size s HSN OK HBL.out.size HO s2 hs2
            rw [hs2] at q1 q2 ok2
            have HSS := Lib.hid SS
            have HQ1 := Lib.hid q1
            have HQ2 := Lib.hid (q2.trans HSZ.out)
            have HOK2 := Lib.hid ok2
            clear q1 q2 q3 SS hs2 ok2 hk0 hk2
            go_wp2_with (first
              | (go_at_call 21; refine HSS.out.mono ?_; rintro e w2 ⟨v2, rfl, H2, b2⟩; obtain ⟨s', O4, hi4, hq4, hn4, hb4', e1, e2⟩ := who_end (WhoI.call (k' := k + 1) HOK2.out HQ2.out HQ1.out (Nat.le_succ_of_le HPK.out) HL.out HG.out HBL.out HBS.out H2.out b2.out) (Nat.le_trans HPK.out (by have := H300.out; omega)); have HI4 := Lib.hid hi4; have HLN4 := Lib.hid hn4; have HBN4 := Lib.hid hb4'; clear hi4 hn4 hb4' hq4)
              | (go_at_call 18; refine HLN4.out.mono ?_; rintro e w' ⟨rfl, rfl⟩)
              | (go_at_call 17; refine HBN4.out.mono ?_; rintro e w' ⟨rfl, rfl⟩))
            go_roundw
            case rel => exact ⟨k + 1, g, ps, A, c, s', by omega, by go_num, rfl, rfl, HI4.out⟩
            case measure => simp [intOf]; omega
      · have hk2 : ¬ (k : Int) < (ls.length : Int) := by omega
        have RS := Reset_s w.heap.size G wr w.heap.size s HSN OK.out.bytes
        obtain ⟨q, hq⟩ : ∃ q, s.l = q := ⟨_, rfl⟩
        have hgl := HGN.out.1
        have hgd := HGN.out.2.1
        rw [hq] at RS hgl hgd
        obtain ⟨hlc, hc63⟩ := HL.out.le
        have HNW : Hid ((newS s.size).Ok) := by rw [HSZ.out]; exact HNEW
        have HRS := Lib.hid RS
        have HGD := Lib.hid hgd
        have HQL : Hid (ps.length - g = q.length) := by show _ = _; omega
        have HQS : Hid (q.length ≤ 9223372036854775806) := by have := HPK.out; have := H300.out; show _ ≤ _; omega
        obtain ⟨A2, hA2⟩ : ∃ A2, (if c = g then A else Option.map (fun x => x.add g) A) = A2 := ⟨_, rfl⟩
        have HCUT := HL.out.cut (n := g) (by omega)
        rw [hA2, ← hgd] at HCUT
        have HCT := Lib.hid HCUT
        have g1 : (0 : Int) ≤ (g : Int) := by omega
        have g2 : (g : Int) ≤ (c : Int) := by omega
        have g3 : (g : Int) ≤ (ps.length : Int) := by omega
        have HQB : Hid (∀ r ∈ q, ∀ z ∈ r, z < 256) := by rw [← hq]; exact OK.out.bytes
        clear hq hgl hgd RS HCUT
        go_wp2_with (first
          | (go_at_call 22; refine HRS.out.mono ?_; rintro e w2 ⟨Ar, rfl, l1, l2, H2, b2, f1, f2⟩; obtain ⟨l3, l4⟩ := (HCT.out.but b2.out fun k hk e => by subst e; exact f2 hk).lst HQB.out; have HSM := Lib.hid (Same_any w2 Ar A2 q.length (c - g) q q l1 l2 l3 l4 HQS.out); rw [show decide (q = q) = true from decide_eq_true rfl] at HSM; have B2 : Hid (Below w.heap.size w w2) := HBL.out.trans (b2.out.below HBL.out.size fun k e => by subst e; exact f1); clear l3 l4)
          | (go_at_call 23; rw [HQL.out]; refine HSM.out.mono ?_; rintro e w3 ⟨rfl, hb3⟩; have H3 := Lib.hid (H2.out.below hb3.out); have B3 : Hid (Below w.heap.size w w3) := B2.out.trans (hb3.out.mono B2.out.size); have HL3 := Lib.hid (Len_s _ _ w3 w.heap.size (newS s.size) H3); have HB3 := Lib.hid (Base_s _ _ w3 w.heap.size (newS s.size) H3); have HU3 := Lib.hid (Under_n H3 HNW); rw [show ((newS s.size).l.length : Int) = 0 from rfl] at HL3; rw [show ((newS s.size).base : Int) = 0 from rfl] at HB3; rw [show (newS s.size).under = 0 from rfl] at HU3)
          | (go_at_call 18; refine HL3.out.mono ?_; rintro e w' ⟨rfl, rfl⟩)
          | (go_at_call 17; refine HB3.out.mono ?_; rintro e w' ⟨rfl, rfl⟩)
          | (go_at_call 15; refine HU3.out.mono ?_; rintro e w5 ⟨A5, c5, rfl, hb5⟩)
          | (go_at_call 11; refine (awake_any w5).mono ?_; rintro e w9 ⟨rfl, hb9⟩))
        go_ret
        have hb5' := B3.out.trans (hb5.out.mono B3.out.size)
        exact ⟨rfl, hb5'.trans (hb9.out.mono hb5'.size)⟩
end Go.Proofs.Ytdfjlhiliifapaa.Sn
