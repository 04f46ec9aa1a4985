/- The walk of the law HdlcParts. -/
import Derived.Test.YtoaffkmjobmhaaaHdPS
namespace Go.Proofs.Ytoaffkmjobmhaaa.Hd
open Go.RowKit
open Go.Proofs.Ytoaffkmjobmhaaa.Me Go.Proofs.Ytoaffkmjobmhaaa.St
open Go.Proofs.Ytoaffkmjobmhaaa.Cr (addL rightB)
set_option linter.unusedVariables false
set_option linter.unusedSimpArgs false

theorem Feed_nil (w : World) (D : Nat) (Ap : Option Addr) (cp : Nat) : Calls Try.prog 15 #[.pointer (some ⟨D, 0, none⟩), .slice Ap 0 cp] w fun e w' => e = .returned (.slice none 0 0) ∧ w' = w := by
  go_enter Try.func15, Try.ntmps15
  go_wp2
  go_step3
  go_wp2
  go_step3
  go_wp2
  go_loopw [5, 18] (fun v i wr => v = .slice none 0 0 ∧ i = .int .i64 0 ∧ wr = w) (fun _ _ _ => 0)
  case atStart => exact ⟨rfl, rfl, rfl⟩
  case round =>
    obtain ⟨rfl, rfl, rfl⟩ := hrel
    go_wp2
    rw [Exit.noGoto_ret]
    go_ret
    exact ⟨rfl, rfl⟩
/-- Feed of bytes that may be none: what is asked of where they lie is asked of some alone. -/
theorem Feed_gen (w : World) (D : Nat) (d : Dec) (A : Option Addr) (c : Nat) (h : Hid (Dblk w D d (.slice A d.inn.length c))) (ho : Hid (Me.Own w 0 (.slice A d.inn.length c) d.inn)) (hg : Good d) (Ap : Option Addr) (cp : Nat) (p : List Nat) (n : Nat) (hn : p.length = n) (hr : Rd w w.heap.size Ap p)
    (hne : 0 < p.length → ∀ a, Ap = some a → (Value.slice A d.inn.length c).ownBlock ≠ some a.block) (ht : tot d.met + p.length ≤ 4611686018427387904) (hp : p.length * 24 ≤ 140737488355328) :
    Calls Try.prog 15 #[.pointer (some ⟨D, 0, none⟩), .slice Ap n cp] w fun e w' => ∃ vr, e = .returned vr ∧ Hid (FeedN w D (.slice A d.inn.length c) (feedD rightB d p).1 (feedD rightB d p).2 vr w') := by
  by_cases h0 : 0 < p.length
  · subst hn
    exact Feed_any w D d A c h ho hg Ap cp p hr (hne h0) ht hp
  · have hp0 : p = [] := List.eq_nil_of_length_eq_zero (by omega)
    subst hp0
    have hn0 : n = 0 := hn.symm
    subst hn0
    refine (Feed_nil w D Ap cp).mono ?_
    rintro e w' ⟨rfl, rfl⟩
    exact ⟨_, rfl, A, c, h.out, ho.out, fun j e => .inl e, But.refl _ _, Rws.nil _ _⟩
def jk : List Nat := [126, 1, 2, 3, 126]
theorem parts_below {w w3 wr w4 w4a w5 : World} {D0 D c1 : Nat} {d dj : Dec} {A1 : Option Addr} {ts tj : List (List Nat)} {v vj : Value} (b3 : Below w.heap.size w w3) (hD0 : w.heap.size < D0) (h : PS w3 D0 D d A1 c1 ts v wr) (h4 : Below wr.heap.size wr w4) (h4a : Below w4.heap.size w4 w4a) (hj : FeedN w4a D (.slice A1 d.inn.length c1) dj tj vj w5) : Below w.heap.size w w5 := by
  obtain ⟨_, _, _, _, _, e4, _⟩ := hj
  have s3 := b3.size
  have br : Below w.heap.size w wr := b3.trans (h.B.below s3 fun k e => by omega)
  have b4 := br.trans (h4.mono br.size)
  have b4a := b4.trans (h4a.mono b4.size)
  refine b4a.trans (e4.below b4a.size fun k hk => ?_)
  rcases hk with hk | hk
  · rcases h.n with h' | h' <;> omega
  · have := h.o k hk; omega
/-- Behind the old decoder's junk: the clone is as it was. -/
theorem clone_kept {wr w4 w4a w5 : World} {D E c1 c2 : Nat} {d dj : Dec} {A1 A2 : Option Addr} {tj : List (List Nat)} {vj : Value} (hD : D < wr.heap.size) (hO : Me.Own wr 0 (.slice A1 d.inn.length c1) d.inn) (hE : wr.heap.size ≤ E) (hD4 : Dblk w4 E d (.slice A2 d.inn.length c2)) (hO4 : Me.Own w4 wr.heap.size (.slice A2 d.inn.length c2) d.inn) (h4a : Below w4.heap.size w4 w4a) (hj : FeedN w4a D (.slice A1 d.inn.length c1) dj tj vj w5) :
    Dblk w5 E d (.slice A2 d.inn.length c2) ∧ Me.Own w5 0 (.slice A2 d.inn.length c2) d.inn := by
  obtain ⟨_, _, _, _, _, e4, _⟩ := hj
  have s4 := h4a.size
  have hOl := own_lt hO
  have hk : ∀ k, wr.heap.size ≤ k → k < w4.heap.size → w5.heap[k]? = w4.heap[k]? := fun k h1 h2 => (e4.same k (by omega) fun hs => by
    rcases hs with hs | hs
    · omega
    · have := hOl k hs; omega).trans (h4a.block k h2)
  exact ⟨(hk E hE hD4.lt).trans hD4, own_base (B' := 0) (own_same hO4 fun k e hk' => hk k (hO4.lt k e).1 hk') fun _ _ => Nat.zero_le _⟩
theorem PS.below {w w3 wr : World} {D0 D c1 : Nat} {d : Dec} {A1 : Option Addr} {ts : List (List Nat)} {v : Value} (b3 : Below w.heap.size w w3) (hD0 : w.heap.size < D0) (h : PS w3 D0 D d A1 c1 ts v wr) : Below w.heap.size w wr :=
  b3.trans (h.B.below b3.size fun k e => by omega)
/-- Behind all: both lists of what was told, and both decoders. -/
theorem parts_end {w w3 w6 w7 : World} {D0 D B2 c ca : Nat} {dA : Dec} {A Aa : Option Addr} {tA : List (List Nat)} {vw v v' : Value} {S : Nat → Prop} (b3 : Below w.heap.size w w3) (hD0 : w.heap.size < D0) (hB2 : D0 < B2)
    (hDa : Dblk w3 w.heap.size dA (.slice Aa dA.inn.length ca)) (hRa : Rws (fun j => B2 ≤ j ∧ S j) w3 vw tA) (hb : ∀ r ∈ tA, ∀ z ∈ r, z < 256)
    (hD : Dblk w6 D dA (.slice A dA.inn.length c)) (hB : But (fun j => j = D0) w3 w6) (hg : w6.grownBy w7 v.ownBlock) (hv : ∀ k, v.ownBlock = some k → w3.heap.size ≤ k ∧ k ≠ D) (hR : Rws (fun k => w3.heap.size ≤ k ∧ k ≠ D) w7 v' tA) :
    ∃ A8 c8 A9 c9, v' = .slice A8 tA.length c8 ∧ vw = .slice A9 tA.length c9 ∧ Lst w7 w7.heap.size A8 tA ∧ Nils w7 A8 tA ∧ Lst w7 w7.heap.size A9 tA ∧ Nils w7 A9 tA ∧ Dblk w7 w.heap.size dA (.slice Aa dA.inn.length ca) ∧ Dblk w7 D dA (.slice A dA.inn.length c) ∧ Below w.heap.size w w7 := by
  have hB7 : But (fun j => j = D0) w3 w7 := hB.grown hg fun r e => .inr (hv r e).1
  obtain ⟨A8, c8, e8, _, _, q1, q2, _⟩ := hR.lst hb
  obtain ⟨A9, c9, e9, _, _, q3, q4, _⟩ := (hRa.but hB7 fun k hk hs => by have := hk.1; omega).lst hb
  exact ⟨A8, c8, A9, c9, e8, e9, q1, q2, q3, q4, (hB7.same _ hDa.lt (by omega)).trans hDa, (hg.block D hD.lt fun e => (hv D e.symm).2 rfl).trans hD, b3.trans (hB7.below b3.size fun k e => by omega)⟩
set_option maxRecDepth 100000 in
set_option maxHeartbeats 4000000 in
theorem partsL (A : Option Addr) (len cap : Nat) (z : List Nat) (Af : Option Addr) (lenf capf : Nat) (fl : List Int) (w : World) (w0 : BySlice w A len cap z) (c0 : cap ≤ 140737488351232) (w1 : IntsIn w Af lenf fl) :
    Calls Try.prog 6 #[.slice A len cap, .slice Af lenf capf] w fun e w' => e = .returned (.bool true) ∧ Below w.heap.size w w' := by
  obtain ⟨rfl, h1, h2, h3, hA⟩ := w0
  obtain ⟨rfl, hfl, hfb, hfc⟩ := w1
  have HFC := Lib.hid hfc
  have HFB := Lib.hid hfb
  have HN := Lib.hid (New_any w)
  have HN2 := Lib.hid (fun (W : World) => New_any W)
  have HC := Lib.hid (fun (W : World) => cut_any A cap z W h1)
  have hp3 : (z.take 3000).length ≤ 3000 := by simp; omega
  have hpc : (z.take 3000).length ≤ cap := by simp; omega
  have HR : Hid (Rd w w.heap.size A (z.take 3000)) := h3.take 3000
  have HA : Hid (A = none → (z.take 3000).length = 0 ∧ cap = 0) := fun e => by have := hA e; rw [List.length_take]; omega
  obtain ⟨p, hpd⟩ : ∃ p, z.take 3000 = p := ⟨_, rfl⟩
  rw [hpd] at HC HR HA hp3 hpc
  have HPB : Hid (∀ z ∈ p, z < 256) := HR.out.1
  clear h2 h3 hA hpd hfc hfb
  obtain ⟨P, hP⟩ : ∃ P, p.length = P := ⟨_, rfl⟩
  have HPn : Hid (p.length = P) := hP
  have FA := fun (w2 : World) (hd : Hid (Dblk w2 w.heap.size newD (.slice none 0 0))) (hr : Hid (Rd w2 w2.heap.size A p)) => Feed_any w2 w.heap.size newD none 0 hd (Me.Own.nil _ _) Good.new A cap p hr (fun a _ => by simp [Value.ownBlock]) (by have : tot newD.met = 0 := rfl; omega) (by omega)
  rw [hP] at HC FA hp3 hpc
  have HFA := Lib.hid FA
  clear hP FA
  go_enter Try.func6, Try.ntmps6
  go_wp2_with (first
    | (go_at_call 13; (with_reducible refine HN.out.mono ?_); rintro e w1 ⟨rfl, hd1, hb1⟩)
    | (go_at_call 13; (with_reducible refine (HN2.out w1).mono ?_); rintro e w2 ⟨rfl, hd2, hb2⟩)
    | (go_at_call 14; refine (HC.out w2).mono ?_; rintro e w' ⟨rfl, rfl⟩; have B2 : Hid (Below w.heap.size w w2) := hb1.out.trans (hb2.out.mono hb1.out.size); have D2 : Hid (Dblk w2 w.heap.size newD (.slice none 0 0)) := (hb2.out.block _ hd1.out.lt).trans hd1.out; have R2 : Hid (Rd w2 w2.heap.size A p) := (HR.out.below B2.out).more B2.out.size)
    | (go_at_call 15; refine (HFA.out w2 D2 R2).mono ?_; rintro e w3 ⟨vw, rfl, hfa⟩))
  obtain ⟨Aa, ca, Da, Oa, Ga, Ta, Ra⟩ := hfa.out
  have hlt1 := hd1.out.lt
  have hlt2 := hd2.out.lt
  have sT := Ta.size
  have Dlt : w.heap.size < w1.heap.size := hlt1
  have hDb3 : Dblk w3 w1.heap.size newD (.slice none 0 0) := (Ta.same _ hlt2 fun hs => by
    rcases hs with hs | hs
    · omega
    · cases hs).trans hd2.out
  have HPS : Hid (PS w3 w1.heap.size w1.heap.size newD none 0 [] (.slice (some ⟨w3.heap.size, 0, none⟩) 0 0) (w3.alloc (.cells #[] 22))) :=
    ⟨hDb3.alloc _, Me.Own.nil _ _, (fun j hj => by cases hj), .inl rfl, Rws.lit _ w3 ⟨Nat.le_refl _, by omega, fun e => by cases e⟩, (But.refl _ _).alloc _, by omega⟩
  have B3 : Hid (Below w.heap.size w w3) := B2.out.trans (Ta.below (B := w.heap.size) B2.out.size (fun k e => by rcases e with e | e <;> first | exact Nat.le_of_eq e.symm | cases e))
  have HDa := Lib.hid Da
  have HRa := Lib.hid Ra
  have HDlt := Lib.hid Dlt
  have HW2 := Lib.hid hlt2
  clear Da Oa Ga Ta Ra hfa hlt1 hlt2 sT Dlt hDb3 D2 R2 HFA HC HN HN2 hd1 hd2
  obtain ⟨W0, hW0⟩ : ∃ W0, w3.alloc (.cells #[] 22) = W0 := ⟨_, rfl⟩
  rw [hW0] at HPS ⊢
  clear hW0
  go_loopw [6, 8, 9, 10] (fun b v fr i wr => ∃ (k f D : Nat) (A1 : Option Addr) (c1 : Nat), k ≤ 40 ∧ i = .int .i64 k ∧ fr = .int .i64 f ∧ b = .pointer (some ⟨D, 0, none⟩) ∧ f ≤ P ∧ PS w3 w1.heap.size D (feedD rightB newD (p.take f)).1 A1 c1 (feedD rightB newD (p.take f)).2 v wr) (fun _ _ _ i _ => 40 - (intOf i).toNat)
  case atStart => exact ⟨0, 0, w1.heap.size, none, 0, by decide, rfl, rfl, rfl, Nat.zero_le _, by rw [List.take_zero]; exact HPS.out⟩
  case round =>
    obtain ⟨k, f, D, A1, c1, hk, rfl, rfl, rfl, hf, hps⟩ := hrel
    have HS := Lib.hid hps
    clear hps
    obtain ⟨G1, T1, L1⟩ := Good.new.feed (p.take f) (take_lt HPB.out f)
    have htk : (p.take f).length ≤ 3000 := by have := HPn.out; simp; omega
    have HTB := Lib.hid (told_bytes (p := p.take f) (take_lt HPB.out f))
    have hT1 : tot (feedD rightB newD (p.take f)).1.met ≤ 3000 := by have : tot newD.met = 0 := rfl; omega
    have hL1 : (feedD rightB newD (p.take f)).2.length ≤ 3000 := by omega
    have HFP := Lib.hid (fun (t : Nat) (h : f ≤ t) => feed_part rightB (p := p) h)
    obtain ⟨d, hd⟩ : ∃ d, (feedD rightB newD (p.take f)).1 = d := ⟨_, rfl⟩
    obtain ⟨ts, hts⟩ : ∃ ts, (feedD rightB newD (p.take f)).2 = ts := ⟨_, rfl⟩
    rw [hd] at G1 hT1 HS
    rw [hts] at hL1 HS HTB
    simp only [hd, hts] at HFP
    have HG := Lib.hid G1
    have HT1 := Lib.hid hT1
    have HL1 := Lib.hid hL1
    clear T1 L1 htk hd hts G1 hT1 hL1
    by_cases hrun : k ≤ fl.length ∧ k < 40
    · obtain ⟨hk1, hk2⟩ := hrun
      have i1 : (k : Int) ≤ (fl.length : Int) := by omega
      have i2 : (k : Int) < 40 := by omega
      have HCL := Lib.hid (Clone_any wr D d A1 c1 HS.out.K HS.out.O HG.out.bytes HG.out.len)
      have HPL : Hid (P ≤ p.length) := by rw [HPn.out]; exact Nat.le_refl _
      obtain ⟨t, hft, htP, hcase⟩ : ∃ t, f ≤ t ∧ t ≤ P ∧ (t = P ∧ ¬ k < fl.length ∨ t = P ∧ k < fl.length ∧ ¬ k < 39 ∨ t = P ∧ k < fl.length ∧ k < 39 ∧ ¬ (f : Int) ≤ fl.getD k 0 ∨ t = P ∧ k < fl.length ∧ k < 39 ∧ (f : Int) ≤ fl.getD k 0 ∧ ¬ fl.getD k 0 < (P : Int) ∨ k < fl.length ∧ k < 39 ∧ fl.getD k 0 = (t : Int) ∧ t < P) := by
        by_cases c1 : k < fl.length
        · by_cases c2 : k < 39
          · by_cases c3 : (f : Int) ≤ fl.getD k 0
            · by_cases c4 : fl.getD k 0 < (P : Int)
              · exact ⟨(fl.getD k 0).toNat, by omega, by omega, .inr (.inr (.inr (.inr ⟨c1, c2, by omega, by omega⟩)))⟩
              · exact ⟨P, hf, Nat.le_refl _, .inr (.inr (.inr (.inl ⟨rfl, c1, c2, c3, c4⟩)))⟩
            · exact ⟨P, hf, Nat.le_refl _, .inr (.inr (.inl ⟨rfl, c1, c2, c3⟩))⟩
          · exact ⟨P, hf, Nat.le_refl _, .inr (.inl ⟨rfl, c1, c2⟩)⟩
        · exact ⟨P, hf, Nat.le_refl _, .inl ⟨rfl, c1⟩⟩
      have HTL : Hid (t ≤ p.length) := Nat.le_trans htP HPL.out
      have HTC : Hid (t ≤ cap) := Nat.le_trans htP hpc
      have HHT : Hid (t ≤ P) := htP
      have HZ : Hid (k < fl.length → ∃ b off, Af = some ⟨b, off, none⟩ ∧ wr.cell? ⟨b, off + k, none⟩ = some (.int .i64 (fl.getD k 0))) := fun hkf => by
        obtain ⟨b, off, e, hlt, hc⟩ := HFC.out (by omega)
        exact ⟨b, off, e, ((HS.out.below B3.out HDlt.out).cell (p := ⟨b, off + k, none⟩) hlt).trans (hc k hkf)⟩
      have HZB : Hid (k < fl.length → -9223372036854775808 ≤ fl.getD k 0 ∧ fl.getD k 0 ≤ 9223372036854775807) := fun hkf => by
        have h := HFB.out _ (List.getElem_mem hkf)
        have e : fl.getD k 0 = fl[k] := by simp [hkf]
        rw [e]; exact h
      clear hf htP hk1
      obtain ⟨z1, hz1⟩ : ∃ z1, fl.getD k 0 = z1 := ⟨_, rfl⟩
      rw [hz1] at hcase HZ HZB
      clear hz1
      rcases hcase with ⟨hc, hk3⟩ | ⟨hc, hk3, hk4⟩ | ⟨hc, hk3, hk4, hk5⟩ | ⟨hc, hk3, hk4, hk5, hk6⟩ | ⟨hk3, hk4, hk5, hk6⟩
      case' inl =>
        subst hc
        have j1 : ¬ (k : Int) < (fl.length : Int) := by omega
      case' inr.inl =>
        subst hc
        have j1 : (k : Int) < (fl.length : Int) := by omega
        have j2 : ¬ (k : Int) < 39 := by omega
      case' inr.inr.inl =>
        subst hc
        have j1 : (k : Int) < (fl.length : Int) := by omega
        have j2 : (k : Int) < 39 := by omega
        obtain ⟨b7, o7, rfl, hc7⟩ := HZ.out hk3
        have hb7 := HZB.out hk3
      case' inr.inr.inr.inl =>
        subst hc
        have j1 : (k : Int) < (fl.length : Int) := by omega
        have j2 : (k : Int) < 39 := by omega
        obtain ⟨b7, o7, rfl, hc7⟩ := HZ.out hk3
        have hb7 := HZB.out hk3
      case' inr.inr.inr.inr =>
        subst hk5
        have j1 : (k : Int) < (fl.length : Int) := by omega
        have j2 : (k : Int) < 39 := by omega
        have j3 : (f : Int) ≤ (t : Int) := by omega
        have j4 : (t : Int) < (P : Int) := by omega
        obtain ⟨b7, o7, rfl, hc7⟩ := HZ.out hk3
        have hb7 := HZB.out hk3
      all_goals
        go_wp2_with (go_at_call 21; refine HCL.out.mono ?_; rintro e w4 ⟨E, A2, c2, rfl, hE, hD4, hO4, hB4⟩)
        have J1 : Hid (Dblk (w4.alloc (.cells (jk.map byV).toArray 5)) D d (.slice A1 d.inn.length c1)) := Dblk.alloc ((hB4.out.block _ HS.out.K.lt).trans HS.out.K) _
        have J2 : Hid (Me.Own (w4.alloc (.cells (jk.map byV).toArray 5)) 0 (.slice A1 d.inn.length c1) d.inn) := World.ownsRow.alloc (own_same HS.out.O fun j _ hj => hB4.out.block j hj) _
        have J3 : Rd (w4.alloc (.cells (jk.map byV).toArray 5)) (w4.alloc (.cells (jk.map byV).toArray 5)).heap.size (some ⟨w4.heap.size, 0, none⟩) jk := (rd_lit (w := w4) (r := jk) (by decide) 5).more (by simp)
        go_at_call 15
        refine (Feed_gen (w4.alloc (.cells (jk.map byV).toArray 5)) D d A1 c1 J1 J2 HG.out (some ⟨w4.heap.size, 0, none⟩) 5 jk 5 rfl J3 (fun _ a ha e => by cases ha; have h1 := own_lt HS.out.O _ e; have h2 := hB4.out.size; simp only at h1; omega) (by have := HT1.out; show _ + 5 ≤ _; omega) (by decide)).mono ?_
        rintro e w5 ⟨vj, rfl, hfj⟩
        have hB4a : Hid (Below w4.heap.size w4 (w4.alloc (.cells (jk.map byV).toArray 5))) := below_alloc (Below.refl _ _)
        obtain ⟨K1, K2⟩ := clone_kept HS.out.K.lt HS.out.O hE hD4.out hO4.out hB4a.out hfj.out
        have HK1 := Lib.hid K1
        have HK2 := Lib.hid K2
        have HRp : Hid (Rd w5 w5.heap.size A p) := (HR.out.below (parts_below B3.out HDlt.out HS.out hB4.out hB4a.out hfj.out)).more (parts_below B3.out HDlt.out HS.out hB4.out hB4a.out hfj.out).size
        obtain ⟨A3, hA3, r3, n3, a3⟩ := cut_sl (f := f) (t := t) HRp.out hft HTL.out (by rw [HPn.out]; exact hpc) HA.out
        try (rw [if_neg (by omega)] at hA3)
        have hpl : ((p.take t).drop f).length = t - f := by have := HTL.out; simp; omega
        have HNE : Hid (0 < ((p.take t).drop f).length → ∀ a, A3 = some a → (Value.slice A2 d.inn.length c2).ownBlock ≠ some a.block) := fun hp a ha e => by
          obtain ⟨a', e1, e2⟩ := a3 a ha
          obtain ⟨b', off', e3, hb', _⟩ := HR.out.2 (by have := HTL.out; omega)
          rw [e3] at e1
          cases e1
          have h1 := (hO4.out.lt a.block e).1
          have h2 := B3.out.size
          have h3 := HS.out.B.size
          simp only at e2
          omega
        have htl : t ≤ 3000 := Nat.le_trans HHT.out hp3
        have FT := Feed_gen w5 E d A2 c2 HK1 HK2 HG.out A3 (cap - f) ((p.take t).drop f) (t - f) hpl r3 HNE.out (by have := HT1.out; omega) (by omega)
        have hfp := HFP.out t hft
        obtain ⟨d2, hd2⟩ : ∃ d2, (feedD rightB d ((p.take t).drop f)).1 = d2 := ⟨_, rfl⟩
        obtain ⟨t2, ht2⟩ : ∃ t2, (feedD rightB d ((p.take t).drop f)).2 = t2 := ⟨_, rfl⟩
        rw [hd2, ht2] at FT hfp
        have HFT := Lib.hid FT
        have HFP2 := Lib.hid hfp
        have HL2 : Hid ((ts.length + t2.length) * 24 ≤ 140737488355328) := by
          have h1 := (Good.new.feed (p.take t) (take_lt HPB.out _)).2.2
          rw [hfp, List.length_append] at h1
          have h2 : (p.take t).length ≤ 3000 := by have := HPn.out; simp; omega
          show _ ≤ _
          omega
        have s1 : ((f : Int) ≤ (t : Int)) := by omega
        have s2 : ((t : Int) ≤ (cap : Int)) := by have := HTC.out; omega
        clear FT hfp hd2 ht2 K1 K2 r3 n3 a3 hpl HNE J1 J2 J3
        go_wp2_with (first
          | (go_at_call 15; (with_reducible refine HFT.out.mono ?_); rintro e w6 ⟨vt, rfl, hft6⟩; obtain ⟨A7, c7, y1, y2, y3, y4, y5, y6, y7, y8, y9⟩ := HS.out.step hE hD4.out hO4.out hB4.out hB4a.out hfj.out hft6.out; have Y1 := Lib.hid y1; have Y2 := Lib.hid y2; have Y3 := Lib.hid y3; have Y4 := Lib.hid y4; have Y5 := Lib.hid y5; have Y6 := Lib.hid y6; have Y7 := Lib.hid y7; have Y8 := Lib.hid y8; have Y9 := Lib.hid y9; clear y1 y2 y3 y4 y5 y6 y7 y8 y9)
          | (at_builtin; refine appQs rfl (.tmp 75) (.tmp 81) rfl (fun k => w3.heap.size ≤ k ∧ k ≠ E ∧ (Value.slice A7 d2.inn.length c7).ownBlock ≠ some k) u8 vt ts t2 rfl Y5.out rfl Y6.out (fun k hk => ⟨by have := Y7.out.size; omega, by have := Y8.out; omega, fun e => by have := Y9.out k e; omega⟩) HL2.out ?_; intro v7 w7 hr7 hg7 hf7; have HR7 := Lib.hid hr7; have HG7 := Lib.hid hg7; clear hr7 hg7 hf7))
        go_roundw
        case rel => exact ⟨k + 1, t, E, A7, c7, by omega, by go_num, rfl, rfl, HHT.out, by rw [HFP2.out]; exact PS.app Y1.out Y2.out Y3.out Y4.out Y7.out HS.out.E Y5.out HR7.out HG7.out⟩
        case measure => simp [intOf]; omega
    · have hft : f ≤ P := hf
      have HPL : Hid (P ≤ p.length) := by rw [HPn.out]; exact Nat.le_refl _
      have bwr : Below w.heap.size w wr := HS.out.below B3.out HDlt.out
      have HRp : Hid (Rd wr wr.heap.size A p) := (HR.out.below bwr).more bwr.size
      obtain ⟨A3, hA3, r3, n3, a3⟩ := cut_sl (f := f) (t := P) HRp.out hft HPL.out (by rw [HPn.out]; exact hpc) HA.out
      have hpl : ((p.take P).drop f).length = P - f := by have := HPL.out; simp; omega
      have HNE : Hid (0 < ((p.take P).drop f).length → ∀ a, A3 = some a → (Value.slice A1 d.inn.length c1).ownBlock ≠ some a.block) := fun hp a ha e => by
        obtain ⟨a', e1, e2⟩ := a3 a ha
        obtain ⟨b', off', e3, hb', _⟩ := HR.out.2 (by have := HPL.out; omega)
        rw [e3] at e1
        cases e1
        have h1 := HS.out.o a.block e
        have h2 := B3.out.size
        simp only at e2
        omega
      have FT := Feed_gen wr D d A1 c1 (Lib.hid HS.out.K) (Lib.hid HS.out.O) HG.out A3 (cap - f) ((p.take P).drop f) (P - f) hpl r3 HNE.out (by have := HT1.out; omega) (by omega)
      have hfp := HFP.out P hft
      obtain ⟨d2, hd2⟩ : ∃ d2, (feedD rightB d ((p.take P).drop f)).1 = d2 := ⟨_, rfl⟩
      obtain ⟨t2, ht2⟩ : ∃ t2, (feedD rightB d ((p.take P).drop f)).2 = t2 := ⟨_, rfl⟩
      rw [hd2, ht2] at FT hfp
      have hL2 : (ts.length + t2.length) * 24 ≤ 140737488355328 := by
        have h1 := (Good.new.feed (p.take P) (take_lt HPB.out _)).2.2
        rw [hfp, List.length_append] at h1
        have h2 : (p.take P).length ≤ 3000 := by have := HPn.out; simp; omega
        omega
      have htp : p.take P = p := List.take_of_length_le (by have := HPn.out; omega)
      rw [htp] at hfp
      have HFT := Lib.hid FT
      have HL2 := Lib.hid hL2
      obtain ⟨tA, htA⟩ : ∃ tA, ts ++ t2 = tA := ⟨_, rfl⟩
      rw [htA] at hfp
      have HTA : Hid (ts ++ t2 = tA) := htA
      have HDa2 := HDa
      have HRa2 := HRa
      rw [hfp] at HDa2 HRa2
      simp only at HDa2 HRa2
      have HTL : Hid (tA.length ≤ 9223372036854775806) := by show _ ≤ _; rw [← htA, List.length_append]; omega
      have HTB2 : Hid (∀ r ∈ tA, ∀ z ∈ r, z < 256) := by
        have h := told_bytes (p := p) HPB.out
        rw [hfp] at h
        exact h
      have HSM := Lib.hid (fun (W : World) (A8 A9 : Option Addr) (c8 c9 : Nat) (q1 : Hid (Lst W W.heap.size A8 tA)) (q2 : Hid (Nils W A8 tA)) (q3 : Hid (Lst W W.heap.size A9 tA)) (q4 : Hid (Nils W A9 tA)) => Same_any W A9 A8 c9 c8 tA tA q3 q4 q1 q2 HTL.out)
      have s1 : ((f : Int) ≤ (P : Int)) := by omega
      have s2 : ((P : Int) ≤ (cap : Int)) := by omega
      have hex : ¬ (k : Int) ≤ (fl.length : Int) ∨ (k : Int) ≤ (fl.length : Int) ∧ ¬ (k : Int) < 40 := by omega
      clear FT hfp hd2 ht2 r3 n3 a3 hpl HNE htp htA hL2 HRp bwr HDa HRa hrun hf HPL
      rcases hex with hex | ⟨hex, hex2⟩
      all_goals
        go_wp2_with (first
          | (go_at_call 15; (with_reducible refine HFT.out.mono ?_); rintro e w6 ⟨vt, rfl, hft6⟩; obtain ⟨A7, c7, y1, y2, y3, y4⟩ := HS.out.last hft6.out; have Y1 := Lib.hid y1; have Y2 := Lib.hid y2; have Y3 := Lib.hid y3; have Y4 := Lib.hid y4; clear y1 y2 y3 y4)
          | (at_builtin; refine appQs rfl (.tmp 84) (.tmp 89) rfl (fun k => w3.heap.size ≤ k ∧ k ≠ D) u8 vt ts t2 rfl Y2.out rfl Y3.out (fun k hk => ⟨by have := Y4.out.size; omega, by have := Y1.out.lt; omega⟩) HL2.out ?_; intro v7 w7 hr7 hg7 hf7; rw [HTA.out] at hr7; have HR7 := Lib.hid hr7; have HG7 := Lib.hid hg7; clear hr7 hg7 hf7))
        obtain ⟨vs, rr1, rr2, _⟩ := Y2.out
        obtain ⟨A8, c8, A9, c9, rfl, rfl, e1, e2, e3, e4, e5, e6, e7⟩ := parts_end B3.out HDlt.out HW2.out HDa2.out HRa2.out HTB2.out Y1.out Y4.out HG7.out rr2 HR7.out
        have HS8 := Lib.hid (HSM.out w7 A8 A9 c8 c9 (Lib.hid e1) (Lib.hid e2) (Lib.hid e3) (Lib.hid e4))
        have E5 := Lib.hid e5
        have E6 := Lib.hid e6
        have E7 := Lib.hid e7
        clear rr1 rr2 e1 e2 e3 e4 e5 e6 e7
        have I := fun (W : World) (D : Nat) (A : Option Addr) (c : Nat) (h : Hid (Dblk W D d2 (.slice A d2.inn.length c))) => Inside_any W D d2 A c h
        obtain ⟨iv, hiv⟩ : ∃ iv : Int, (if d2.hunts then -1 else (d2.inn.length : Int)) = iv := ⟨_, rfl⟩
        simp only [hiv] at I
        have HI := Lib.hid I
        clear I hiv
        go_wp2_with (first
          | (go_at_call 17; refine HS8.out.mono ?_; rintro e w8 ⟨rfl, hb8⟩; have F5 : Hid (Dblk w8 w.heap.size d2 (.slice Aa d2.inn.length ca)) := (hb8.out.block _ E5.out.lt).trans E5.out; have F6 : Hid (Dblk w8 D d2 (.slice A7 d2.inn.length c7)) := (hb8.out.block _ E6.out.lt).trans E6.out; have F7 : Hid (Below w.heap.size w w8) := E7.out.trans (hb8.out.mono E7.out.size))
          | (go_at_call 18; (with_reducible refine (Stats_any w8 w.heap.size _ _ F5).mono ?_); rintro e w9 ⟨he, hb9⟩; unfold mval at he; subst he; have G5 : Hid (Dblk w9 w.heap.size d2 (.slice Aa d2.inn.length ca)) := (hb9.out.block _ F5.out.lt).trans F5.out; have G6 : Hid (Dblk w9 D d2 (.slice A7 d2.inn.length c7)) := (hb9.out.block _ F6.out.lt).trans F6.out; have G7 : Hid (Below w.heap.size w w9) := F7.out.trans (hb9.out.mono F7.out.size))
          | (go_at_call 18; (with_reducible refine (Stats_any w9 D _ _ G6).mono ?_); rintro e w10 ⟨he, hb10⟩; unfold mval at he; subst he; have H5 : Hid (Dblk w10 w.heap.size d2 (.slice Aa d2.inn.length ca)) := (hb10.out.block _ G5.out.lt).trans G5.out; have H6 : Hid (Dblk w10 D d2 (.slice A7 d2.inn.length c7)) := (hb10.out.block _ G6.out.lt).trans G6.out; have H7 : Hid (Below w.heap.size w w10) := G7.out.trans (hb10.out.mono G7.out.size))
          | (go_at_call 19; (with_reducible refine (HI.out w10 w.heap.size Aa ca H5).mono ?_); rintro e w' ⟨rfl, rfl⟩)
          | (go_at_call 19; (with_reducible refine (HI.out w10 D A7 c7 H6).mono ?_); rintro e w' ⟨rfl, rfl⟩)
          | (go_at_call 12; refine (awake_below H7).mono ?_; rintro e w11 ⟨rfl, hb11⟩))
        go_ret
        exact ⟨rfl, hb11.out⟩
end Go.Proofs.Ytoaffkmjobmhaaa.Hd
