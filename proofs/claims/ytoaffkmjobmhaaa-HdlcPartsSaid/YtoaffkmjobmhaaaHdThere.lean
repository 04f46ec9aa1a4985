/- The walk of the law HdlcThere; slices cut out of bytes that came in. -/
import Derived.Test.YtoaffkmjobmhaaaHdEncLaw
namespace Go.Proofs.Ytoaffkmjobmhaaa.Hd
open Go.RowKit
open Go.Proofs.Ytoaffkmjobmhaaa.Me Go.Proofs.Ytoaffkmjobmhaaa.St
open Go.Proofs.Ytoaffkmjobmhaaa.Cr (addL rightB)
set_option linter.unusedVariables false
set_option linter.unusedSimpArgs false

theorem cut_any (A : Option Addr) (cap : Nat) (l : List Nat) (w : World) (hlc : l.length ≤ cap) : Calls Try.prog 14 #[.slice A l.length cap] w fun e w' => e = .returned (.slice A (l.take 3000).length cap) ∧ w = w' := by
  by_cases h : 3000 < l.length
  · have h' : (3000 : Int) < (l.length : Int) := by omega
    have hc : (3000 : Int) ≤ (cap : Int) := by omega
    have hl : Hid ((l.take 3000).length = 3000) := by show _ = _; simp; omega
    clear h
    rw [hl.out]
    clear hl
    go_enter Try.func14, Try.ntmps14
    go_wp2
    go_ret
    exact ⟨rfl, rfl⟩
  · have h' : ¬ (3000 : Int) < (l.length : Int) := by omega
    have hl : Hid ((l.take 3000).length = l.length) := by show _ = _; simp; omega
    clear h
    rw [hl.out]
    clear hl
    go_enter Try.func14, Try.ntmps14
    go_wp2
    go_ret
    exact ⟨rfl, rfl⟩
/-- A piece of bytes that lie in memory. -/
theorem cut_sl {X : World} {B c f t : Nat} {A : Option Addr} {zs : List Nat} (h : Rd X B A zs) (hf : f ≤ t) (ht : t ≤ zs.length) (hc : zs.length ≤ c) (hA : A = none → zs.length = 0 ∧ c = 0) :
    ∃ A2, (if c = f then A else Option.map (fun x => x.add f) A) = A2 ∧ Rd X B A2 ((zs.take t).drop f) ∧ (A2 = none → ((zs.take t).drop f).length = 0 ∧ c - f = 0) ∧ (∀ a, A2 = some a → ∃ a', A = some a' ∧ a.block = a'.block) := by
  refine ⟨_, rfl, ?_⟩
  have hl : ((zs.take t).drop f).length = t - f := by simp; omega
  by_cases hcf : c = f
  · rw [if_pos hcf]
    have : (zs.take t).drop f = [] := List.eq_nil_of_length_eq_zero (by omega)
    rw [this]
    exact ⟨⟨by simp, by simp⟩, fun _ => ⟨rfl, by omega⟩, fun a ha => ⟨a, ha, rfl⟩⟩
  · rw [if_neg hcf]
    cases A with
    | none =>
      have := hA rfl
      exact absurd (by omega) hcf
    | some a =>
      have hblk : (a.add f).block = a.block := by unfold Addr.add; split <;> rfl
      refine ⟨⟨fun z hz => h.1 z (List.mem_of_mem_take (List.mem_of_mem_drop hz)), fun hp => ?_⟩, fun e => by simp at e, fun a' ha' => ⟨a, rfl, by simp only [Option.map_some, Option.some.injEq] at ha'; rw [← ha', hblk]⟩⟩
      obtain ⟨b, off, e, hb, hcs⟩ := h.2 (by omega)
      cases e
      refine ⟨b, off + f, by simp [Addr.add], hb, fun i hi => ?_⟩
      rw [Nat.add_assoc, hcs (f + i) (by omega)]
      have : by_ ((zs.take t).drop f) i = by_ zs (f + i) := by simp [by_, show f + i < t by omega]
      rw [this]
/-- Does a piece of p stand at j? -/
def At (p q : List Nat) (j : Nat) : Prop := (p.take (j + q.length)).drop j = q
theorem stands_at {p c : List Nat} (h : Stands addL p c) : ∃ j, j + (frameL addL c).length ≤ p.length ∧ At p (frameL addL c) j := by
  obtain ⟨_, pre, post, rfl⟩ := h
  refine ⟨pre.length, by simp only [List.length_append]; omega, ?_⟩
  unfold At
  rw [List.append_assoc, List.take_length_add_append, List.drop_left]
  simp
theorem told_fits {p : List Nat} (hp : ∀ z ∈ p, z < 256) : ∀ c ∈ (feedD rightB newD p).2, fits c = true ∧ Stands addL p c := fun c hc => by
  have := (all_stand sums p hp).1 c hc
  exact ⟨this.1, this⟩
/-- What is told are bytes. -/
theorem unst_lt {l o : List Nat} (hl : ∀ z ∈ l, z < 256) (h : unstuffL l = some o) : ∀ z ∈ o, z < 256 := (stuff_unstuff hl h).2.1
theorem kind_bytes {i : List Nat} (hi : ∀ z ∈ i, z < 256) : ∀ z ∈ (kindL rightB i).2, z < 256 := by
  unfold kindL
  cases hu : unstuffL i with
  | none => simp
  | some q =>
    have hq := unst_lt hi hu
    simp only
    split
    · simp
    · split
      · simp
      · split
        · simp
        · exact fun z hz => hq z (List.mem_of_mem_take hz)
theorem byte_bytes {d : Dec} (h : Good d) (b : Nat) : ∀ z ∈ (byteD rightB d b).2, z < 256 := by
  unfold byteD
  split
  · split
    · simp
    · exact kind_bytes h.bytes
  · split
    · simp
    · split <;> simp
theorem told_bytes_any {d : Dec} (h : Good d) {p : List Nat} (hp : ∀ z ∈ p, z < 256) : ∀ c ∈ (feedD rightB d p).2, ∀ z ∈ c, z < 256 := by
  induction p generalizing d with
  | nil => simp [feedD]
  | cons b p ih =>
    intro c hc
    simp only [feedD] at hc
    rcases List.mem_append.mp hc with hc | hc
    · unfold told at hc
      split at hc
      · cases hc
      · simp at hc
        subst hc
        exact byte_bytes h b
    · exact ih (h.byte (hp b (by simp))).1 (fun z hz => hp z (by simp [hz])) c hc
theorem told_bytes {p : List Nat} (hp : ∀ z ∈ p, z < 256) : ∀ c ∈ (feedD rightB newD p).2, ∀ z ∈ c, z < 256 := told_bytes_any Good.new hp
set_option maxRecDepth 100000 in
set_option maxHeartbeats 2000000 in
theorem there (A : Option Addr) (len cap : Nat) (l : List Nat) (w : World) (w0 : BySlice w A len cap l) (c0 : cap ≤ 140737488351232) :
    Calls Try.prog 8 #[.slice A len cap] w fun e w' => e = .returned (.bool true) ∧ Below w.heap.size w w' := by
  obtain ⟨rfl, h1, h2, h3, hA⟩ := w0
  have HN := Lib.hid (New_any w)
  have HC := Lib.hid (fun (W : World) => cut_any A cap l W h1)
  have hp3 : (l.take 3000).length ≤ 3000 := by simp; omega
  have hpc : (l.take 3000).length ≤ cap := by simp; omega
  have HR : Hid (Rd w w.heap.size A (l.take 3000)) := h3.take 3000
  have HA : Hid (A = none → (l.take 3000).length = 0 ∧ cap = 0) := fun e => by have := hA e; rw [List.length_take]; omega
  obtain ⟨p, hpd⟩ : ∃ p, l.take 3000 = p := ⟨_, rfl⟩
  rw [hpd] at HC HR HA hp3 hpc
  have HPB : Hid (∀ z ∈ p, z < 256) := HR.out.1
  have HTF := Lib.hid (told_fits HPB.out)
  have HTB := Lib.hid (told_bytes HPB.out)
  obtain ⟨g1, g2, g3⟩ := Good.new.feed p HPB.out
  have F := fun (w1 : World) (hd : Hid (Dblk w1 w.heap.size newD (.slice none 0 0))) (hr : Hid (Rd w1 w1.heap.size A p)) => Feed_any w1 w.heap.size newD none 0 hd (Me.Own.nil _ _) Good.new A cap p hr (fun a _ => by simp [Value.ownBlock]) (by have : tot newD.met = 0 := rfl; omega) (by omega)
  obtain ⟨d1, hd1⟩ : ∃ d1, (feedD rightB newD p).1 = d1 := ⟨_, rfl⟩
  obtain ⟨ts, hts⟩ : ∃ ts, (feedD rightB newD p).2 = ts := ⟨_, rfl⟩
  rw [hts] at HTF HTB g3
  simp only [hd1, hts] at F
  have HF := Lib.hid F
  have htl : ts.length ≤ 3000 := by omega
  clear h1 h2 h3 hA hpd F g1 g2 g3 hd1 hts c0
  go_enter Try.func8, Try.ntmps8
  go_wp2_with (first
    | (go_at_call 13; refine HN.out.mono ?_; rintro e w1 ⟨rfl, hd1, hb1⟩)
    | (go_at_call 14; refine (HC.out w1).mono ?_; rintro e w' ⟨rfl, rfl⟩)
    | (go_at_call 15; refine (HF.out w1 hd1 ((HR.out.below hb1.out).more hb1.out.size)).mono ?_; rintro e w2 ⟨vr, rfl, hfn⟩; obtain ⟨A3, c3, _, _, _, hbt, hrw⟩ := hfn.out; obtain ⟨A4, c4, rfl, q1, q2, q3, q4, q5⟩ := hrw.lst HTB.out; have HB2 : Hid (Below w.heap.size w w2) := hb1.out.trans (hbt.below (B := w.heap.size) hb1.out.size (fun k e => by rcases e with e | e <;> first | exact Nat.le_of_eq e.symm | cases e)); have HL := Lib.hid q3; have HNl := Lib.hid q4; clear hfn hbt hrw q1 q2 q3 q4 q5))
  go_loopw [5] (fun i wr => ∃ k : Nat, k ≤ ts.length ∧ i = .int .i64 k ∧ Below w2.heap.size w2 wr) (fun i _ => ts.length - (intOf i).toNat)
  case atStart => exact ⟨0, Nat.zero_le _, rfl, Below.refl _ _⟩
  case round =>
    obtain ⟨k, hk, rfl, hbr⟩ := hrel
    have HBR := Lib.hid hbr
    clear hbr
    by_cases hlt : k < ts.length
    · obtain ⟨b, off, R, cr, rfl, r1, r2, r3, r4, r5⟩ := row_conv HL.out HNl.out hlt
      have hltb : b < w2.heap.size := World.block_lt_of_cell? w2 _ r1
      have hc1 := (HBR.out.cell (p := ⟨b, off + k, none⟩) hltb).trans r1
      have hmem : lsAt ts k ∈ ts := by simp [lsAt, hlt]
      obtain ⟨f1, f2⟩ := HTF.out _ hmem
      obtain ⟨j0, s1, s2⟩ := stands_at f2
      have D := (Encode_any R cr (lsAt ts k) wr ((r4.below HBR.out).more HBR.out.size) r2 r3).mono fun _ _ h => h.q
      have e1 : encL (lsAt ts k) = frameL addL (lsAt ts k) := if_pos f1
      have e2 : encE (lsAt ts k) = 0 := if_pos f1
      rw [e1, e2] at D
      have hql := frame_lt (HTB.out _ hmem)
      obtain ⟨q, hq⟩ : ∃ q, frameL addL (lsAt ts k) = q := ⟨_, rfl⟩
      rw [hq] at D s1 s2 hql
      obtain ⟨r, hr⟩ : ∃ r, lsAt ts k = r := ⟨_, rfl⟩
      rw [hr] at hc1 D
      have HD := Lib.hid D
      have HS := Lib.hid s2
      have HQL := Lib.hid hql
      clear D s2 hql e1 e2 hq hr f1 f2 hmem r1 r2 r3 r4 r5 hltb
      obtain ⟨n, hn⟩ : ∃ n, q.length = n := ⟨_, rfl⟩
      have HQn : Hid (q.length = n) := hn
      rw [hn] at HD s1
      have hj0 : j0 + n ≤ p.length := s1
      obtain ⟨P, hP⟩ : ∃ P, p.length = P := ⟨_, rfl⟩
      have HPn : Hid (p.length = P) := hP
      rw [hP] at hj0 hp3 hpc HC HF ⊢
      clear hn hP s1
      go_wp2_with (go_at_call 10; refine HD.out.mono ?_; rintro e w3 ⟨A5, c5, rfl, HO5, HB5⟩)
      have b23 : Below w2.heap.size w2 w3 := HBR.out.trans (HB5.out.mono HBR.out.size)
      have HB3 := Lib.hid b23
      have HC5 : Hid (∀ W, Below w3.heap.size w3 W → (convert 22 9 (.slice A5 n c5)).run Try.prog W = .ok (.string (strOf q)) W) := fun W hW => by
        have o : Me.Own W wr.heap.size (.slice A5 n c5) q := own_same HO5.out fun k _ hk => hW.block k hk
        obtain ⟨z1, z2, _, _⟩ := own_rd o HQL.out
        have := conv_rd W _ A5 q c5 z1 z2
        rwa [HQn.out] at this
      clear b23
      go_loopw [8, 9] (fun s i wq => ∃ (m : Nat) (v : Bool), m ≤ P + 1 ∧ i = .int .i64 m ∧ s = .bool v ∧ (v = false → ∀ j, j < m → ¬ At p q j) ∧ Below w3.heap.size w3 wq) (fun _ i _ => P + 1 - (intOf i).toNat)
      case atStart => exact ⟨0, false, by omega, rfl, rfl, fun _ j hj => absurd hj (by omega), Below.refl _ _⟩
      case round =>
        obtain ⟨m, v, hm, rfl, rfl, hv, hbq⟩ := hrel
        have HV := Lib.hid hv
        have HBQ := Lib.hid hbq
        have s1 : IntKind.i64.wrap ((m : Int) + (n : Int)) = (m : Int) + (n : Int) := IntWalk.i64_in _ (by omega)
        clear hv hbq
        by_cases hmn : m + n ≤ P
        · have hmn' : (m : Int) + (n : Int) ≤ (P : Int) := by omega
          cases v with
          | true =>
            clear hmn
            go_wp2
            go_roundw
            case rel => exact ⟨k + 1, by omega, by go_num, HB3.out.trans (HBQ.out.mono HB3.out.size)⟩
            case measure => simp [intOf]; omega
          | false =>
            have b1 : Below w.heap.size w wr := HB2.out.trans ((HB3.out.trans (HBQ.out.mono HB3.out.size)).mono HB2.out.size)
            obtain ⟨A2, hA2, hr2, hn2, _⟩ := cut_sl (f := m) (t := m + n) (HR.out.below b1) (by omega) (by rw [HPn.out]; exact hmn) (by rw [HPn.out]; exact hpc) HA.out
            have hpl : ((p.take (m + n)).drop m).length = n := by have := HPn.out; simp; omega
            have hv1 : ∀ x, (convert 22 9 (.slice A2 n (cap - m))).run Try.prog (wr.drewN x) = .ok (.string (strOf ((p.take (m + n)).drop m))) (wr.drewN x) := fun x => by
              have := conv_rd (wr.drewN x) _ A2 _ (cap - m) (hr2.below (below_drewN (Below.refl _ wr) x)) hn2
              rwa [hpl] at this
            have hv2 : ∀ x, (convert 22 9 (.slice A5 n c5)).run Try.prog (wr.drewN x) = .ok (.string (strOf q)) (wr.drewN x) := fun x => HC5.out (wr.drewN x) (below_drewN HBQ.out x)
            have i1 : (m : Int) ≤ (m : Int) + (n : Int) := by omega
            have i2 : (m : Int) + (n : Int) ≤ (cap : Int) := by omega
            have i3 : ((m : Int) + (n : Int)).toNat = m + n := by omega
            by_cases hat : At p q m
            · have he : (p.take (m + n)).drop m = q := by unfold At at hat; rwa [HQn.out] at hat
              rw [he] at hv1
              clear hat he hpl hr2 hn2 b1 hmn
              go_wp2
              go_quiet (fail)
              go_wp2
              go_roundw
              case rel => exact ⟨m + 1, true, by omega, by go_num, rfl, fun h => (by cases h), below_drewN HBQ.out _⟩
              case measure => simp [intOf]; omega
            · have he : ¬ (p.take (m + n)).drop m = q := by unfold At at hat; rwa [HQn.out] at hat
              have hbb : ∀ z ∈ (p.take (m + n)).drop m, z < 256 := hr2.1
              have hs3 : ((strOf ((p.take (m + n)).drop m)).toList == (strOf q).toList) = false := by
                rw [Go.Proofs.Ytoaffkmjobmhaaa.Cr.str_beq hbb HQL.out]
                exact decide_eq_false he
              obtain ⟨pc, hpc2⟩ : ∃ pc, (p.take (m + n)).drop m = pc := ⟨_, rfl⟩
              rw [hpc2] at hv1 hs3
              have HAT := Lib.hid hat
              have HV2 := Lib.hid (HV.out rfl)
              clear HV hat he hpl hr2 hn2 b1 hmn hbb hpc2
              go_wp2
              go_quiet (fail)
              go_wp2
              go_roundw
              case rel =>
                refine ⟨m + 1, false, by omega, by go_num, rfl, fun _ j hj => ?_, below_drewN HBQ.out _⟩
                by_cases hjm : j < m
                · exact HV2.out j hjm
                · obtain rfl : j = m := by omega
                  exact HAT.out
              case measure => simp [intOf]; omega
        · cases v with
          | true =>
            have hmn' : (P : Int) < (m : Int) + (n : Int) := by omega
            clear hmn
            go_wp2
            go_roundw
            case rel => exact ⟨k + 1, by omega, by go_num, HB3.out.trans (HBQ.out.mono HB3.out.size)⟩
            case measure => simp [intOf]; omega
          | false => exact absurd HS.out (HV.out rfl j0 (by omega))
    · have AW := Lib.hid (awake_below (Lib.hid (HB2.out.trans (HBR.out.mono HB2.out.size))))
      go_wp2_with (go_at_call 12; refine AW.out.mono ?_; rintro e w5 ⟨rfl, hb5⟩)
      go_ret
      exact ⟨rfl, hb5.out⟩
end Go.Proofs.Ytoaffkmjobmhaaa.Hd
