/- The walk of the law RecordFirsts. -/
import Derived.Test.YtcdijhenfddmcaaRcPuts
import Derived.Test.YtcdijhenfddmcaaRcRScan
namespace Go.Proofs.Ytcdijhenfddmcaa.Rc
open Go.RowKit
open Go.Proofs.Ytcdijhenfddmcaa.Me Go.Proofs.Ytcdijhenfddmcaa.Ma Go.Proofs.Ytcdijhenfddmcaa.Hd
set_option linter.unusedVariables false
set_option linter.unusedSimpArgs false

/-- What First answers, in number. -/
def firstN (l : List Nat) : Int := if payOk l then 8 + ((payL l).length : Int) else 0
theorem FirstQ.q {l : List Nat} {w w' : World} {e : Ending} (h : FirstQ l w e w') : ∃ A k, e = .returned (.tuple #[.slice A (payL l).length k, .int .i64 (firstN l)]) ∧ Hid (Me.Own w' w.heap.size (.slice A (payL l).length k) (payL l)) ∧ Hid (Below w.heap.size w w') := h
/-- What Scan answers, with its slice's shape. -/
theorem ScanQ.q {zs : List Nat} {w w' : World} {e : Ending} (hb : ∀ z ∈ zs, z < 256) (h : ScanQ zs w e w') : ∃ A c, e = .returned (.tuple #[.slice A (recs zs).length c, .int .i64 (siz (recs zs) : Int)]) ∧ Hid (Rws (fun j => w.heap.size ≤ j) w' (.slice A (recs zs).length c) (recs zs)) ∧ Hid (Below w.heap.size w w') := by
  obtain ⟨v, he, h1, h2⟩ := h
  obtain ⟨A, c, rfl, _⟩ := h1.out.lst (recs_bytes hb)
  exact ⟨A, c, he, h1, h2⟩
/-- The same rows, wherever they lie. -/
theorem Same_rows (w : World) (P P' : Nat → Prop) (A A' : Option Addr) (c c' : Nat) (ps : List (List Nat)) (hb : ∀ l ∈ ps, ∀ z ∈ l, z < 256) (h1 : Rws P w (.slice A ps.length c) ps) (h2 : Rws P' w (.slice A' ps.length c') ps) (hl : ps.length ≤ 9223372036854775806) :
    Calls Try.prog 16 #[.slice A ps.length c, .slice A' ps.length c'] w fun e w' => e = .returned (.bool true) ∧ Hid (Below w.heap.size w w') := by
  obtain ⟨A1, c1, e1, _, _, q1, q2, _⟩ := h1.lst hb
  obtain ⟨A2, c2, e2, _, _, k1, k2, _⟩ := h2.lst hb
  simp only [Value.slice.injEq, true_and] at e1 e2
  obtain ⟨rfl, rfl⟩ := e1
  obtain ⟨rfl, rfl⟩ := e2
  have := Same_any w A A' c c' ps ps q1 q2 k1 k2 hl
  simpa using this
set_option maxRecDepth 100000 in
set_option maxHeartbeats 2000000 in
theorem firsts (A : Option Addr) (len cap : Nat) (l : List Nat) (w : World) (w0 : BySlice w A len cap l) (c0 : cap ≤ 1048576) :
    Calls Try.prog 4 #[.slice A len cap] w fun e w' => e = .returned (.bool true) ∧ Below w.heap.size w w' := by
  obtain ⟨rfl, h1, h2, h3, hA⟩ := w0
  have HA := Lib.hid hA
  have HR := Lib.hid h3
  have HB := Lib.hid h3.1
  have hl : l.length ≤ 1048576 := by omega
  have D1 := fun (w1 : World) (A1 : Option Addr) (c1 : Nat) (hr : Hid (Rd w1 w1.heap.size A1 l)) (q1 : l.length ≤ c1) (q2 : c1 ≤ 9223372036854775807) => (First_any A1 c1 l w1 hr q1 q2).mono fun _ _ h => h.q
  have D2 := fun (w1 : World) (hr : Hid (Rd w1 w1.heap.size A l)) => (RFirst_any A cap l w1 hr h1 h2).mono fun _ _ h => h.q
  have D3 := fun (w1 : World) (A1 : Option Addr) (c1 : Nat) (hr : Hid (Rd w1 w1.heap.size A1 l)) (q1 : l.length ≤ c1) (q2 : c1 ≤ 9223372036854775807) => (Scan_any A1 c1 l w1 hr q1 q2 (by omega)).mono fun _ _ h => h.q HB.out
  have D4 := fun (w1 : World) (hr : Hid (Rd w1 w1.heap.size A l)) => (RScan_any A cap l w1 hr h1 h2 (by omega)).mono fun _ _ h => h.q HB.out
  have HPB := Lib.hid (pay_bytes h3.1)
  have hrb := recs_bytes h3.1
  have hrl := recs_many l
  have D5 := fun (W : World) (P P' : Nat → Prop) (A A' : Option Addr) (c c' : Nat) => Same_rows W P P' A A' c c' (recs l) hrb
  obtain ⟨p, hp⟩ : ∃ p, payL l = p := ⟨_, rfl⟩
  obtain ⟨x, hx⟩ : ∃ x, firstN l = x := ⟨_, rfl⟩
  obtain ⟨rs, hrs⟩ : ∃ rs, recs l = rs := ⟨_, rfl⟩
  obtain ⟨z, hz⟩ : ∃ z, siz rs = z := ⟨_, rfl⟩
  rw [hp] at HPB
  rw [hrs] at hrl
  simp only [hp, hx] at D1 D2
  simp only [hrs, hz] at D3 D4
  simp only [hrs] at D5
  have HD1 := Lib.hid D1
  have HD2 := Lib.hid D2
  have HD3 := Lib.hid D3
  have HD4 := Lib.hid D4
  have HD5 := Lib.hid D5
  clear h1 h2 h3 hA hp hx hrs hz D1 D2 D3 D4 D5 c0 hrb
  go_enter Try.func4, Try.ntmps4
  go_wp2_with (first
    | (at_builtin; refine app8 rfl (.tmp 13) (.tmp 14) rfl w.heap.size w.heap.size _ [] l rfl (Own.lit (Below.refl _ _)) (below_alloc (Below.refl _ _)) (by simp) A cap rfl (HR.out.below (below_alloc (Below.refl _ _))) HA.out (by simp; omega) ?_; intro v1 w1 ho1 hb1 _; rw [List.nil_append] at ho1; obtain ⟨A1, c1, rfl, p1, p2, p3⟩ := ho1.held HB.out; have HO1 := Lib.hid ho1; have HB1 := Lib.hid hb1; have R1 := Lib.hid p3.rd; clear ho1 hb1 p3)
    | (go_at_call 12; refine (HD1.out w1 A1 c1 R1 p1 p2).mono ?_; rintro e w2 ⟨A2, c2, rfl, HO2, HB2⟩; have BW2 : Hid (Below w.heap.size w w2) := HB1.out.trans (HB2.out.mono HB1.out.size))
    | (go_at_call 13; refine (HD2.out w2 ((HR.out.below BW2.out).more BW2.out.size)).mono ?_; rintro e w3 ⟨A3, c3, rfl, HO3, HB3⟩; have B13 : Hid (Below w1.heap.size w1 w3) := HB2.out.trans (HB3.out.mono HB2.out.size); have BW3 : Hid (Below w.heap.size w w3) := HB1.out.trans (B13.out.mono HB1.out.size); have R3 : Hid (Rd w3 w3.heap.size A1 l) := (R1.out.below B13.out).more B13.out.size)
    | (go_at_call 14; refine (HD3.out w3 A1 c1 R3 p1 p2).mono ?_; rintro e w4 ⟨A4, c4, rfl, HR4, HB4⟩; have BW4 : Hid (Below w.heap.size w w4) := BW3.out.trans (HB4.out.mono BW3.out.size))
    | (go_at_call 15; refine (HD4.out w4 ((HR.out.below BW4.out).more BW4.out.size)).mono ?_; rintro e w5 ⟨A5, c5, rfl, HR5, HB5⟩; have BW5 : Hid (Below w.heap.size w w5) := BW4.out.trans (HB5.out.mono BW4.out.size)))
  have b35 : Below w3.heap.size w3 w5 := HB4.out.trans (HB5.out.mono HB4.out.size)
  have b25 : Below w2.heap.size w2 w5 := HB3.out.trans (b35.mono HB3.out.size)
  have b15 : Below w1.heap.size w1 w5 := HB2.out.trans (b25.mono HB2.out.size)
  have o1 : Me.Own w5 w.heap.size (.slice A1 l.length c1) l := own_same HO1.out fun k _ hk => b15.block k hk
  have o2 : Me.Own w5 w1.heap.size (.slice A2 p.length c2) p := own_same HO2.out fun k _ hk => b25.block k hk
  have o3 : Me.Own w5 w2.heap.size (.slice A3 p.length c3) p := own_same HO3.out fun k _ hk => b35.block k hk
  have hlt1 : ∀ k, (Value.slice A1 l.length c1).ownBlock = some k → w.heap.size ≤ k ∧ k < w1.heap.size := fun k e => HO1.out.lt k e
  have s12 := HB2.out.size
  have s23 := HB3.out.size
  have s34 := HB4.out.size
  have HG5 : Hid (Giv w5 (.slice A1 l.length c1) l.length) := ⟨l, rfl, HB.out, own_base (B' := 0) o1 fun _ _ => Nat.zero_le _⟩
  have C2 : Hid (∀ W, But (fun k => (Value.slice A1 l.length c1).ownBlock = some k) w5 W → (convert 22 9 (.slice A2 p.length c2)).run Try.prog W = .ok (.string (strOf p)) W) := fun W hW => by
    have o := own_same o2 fun k e hk => hW.same k hk fun e' => by have := (hlt1 k e').2; have := (o2.lt k e).1; omega
    obtain ⟨r1, r2, _, _⟩ := own_rd o HPB.out
    exact conv_rd W _ A2 p c2 r1 r2
  have C3 : Hid (∀ W, But (fun k => (Value.slice A1 l.length c1).ownBlock = some k) w5 W → (convert 22 9 (.slice A3 p.length c3)).run Try.prog W = .ok (.string (strOf p)) W) := fun W hW => by
    have o := own_same o3 fun k e hk => hW.same k hk fun e' => by have := (hlt1 k e').2; have := (o3.lt k e).1; omega
    obtain ⟨r1, r2, _, _⟩ := own_rd o HPB.out
    exact conv_rd W _ A3 p c3 r1 r2
  have CS : Hid (∀ W, But (fun k => (Value.slice A1 l.length c1).ownBlock = some k) w5 W → Calls Try.prog 16 #[.slice A4 rs.length c4, .slice A5 rs.length c5] W fun e w' => e = .returned (.bool true) ∧ Hid (Below W.heap.size W w')) := fun W hW => by
    refine HD5.out W (fun j => w3.heap.size ≤ j) (fun j => w4.heap.size ≤ j) A4 A5 c4 c5 ?_ ?_ (by omega)
    · exact (HR4.out.below HB5.out).but hW fun k hk e => by have := (hlt1 k e).2; omega
    · exact HR5.out.but hW fun k hk e => by have := (hlt1 k e).2; omega
  have HBW : Hid (∀ W, But (fun k => (Value.slice A1 l.length c1).ownBlock = some k) w5 W → Below w.heap.size w W) := fun W hW => BW5.out.trans (hW.below BW5.out.size fun k e => (hlt1 k e).1)
  clear b35 b25 b15 o1 o2 o3 hlt1 s12 s23 s34 HO1 HO2 HO3 HB1 HB2 HB3 HB4 HB5 BW2 BW3 BW4 BW5 B13 R1 R3 HR4 HR5 hrl
  go_loopw [12] (fun i wr => ∃ k : Nat, k ≤ l.length ∧ i = .int .i64 k ∧ Giv wr (.slice A1 l.length c1) l.length ∧ But (fun k => (Value.slice A1 l.length c1).ownBlock = some k) w5 wr) (fun i _ => l.length - (intOf i).toNat)
  case atStart => exact ⟨0, Nat.zero_le _, rfl, HG5.out, But.refl _ _⟩
  case round =>
    obtain ⟨k, hk, rfl, hgv, hbt⟩ := hrel
    have HGV := Lib.hid hgv
    have HBT := Lib.hid hbt
    clear hgv hbt
    by_cases hlt : k < l.length
    · obtain ⟨g, y, rfl, hy, hc1, hf1, hob⟩ := HGV.out.cell hlt
      have HOB := Lib.hid hob
      have ht := turn8 hy
      have HY : Hid (255 - y < 256) := by show _ < _; omega
      have HT := Lib.hid ht
      clear hob
      go_wp2
      go_roundw
      case rel =>
        refine ⟨k + 1, by omega, by go_num, ?_⟩
        have e : (255 : Int) - (y : Int) = ((255 - y : Nat) : Int) := by omega
        first
          | exact ⟨by rw [e]; exact HGV.out.put HY.out, HBT.out.set (.inl HOB.out) _⟩
          | exact ⟨by rw [HT.out]; exact HGV.out.put HY.out, HBT.out.set (.inl HOB.out) _⟩
          | exact ⟨HGV.out.put HY.out, HBT.out.set (.inl HOB.out) _⟩
      case measure => simp [intOf]; omega
    · have k2 := C2.out wr HBT.out
      have k3 := C3.out wr HBT.out
      have HS := Lib.hid (CS.out wr HBT.out)
      have BW := Lib.hid (HBW.out wr HBT.out)
      go_wp2_with (first
        | (go_at_call 16; refine HS.out.mono ?_; rintro e w6 ⟨rfl, HB6⟩; have BW6 : Hid (Below w.heap.size w w6) := BW.out.trans (HB6.out.mono BW.out.size))
        | (go_at_call 11; refine (awake_below BW6).mono ?_; rintro e w7 ⟨rfl, hb7⟩))
      go_ret
      exact ⟨rfl, hb7.out⟩
end Go.Proofs.Ytcdijhenfddmcaa.Rc
