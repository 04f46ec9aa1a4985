/- The walk of the law RecordPuts; a law's own bytes, turned one by one. -/
import Derived.Test.YtcdijhenfddmcaaRcWoke
namespace Go.Proofs.Ytcdijhenfddmcaa.Rc
open Go.RowKit
open Go.Proofs.Ytcdijhenfddmcaa.Me Go.Proofs.Ytcdijhenfddmcaa.Ma Go.Proofs.Ytcdijhenfddmcaa.Hd
set_option linter.unusedVariables false
set_option linter.unusedSimpArgs false

/-- The law's own copy: n bytes, whatever they are. -/
def Giv (w : World) (v : Value) (n : Nat) : Prop := ∃ ys : List Nat, ys.length = n ∧ (∀ y ∈ ys, y < 256) ∧ Me.Own w 0 v ys
theorem Giv.cell {w : World} {A : Option Addr} {n c k : Nat} (h : Giv w (.slice A n c) n) (hk : k < n) : ∃ g y : Nat, A = some ⟨g, 0, none⟩ ∧ y ≤ 255 ∧ w.cell? ⟨g, k, none⟩ = some (.int .u8 (y : Int)) ∧ w.frozen? ⟨g, k, none⟩ = false ∧ (Value.slice A n c).ownBlock = some g := by
  obtain ⟨ys, h1, h2, h3⟩ := h
  obtain ⟨g, c', e, _, _⟩ := h3.form (by omega)
  simp only [Value.slice.injEq] at e
  obtain ⟨rfl, _, rfl⟩ := e
  obtain ⟨a, b⟩ := h3.cell (i := k) (by omega)
  have := h2 (by_ ys k) (by rw [by_get (by omega)]; exact List.getElem_mem _)
  exact ⟨g, by_ ys k, rfl, by omega, a, b, rfl⟩
theorem Giv.put {w : World} {g n c k y : Nat} (h : Giv w (.slice (some ⟨g, 0, none⟩) n c) n) (hy : y < 256) : Giv (w.setCell ⟨g, k, none⟩ (.int .u8 (y : Int))) (.slice (some ⟨g, 0, none⟩) n c) n := by
  obtain ⟨ys, h1, h2, h3⟩ := h
  refine ⟨ys.set k y, by simpa using h1, ?_, h3.store k y⟩
  intro z hz
  rcases List.mem_or_eq_of_mem_set hz with h | h
  · exact h2 z h
  · omega
theorem turn8 {y : Nat} (h : y ≤ 255) : IntKind.u8.wrap (255 - (y : Int)) = ((255 - y : Nat) : Int) := by
  have e : (255 : Int) - (y : Int) = ((255 - y : Nat) : Int) := by omega
  rw [e]; exact wrap8 (by unfold U8; omega)
set_option maxHeartbeats 1000000 in
theorem puts (A : Option Addr) (len cap : Nat) (l : List Nat) (w : World) (w0 : BySlice w A len cap l) (c0 : cap ≤ 140737488351232) :
    Calls Try.prog 3 #[.slice A len cap] w fun e w' => e = .returned (.bool true) ∧ Below w.heap.size w w' := by
  obtain ⟨rfl, h1, h2, h3, hA⟩ := w0
  have HA := Lib.hid hA
  have HR := Lib.hid h3
  have HB := Lib.hid h3.1
  have hl : l.length ≤ 140737488351232 := by omega
  have D1 := fun (w1 : World) (A1 : Option Addr) (c1 : Nat) (hr : Hid (Rd w1 w1.heap.size A1 l)) (hA1 : Hid (A1 = none → l.length = 0 ∧ c1 = 0)) (q1 : l.length ≤ c1) (q2 : c1 ≤ 9223372036854775807) => (Put_any A1 c1 l w1 hr hA1 q1 q2).mono fun _ _ h => h.q
  have D2 := fun (w2 : World) (hr : Hid (Rd w2 w2.heap.size A l)) => (RPut_any A cap l w2 hr HA).mono fun _ _ h => h.q
  have HE := Lib.hid (putL_bytes h3.1)
  obtain ⟨fr, hfr⟩ : ∃ fr, putL l = fr := ⟨_, rfl⟩
  obtain ⟨er, her⟩ : ∃ er, putE l = er := ⟨_, rfl⟩
  rw [hfr] at HE
  simp only [hfr, her] at D1 D2
  have HD1 := Lib.hid D1
  have HD2 := Lib.hid D2
  clear h1 h2 h3 hA hfr her D1 D2 c0
  go_enter Try.func3, Try.ntmps3
  go_wp2_with (first
    | (at_builtin; refine app8 rfl (.tmp 9) (.tmp 10) rfl w.heap.size w.heap.size _ [] l rfl (Own.lit (Below.refl _ _)) (below_alloc (Below.refl _ _)) (by simp) A cap rfl (HR.out.below (below_alloc (Below.refl _ _))) HA.out (by simp; omega) ?_; intro v1 w1 ho1 hb1 _; rw [List.nil_append] at ho1; obtain ⟨A1, c1, rfl, p1, p2, p3⟩ := ho1.held HB.out; have HO1 := Lib.hid ho1; have HB1 := Lib.hid hb1; have R1 := Lib.hid p3.rd; have N1 := Lib.hid p3.2.2; clear ho1 hb1 p3)
    | (go_at_call 9; refine (HD1.out w1 A1 c1 R1 N1 p1 p2).mono ?_; rintro e w2 ⟨A2, c2, rfl, HO2, HB2⟩)
    | (go_at_call 10; refine (HD2.out w2 ((HR.out.below (HB1.out.trans (HB2.out.mono HB1.out.size))).more (Nat.le_trans HB1.out.size HB2.out.size))).mono ?_; rintro e w3 ⟨A3, c3, rfl, HO3, HB3⟩))
  have b3 : Below w.heap.size w w3 := (HB1.out.trans (HB2.out.mono HB1.out.size)).trans (HB3.out.mono (Nat.le_trans HB1.out.size HB2.out.size))
  have o1 : Me.Own w3 w.heap.size (.slice A1 l.length c1) l := own_same HO1.out fun k _ hk => (HB3.out.block k (Nat.lt_of_lt_of_le hk HB2.out.size)).trans (HB2.out.block k hk)
  have o2 : Me.Own w3 w1.heap.size (.slice A2 fr.length c2) fr := own_same HO2.out fun k _ hk => HB3.out.block k hk
  have hlt1 : ∀ k, (Value.slice A1 l.length c1).ownBlock = some k → w.heap.size ≤ k ∧ k < w1.heap.size := fun k e => HO1.out.lt k e
  have hs12 := HB2.out.size
  have HG3 : Hid (Giv w3 (.slice A1 l.length c1) l.length) := ⟨l, rfl, HB.out, own_base (B' := 0) o1 fun _ _ => Nat.zero_le _⟩
  have C2 : Hid (∀ W, But (fun k => (Value.slice A1 l.length c1).ownBlock = some k) w3 W → (convert 22 9 (.slice A2 fr.length c2)).run Try.prog W = .ok (.string (strOf fr)) W) := fun W hW => by
    have o := own_same o2 fun k e hk => hW.same k hk fun e' => by have := (hlt1 k e').2; have := (o2.lt k e).1; omega
    obtain ⟨r1, r2, _, _⟩ := own_rd o HE.out
    exact conv_rd W _ A2 fr c2 r1 r2
  have C3 : Hid (∀ W, But (fun k => (Value.slice A1 l.length c1).ownBlock = some k) w3 W → (convert 22 9 (.slice A3 fr.length c3)).run Try.prog W = .ok (.string (strOf fr)) W) := fun W hW => by
    have o := own_same HO3.out fun k e hk => hW.same k hk fun e' => by have := (hlt1 k e').2; have := (HO3.out.lt k e).1; omega
    obtain ⟨r1, r2, _, _⟩ := own_rd o HE.out
    exact conv_rd W _ A3 fr c3 r1 r2
  have HBW : Hid (∀ W, But (fun k => (Value.slice A1 l.length c1).ownBlock = some k) w3 W → Below w.heap.size w W) := fun W hW => b3.trans (hW.below b3.size fun k e => (hlt1 k e).1)
  clear b3 o1 o2 hlt1 hs12 HO1 HO2 HO3 HB1 HB2 HB3 R1
  go_loopw [8] (fun i wr => ∃ k : Nat, k ≤ l.length ∧ i = .int .i64 k ∧ Giv wr (.slice A1 l.length c1) l.length ∧ But (fun k => (Value.slice A1 l.length c1).ownBlock = some k) w3 wr) (fun i _ => l.length - (intOf i).toNat)
  case atStart => exact ⟨0, Nat.zero_le _, rfl, HG3.out, But.refl _ _⟩
  case round =>
    obtain ⟨k, hk, rfl, hgv, hbt⟩ := hrel
    have HGV := Lib.hid hgv
    have HBT := Lib.hid hbt
    clear hgv hbt
    by_cases hlt : k < l.length
    · obtain ⟨g, y, rfl, hy, hc1, hf1, hob⟩ := HGV.out.cell hlt
      have HOB := Lib.hid hob
      have ht := turn8 hy
      have HY : Hid (255 - y < 256) := by show _ < _; omega
      have HT := Lib.hid ht
      clear hob
      go_wp2
      go_roundw
      case rel =>
        refine ⟨k + 1, by omega, by go_num, ?_⟩
        have e : (255 : Int) - (y : Int) = ((255 - y : Nat) : Int) := by omega
        first
          | exact ⟨by rw [e]; exact HGV.out.put HY.out, HBT.out.set (.inl HOB.out) _⟩
          | exact ⟨by rw [HT.out]; exact HGV.out.put HY.out, HBT.out.set (.inl HOB.out) _⟩
          | exact ⟨HGV.out.put HY.out, HBT.out.set (.inl HOB.out) _⟩
      case measure => simp [intOf]; omega
    · have k2 := C2.out wr HBT.out
      have k3 := C3.out wr HBT.out
      have AW := Lib.hid (awake_below (Lib.hid (HBW.out wr HBT.out)))
      go_wp2_with (go_at_call 11; refine AW.out.mono ?_; rintro e w5 ⟨rfl, hb5⟩)
      go_ret
      exact ⟨rfl, hb5.out⟩
end Go.Proofs.Ytcdijhenfddmcaa.Rc
