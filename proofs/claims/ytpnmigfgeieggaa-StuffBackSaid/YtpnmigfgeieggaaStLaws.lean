/- The walks of the laws of stuff that speak of bytes: StuffStuffs, StuffUnstuffs, StuffClean, StuffBack, StuffJoins. -/
import Derived.Test.YtpnmigfgeieggaaStWoke
import Derived.Deep.RegionHeld
namespace Go.Proofs.Ytpnmigfgeieggaa.St
open Go.RowKit
open Go.Proofs.Ytpnmigfgeieggaa.Me
set_option linter.unusedVariables false

/-- What is kept till the law ends. -/
def Kept (wr W : World) : Prop := Below wr.heap.size wr W
theorem kept_go {wr W W' : World} (h : Kept wr W) (hb : Below W.heap.size W W') : Kept wr W' := Below.trans h (Below.mono hb (Below.size h))
/-- The law's own copy: n bytes, whatever they are. -/
def Giv (w : World) (B : Nat) (v : Value) (n : Nat) : Prop := ∃ ys : List Nat, ys.length = n ∧ (∀ y ∈ ys, y < 256) ∧ Own w B v ys
theorem Giv.cell {w : World} {B g n c k : Nat} (h : Giv w B (.slice (some ⟨g, 0, none⟩) n c) n) (hk : k < n) : ∃ y : Nat, y ≤ 255 ∧ w.cell? ⟨g, k, none⟩ = some (.int .u8 (y : Int)) ∧ w.frozen? ⟨g, k, none⟩ = false := by
  obtain ⟨ys, h1, h2, h3⟩ := h
  obtain ⟨a, b⟩ := h3.cell (i := k) (by omega)
  have := h2 (by_ ys k) (by rw [by_get (by omega)]; exact List.getElem_mem _)
  exact ⟨_, by omega, a, b⟩
theorem Giv.store {w : World} {B g n c k y : Nat} (h : Giv w B (.slice (some ⟨g, 0, none⟩) n c) n) (hy : y ≤ 255) : Giv (w.setCell ⟨g, k, none⟩ (.int .u8 (255 - (y : Int)))) B (.slice (some ⟨g, 0, none⟩) n c) n := by
  obtain ⟨ys, h1, h2, h3⟩ := h
  have e : (255 - (y : Int)) = ((255 - y : Nat) : Int) := by omega
  rw [e]
  refine ⟨ys.set k (255 - y), by simpa using h1, ?_, h3.store k (255 - y)⟩
  intro z hz
  rcases List.mem_or_eq_of_mem_set hz with h | h
  · exact h2 z h
  · omega
theorem Giv.form {w : World} {B n c : Nat} {A : Option Addr} (h : Giv w B (.slice A n c) n) (hp : 0 < n) : ∃ g, A = some ⟨g, 0, none⟩ ∧ B ≤ g ∧ g < w.heap.size := by
  obtain ⟨ys, h1, h2, h3⟩ := h
  obtain ⟨g, c', e, h4, h5⟩ := h3.form (by omega)
  simp only [Value.slice.injEq] at e
  exact ⟨g, e.1, h4, h5⟩
theorem own_go {w w' : World} {B : Nat} {v : Value} {l : List Nat} (h : Own w B v l) (hb : Below w.heap.size w w') : Own w' B v l := by
  refine ⟨h.1, ?_⟩
  rcases h.2 with h' | ⟨g', cap', cur, h1, h2, h3, h4⟩
  · exact .inl h'
  · have hlt : g' < w.heap.size := by
      apply Classical.byContradiction
      intro hn
      rw [Array.getElem?_eq_none (by omega)] at h3; cases h3
    exact .inr ⟨g', cap', cur, h1, h2, (hb.block g' hlt).trans h3, h4⟩
/-- What stands at the head of each round. -/
def RelS (w : World) (v : Value) (n B2 : Nat) (A : Option Addr) (c : Nat) (L : List Nat) (wr : World) : Prop :=
  Giv wr w.heap.size v n ∧ Hid (Held wr B2 A c L) ∧ Hid (Below w.heap.size w wr)
theorem RelS.store {w : World} {n B2 g c c2 : Nat} {A : Option Addr} {L : List Nat} {wr : World} (h : RelS w (.slice (some ⟨g, 0, none⟩) n c2) n B2 A c L wr) (hg : g < B2) (hw : w.heap.size ≤ g) (k : Nat) {y : Nat} (hy : y ≤ 255) :
    RelS w (.slice (some ⟨g, 0, none⟩) n c2) n B2 A c L (wr.setCell ⟨g, k, none⟩ (.int .u8 (255 - (y : Int)))) :=
  ⟨h.1.store hy, Held.setCell h.2.1.out hg _, h.2.2.out.setCell (p := ⟨g, k, none⟩) hw _⟩
set_option maxHeartbeats 4000000 in
theorem stuffs (A : Option Addr) (len cap : Nat) (l : List Nat) (w : World) (w0 : BySlice w A len cap l) (c0 : cap ≤ 1048576) :
    Calls Try.prog 3 #[.slice A len cap] w fun e w' => e = .returned (.bool true) ∧ Below w.heap.size w w' := by
  obtain ⟨rfl, h1, h2, h3, hA⟩ := w0
  have HA := Lib.hid hA
  have HR := Lib.hid h3
  have hlb : l.length ≤ 1048576 := by omega
  have h2l := stuff_two l
  have C1 := fun A cap B W hr hB => Stuff_any A cap B l W hr hB (by omega)
  have C2 := fun A cap B W hr hB => RStuff_any A cap B l W hr hB (by omega)
  have C3 := fun W hr => Size_any A cap w.heap.size l W hr (by omega)
  obtain ⟨L, hL⟩ : ∃ L, stuffL l = L := ⟨_, rfl⟩
  rw [hL] at C1 C2 C3
  have E1 := Lib.hid C1
  have E2 := Lib.hid C2
  have E3 := Lib.hid C3
  clear C1 C2 C3 hL h3 hA h2l
  go_enter Try.func3, Try.ntmps3
  go_wp2_with (first
    | (at_builtin; refine app8 rfl (.tmp 6) (.tmp 7) rfl w.heap.size w.heap.size _ [] l rfl (Own.lit (Below.refl _ _)) (below_alloc (Below.refl _ _)) (by simp) A cap rfl (HR.out.below ((Below.refl _ _).alloc (Nat.le_refl _) _)) HA.out (by simp; omega) ?_; intro v2 w2 ho2 hb2 _; obtain ⟨A2, c2, rfl, g1, g2, HH2⟩ := Own.held ho2 (by simpa using HR.out.1); have HO2 := Lib.hid ho2; have HB2 := Lib.hid hb2; have HR2 := Lib.hid HH2.rd; clear ho2 hb2 HH2)
    | (go_at_call 10; refine (E1.out _ _ _ _ HR2 (Nat.le_refl _)).mono ?_; rintro e w3 ⟨A3, c3, rfl, g3, g4, HH3, hb3⟩))
  have hRel : Hid (RelS w (.slice A2 l.length c2) l.length w2.heap.size A3 c3 L w3) := by
    refine ⟨⟨l, rfl, HR.out.1, ?_⟩, HH3, HB2.out.trans (hb3.out.mono HB2.out.size)⟩
    exact own_go HO2.out hb3.out
  have hg0 : 0 < l.length → ∃ g, A2 = some ⟨g, 0, none⟩ ∧ w.heap.size ≤ g ∧ g < w2.heap.size := by
    intro hp
    obtain ⟨g, c, e, h4, h5⟩ := HO2.out.form (by simpa using hp)
    simp only [Value.slice.injEq] at e
    exact ⟨g, e.1, h4, h5⟩
  obtain ⟨G, hG⟩ : ∃ G, w2.heap.size = G := ⟨_, rfl⟩
  rw [hG] at hg0 hRel
  have HG0 := Lib.hid hg0
  have HLb : Hid (∀ z ∈ L, z < 256) := HH3.out.1
  clear HO2 HB2 HR2 hb3 HH3 hG hg0
  go_loopw [5] (fun i wr => ∃ k : Nat, k ≤ l.length ∧ i = .int .i64 k ∧ RelS w (.slice A2 l.length c2) l.length G A3 c3 L wr) (fun i _ => l.length - (intOf i).toNat)
  case atStart => exact ⟨0, Nat.zero_le _, rfl, hRel.out⟩
  case round =>
    obtain ⟨k, hk, rfl, hrel⟩ := hrel
    by_cases hlk : k < l.length
    · obtain ⟨g, rfl, hg5, hg6⟩ := HG0.out (by omega)
      obtain ⟨y, hy, hcell, hfree⟩ := hrel.1.cell hlk
      have HREL := Lib.hid hrel
      clear hrel
      have hy2 : (y : Int) ≤ 255 := by omega
      go_wp2
      go_roundw
      case rel => exact ⟨k + 1, by omega, by go_num, HREL.out.store hg6 hg5 k hy⟩
      case measure => simp [intOf]; omega
    · have HREL := Lib.hid hrel
      clear hrel
      have CS : ∀ W, Kept wr W → (convert 22 9 (.slice A3 L.length c3)).run Try.prog W = .ok (.string (strOf L)) W :=
        fun W hW => conv_rd W _ A3 L c3 (HREL.out.2.1.out.below hW).rd HREL.out.2.1.out.2.2
      have RL : ∀ W, Kept wr W → Rd W w.heap.size A l := fun W hW => (HR.out.below HREL.out.2.2.out).below (Below.mono hW HREL.out.2.2.out.size)
      have SZ : ∀ W, Kept wr W → w.heap.size ≤ W.heap.size := fun W hW => Nat.le_trans HREL.out.2.2.out.size (Below.size hW)
      have F2 : Hid (∀ W, Kept wr W → Calls Try.prog 11 #[.slice A l.length cap] W fun e w' => ∃ A1 c1, e = .returned (.slice A1 L.length c1) ∧ Hid ((convert 22 9 (.slice A1 L.length c1)).run Try.prog w' = .ok (.string (strOf L)) w') ∧ Kept wr w') :=
        fun W hW => (E2.out A cap _ W (RL W hW) (SZ W hW)).mono fun e w' ⟨A1, c1, he, _, _, hH, hB⟩ => ⟨A1, c1, he, conv_rd w' _ A1 L c1 hH.out.rd hH.out.2.2, kept_go hW hB.out⟩
      have F3 : Hid (∀ W, Kept wr W → Calls Try.prog 12 #[.slice A l.length cap] W fun e w' => e = .returned (.int .i64 (L.length : Int)) ∧ Kept wr w') :=
        fun W hW => (E3.out W (RL W hW)).mono fun e w' ⟨he, hB⟩ => ⟨he, hB ▸ hW⟩
      have F6 : Hid (∀ W, Kept wr W → Calls Try.prog 13 #[] W fun e w' => e = .returned (.bool true) ∧ Kept wr w') :=
        fun W hW => (awake_any W).mono fun e w' ⟨he, hB⟩ => ⟨he, kept_go hW hB⟩
      have HCS := Lib.hid CS
      have hK0 : Kept wr wr.drew := (Below.refl _ _).drew
      have hC0 := CS _ hK0
      clear CS RL SZ E1 E2 E3
      go_wp2
      go_region_held (fun W => (convert 22 9 (.slice A3 L.length c3)).run Try.prog W = .ok (.string (strOf L)) W ∧ Kept wr W)
        (first | assumption | (refine ⟨HCS.out _ ?_, ?_⟩ <;> assumption))
        (first
          | (go_at_call 11; refine (F2.out _ ?_).mono ?_; (exact (And.right (by assumption))); rintro e w1 ⟨A1, c1, rfl, HC1, hK1⟩; have hC1 := HC1.out; have hS1 := HCS.out _ hK1)
          | (go_at_call 12; refine (F3.out _ ?_).mono ?_; (exact (And.right (by assumption))); rintro e w1 ⟨rfl, hK1⟩; have hS1 := HCS.out _ hK1)
          | (go_at_call 13; refine (F6.out _ ?_).mono ?_; (exact (And.right (by assumption))); rintro e w1 ⟨rfl, hK1⟩; have hS1 := HCS.out _ hK1))
      all_goals
        rename_i hfin
        go_wp2
        go_ret
        exact ⟨rfl, HREL.out.2.2.out.trans (Below.mono (And.right hfin) HREL.out.2.2.out.size)⟩
theorem conv_nil (w : World) : (convert 22 9 (.slice none 0 0)).run Try.prog w = .ok (.string (strOf [])) w := conv_rd w w.heap.size none [] 0 (Held.nil w w.heap.size).rd fun _ => ⟨rfl, rfl⟩
theorem unstuffs (A : Option Addr) (len cap : Nat) (l : List Nat) (w : World) (w0 : BySlice w A len cap l) (c0 : cap ≤ 140737488351232) :
    Calls Try.prog 4 #[.slice A len cap] w fun e w' => e = .returned (.bool true) ∧ Below w.heap.size w w' := by
  obtain ⟨rfl, h1, h2, h3, hA⟩ := w0
  have HR := Lib.hid h3
  have C1 := Unstuff_any A cap w.heap.size l w HR (Nat.le_refl _) (by omega)
  have C2 := fun W hr hB => RUnstuff_any A cap w.heap.size l W hr hB (by omega)
  clear h3 hA
  match hu : unstuffL l with
  | none =>
    rw [hu] at C1 C2
    have E1 := Lib.hid C1
    have E2 := Lib.hid C2
    clear C1 C2 hu
    have k0 := conv_nil
    go_enter Try.func4, Try.ntmps4
    go_wp2_with (first
      | (go_at_call 14; refine E1.out.mono ?_; rintro e w1 ⟨rfl, hb1⟩)
      | (go_at_call 15; refine (E2.out w1 (HR.out.below hb1.out) hb1.out.size).mono ?_; rintro e w2 ⟨rfl, hb2⟩; have hb3 : Hid (Below w.heap.size w w2) := hb1.out.trans (hb2.out.mono hb1.out.size))
      | (go_at_call 13; refine (awake_below hb3).mono ?_; rintro e w4 ⟨rfl, hb6⟩))
    go_ret
    exact ⟨rfl, hb6.out⟩
  | some o =>
    rw [hu] at C1 C2
    have E1 := Lib.hid C1
    have E2 := Lib.hid C2
    clear C1 C2 hu
    go_enter Try.func4, Try.ntmps4
    go_wp2_with (first
      | (go_at_call 14; refine E1.out.mono ?_; rintro e w1 ⟨A1, c1, rfl, g1, g2, HH1, hb1⟩)
      | (go_at_call 15; refine (E2.out w1 (HR.out.below hb1.out) hb1.out.size).mono ?_; rintro e w2 ⟨A2, c2, rfl, g3, g4, HH2, hb2⟩; have hb3 : Hid (Below w.heap.size w w2) := hb1.out.trans (hb2.out.mono hb1.out.size); have k1 := conv_rd w2 _ A1 o c1 (HH1.out.below hb2.out).rd HH1.out.2.2; have k2 := conv_rd w2 _ A2 o c2 HH2.out.rd HH2.out.2.2)
      | (go_at_call 13; refine (awake_below hb3).mono ?_; rintro e w4 ⟨rfl, hb6⟩))
    go_ret
    exact ⟨rfl, hb6.out⟩
theorem clean (A : Option Addr) (len cap : Nat) (l : List Nat) (w : World) (w0 : BySlice w A len cap l) (c0 : cap ≤ 1048576) :
    Calls Try.prog 7 #[.slice A len cap] w fun e w' => e = .returned (.bool true) ∧ Below w.heap.size w w' := by
  obtain ⟨rfl, h1, h2, h3, hA⟩ := w0
  have HR := Lib.hid h3
  have h2l := stuff_two l
  have hml := stuff_more l
  have hcl := stuff_clean h3.1
  have C1 := Stuff_any A cap w.heap.size l w HR (Nat.le_refl _) (by omega)
  obtain ⟨L, hL⟩ : ∃ L, stuffL l = L := ⟨_, rfl⟩
  rw [hL] at C1 h2l hml hcl
  have E1 := Lib.hid C1
  have E2 := Lib.hid (fun A c B W hr => Has_not A c B L W hr (by omega) hcl)
  have d1 : (l.length : Int) ≤ (L.length : Int) := by omega
  have d2 : (L.length : Int) ≤ 2 * (l.length : Int) := by omega
  have hwr : IntKind.i64.wrap (2 * (l.length : Int)) = 2 * (l.length : Int) := IntWalk.i64_in _ (by omega)
  clear C1 hL h3 hA hcl h2l hml
  go_enter Try.func7, Try.ntmps7
  go_wp2_with (first
    | (go_at_call 10; refine E1.out.mono ?_; rintro e w1 ⟨A1, c1, rfl, g1, g2, HH1, hb1⟩; have HR1 := Lib.hid HH1.out.rd)
    | (go_at_call 18; refine (E2.out _ _ _ _ HR1).mono ?_; rintro e w2 ⟨rfl, rfl⟩)
    | (go_at_call 13; refine (awake_below hb1).mono ?_; rintro e w4 ⟨rfl, hb6⟩))
  go_ret
  exact ⟨rfl, hb6.out⟩
end Go.Proofs.Ytpnmigfgeieggaa.St
