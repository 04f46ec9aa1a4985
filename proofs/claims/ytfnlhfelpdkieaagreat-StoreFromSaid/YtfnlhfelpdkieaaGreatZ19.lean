/- The shelf's contracts at this program, in plain words (written by program: laye.py). -/
import Derived.Test.YtfnlhfelpdkieaaGreatProg
import Derived.Test.YtfnlhfelpdkieaaGreatZ14
import Derived.Test.YtfnlhfelpdkieaaGreatSeInsM
import Derived.Test.YtfnlhfelpdkieaaGreatZ11
import Derived.Shelf.Lays2
import Derived.Shelf.Spec.SlicesInsert
namespace Go.Proofs
open Go.Shelf
def Tryz.ins__ren : Go.Shelf.Ren := ⟨fun | 21 => 96 | 27 => 109 | 28 => 110 | 35 => 116 | 39 => 127 | n => n, fun | 22 => 110 | 3 => 3 | 4 => 4 | 0 => 0 | n => n, fun | n => n⟩
theorem Tryz.ins_ : Go.Proofs.Lays2.n21 Tryz.prog Tryz.ins__ren := {
  mixed := by kernel_rfl
  f21 := Tryz.func96.trans (congrArg some (by kernel_rfl))
  f27 := Tryz.func109.trans (congrArg some (by kernel_rfl))
  f28 := Tryz.func110.trans (congrArg some (by kernel_rfl))
  f35 := Tryz.func116.trans (congrArg some (by kernel_rfl))
  f39 := Tryz.func127.trans (congrArg some (by kernel_rfl))
  t0 := Tryz.underlying0
  a0 := Tryz.isAgg0
  z0 := Tryz.sizeOf0
  v0 := Tryz.zeroValue0
  t3 := Tryz.underlying3
  a3 := Tryz.isAgg3
  z3 := Tryz.sizeOf3
  v3 := Tryz.zeroValue3
  t4 := Tryz.underlying4
  a4 := Tryz.isAgg4
  z4 := Tryz.sizeOf4
  v4 := Tryz.zeroValue4
  t22 := Tryz.underlying110
  a22 := Tryz.isAgg110
  z22 := Tryz.sizeOf110
  v22 := Tryz.zeroValue110
  i3 := by kernel_rfl }
open Go.RowKit in
theorem Tryz.InsShift (b off n c i vb voff m vc : Nat) (cs vs : List Value) (w : World) (hi : i < n) (hm : 0 < m) (hroom : n + m ≤ c) (hc63 : c ≤ 9223372036854775807) (hvb : vb ≠ b)
    (hcl : cs.length = n) (hvl : vs.length = m)
    (hcs : ∀ j v, cs[j]? = some v → w.cell? ⟨b, off + j, none⟩ = some v) (hsp : ∀ j, j < n + m → (w.cell? ⟨b, off + j, none⟩).isSome = true) (hfz : ∀ j, j < n + m → w.frozen? ⟨b, off + j, none⟩ = false)
    (hvs : ∀ j v, vs[j]? = some v → w.cell? ⟨vb, voff + j, none⟩ = some v) (h1c : ∀ v ∈ cs, v.oneCell' = true) (h1v : ∀ v ∈ vs, v.oneCell' = true)
    (tA tB : TypeId) (kA kB : Nat) (hsa : w.shape? vb = some (tA, kA)) (hsb : w.shape? b = some (tB, kB)) (hkB : kB ≠ 0) (hfa : w.frozen? ⟨vb, voff, none⟩ = false) (hfe : w.frozen? ⟨vb, kA, none⟩ = false) :
    Calls Tryz.prog 96 #[.slice (some ⟨b, off, none⟩) n c, .int .i64 i, .slice (some ⟨vb, voff, none⟩) m vc] w fun e w' =>
      e = .returned (.slice (some ⟨b, off, none⟩) (n + m) c) ∧ w' = (w.drew.setCells b (off + (i + m)) (cs.drop i)).setCells b (off + i) vs :=
  Any2.slices_Insert_int_shift Tryz.ins_ b off n c i vb voff m vc cs vs w hi hm hroom hc63 hvb hcl hvl hcs hsp hfz hvs h1c h1v tA tB kA kB hsa hsb hkB hfa hfe
open Go.RowKit in
theorem Tryz.InsEnd (b off n c vb voff m vc : Nat) (vs : List Value) (w : World) (hm : 0 < m) (hroom : n + m ≤ c) (hc63 : c ≤ 9223372036854775807)
    (hvl : vs.length = m) (hsp : ∀ j, j < m → (w.cell? ⟨b, off + n + j, none⟩).isSome = true) (hfz : ∀ j, j < m → w.frozen? ⟨b, off + n + j, none⟩ = false)
    (hvs : ∀ j v, vs[j]? = some v → w.cell? ⟨vb, voff + j, none⟩ = some v) (h1v : ∀ v ∈ vs, v.oneCell' = true) :
    Calls Tryz.prog 96 #[.slice (some ⟨b, off, none⟩) n c, .int .i64 n, .slice (some ⟨vb, voff, none⟩) m vc] w fun e w' =>
      e = .returned (.slice (some ⟨b, off, none⟩) (n + m) c) ∧ w' = w.setCells b (off + n) vs :=
  Any2.slices_Insert_int_end_room Tryz.ins_ b off n c vb voff m vc vs w hm hroom hc63 hvl hsp hfz hvs h1v
end Go.Proofs
/- slices.Insert at a list that may have room behind its end: where it lies then. -/
namespace Go.Proofs.YtfnlhfelpdkieaaGreat.Se
open Go.RowKit
open Go.Proofs.YtfnlhfelpdkieaaGreat.Me Go.Proofs.YtfnlhfelpdkieaaGreat.Sb
set_option linter.unusedVariables false
set_option linter.unusedSimpArgs false

/-- What an Insert answers and leaves. -/
def InsP (F : Nat → Prop) (A : Option Addr) (l' : List Int) (w : World) (e : Ending) (w' : World) : Prop :=
  ∃ g off c, e = .returned (.slice (some ⟨g, off, none⟩) l'.length c) ∧ Hid (Lw F w' (some ⟨g, off, none⟩) c l') ∧ Hid ((∃ a, A = some a ∧ a.block = g) ∨ w.heap.size ≤ g) ∧ Hid (But (fun k => ∃ a, A = some a ∧ a.block = k) w w')
/-- Cells written one behind the other into a list's block: what lies there then. -/
theorem lw_of {F : Nat → Prop} {W : World} {g off c : Nat} {l : List Int} {cur : Array Value} (hF : F g) (hb : W.heap[g]? = some (.cells cur 3 (0, 0))) (hs : off + c ≤ cur.size) (hl : l.length ≤ c) (hc : c ≤ 9223372036854775807) (hi : ∀ i, i < l.length → cur[off + i]? = some (.int .i64 (l.getD i 0))) : Lw F W (some ⟨g, off, none⟩) c l :=
  ⟨hl, hc, fun e => (by cases e), fun a ha => by cases ha; exact ⟨g, off, cur, rfl, hF, hb, hs, hi⟩⟩
theorem ins_getD (l : List Int) (x : Int) (i : Nat) (hi : i < l.length + 1) : (ins l x).getD i 0 = if i < lb l x then l.getD i 0 else if i = lb l x then x else l.getD (i - 1) 0 := by
  have hlb := lb_le l x
  unfold ins
  by_cases h1 : i < lb l x
  · rw [if_pos h1]
    have : i < (l.take (lb l x)).length := by rw [List.length_take]; omega
    rw [List.getD_eq_getElem?_getD, List.getElem?_append_left this, List.getElem?_take, if_pos h1, ← List.getD_eq_getElem?_getD]
  · rw [if_neg h1]
    have hlen : (l.take (lb l x)).length = lb l x := by rw [List.length_take]; omega
    rw [List.getD_eq_getElem?_getD, List.getElem?_append_right (by omega), hlen]
    by_cases h2 : i = lb l x
    · rw [if_pos h2, h2, Nat.sub_self]; rfl
    · rw [if_neg h2]
      obtain ⟨d, hd⟩ : ∃ d, i = lb l x + (d + 1) := ⟨i - lb l x - 1, by omega⟩
      rw [hd, Nat.add_sub_cancel_left, List.getElem?_cons_succ, List.getElem?_drop, ← List.getD_eq_getElem?_getD]
      congr 1
theorem ins_lenL (l : List Int) (x : Int) : (ins l x).length = l.length + 1 := ins_len l x
set_option maxHeartbeats 4000000 in
theorem insL {F : Nat → Prop} {W : World} {A : Option Addr} {c : Nat} {l : List Int} {x : Int} (hS : Lw F W A c l) (hl : l.length ≤ 1000000) (hF : ∀ k, W.heap.size ≤ k → F k) {W' : World} {gx : Nat} (hb : Below W.heap.size W W') (hx : W'.heap[gx]? = some (.cells #[.int .i64 x] 3 (0, 0))) (hgx : W.heap.size ≤ gx) :
    Calls Tryz.prog 96 #[.slice A l.length c, .int .i64 ((lb l x : Nat) : Int), .slice (some ⟨gx, 0, none⟩) 1 1] W' (InsP F A (ins l x) W') := by
  have hz : W'.cell? ⟨gx, 0, none⟩ = some (.int .i64 x) := cell_of_row W' gx 0 _ _ (0, 0) hx
  have hlb := lb_le l x
  have hln := ins_len l x
  have hS' : Lw F W' A c l := hS.same fun a ha => hb.block _ (hS.lt ha)
  by_cases hc : c = l.length
  · -- no room
    subst hc
    refine (insAt hS.sl hl W' gx hb hz).mono ?_
    rintro e w' ⟨v, rfl, ho, hbw⟩
    obtain ⟨g, cp, rfl, p1, p2, p3, p4, cur, p5⟩ := own_form ho.out (by omega)
    obtain ⟨A2, c2, e2, h2, h3⟩ := Lw.of_own (F := F) ho.out fun k hk _ => hF k (Nat.le_trans hb.size hk)
    cases e2
    exact ⟨g, 0, cp, rfl, h2, .inr p3, But.of_below hbw.out⟩
  · have hroom : l.length + 1 ≤ c := by have := hS.1; omega
    cases A with
    | none => have := (hS.2.2.1 rfl).2; omega
    | some a =>
      obtain ⟨g, off, cur, rfl, hFg, hg, hsz, hcell⟩ := hS'.2.2.2 a rfl
      have hgl : g < W.heap.size := hS.lt rfl
      have hne : gx ≠ g := by omega
      have hv0 : ∀ j v, ([Value.int .i64 x] : List Value)[j]? = some v → W'.cell? ⟨gx, 0 + j, none⟩ = some v := fun j v hj => by
        cases j with
        | zero => rw [hz]; simpa using hj
        | succ j => simp at hj
      have hone : ∀ v ∈ ([Value.int .i64 x] : List Value), v.oneCell' = true := by simp [Value.oneCell']
      have hsome : ∀ k, k < c → (W'.cell? ⟨g, off + k, none⟩).isSome = true := fun k hk => by
        rw [cell_of_row W' g _ _ _ (0, 0) hg, Array.getElem?_eq_getElem (by omega)]
        rfl
      have hfr : ∀ k, W'.frozen? ⟨g, k, none⟩ = false := fun k => frozen_of_row W' g k _ _ hg
      by_cases he : lb l x = l.length
      · -- at the end
        rw [he]
        refine (Tryz.InsEnd g off l.length c gx 0 1 1 [.int .i64 x] W' (by omega) hroom hS.2.1 rfl (fun j hj => by rw [Nat.add_assoc]; exact hsome _ (by omega)) (fun j hj => hfr _) hv0 hone).mono ?_
        rintro e w' ⟨rfl, rfl⟩
        obtain ⟨cur', q1, q2, q3, q4⟩ := lw_setCells g 3 [.int .i64 x] (off + l.length) W' cur hg
        refine ⟨g, off, c, by rw [hln], lw_of hFg q1 (by rw [q2]; exact hsz) (by omega) hS.2.1 fun i hi => ?_, .inl ⟨_, rfl, rfl⟩, ((lw_butCells W' g (off + l.length) [.int .i64 x]).1).mono fun k _ e => ⟨_, rfl, e.symm⟩⟩
        rw [ins_getD l x i (by omega)]
        by_cases h1 : i < l.length
        · rw [if_pos (by omega), q3 _ (.inl (by omega))]
          exact hcell i h1
        · have h2 : i = l.length := by omega
          rw [if_neg (by omega), if_pos (by omega), h2]
          have := q4 0 (by simp) (by omega)
          simpa using this
      · -- in the midst
        have hsl := hS'.sl
        refine (Tryz.InsShift g off l.length c (lb l x) gx 0 1 1 (l.map Mi.iV) [.int .i64 x] W' (by omega) (by omega) hroom hS.2.1 hne (by simp) rfl (fun j v hj => ?_) (fun j hj => hsome _ (by omega)) (fun j hj => hfr _) hv0 (Mi.one_cells _) hone 3 3 1 cur.size (by unfold World.shape?; rw [hx]; rfl) (by unfold World.shape?; rw [hg]) (by omega) (frozen_of_row W' gx 0 _ _ hx) (frozen_of_row W' gx 1 _ _ hx)).mono ?_
        · have hj' : j < l.length := by
            apply Classical.byContradiction
            intro hn
            rw [List.getElem?_eq_none (by simpa using hn)] at hj; cases hj
          rw [cell_of_row W' g _ _ _ (0, 0) hg]
          have := hcell j hj'
          rw [this, ← hj]
          simp [hj', Mi.iV]
        rintro e w' ⟨rfl, rfl⟩
        have hg2 : W'.drew.heap[g]? = some (.cells cur 3 (0, 0)) := hg
        obtain ⟨cur1, q1, q2, q3, q4⟩ := lw_setCells g 3 ((l.map Mi.iV).drop (lb l x)) (off + (lb l x + 1)) W'.drew cur hg2
        obtain ⟨cur2, r1, r2, r3, r4⟩ := lw_setCells g 3 [.int .i64 x] (off + lb l x) _ cur1 q1
        have hdl : ((l.map Mi.iV).drop (lb l x)).length = l.length - lb l x := by simp
        refine ⟨g, off, c, by rw [hln], lw_of hFg r1 (by rw [r2, q2]; exact hsz) (by omega) hS.2.1 fun i hi => ?_, .inl ⟨_, rfl, rfl⟩, ?_⟩
        · rw [ins_getD l x i (by omega)]
          by_cases h1 : i < lb l x
          · rw [if_pos h1, r3 _ (.inl (by omega)), q3 _ (.inl (by omega))]
            exact hcell i (by omega)
          · rw [if_neg h1]
            by_cases h2 : i = lb l x
            · rw [if_pos h2, h2]
              have := r4 0 (by simp) (by rw [q2]; omega)
              simpa using this
            · rw [if_neg h2, r3 _ (.inr (by simp; omega))]
              obtain ⟨d, hd⟩ : ∃ d, i = lb l x + (d + 1) := ⟨i - lb l x - 1, by omega⟩
              have h3 := q4 d (by rw [hdl]; omega) (by omega)
              rw [show off + i = off + (lb l x + 1) + d by omega, h3, List.getElem?_drop, List.getElem?_map, List.getElem?_eq_getElem (by omega)]
              have h4 : i - 1 = lb l x + d := by omega
              rw [h4, List.getD_eq_getElem?_getD, List.getElem?_eq_getElem (by omega)]
              rfl
        · have b1 : But (fun k => k = g) W' W'.drew := But.of_below (Below.refl _ _).drew
          have b2 := b1.trans (lw_butCells W'.drew g (off + (lb l x + 1)) ((l.map Mi.iV).drop (lb l x))).1 fun _ _ h => h
          have b3 := b2.trans (lw_butCells _ g (off + lb l x) [.int .i64 x]).1 fun _ _ h => h
          exact b3.mono fun k _ e => ⟨_, rfl, e.symm⟩
end Go.Proofs.YtfnlhfelpdkieaaGreat.Se
/- A counter put into a mark whose list may have room: cut, with. -/
namespace Go.Proofs.YtfnlhfelpdkieaaGreat.Se
open Go.RowKit
open Go.Proofs.YtfnlhfelpdkieaaGreat.Me Go.Proofs.YtfnlhfelpdkieaaGreat.Sb
set_option linter.unusedVariables false
set_option linter.unusedSimpArgs false

def cutL (g off n N : Nat) : Option Addr := if n = N then none else some ⟨g, off + n, none⟩
set_option maxRecDepth 100000 in
set_option maxHeartbeats 4000000 in
theorem cut_anyL (g off N cap n : Nat) (hn : n ≤ N) (hc : N ≤ cap) (W : World) : Calls Tryz.prog 97 #[.slice (some ⟨g, off, none⟩) N cap, .int .i64 (n : Int)] W fun e w' => e = .returned (.slice (cutL g off n N) (N - n) (N - n)) ∧ W = w' := by
  by_cases h : n = N
  · subst h
    have e : ((n : Int) == (n : Int)) = true := by simp
    have hv : cutL g off n n = none := by simp [cutL]
    rw [hv, Nat.sub_self]
    go_enter Tryz.func97, Tryz.ntmps97
    go_wp2
    go_ret
    exact ⟨rfl, rfl⟩
  · have e : ((n : Int) == (N : Int)) = false := by simpa using fun h' : (n : Int) = N => h (by omega)
    have hv : cutL g off n N = some ⟨g, off + n, none⟩ := by simp [cutL, h]
    rw [hv]
    have h1 : ¬ N - n = 0 := by omega
    have h2 : (n : Int) ≤ (N : Int) := by omega
    have h3 : (N : Int) ≤ (cap : Int) := by omega
    have h4 : n < N := by omega
    go_enter Tryz.func97, Tryz.ntmps97
    go_wp2
    go_ret
    exact ⟨by simp, rfl⟩
theorem lw_cut {F : Nat → Prop} {W : World} {g off N R : Nat} {L : List Int} {cur : Array Value} (hF : F g) (hl : L.length = N) (hN : N ≤ 65537) (hR : R ≤ N) (hb : W.heap[g]? = some (.cells cur 3 (0, 0))) (hs : off + N ≤ cur.size) (hc : ∀ i, i < N → cur[off + i]? = some (.int .i64 (L.getD i 0))) : Lw F W (cutL g off R N) (N - R) (L.drop R) := by
  refine ⟨by simp [hl], by omega, ?_, ?_⟩
  · intro h
    unfold cutL at h
    split at h
    · rename_i e
      exact ⟨List.drop_eq_nil_of_le (by omega), by omega⟩
    · cases h
  · intro a h
    unfold cutL at h
    split at h
    · cases h
    · cases h
      refine ⟨g, off + R, cur, rfl, hF, hb, by omega, fun i hi => ?_⟩
      rw [List.length_drop] at hi
      rw [Nat.add_assoc, hc (R + i) (by omega)]
      simp
theorem cutL_blk {g off n N : Nat} {a : Addr} (h : cutL g off n N = some a) : a.block = g := by
  unfold cutL at h
  split at h
  · cases h
  · cases h; rfl
set_option maxRecDepth 100000 in
set_option maxHeartbeats 8000000 in
theorem with_anyL (F : Nat → Prop) (m : Mk) (A : Option Addr) (cp : Nat) (c : Int) (w : World) (hS0 : Hid (Lw F w A cp m.more)) (ho : Ok m) (hh : has m c = false) (hc : c ≤ 65535) (hn : m.more.length ≤ 65536) (hF : Hid (∀ k, w.heap.size ≤ k → F k)) :
    Calls Tryz.prog 70 #[mkV m.up A m.more.length cp, .int .i64 c] w fun e w' => ∃ A' c', e = .returned (mkV (wth m c).up A' (wth m c).more.length c') ∧ Hid (Lw F w' A' c' (wth m c).more) ∧ Hid (∀ a', A' = some a' → (∃ a, A = some a ∧ a.block = a'.block) ∨ w.heap.size ≤ a'.block) ∧ Hid (But (fun k => ∃ a, A = some a ∧ a.block = k) w w') := by
  have hS := hS0.out
  obtain ⟨u, l⟩ := m
  simp only [mkV] at hS hn ⊢
  have hblk : ∀ k, (∃ a, A = some a ∧ a.block = k) → k < w.heap.size := fun k ⟨a, ha, hk⟩ => by rw [← hk]; exact hS.lt ha
  obtain ⟨W1, hW1⟩ : ∃ W, w.alloc (.cells #[.int .i64 u, .slice A l.length cp] 126) = W := ⟨_, rfl⟩
  obtain ⟨W2, hW2⟩ : ∃ W, W1.alloc (.cells #[.int .i64 0, .slice none 0 0] 126) = W := ⟨_, rfl⟩
  have b1 : Below w.heap.size w W1 := by rw [← hW1]; exact Me.below_alloc (Below.refl _ _)
  have z1 : W1.heap.size = w.heap.size + 1 := by rw [← hW1]; simp
  have b2 : Below w.heap.size w W2 := by rw [← hW2]; exact Me.below_alloc b1
  have z2 : W2.heap.size = w.heap.size + 1 + 1 := by rw [← hW2, World.size_alloc, z1]
  have r1 : W2.heap[w.heap.size]? = some (.cells #[.int .i64 u, .slice A l.length cp] 126 (0, 0)) := by
    rw [← hW2, Below.heap_alloc _ _ _ (by omega), ← hW1]
    exact heap_alloc_new w _
  have r2 : W2.heap[w.heap.size + 1]? = some (.cells #[.int .i64 0, .slice none 0 0] 126 (0, 0)) := by
    rw [← hW2, ← z1]
    exact heap_alloc_new W1 _
  have HW : Hid ((w.alloc (.cells #[.int .i64 u, .slice A l.length cp] 126)).alloc (.cells #[.int .i64 0, .slice none 0 0] 126) = W2) := by show _ = _; rw [hW1, hW2]
  have HBs := Lib.hid (Search_any A cp l c W2 (hS.sl.keep (Ints.below b2)) ho.lt (by omega))
  have HC : Hid (∀ W, Below W2.heap.size W2 W → W.cell? ⟨w.heap.size, 0, none⟩ = some (.int .i64 u) ∧ W.cell? ⟨w.heap.size, 1, none⟩ = some (.slice A l.length cp) ∧ W.heap[w.heap.size + 1]? = some (.cells #[.int .i64 0, .slice none 0 0] 126 (0, 0)) ∧ Below w.heap.size w W) := fun W hW => by
    have h := (hW.block w.heap.size (by omega)).trans r1
    exact ⟨cell_of_row W _ 0 _ _ (0, 0) h, cell_of_row W _ 1 _ _ (0, 0) h, (hW.block _ (by omega)).trans r2, b2.trans (hW.mono b2.size)⟩
  have HIn : Hid (∀ W gx, Below W2.heap.size W2 W → W.heap[gx]? = some (.cells #[.int .i64 c] 3 (0, 0)) → w.heap.size ≤ gx → Calls Tryz.prog 96 #[.slice A l.length cp, .int .i64 ((lb l c : Nat) : Int), .slice (some ⟨gx, 0, none⟩) 1 1] W (InsP F A (ins l c) W)) := fun W gx hb hz hg => insL hS (by omega) hF.out (b2.trans (hb.mono b2.size)) hz hg
  have HBlk := Lib.hid hblk
  have hlen : (ins l c).length = l.length + 1 := ins_len l c
  have hu0 : 0 ≤ u := ho.u0
  have hu1 : u ≤ 65535 := ho.u1
  have hrun : run u (ins l c) ≤ (ins l c).length := run_le _ _
  have hat := run_at (ins l c) u
  have hval : ∀ i, i < (ins l c).length → (ins l c).getD i 0 ≤ 65535 ∧ 0 ≤ (ins l c).getD i 0 := fun i hi => by
    have hm : (ins l c).getD i 0 ∈ ins l c := by
      have : (ins l c).getD i 0 = (ins l c)[i] := by simp [hi]
      rw [this]; exact List.getElem_mem hi
    unfold has at hh
    rw [Bool.or_eq_false_iff] at hh
    have hcu : ¬ c ≤ u := by simpa using hh.2
    rcases mem_ins.1 hm with e | e
    · rw [e]; omega
    · have hg : u + 2 ≤ (ins l c).getD i 0 ∧ (ins l c).getD i 0 ≤ 65535 := ho.gap _ e; omega
  have HWT : Hid (wth ⟨u, l⟩ c = ⟨u + (run u (ins l c) : Nat), (ins l c).drop (run u (ins l c))⟩) := rfl
  obtain ⟨q, hq⟩ : ∃ q, lb l c = q := ⟨_, rfl⟩
  obtain ⟨L, hL⟩ : ∃ L, ins l c = L := ⟨_, rfl⟩
  rw [hq] at HBs HIn
  rw [hL] at HIn hlen hrun hat hval HWT
  obtain ⟨R, hR⟩ : ∃ R, run u L = R := ⟨_, rfl⟩
  simp only [hR] at hrun hat HWT
  have HL : Hid (∃ p, l.contains c = p) := ⟨_, rfl⟩
  obtain ⟨p, hp⟩ := HL.out
  rw [hp] at HBs
  unfold InsP at HIn
  have HLen := Lib.hid hlen
  clear hlen hS hS0 hblk hW1 hW2 b1 z1 b2 r1 r2 hh hc hp HL hq hL hR ho
  go_enter Tryz.func70, Tryz.ntmps70
  go_wp2_with (first
    | (go_at_call 95; rw [HW.out]; refine HBs.out.mono ?_; rintro e w3 ⟨rfl, hb3⟩; obtain ⟨x0, x1, x2, x3⟩ := HC.out w3 hb3.out; clear x2)
    | (go_at_call 96; refine (HIn.out _ _ (Me.below_alloc hb3.out) (heap_alloc_new w3 _) (by have := x3.size; omega)).mono ?_; rintro e w4 ⟨g, off, cq, rfl, HO4, HG4, HB4⟩))
  obtain ⟨g2, off2, cur, e2, hFg, p5, p6, p7⟩ := HO4.out.2.2.2 _ rfl
  cases e2
  have p4 : g < w4.heap.size := (Array.getElem?_eq_some_iff.1 p5).1
  obtain ⟨N, hN⟩ : ∃ N, L.length = N := ⟨_, rfl⟩
  have HLN := Lib.hid hN
  have hlen := HLen.out
  have hNb : N ≤ 65537 := by omega
  have hcq : N ≤ cq := by rw [← hN]; exact HO4.out.1
  have p2 : cq ≤ 9223372036854775807 := HO4.out.2.1
  have h3z := x3.size
  have h3y := hb3.out.size
  have hB4 : But (fun k => ∃ a, A = some a ∧ a.block = k) W2 w4 := (But.of_below (S := fun k => ∃ a, A = some a ∧ a.block = k) (Me.below_alloc hb3.out)).trans HB4.out fun _ _ h => h
  have HV : Hid (∀ W, Below w4.heap.size w4 W → W.cell? ⟨w.heap.size, 0, none⟩ = some (.int .i64 u) ∧ W.heap[w.heap.size + 1]? = some (.cells #[.int .i64 0, .slice none 0 0] 126 (0, 0)) ∧ But (fun k => ∃ a, A = some a ∧ a.block = k) w W ∧ (∀ i, i < N → W.cell? ⟨g, off + i, none⟩ = some (.int .i64 (L.getD i 0))) ∧ W.heap[g]? = some (.cells cur 3 (0, 0))) := fun W hW => by
    obtain ⟨x0, _, x2, x3⟩ := HC.out W2 (Below.refl _ _)
    have k4 : But (fun k => ∃ a, A = some a ∧ a.block = k) W2 W := hB4.trans (But.of_below (S := fun _ => False) hW) fun _ _ h => h.elim
    have e0 := k4.same w.heap.size (by omega) fun h => by have := HBlk.out _ h; omega
    have e1 := k4.same (w.heap.size + 1) (by omega) fun h => by have := HBlk.out _ h; omega
    exact ⟨(World.cell?_of_block (w := W2) (a := ⟨w.heap.size, 0, none⟩) e0).trans x0, e1.trans x2, (But.of_below (S := fun k => ∃ a, A = some a ∧ a.block = k) x3).trans k4 fun _ _ h => h, fun i hi => by
      rw [cell_of_row W g _ _ _ (0, 0) ((hW.block g p4).trans p5)]
      exact p7 i (by omega), (hW.block g p4).trans p5⟩
  have hGo : g ≠ w.heap.size + 1 := by
    rcases HG4.out with h | h
    · have := HBlk.out g h; omega
    · rw [World.size_alloc] at h; omega
  have HG : Hid (g ≠ w.heap.size + 1) := hGo
  have HGb : Hid ((∃ a, A = some a ∧ a.block = g) ∨ w.heap.size ≤ g) := HG4.out.imp id fun h => by rw [World.size_alloc] at h; omega
  have HFg := Lib.hid hFg
  have HCs : Hid (off + N ≤ cur.size ∧ ∀ i, i < N → cur[off + i]? = some (.int .i64 (L.getD i 0))) := ⟨by omega, fun i hi => p7 i (by omega)⟩
  have HCut := Lib.hid (fun W => cut_anyL g off N cq R (by omega) hcq W)
  have hRb : (R : Int) ≤ 65537 := by omega
  have HWr : Hid (IntKind.i64.wrap (u + (R : Int)) = u + (R : Int)) := Mi.fits' (Mi.small (by omega) (by omega))
  simp only [hN] at hat hval hrun ⊢
  clear x0 x1 x3 hB4 p4 p5 p6 p7 HO4 HB4 HG4 hb3 HBs HIn HC HW z2 hlen hN hGo hFg h3z h3y
  go_loopw [8] (fun i wr => ∃ k : Nat, i = .int .i64 (k : Int) ∧ k ≤ R ∧ Hid (Below w4.heap.size w4 wr)) (fun i _ => N - (intOf i).toNat)
  case atStart => exact ⟨0, rfl, Nat.zero_le _, Below.refl _ _⟩
  case round =>
    obtain ⟨k, rfl, hk, HBr⟩ := hrel
    obtain ⟨y0, y1, y2, y3, y4⟩ := HV.out wr HBr.out
    by_cases hlt : k < N
    · have yk := y3 k hlt
      obtain ⟨e1, e2⟩ := hval k hlt
      have ha := hat k (by omega) hlt
      obtain ⟨x, hx⟩ : ∃ x, L.getD k 0 = x := ⟨_, rfl⟩
      rw [hx] at yk e1 e2 ha
      have g1 : (k : Int) < (N : Int) := by omega
      by_cases hkR : k < R
      · have hx2 := ha.1 hkR
        have g2 : (x == u + 1 + (k : Int)) = true := by simp; omega
        clear y1 y2 y3 y4 hx ha hat hval HV
        go_wp2
        go_quiet (fail)
        go_wp2
        go_roundw
        case rel => exact ⟨k + 1, by go_num, by omega, Me.below_drewN HBr.out _⟩
        case measure => simp [intOf]; omega
      · have hx2 : ¬ x = u + 1 + (k : Int) := fun h => hkR (ha.2 h)
        have g2 : (x == u + 1 + (k : Int)) = false := by simpa using hx2
        obtain rfl : R = k := by omega
        clear y1 y2 y3 y4 hx ha hat hval hkR hx2
        go_wp2
        go_quiet (fail)
        go_wp2
        obtain ⟨V, hVe⟩ : ∃ V, wr.drewN nq = V := ⟨_, rfl⟩
        have hVB : Below w4.heap.size w4 V := by rw [← hVe]; exact Me.below_drewN HBr.out _
        rw [hVe]
        obtain ⟨y0, y2, y3, y4, y5⟩ := HV.out V hVB
        have S0 : V.drew.cell? ⟨w.heap.size, 0, none⟩ = some (.int .i64 u) := y0
        clear hVe y0
        refine wp_region_held_drew (S := fun W : World => W.cell? ⟨w.heap.size, 0, none⟩ = some (.int .i64 u)) (by kernel_rfl) S0 (fun hHeld => ?_)
        refine wpAnyH_take (i := 0) (v := .pointer (some ⟨w.heap.size, 0, none⟩)) rfl (by kernel_rfl) (by kernel_rfl) (by kernel_rfl) (fun _ _ _ h => h) (Or.inl ⟨by rfl, ?_⟩) (by first | assumption | exact trivial) ?_
        · intro W hSW; go_simp; try (with_reducible rfl)
        simp only [Act.put, List.getElem_toArray, List.getElem_cons_succ, List.getElem_cons_zero, List.setIfInBounds_toArray, List.set_cons_zero, List.set_cons_succ]
        refine wpAnyH_take (i := 1) (v := .int .i64 u) rfl (by kernel_rfl) (by kernel_rfl) (by kernel_rfl) (fun _ _ _ h => h) (Or.inl ⟨by rfl, ?_⟩) (by first | assumption | exact trivial) ?_
        · intro W hSW; have y0 := hSW; go_simp; try (with_reducible rfl)
        simp only [Act.put, List.getElem_toArray, List.getElem_cons_succ, List.getElem_cons_zero, List.setIfInBounds_toArray, List.set_cons_zero, List.set_cons_succ]
        refine wpAnyH_take (i := 2) (v := .int .i64 (R : Int)) rfl (by kernel_rfl) (by kernel_rfl) (by kernel_rfl) (fun _ _ _ h => h) (Or.inl ⟨by rfl, ?_⟩) (by first | assumption | exact trivial) ?_
        · intro W hSW; go_simp; try (with_reducible rfl)
        simp only [Act.put, List.getElem_toArray, List.getElem_cons_succ, List.getElem_cons_zero, List.setIfInBounds_toArray, List.set_cons_zero, List.set_cons_succ]
        refine wpAnyH_take (i := 3) (v := .int .i64 (u + (R : Int))) rfl (by kernel_rfl) (by kernel_rfl) (by kernel_rfl) (fun _ _ _ h => h) (Or.inl ⟨by rfl, ?_⟩) (by first | assumption | exact trivial) ?_
        · intro W hSW; have hwr := HWr.out; go_simp; try (with_reducible rfl)
        simp only [Act.put, List.getElem_toArray, List.getElem_cons_succ, List.getElem_cons_zero, List.setIfInBounds_toArray, List.set_cons_zero, List.set_cons_succ]
        refine wpAnyH_take (i := 4) (v := .slice (some ⟨g, off, none⟩) N cq) rfl (by kernel_rfl) (by kernel_rfl) (by kernel_rfl) (fun _ _ _ h => h) (Or.inl ⟨by rfl, ?_⟩) (by first | assumption | exact trivial) ?_
        · intro W hSW; go_simp; try (with_reducible rfl)
        simp only [Act.put, List.getElem_toArray, List.getElem_cons_succ, List.getElem_cons_zero, List.setIfInBounds_toArray, List.set_cons_zero, List.set_cons_succ]
        refine wpAnyH_take (i := 5) (v := .int .i64 (R : Int)) rfl (by kernel_rfl) (by kernel_rfl) (by kernel_rfl) (fun _ _ _ h => h) (Or.inl ⟨by rfl, ?_⟩) (by first | assumption | exact trivial) ?_
        · intro W hSW; go_simp; try (with_reducible rfl)
        simp only [Act.put, List.getElem_toArray, List.getElem_cons_succ, List.getElem_cons_zero, List.setIfInBounds_toArray, List.set_cons_zero, List.set_cons_succ]
        refine wpAnyH_ready (rs := [6]) (by kernel_rfl) (by simp) ?_
        refine AllReadyH.cons rfl (fun K hK => ?_) AllReadyH.nil
        go_simp
        go_wp2_with (go_at_call 97; refine (HCut.out _).mono ?_; rintro e w' ⟨rfl, rfl⟩)
        refine hK.out _ _ (S0) (fun hHeld => ?_)
        clear hK K
        refine wpAnyH_take (i := 7) (v := .agg #[.int .i64 (u + (R : Int)), .slice (cutL g off R N) (N - R) (N - R)]) rfl (by kernel_rfl) (by kernel_rfl) (by kernel_rfl) (fun _ _ _ h => h) (Or.inl ⟨by rfl, ?_⟩) (by first | assumption | exact trivial) ?_
        · intro W hSW; go_simp; try (with_reducible rfl)
        simp only [Act.put, List.getElem_toArray, List.getElem_cons_succ, List.getElem_cons_zero, List.setIfInBounds_toArray, List.set_cons_zero, List.set_cons_succ]
        refine wpAnyH_ready (rs := [8]) (by kernel_rfl) (by simp) ?_
        refine AllReadyH.cons rfl (fun K hK => ?_) AllReadyH.nil
        rw [if_pos (by kernel_rfl)]
        refine wp_store_row 126 (.tmp 4) (.tmp 47) rfl (w.heap.size + 1) #[.int .i64 (u + (R : Int)), .slice (cutL g off R N) (N - R) (N - R)] rfl (by rfl) 126 _ y2 (by kernel_rfl) rfl (mk_one _ _ _ _) ?_
        simp only [Act.put, List.getElem_toArray, List.getElem_cons_succ, List.getElem_cons_zero, List.setIfInBounds_toArray, List.set_cons_zero, List.set_cons_succ]
        obtain ⟨V9, hV9⟩ : ∃ X, V.drew.setRow (w.heap.size + 1) #[.int .i64 (u + (R : Int)), .slice (cutL g off R N) (N - R) (N - R)] = X := ⟨_, rfl⟩
        have q0 : V9.heap[w.heap.size + 1]? = some (.cells #[.int .i64 (u + (R : Int)), .slice (cutL g off R N) (N - R) (N - R)] 126 (0, 0)) := by rw [← hV9]; exact setRow_heap _ _ _ _ _ _ y2
        have q1 : ∀ k, k ≠ w.heap.size + 1 → V9.heap[k]? = V.heap[k]? := fun k hk => by rw [← hV9]; exact setRow_other _ _ k _ hk
        have q2 : But (fun k => ∃ a, A = some a ∧ a.block = k) w V9 := by rw [← hV9]; exact (y3.trans (But.of_below (S := fun _ => False) (Below.refl _ _).drew) fun _ _ h => h.elim).setRow (.inr (by omega)) _
        rw [hV9]
        refine hK.out _ _ (((World.cell?_of_block (w := V) (a := ⟨w.heap.size, 0, none⟩) (q1 w.heap.size (by omega))).trans S0)) (fun hHeld => ?_)
        clear hK K
        refine wpAnyH_done (by kernel_rfl) ?_ _
        have q3 : V9.heap[g]? = V.heap[g]? := q1 g HG.out
        have q4 := lw_cut (W := V9) HFg.out HLN.out hNb hrun (q3.trans y5) HCs.out.1 HCs.out.2
        go_wp2
        exact ret_box (g := w.heap.size + 1) rfl (by rfl) q0 rfl Tryz.underlying126 (by kernel_rfl) rfl ⟨cutL g off R N, N - R, by rw [HWT.out]; simp only [mkV]; rw [List.length_drop, HLN.out], by rw [HWT.out]; exact q4, fun a' ha' => by rw [cutL_blk ha']; exact HGb.out, q2⟩
    · have g1 : ¬ (k : Int) < (N : Int) := by omega
      obtain rfl : R = k := by omega
      clear y1 y2 y3 y4 hat hval
      go_wp2
      go_quiet (fail)
      go_wp2
      obtain ⟨V, hVe⟩ : ∃ V, wr.drewN nq = V := ⟨_, rfl⟩
      have hVB : Below w4.heap.size w4 V := by rw [← hVe]; exact Me.below_drewN HBr.out _
      rw [hVe]
      obtain ⟨y0, y2, y3, y4, y5⟩ := HV.out V hVB
      have S0 : V.drew.cell? ⟨w.heap.size, 0, none⟩ = some (.int .i64 u) := y0
      clear hVe y0
      refine wp_region_held_drew (S := fun W : World => W.cell? ⟨w.heap.size, 0, none⟩ = some (.int .i64 u)) (by kernel_rfl) S0 (fun hHeld => ?_)
      refine wpAnyH_take (i := 0) (v := .pointer (some ⟨w.heap.size, 0, none⟩)) rfl (by kernel_rfl) (by kernel_rfl) (by kernel_rfl) (fun _ _ _ h => h) (Or.inl ⟨by rfl, ?_⟩) (by first | assumption | exact trivial) ?_
      · intro W hSW; go_simp; try (with_reducible rfl)
      simp only [Act.put, List.getElem_toArray, List.getElem_cons_succ, List.getElem_cons_zero, List.setIfInBounds_toArray, List.set_cons_zero, List.set_cons_succ]
      refine wpAnyH_take (i := 1) (v := .int .i64 u) rfl (by kernel_rfl) (by kernel_rfl) (by kernel_rfl) (fun _ _ _ h => h) (Or.inl ⟨by rfl, ?_⟩) (by first | assumption | exact trivial) ?_
      · intro W hSW; have y0 := hSW; go_simp; try (with_reducible rfl)
      simp only [Act.put, List.getElem_toArray, List.getElem_cons_succ, List.getElem_cons_zero, List.setIfInBounds_toArray, List.set_cons_zero, List.set_cons_succ]
      refine wpAnyH_take (i := 2) (v := .int .i64 (R : Int)) rfl (by kernel_rfl) (by kernel_rfl) (by kernel_rfl) (fun _ _ _ h => h) (Or.inl ⟨by rfl, ?_⟩) (by first | assumption | exact trivial) ?_
      · intro W hSW; go_simp; try (with_reducible rfl)
      simp only [Act.put, List.getElem_toArray, List.getElem_cons_succ, List.getElem_cons_zero, List.setIfInBounds_toArray, List.set_cons_zero, List.set_cons_succ]
      refine wpAnyH_take (i := 3) (v := .int .i64 (u + (R : Int))) rfl (by kernel_rfl) (by kernel_rfl) (by kernel_rfl) (fun _ _ _ h => h) (Or.inl ⟨by rfl, ?_⟩) (by first | assumption | exact trivial) ?_
      · intro W hSW; have hwr := HWr.out; go_simp; try (with_reducible rfl)
      simp only [Act.put, List.getElem_toArray, List.getElem_cons_succ, List.getElem_cons_zero, List.setIfInBounds_toArray, List.set_cons_zero, List.set_cons_succ]
      refine wpAnyH_take (i := 4) (v := .slice (some ⟨g, off, none⟩) N cq) rfl (by kernel_rfl) (by kernel_rfl) (by kernel_rfl) (fun _ _ _ h => h) (Or.inl ⟨by rfl, ?_⟩) (by first | assumption | exact trivial) ?_
      · intro W hSW; go_simp; try (with_reducible rfl)
      simp only [Act.put, List.getElem_toArray, List.getElem_cons_succ, List.getElem_cons_zero, List.setIfInBounds_toArray, List.set_cons_zero, List.set_cons_succ]
      refine wpAnyH_take (i := 5) (v := .int .i64 (R : Int)) rfl (by kernel_rfl) (by kernel_rfl) (by kernel_rfl) (fun _ _ _ h => h) (Or.inl ⟨by rfl, ?_⟩) (by first | assumption | exact trivial) ?_
      · intro W hSW; go_simp; try (with_reducible rfl)
      simp only [Act.put, List.getElem_toArray, List.getElem_cons_succ, List.getElem_cons_zero, List.setIfInBounds_toArray, List.set_cons_zero, List.set_cons_succ]
      refine wpAnyH_ready (rs := [6]) (by kernel_rfl) (by simp) ?_
      refine AllReadyH.cons rfl (fun K hK => ?_) AllReadyH.nil
      go_simp
      go_wp2_with (go_at_call 97; refine (HCut.out _).mono ?_; rintro e w' ⟨rfl, rfl⟩)
      refine hK.out _ _ (S0) (fun hHeld => ?_)
      clear hK K
      refine wpAnyH_take (i := 7) (v := .agg #[.int .i64 (u + (R : Int)), .slice (cutL g off R N) (N - R) (N - R)]) rfl (by kernel_rfl) (by kernel_rfl) (by kernel_rfl) (fun _ _ _ h => h) (Or.inl ⟨by rfl, ?_⟩) (by first | assumption | exact trivial) ?_
      · intro W hSW; go_simp; try (with_reducible rfl)
      simp only [Act.put, List.getElem_toArray, List.getElem_cons_succ, List.getElem_cons_zero, List.setIfInBounds_toArray, List.set_cons_zero, List.set_cons_succ]
      refine wpAnyH_ready (rs := [8]) (by kernel_rfl) (by simp) ?_
      refine AllReadyH.cons rfl (fun K hK => ?_) AllReadyH.nil
      rw [if_pos (by kernel_rfl)]
      refine wp_store_row 126 (.tmp 4) (.tmp 47) rfl (w.heap.size + 1) #[.int .i64 (u + (R : Int)), .slice (cutL g off R N) (N - R) (N - R)] rfl (by rfl) 126 _ y2 (by kernel_rfl) rfl (mk_one _ _ _ _) ?_
      simp only [Act.put, List.getElem_toArray, List.getElem_cons_succ, List.getElem_cons_zero, List.setIfInBounds_toArray, List.set_cons_zero, List.set_cons_succ]
      obtain ⟨V9, hV9⟩ : ∃ X, V.drew.setRow (w.heap.size + 1) #[.int .i64 (u + (R : Int)), .slice (cutL g off R N) (N - R) (N - R)] = X := ⟨_, rfl⟩
      have q0 : V9.heap[w.heap.size + 1]? = some (.cells #[.int .i64 (u + (R : Int)), .slice (cutL g off R N) (N - R) (N - R)] 126 (0, 0)) := by rw [← hV9]; exact setRow_heap _ _ _ _ _ _ y2
      have q1 : ∀ k, k ≠ w.heap.size + 1 → V9.heap[k]? = V.heap[k]? := fun k hk => by rw [← hV9]; exact setRow_other _ _ k _ hk
      have q2 : But (fun k => ∃ a, A = some a ∧ a.block = k) w V9 := by rw [← hV9]; exact (y3.trans (But.of_below (S := fun _ => False) (Below.refl _ _).drew) fun _ _ h => h.elim).setRow (.inr (by omega)) _
      rw [hV9]
      refine hK.out _ _ (((World.cell?_of_block (w := V) (a := ⟨w.heap.size, 0, none⟩) (q1 w.heap.size (by omega))).trans S0)) (fun hHeld => ?_)
      clear hK K
      refine wpAnyH_done (by kernel_rfl) ?_ _
      have q3 : V9.heap[g]? = V.heap[g]? := q1 g HG.out
      have q4 := lw_cut (W := V9) HFg.out HLN.out hNb hrun (q3.trans y5) HCs.out.1 HCs.out.2
      go_wp2
      exact ret_box (g := w.heap.size + 1) rfl (by rfl) q0 rfl Tryz.underlying126 (by kernel_rfl) rfl ⟨cutL g off R N, N - R, by rw [HWT.out]; simp only [mkV]; rw [List.length_drop, HLN.out], by rw [HWT.out]; exact q4, fun a' ha' => by rw [cutL_blk ha']; exact HGb.out, q2⟩
end Go.Proofs.YtfnlhfelpdkieaaGreat.Se
