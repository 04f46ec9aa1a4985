/- The shelf's contracts at this program, in plain words (written by program: laye.py). -/
import Derived.Test.YtfnlhfelpdkieaaGreatProg
import Derived.Test.YtfnlhfelpdkieaaGreatZ9
import Derived.Shelf.Lays2
import Derived.Shelf.Slices.SearchI
import Derived.Shelf.Slices.Empties
import Derived.Deep.RegionHeld
namespace Go.Proofs
open Go.Shelf
def Tryz.bs__ren : Go.Shelf.Ren := ⟨fun | 25 => 95 | 31 => 107 | 32 => 108 | 37 => 115 | n => n, fun | 22 => 110 | 3 => 3 | 4 => 4 | 40 => 162 | 0 => 0 | n => n, fun | n => n⟩
theorem Tryz.bs_ : Go.Proofs.Lays2.n25 Tryz.prog Tryz.bs__ren := {
  mixed := by kernel_rfl
  f25 := Tryz.func95.trans (congrArg some (by kernel_rfl))
  f31 := Tryz.func107.trans (congrArg some (by kernel_rfl))
  f32 := Tryz.func108.trans (congrArg some (by kernel_rfl))
  f37 := Tryz.func115.trans (congrArg some (by kernel_rfl))
  t0 := Tryz.underlying0
  a0 := Tryz.isAgg0
  z0 := Tryz.sizeOf0
  v0 := Tryz.zeroValue0
  t3 := Tryz.underlying3
  a3 := Tryz.isAgg3
  z3 := Tryz.sizeOf3
  v3 := Tryz.zeroValue3
  t4 := Tryz.underlying4
  a4 := Tryz.isAgg4
  z4 := Tryz.sizeOf4
  v4 := Tryz.zeroValue4
  t22 := Tryz.underlying110
  a22 := Tryz.isAgg110
  z22 := Tryz.sizeOf110
  v22 := Tryz.zeroValue110
  t40 := Tryz.underlying162
  a40 := Tryz.isAgg162
  z40 := Tryz.sizeOf162
  v40 := Tryz.zeroValue162 }
open Go.RowKit in
theorem Tryz.Search (b off n c : Nat) (zs : List Int) (x : Int) (w : World) (hz : n ≤ zs.length) (hbig : n < 4611686018427387904) (hc : ∀ j, j < zs.length → w.cell? ⟨b, off + j, none⟩ = some (.int .i64 (zs.getD j 0))) (hs : (zs.take n).Pairwise (· ≤ ·)) :
    Calls Tryz.prog 95 #[.slice (some ⟨b, off, none⟩) n c, .int .i64 x] w fun e w' => e = .returned (.tuple #[.int .i64 ((zs.take n).countP (· < x) : Nat), .bool ((zs.take n).contains x)]) ∧ ∃ q, w' = w.drewN q := Any.slices_BinarySearch_int Tryz.bs_ b off n c zs x w hz hbig hc hs
open Go.RowKit in
theorem Tryz.Search0 (a : Option Addr) (c : Nat) (x : Int) (w : World) :
    Calls Tryz.prog 95 #[.slice a 0 c, .int .i64 x] w fun e w' => e = .returned (.tuple #[.int .i64 0, .bool false]) ∧ w' = w := Any.slices_BinarySearch_int_empty Tryz.bs_ a c x w
end Go.Proofs
/- What the library does with lists of numbers: where a number has its place, put in at the end. -/
namespace Go.Proofs.YtfnlhfelpdkieaaGreat.Se
open Go.RowKit
open Go.Proofs.YtfnlhfelpdkieaaGreat.Me Go.Proofs.YtfnlhfelpdkieaaGreat.Sb
set_option linter.unusedVariables false
set_option linter.unusedSimpArgs false

theorem Search_any (A : Option Addr) (c : Nat) (l : List Int) (x : Int) (W : World) (h : Hid (Sl W A c l)) (hp : Hid (l.Pairwise (· < ·))) (hl : l.length ≤ 1000000000) :
    Calls Tryz.prog 95 #[.slice A l.length c, .int .i64 x] W fun e w' => e = .returned (.tuple #[.int .i64 ((lb l x : Nat) : Int), .bool (l.contains x)]) ∧ Hid (Below W.heap.size W w') := by
  by_cases h0 : l.length = 0
  · obtain rfl := List.eq_nil_of_length_eq_zero h0
    exact (Tryz.Search0 A c x W).mono fun e w' ⟨he, hw⟩ => ⟨he, hw ▸ Below.refl _ _⟩
  · cases A with
    | none => exact absurd (by rw [(h.out.2.2.1 rfl).1]; rfl) h0
    | some a =>
      obtain ⟨g, off, rfl, _, hc⟩ := h.out.2.2.2 a rfl
      have hs : (l.take l.length).Pairwise (· ≤ ·) := by rw [List.take_length]; exact hp.out.imp fun h => by omega
      refine (Tryz.Search g off l.length c l x W (Nat.le_refl _) (by omega) hc hs).mono fun e w' ⟨he, q, hw⟩ => ⟨?_, ?_⟩
      · rw [he, List.take_length]; rfl
      · rw [hw]; exact Me.below_drewN (Below.refl _ _) q
/-- A number appended to a list that has no room. -/
theorem appS {w : World} {ops : Array Oper} {rest : List Oper} {o : Oper} {a : Act} {Q : Exit → Act → World → Prop} (hgd : o.guard = none) (s x : Operand)
    (ho : o.op = .call { callee := .builtin .append, args := #[s, x], argTypes := #[110, 110] })
    (A : Option Addr) (l : List Int) (hS : Sl w A l.length l) (hs : a.eval s = .slice A l.length l.length) (gx : Nat) (z : Int) (hx : a.eval x = .slice (some ⟨gx, 0, none⟩) 1 1) (hz : w.cell? ⟨gx, 0, none⟩ = some (.int .i64 z)) (hlen : l.length ≤ 1000000000)
    (h : ∀ v' w', Mi.Own w' w.heap.size v' (l ++ [z]) → Below w.heap.size w w' → wpList Tryz.prog ops Q rest (a.put o.dst v') w') : wpList Tryz.prog ops Q (o :: rest) a w := by
  obtain ⟨i0, hi, hz0, hz1, hz2⟩ := info_parts Mi.infoI
  have hnews : ∀ j u, ([Value.int .i64 z] : List Value)[j]? = some u → w.cell? ((⟨gx, 0, none⟩ : Addr).add j) = some u := by
    intro j u hj
    cases j with
    | zero =>
      have e : (⟨gx, 0, none⟩ : Addr).add 0 = ⟨gx, 0, none⟩ := by unfold Addr.add; split <;> simp_all
      rw [e, hz]; simpa using hj
    | succ j => simp at hj
  cases A with
  | none =>
    obtain ⟨rfl, _⟩ := hS.2.2.1 rfl
    refine wpList_append_own w hgd s x 110 ho w.heap.size 3 i0 (.int .i64 0) 1 8 Tryz.underlying110 hi hz0 hz1 hz2 rfl (by decide) (.slice none 0 0) 0 [] hs ⟨rfl, .inl ⟨rfl, rfl⟩⟩ ⟨gx, 0, none⟩ 1 1 [.int .i64 z] hx rfl hnews (by simp [Value.oneCell']) (by unfold maxLen; omega) (by omega) (Nat.le_refl _) ?_
    intro v' w' h1 h2 _
    exact h v' w' h1 ((Below.refl _ _).grown h2 (Nat.le_refl _) fun k hk => by cases hk)
  | some ad =>
    obtain ⟨g, off, rfl, _, hc⟩ := hS.2.2.2 ad rfl
    refine wpList_plain hgd fun K hK => ?_
    have holds : ∀ j v, (l.map Mi.iV)[j]? = some v → w.cell? ((⟨g, off, none⟩ : Addr).add j) = some v := by
      intro j v hj
      have hj' : j < l.length := by
        apply Classical.byContradiction
        intro hn
        rw [List.getElem?_eq_none (by simpa using hn)] at hj; cases hj
      have e : (⟨g, off, none⟩ : Addr).add j = ⟨g, off + j, none⟩ := by simp [Addr.add]
      rw [e, hc j hj', ← hj]
      simp [hj', Mi.iV]
    have hr := run_append_grow (P := Tryz.prog) (w := w) 110 o.type 3 i0 (.int .i64 0) Tryz.underlying110 hi hz0 ⟨g, off, none⟩ l.length l.length (l.map Mi.iV) (by rw [hz1]; simp) holds ⟨gx, 0, none⟩ 1 1 [.int .i64 z] (by rw [hz1]; rfl) hnews (by omega) (by omega) (growslice_fits (by omega) (by rw [hz2]; omega))
    unfold Oper.wp execOp
    simp only [ho, resolve, invoke, builtin, Sem.run_bind, Sem.run_pure, Result.andThen_ok, List.map_toArray, List.map_cons, List.map_nil, hs, hx, hr]
    have hge := grownCap_ge w (l.length + 1) l.length 3
    have hcm : grownCap w (l.length + 1) l.length 3 ≤ maxLen := grownCap_le_maxLen w (l.length + 1) l.length 3 (by unfold maxLen; omega)
    refine hK _ _ (h _ _ ?_ ?_)
    · unfold Mi.Own
      refine ⟨by simp, .inr ⟨w.heap.size, _, _, by rw [List.length_append]; rfl, Nat.le_refl _, heap_alloc_new w.drew _, by rw [List.length_append]; exact hge, hcm, ?_, ?_⟩⟩
      · simp only [Array.size_append, List.size_toArray, size_zeroCells, List.length_map, List.length_cons, List.length_nil, show (Value.int IntKind.i64 0).cells.size = 1 from rfl]
        omega
      · simp only [Array.toList_append, List.append_assoc]
        rw [← List.append_assoc, List.map_append, List.length_append, Nat.mul_one]
        exact List.take_left' (by simp)
    · exact ⟨rfl, rfl, rfl, by simp, fun k hk => heap_alloc_old w.drew _ hk⟩
set_option maxRecDepth 100000 in
set_option maxHeartbeats 4000000 in
theorem Ins_end (A : Option Addr) (l : List Int) (gx : Nat) (z : Int) (W : World) (hS : Hid (Sl W A l.length l)) (hz : Hid (W.cell? ⟨gx, 0, none⟩ = some (.int .i64 z))) (hl : l.length ≤ 1000000) :
    Calls Tryz.prog 96 #[.slice A l.length l.length, .int .i64 (l.length : Int), .slice (some ⟨gx, 0, none⟩) 1 1] W fun e w' => ∃ v, e = .returned v ∧ Hid (Mi.Own w' W.heap.size v (l ++ [z])) ∧ Hid (Below W.heap.size W w') := by
  have HL : Hid (l.length ≤ 1000000000) := by show _ ≤ _; omega
  go_enter Tryz.func96, Tryz.ntmps96
  go_wp2_with (at_builtin; refine appS rfl (.tmp 23) (.tmp 24) rfl A l hS.out rfl gx z rfl hz.out HL.out ?_; intro v1 w1 ho1 hb1; have HO1 := Lib.hid ho1; have HB1 := Lib.hid hb1; clear ho1 hb1)
  go_ret
  exact ⟨_, rfl, HO1, HB1⟩
end Go.Proofs.YtfnlhfelpdkieaaGreat.Se
/- placeOf, has, New. -/
namespace Go.Proofs.YtfnlhfelpdkieaaGreat.Se
open Go.RowKit
open Go.Proofs.YtfnlhfelpdkieaaGreat.Me Go.Proofs.YtfnlhfelpdkieaaGreat.Sb
set_option linter.unusedVariables false
set_option linter.unusedSimpArgs false

theorem mk_map (W : World) : (Instr.makeMap 115 none).run Tryz.prog W = .ok (.map (some W.heap.size)) (W.alloc (.map #[] 0)) := by kernel_rfl
theorem pl_one (o e : Int) : (#[.int .i64 o, .int .i64 e] : Array Value).all (·.oneCell') = true := by simp [Value.oneCell']
set_option maxRecDepth 100000 in
set_option maxHeartbeats 4000000 in
theorem placeOf_any (i : Mg.Id4) (w : World) : Calls Tryz.prog 69 #[.agg (Mg.idC i)] w fun e w' => e = .returned (.agg #[.int .i64 i.o, .int .i64 i.e]) ∧ Hid (Below w.heap.size w w') := by
  obtain ⟨o, d, ee, c⟩ := i
  simp only [Mg.idC]
  have R2 : Hid (((w.alloc (.cells #[.int .i64 o, .int .i64 d, .int .i64 ee, .int .i64 c] 43)).alloc (.cells #[.int .i64 o, .int .i64 ee] 128)).heap[w.heap.size + 1]? = some (.cells #[.int .i64 o, .int .i64 ee] 128 (0, 0))) := by
    have := heap_alloc_new (w.alloc (.cells #[.int .i64 o, .int .i64 d, .int .i64 ee, .int .i64 c] 43)) (.cells #[.int .i64 o, .int .i64 ee] 128)
    rw [World.size_alloc] at this
    exact this
  have HB : Hid (Below w.heap.size w ((w.alloc (.cells #[.int .i64 o, .int .i64 d, .int .i64 ee, .int .i64 c] 43)).alloc (.cells #[.int .i64 o, .int .i64 ee] 128))) := Me.below_alloc (Me.below_alloc (Below.refl _ _))
  go_enter Tryz.func69, Tryz.ntmps69
  go_wp2
  exact ret_box (g := w.heap.size + 1) rfl (by rfl) R2.out rfl Tryz.underlying128 (by kernel_rfl) rfl ⟨rfl, HB.out⟩
set_option maxRecDepth 100000 in
set_option maxHeartbeats 4000000 in
theorem has_any (m : Mk) (t : Bool) (v : Value) (c : Int) (w : World) (hv : Hid (El w t v m)) (hl : Hid (m.more.Pairwise (· < ·))) (hn : m.more.length ≤ 1000000000) : Calls Tryz.prog 94 #[v, .int .i64 c] w fun e w' => e = .returned (.bool (has m c)) ∧ Hid (Below w.heap.size w w') := by
  obtain ⟨A, cp, rfl, _, hS⟩ := hv.out
  obtain ⟨u, l⟩ := m
  simp only at hS hl hn ⊢
  have HB : Hid (Below w.heap.size w (w.alloc (.cells #[.int .i64 u, .slice A l.length cp] 126))) := Me.below_alloc (Below.refl _ _)
  have HS : Hid (Calls Tryz.prog 95 #[.slice A l.length cp, .int .i64 c] (w.alloc (.cells #[.int .i64 u, .slice A l.length cp] 126)) fun e w' => e = .returned (.tuple #[.int .i64 ((lb l c : Nat) : Int), .bool (l.contains c)]) ∧ Hid (Below (w.alloc (.cells #[.int .i64 u, .slice A l.length cp] 126)).heap.size (w.alloc (.cells #[.int .i64 u, .slice A l.length cp] 126)) w')) := Search_any A cp l c _ (hS.keep (Ints.below HB.out)) hl hn
  have HC : Hid (∀ W, Below (w.alloc (.cells #[.int .i64 u, .slice A l.length cp] 126)).heap.size (w.alloc (.cells #[.int .i64 u, .slice A l.length cp] 126)) W → W.cell? ⟨w.heap.size, 0, none⟩ = some (.int .i64 u) ∧ W.cell? ⟨w.heap.size, 1, none⟩ = some (.slice A l.length cp)) := fun W hW => by
    have h := (hW.block w.heap.size (by simp)).trans (heap_alloc_new w _)
    exact ⟨cell_of_row W _ 0 _ _ (0, 0) h, cell_of_row W _ 1 _ _ (0, 0) h⟩
  have hh : has ⟨u, l⟩ c = (l.contains c || decide (c ≤ u)) := rfl
  rw [hh]
  obtain ⟨p, hp⟩ : ∃ p, l.contains c = p := ⟨_, rfl⟩
  obtain ⟨q, hq⟩ : ∃ q, lb l c = q := ⟨_, rfl⟩
  rw [hp, hq] at HS
  rw [hp]
  clear hv hS hh hp hq hl hn
  go_enter Tryz.func94, Tryz.ntmps94
  cases p
  all_goals
    go_wp2_with (go_at_call 95; refine HS.out.mono ?_; rintro e w2 ⟨rfl, hb2⟩; obtain ⟨x0, x1⟩ := HC.out w2 hb2.out)
    go_ret
    exact ⟨by simp, go_on HB.out hb2.out⟩
set_option maxRecDepth 100000 in
set_option maxHeartbeats 4000000 in
theorem New_ok (g : Int) (h0 : 0 ≤ g) (h1 : g ≤ 256) (w : World) : Calls Tryz.prog 24 #[.int .i64 g] w fun e w' => ∃ D b, e = .returned (.tuple #[.pointer (some ⟨D, 0, none⟩), .int .i64 0]) ∧ Set w' true D b 0 ⟨g, 0, fun _ _ => none⟩ ∧ w.heap.size ≤ D ∧ w.heap.size ≤ b ∧ Hid (Below w.heap.size w w') := by
  have hok : Okk ⟨g, 0, fun _ _ => none⟩ := ⟨h0, h1, fun o e m h => (by cases h), h0, [], List.nodup_nil, fun o e => ⟨fun h => absurd rfl h, fun h => absurd h (by simp)⟩, rfl⟩
  have HM := Lib.hid (Mp.made w true)
  have a0 : ¬ g < 0 := by omega
  have a1 : ¬ (256 < g) := by omega
  have HF : Hid (Set ((w.alloc (.map #[] 0)).alloc (.cells #[.int .i64 g, .int .i64 0, .map (some w.heap.size)] 117)) true (w.heap.size + 1) w.heap.size 0 ⟨g, 0, fun _ _ => none⟩) := by
    have hba : Below (w.alloc (.map #[] 0)).heap.size (w.alloc (.map #[] 0)) ((w.alloc (.map #[] 0)).alloc (.cells #[.int .i64 g, .int .i64 0, .map (some w.heap.size)] 117)) := Me.below_alloc (Below.refl _ _)
    have hb := heap_alloc_new (w.alloc (.map #[] 0)) (.cells #[.int .i64 g, .int .i64 0, .map (some w.heap.size)] 117)
    rw [World.size_alloc] at hb
    exact ⟨hb, HM.out.keep (hba.block _ (by simp)) (Ints.below hba), hok⟩
  have HB : Hid (Below w.heap.size w ((w.alloc (.map #[] 0)).alloc (.cells #[.int .i64 g, .int .i64 0, .map (some w.heap.size)] 117))) := Me.below_alloc (Me.below_alloc (Below.refl _ _))
  clear hok h0 h1 HM
  go_enter Tryz.func24, Tryz.ntmps24
  go_wp2_with (simp only [mk_map, Result.andThen_ok])
  go_ret2
  exact ⟨_, rfl, _, HF.out, by omega, Nat.le_refl _, HB.out⟩
end Go.Proofs.YtfnlhfelpdkieaaGreat.Se
/- A counter put into a mark: cut, with. -/
namespace Go.Proofs.YtfnlhfelpdkieaaGreat.Se
open Go.RowKit
open Go.Proofs.YtfnlhfelpdkieaaGreat.Me Go.Proofs.YtfnlhfelpdkieaaGreat.Sb
set_option linter.unusedVariables false
set_option linter.unusedSimpArgs false

def cutA (g n N : Nat) : Option Addr := if n = N then none else some ⟨g, n, none⟩
set_option maxRecDepth 100000 in
set_option maxHeartbeats 4000000 in
theorem cut_any (g N cap n : Nat) (hn : n ≤ N) (hc : N ≤ cap) (W : World) : Calls Tryz.prog 97 #[.slice (some ⟨g, 0, none⟩) N cap, .int .i64 (n : Int)] W fun e w' => e = .returned (.slice (cutA g n N) (N - n) (N - n)) ∧ W = w' := by
  by_cases h : n = N
  · subst h
    have e : ((n : Int) == (n : Int)) = true := by simp
    have hv : cutA g n n = none := by simp [cutA]
    rw [hv, Nat.sub_self]
    go_enter Tryz.func97, Tryz.ntmps97
    go_wp2
    go_ret
    exact ⟨rfl, rfl⟩
  · have e : ((n : Int) == (N : Int)) = false := by simpa using fun h' : (n : Int) = N => h (by omega)
    have hv : cutA g n N = some ⟨g, n, none⟩ := by simp [cutA, h]
    rw [hv]
    have h1 : ¬ N - n = 0 := by omega
    have h2 : (n : Int) ≤ (N : Int) := by omega
    have h3 : (N : Int) ≤ (cap : Int) := by omega
    have h4 : n < N := by omega
    go_enter Tryz.func97, Tryz.ntmps97
    go_wp2
    go_ret
    exact ⟨by simp, rfl⟩
/-- What a with that is handed the Insert's contract does. -/
def InsAt (W : World) (A : Option Addr) (l : List Int) (c : Int) : Prop := ∀ W' gx, Below W.heap.size W W' → W'.cell? ⟨gx, 0, none⟩ = some (.int .i64 c) →
  Calls Tryz.prog 96 #[.slice A l.length l.length, .int .i64 ((lb l c : Nat) : Int), .slice (some ⟨gx, 0, none⟩) 1 1] W' fun e w' => ∃ v, e = .returned v ∧ Hid (Mi.Own w' W'.heap.size v (ins l c)) ∧ Hid (Below W'.heap.size W' w')
theorem insAt_end {W : World} {A : Option Addr} {l : List Int} {c : Int} (hS : Sl W A l.length l) (hl : l.length ≤ 1000000) (he : lb l c = l.length) : InsAt W A l c := fun W' gx hb hz => by
  have := Ins_end A l gx c W' (hS.keep (Ints.below hb)) hz hl
  rw [he]
  have e : ins l c = l ++ [c] := by unfold ins; rw [he]; simp
  rw [e]
  exact this
theorem own_cell {w : World} {B g cp : Nat} {l : List Int} (h : Mi.Own w B (.slice (some ⟨g, 0, none⟩) l.length cp) l) {i : Nat} (hi : i < l.length) : w.cell? ⟨g, i, none⟩ = some (.int .i64 (l.getD i 0)) := by
  have := World.ownsRow.cellAt h i (by simpa using hi)
  rw [this]
  simp [hi, Mi.iV]
theorem own_form {w : World} {B : Nat} {v : Value} {l : List Int} (h : Mi.Own w B v l) (hp : 0 < l.length) : ∃ g cp, v = .slice (some ⟨g, 0, none⟩) l.length cp ∧ l.length ≤ cp ∧ cp ≤ 9223372036854775807 ∧ B ≤ g ∧ g < w.heap.size ∧ ∃ cur, w.heap[g]? = some (.cells cur 3 (0, 0)) := by
  rcases h.2 with ⟨_, h2⟩ | ⟨g, cap, cur, h1, h2, h3, h4, h5, h6, h7⟩
  · have : l = [] := by simpa using h2
    subst this; simp at hp
  · exact ⟨g, cap, h1, h4, by unfold maxLen at h5; omega, h2, (Array.getElem?_eq_some_iff.1 h3).1, cur, h3⟩
theorem cut_sl {W : World} {g N R : Nat} {L : List Int} {cur : Array Value} (hl : L.length = N) (hN : N ≤ 65537) (hR : R ≤ N) (hb : W.heap[g]? = some (.cells cur 3 (0, 0))) (hc : ∀ i, i < N → W.cell? ⟨g, i, none⟩ = some (.int .i64 (L.getD i 0))) : Sl W (cutA g R N) (N - R) (L.drop R) := by
  refine ⟨by simp [hl], ?_, ?_, ?_⟩
  · omega
  · intro h
    unfold cutA at h
    split at h
    · rename_i e
      exact ⟨List.drop_eq_nil_of_le (by omega), by omega⟩
    · cases h
  · intro a h
    unfold cutA at h
    split at h
    · cases h
    · cases h
      refine ⟨g, R, rfl, ⟨cur, hb⟩, fun i hi => ?_⟩
      rw [List.length_drop] at hi
      rw [hc (R + i) (by omega)]
      simp
theorem mk_el {W : World} {u : Int} {l L : List Int} {c : Int} {g N R : Nat} (hw : wth ⟨u, l⟩ c = ⟨u + (R : Nat), L.drop R⟩) (hl : L.length = N) (hs : Sl W (cutA g R N) (N - R) (L.drop R)) : El W true (.agg #[.int .i64 (u + (R : Int)), .slice (cutA g R N) (N - R) (N - R)]) (wth ⟨u, l⟩ c) := by
  rw [hw]
  have e : (L.drop R).length = N - R := by simp [hl]
  exact ⟨cutA g R N, N - R, by simp only [e], fun _ => e.symm, hs⟩
theorem mk_one (u : Int) (A : Option Addr) (n c : Nat) : (#[.int .i64 u, .slice A n c] : Array Value).all (·.oneCell') = true := by simp [Value.oneCell']
set_option maxRecDepth 100000 in
set_option maxHeartbeats 8000000 in
theorem with_any (m : Mk) (v : Value) (c : Int) (w : World) (hv : Hid (El w true v m)) (ho : Ok m) (hh : has m c = false) (hc : c ≤ 65535) (hn : m.more.length ≤ 65536) (HI : Hid (∀ A, Sl w A m.more.length m.more → InsAt w A m.more c)) :
    Calls Tryz.prog 70 #[v, .int .i64 c] w fun e w' => ∃ v', e = .returned v' ∧ Hid (El w' true v' (wth m c)) ∧ Hid (Below w.heap.size w w') := by
  obtain ⟨A, cp, rfl, ht, hS⟩ := hv.out
  obtain rfl : cp = m.more.length := ht rfl
  obtain ⟨u, l⟩ := m
  simp only at hS hn ht HI ⊢
  have hA := HI.out A hS
  obtain ⟨W1, hW1⟩ : ∃ W, w.alloc (.cells #[.int .i64 u, .slice A l.length l.length] 126) = W := ⟨_, rfl⟩
  obtain ⟨W2, hW2⟩ : ∃ W, W1.alloc (.cells #[.int .i64 0, .slice none 0 0] 126) = W := ⟨_, rfl⟩
  have b1 : Below w.heap.size w W1 := by rw [← hW1]; exact Me.below_alloc (Below.refl _ _)
  have z1 : W1.heap.size = w.heap.size + 1 := by rw [← hW1]; simp
  have b2 : Below w.heap.size w W2 := by rw [← hW2]; exact Me.below_alloc b1
  have z2 : W2.heap.size = w.heap.size + 1 + 1 := by rw [← hW2, World.size_alloc, z1]
  have r1 : W2.heap[w.heap.size]? = some (.cells #[.int .i64 u, .slice A l.length l.length] 126 (0, 0)) := by
    rw [← hW2, Below.heap_alloc _ _ _ (by omega), ← hW1]
    exact heap_alloc_new w _
  have r2 : W2.heap[w.heap.size + 1]? = some (.cells #[.int .i64 0, .slice none 0 0] 126 (0, 0)) := by
    rw [← hW2, ← z1]
    exact heap_alloc_new W1 _
  have HW : Hid ((w.alloc (.cells #[.int .i64 u, .slice A l.length l.length] 126)).alloc (.cells #[.int .i64 0, .slice none 0 0] 126) = W2) := by show _ = _; rw [hW1, hW2]
  have HBs := Lib.hid (Search_any A l.length l c W2 (hS.keep (Ints.below b2)) ho.lt (by omega))
  have HC : Hid (∀ W, Below W2.heap.size W2 W → W.cell? ⟨w.heap.size, 0, none⟩ = some (.int .i64 u) ∧ W.cell? ⟨w.heap.size, 1, none⟩ = some (.slice A l.length l.length) ∧ W.heap[w.heap.size + 1]? = some (.cells #[.int .i64 0, .slice none 0 0] 126 (0, 0)) ∧ Below w.heap.size w W) := fun W hW => by
    have h := (hW.block w.heap.size (by omega)).trans r1
    exact ⟨cell_of_row W _ 0 _ _ (0, 0) h, cell_of_row W _ 1 _ _ (0, 0) h, (hW.block _ (by omega)).trans r2, b2.trans (hW.mono b2.size)⟩
  have HIn : Hid (∀ W gx, Below W2.heap.size W2 W → W.cell? ⟨gx, 0, none⟩ = some (.int .i64 c) → Calls Tryz.prog 96 #[.slice A l.length l.length, .int .i64 ((lb l c : Nat) : Int), .slice (some ⟨gx, 0, none⟩) 1 1] W fun e w' => ∃ v, e = .returned v ∧ Hid (Mi.Own w' W.heap.size v (ins l c)) ∧ Hid (Below W.heap.size W w')) := fun W gx hb hz => hA W gx (b2.trans (hb.mono b2.size)) hz
  have hlen : (ins l c).length = l.length + 1 := ins_len l c
  have hu0 : 0 ≤ u := ho.u0
  have hu1 : u ≤ 65535 := ho.u1
  have hrun : run u (ins l c) ≤ (ins l c).length := run_le _ _
  have hat := run_at (ins l c) u
  have hval : ∀ i, i < (ins l c).length → (ins l c).getD i 0 ≤ 65535 ∧ 0 ≤ (ins l c).getD i 0 := fun i hi => by
    have hm : (ins l c).getD i 0 ∈ ins l c := by
      have : (ins l c).getD i 0 = (ins l c)[i] := by simp [hi]
      rw [this]; exact List.getElem_mem hi
    unfold has at hh
    rw [Bool.or_eq_false_iff] at hh
    have hcu : ¬ c ≤ u := by simpa using hh.2
    rcases mem_ins.1 hm with e | e
    · rw [e]; omega
    · have hg : u + 2 ≤ (ins l c).getD i 0 ∧ (ins l c).getD i 0 ≤ 65535 := ho.gap _ e; omega
  have HWT : Hid (wth ⟨u, l⟩ c = ⟨u + (run u (ins l c) : Nat), (ins l c).drop (run u (ins l c))⟩) := rfl
  obtain ⟨q, hq⟩ : ∃ q, lb l c = q := ⟨_, rfl⟩
  obtain ⟨L, hL⟩ : ∃ L, ins l c = L := ⟨_, rfl⟩
  rw [hq] at HBs HIn
  rw [hL] at HIn hlen hrun hat hval HWT
  obtain ⟨R, hR⟩ : ∃ R, run u L = R := ⟨_, rfl⟩
  simp only [hR] at hrun hat HWT
  have HL : Hid (∃ p, l.contains c = p) := ⟨_, rfl⟩
  obtain ⟨p, hp⟩ := HL.out
  rw [hp] at HBs
  clear hv ht hS HI hA hW1 hW2 b1 z1 b2 r1 r2 hh hc hp HL hq hL hR ho
  go_enter Tryz.func70, Tryz.ntmps70
  go_wp2_with (first
    | (go_at_call 95; rw [HW.out]; refine HBs.out.mono ?_; rintro e w3 ⟨rfl, hb3⟩; obtain ⟨x0, x1, x2, x3⟩ := HC.out w3 hb3.out; clear x2 x3)
    | (go_at_call 96; refine (HIn.out _ _ (Me.below_alloc hb3.out) (cell_of_row _ _ 0 _ _ (0, 0) (heap_alloc_new w3 _))).mono ?_; rintro e w4 ⟨v4, rfl, HO4, HB4⟩))
  obtain ⟨g, cp, rfl, p1, p2, p3, p4, cur, p5⟩ := own_form HO4.out (by omega)
  obtain ⟨N, hN⟩ : ∃ N, L.length = N := ⟨_, rfl⟩
  have HLN := Lib.hid hN
  have hNb : N ≤ 65537 := by omega
  have hB4 : Below W2.heap.size W2 w4 := (Me.below_alloc hb3.out).trans (HB4.out.mono (Me.below_alloc (o := .cells #[.int .i64 c] 3) hb3.out).size)
  have HV : Hid (∀ W, Below w4.heap.size w4 W → W.cell? ⟨w.heap.size, 0, none⟩ = some (.int .i64 u) ∧ W.heap[w.heap.size + 1]? = some (.cells #[.int .i64 0, .slice none 0 0] 126 (0, 0)) ∧ Below w.heap.size w W ∧ (∀ i, i < N → W.cell? ⟨g, i, none⟩ = some (.int .i64 (L.getD i 0))) ∧ W.heap[g]? = some (.cells cur 3 (0, 0))) := fun W hW => by
    obtain ⟨x0, _, x2, x3⟩ := HC.out W (hB4.trans (hW.mono hB4.size))
    exact ⟨x0, x2, x3, fun i hi => (hW.cell (p := ⟨g, i, none⟩) p4).trans (own_cell HO4.out (by omega)), (hW.block g p4).trans p5⟩
  have HG : Hid (w.heap.size + 2 ≤ g) := by show _ ≤ _; have := hb3.out.size; simp at p3; omega
  have hp1 : N ≤ cp := by omega
  have HCut := Lib.hid (fun W => cut_any g N cp R (by omega) hp1 W)
  have hRb : (R : Int) ≤ 65537 := by omega
  have HWr : Hid (IntKind.i64.wrap (u + (R : Int)) = u + (R : Int)) := Mi.fits' (Mi.small (by omega) (by omega))
  simp only [hN] at hat hval hrun p1 ⊢
  clear x0 x1 hB4 p3 p4 p5 HO4 HB4 hb3 HBs HIn HC HW z2 hlen hN
  go_loopw [8] (fun i wr => ∃ k : Nat, i = .int .i64 (k : Int) ∧ k ≤ R ∧ Hid (Below w4.heap.size w4 wr)) (fun i _ => N - (intOf i).toNat)
  case atStart => exact ⟨0, rfl, Nat.zero_le _, Below.refl _ _⟩
  case round =>
    obtain ⟨k, rfl, hk, HBr⟩ := hrel
    obtain ⟨y0, y1, y2, y3, y4⟩ := HV.out wr HBr.out
    by_cases hlt : k < N
    · have yk := y3 k hlt
      obtain ⟨e1, e2⟩ := hval k hlt
      have ha := hat k (by omega) hlt
      obtain ⟨x, hx⟩ : ∃ x, L.getD k 0 = x := ⟨_, rfl⟩
      rw [hx] at yk e1 e2 ha
      have g1 : (k : Int) < (N : Int) := by omega
      by_cases hkR : k < R
      · have hx2 := ha.1 hkR
        have g2 : (x == u + 1 + (k : Int)) = true := by simp; omega
        clear y1 y2 y3 y4 hx ha hat hval HV
        go_wp2
        go_quiet (fail)
        go_wp2
        go_roundw
        case rel => exact ⟨k + 1, by go_num, by omega, Me.below_drewN HBr.out _⟩
        case measure => simp [intOf]; omega
      · have hx2 : ¬ x = u + 1 + (k : Int) := fun h => hkR (ha.2 h)
        have g2 : (x == u + 1 + (k : Int)) = false := by simpa using hx2
        obtain rfl : R = k := by omega
        clear y1 y2 y3 y4 hx ha hat hval hkR hx2
        go_wp2
        go_quiet (fail)
        go_wp2
        obtain ⟨V, hVe⟩ : ∃ V, wr.drewN nq = V := ⟨_, rfl⟩
        have hVB : Below w4.heap.size w4 V := by rw [← hVe]; exact Me.below_drewN HBr.out _
        rw [hVe]
        obtain ⟨y0, y2, y3, y4, y5⟩ := HV.out V hVB
        have S0 : V.drew.cell? ⟨w.heap.size, 0, none⟩ = some (.int .i64 u) := y0
        clear hVe y0
        refine wp_region_held_drew (S := fun W : World => W.cell? ⟨w.heap.size, 0, none⟩ = some (.int .i64 u)) (by kernel_rfl) S0 (fun hHeld => ?_)
        refine wpAnyH_take (i := 0) (v := .pointer (some ⟨w.heap.size, 0, none⟩)) rfl (by kernel_rfl) (by kernel_rfl) (by kernel_rfl) (fun _ _ _ h => h) (Or.inl ⟨by rfl, ?_⟩) (by first | assumption | exact trivial) ?_
        · intro W hSW; go_simp; try (with_reducible rfl)
        simp only [Act.put, List.getElem_toArray, List.getElem_cons_succ, List.getElem_cons_zero, List.setIfInBounds_toArray, List.set_cons_zero, List.set_cons_succ]
        refine wpAnyH_take (i := 1) (v := .int .i64 u) rfl (by kernel_rfl) (by kernel_rfl) (by kernel_rfl) (fun _ _ _ h => h) (Or.inl ⟨by rfl, ?_⟩) (by first | assumption | exact trivial) ?_
        · intro W hSW; have y0 := hSW; go_simp; try (with_reducible rfl)
        simp only [Act.put, List.getElem_toArray, List.getElem_cons_succ, List.getElem_cons_zero, List.setIfInBounds_toArray, List.set_cons_zero, List.set_cons_succ]
        refine wpAnyH_take (i := 2) (v := .int .i64 (R : Int)) rfl (by kernel_rfl) (by kernel_rfl) (by kernel_rfl) (fun _ _ _ h => h) (Or.inl ⟨by rfl, ?_⟩) (by first | assumption | exact trivial) ?_
        · intro W hSW; go_simp; try (with_reducible rfl)
        simp only [Act.put, List.getElem_toArray, List.getElem_cons_succ, List.getElem_cons_zero, List.setIfInBounds_toArray, List.set_cons_zero, List.set_cons_succ]
        refine wpAnyH_take (i := 3) (v := .int .i64 (u + (R : Int))) rfl (by kernel_rfl) (by kernel_rfl) (by kernel_rfl) (fun _ _ _ h => h) (Or.inl ⟨by rfl, ?_⟩) (by first | assumption | exact trivial) ?_
        · intro W hSW; have hwr := HWr.out; go_simp; try (with_reducible rfl)
        simp only [Act.put, List.getElem_toArray, List.getElem_cons_succ, List.getElem_cons_zero, List.setIfInBounds_toArray, List.set_cons_zero, List.set_cons_succ]
        refine wpAnyH_take (i := 4) (v := .slice (some ⟨g, 0, none⟩) N cp) rfl (by kernel_rfl) (by kernel_rfl) (by kernel_rfl) (fun _ _ _ h => h) (Or.inl ⟨by rfl, ?_⟩) (by first | assumption | exact trivial) ?_
        · intro W hSW; go_simp; try (with_reducible rfl)
        simp only [Act.put, List.getElem_toArray, List.getElem_cons_succ, List.getElem_cons_zero, List.setIfInBounds_toArray, List.set_cons_zero, List.set_cons_succ]
        refine wpAnyH_take (i := 5) (v := .int .i64 (R : Int)) rfl (by kernel_rfl) (by kernel_rfl) (by kernel_rfl) (fun _ _ _ h => h) (Or.inl ⟨by rfl, ?_⟩) (by first | assumption | exact trivial) ?_
        · intro W hSW; go_simp; try (with_reducible rfl)
        simp only [Act.put, List.getElem_toArray, List.getElem_cons_succ, List.getElem_cons_zero, List.setIfInBounds_toArray, List.set_cons_zero, List.set_cons_succ]
        refine wpAnyH_ready (rs := [6]) (by kernel_rfl) (by simp) ?_
        refine AllReadyH.cons rfl (fun K hK => ?_) AllReadyH.nil
        go_simp
        go_wp2_with (go_at_call 97; refine (HCut.out _).mono ?_; rintro e w' ⟨rfl, rfl⟩)
        refine hK.out _ _ (S0) (fun hHeld => ?_)
        clear hK K
        refine wpAnyH_take (i := 7) (v := .agg #[.int .i64 (u + (R : Int)), .slice (cutA g R N) (N - R) (N - R)]) rfl (by kernel_rfl) (by kernel_rfl) (by kernel_rfl) (fun _ _ _ h => h) (Or.inl ⟨by rfl, ?_⟩) (by first | assumption | exact trivial) ?_
        · intro W hSW; go_simp; try (with_reducible rfl)
        simp only [Act.put, List.getElem_toArray, List.getElem_cons_succ, List.getElem_cons_zero, List.setIfInBounds_toArray, List.set_cons_zero, List.set_cons_succ]
        refine wpAnyH_ready (rs := [8]) (by kernel_rfl) (by simp) ?_
        refine AllReadyH.cons rfl (fun K hK => ?_) AllReadyH.nil
        rw [if_pos (by kernel_rfl)]
        refine wp_store_row 126 (.tmp 4) (.tmp 47) rfl (w.heap.size + 1) #[.int .i64 (u + (R : Int)), .slice (cutA g R N) (N - R) (N - R)] rfl (by rfl) 126 _ y2 (by kernel_rfl) rfl (mk_one _ _ _ _) ?_
        simp only [Act.put, List.getElem_toArray, List.getElem_cons_succ, List.getElem_cons_zero, List.setIfInBounds_toArray, List.set_cons_zero, List.set_cons_succ]
        obtain ⟨V9, hV9⟩ : ∃ X, V.drew.setRow (w.heap.size + 1) #[.int .i64 (u + (R : Int)), .slice (cutA g R N) (N - R) (N - R)] = X := ⟨_, rfl⟩
        have q0 : V9.heap[w.heap.size + 1]? = some (.cells #[.int .i64 (u + (R : Int)), .slice (cutA g R N) (N - R) (N - R)] 126 (0, 0)) := by rw [← hV9]; exact setRow_heap _ _ _ _ _ _ y2
        have q1 : ∀ k, k ≠ w.heap.size + 1 → V9.heap[k]? = V.heap[k]? := fun k hk => by rw [← hV9]; exact setRow_other _ _ k _ hk
        have q2 : Below w.heap.size w V9 := by rw [← hV9]; exact Sb.below_setRow _ y3.drew (by omega)
        rw [hV9]
        refine hK.out _ _ (((World.cell?_of_block (w := V) (a := ⟨w.heap.size, 0, none⟩) (q1 w.heap.size (by omega))).trans S0)) (fun hHeld => ?_)
        clear hK K
        refine wpAnyH_done (by kernel_rfl) ?_ _
        have q3 : V9.heap[g]? = V.heap[g]? := q1 g (by have := HG.out; omega)
        have q4 := cut_sl (W := V9) HLN.out hNb hrun (q3.trans y5) (fun i hi => (World.cell?_of_block (w := V) (a := ⟨g, i, none⟩) q3).trans (y4 i hi))
        go_wp2
        exact ret_box (g := w.heap.size + 1) rfl (by rfl) q0 rfl Tryz.underlying126 (by kernel_rfl) rfl ⟨_, rfl, mk_el HWT.out HLN.out q4, q2⟩
    · have g1 : ¬ (k : Int) < (N : Int) := by omega
      obtain rfl : R = k := by omega
      clear y1 y2 y3 y4 hat hval
      go_wp2
      go_quiet (fail)
      go_wp2
      obtain ⟨V, hVe⟩ : ∃ V, wr.drewN nq = V := ⟨_, rfl⟩
      have hVB : Below w4.heap.size w4 V := by rw [← hVe]; exact Me.below_drewN HBr.out _
      rw [hVe]
      obtain ⟨y0, y2, y3, y4, y5⟩ := HV.out V hVB
      have S0 : V.drew.cell? ⟨w.heap.size, 0, none⟩ = some (.int .i64 u) := y0
      clear hVe y0
      refine wp_region_held_drew (S := fun W : World => W.cell? ⟨w.heap.size, 0, none⟩ = some (.int .i64 u)) (by kernel_rfl) S0 (fun hHeld => ?_)
      refine wpAnyH_take (i := 0) (v := .pointer (some ⟨w.heap.size, 0, none⟩)) rfl (by kernel_rfl) (by kernel_rfl) (by kernel_rfl) (fun _ _ _ h => h) (Or.inl ⟨by rfl, ?_⟩) (by first | assumption | exact trivial) ?_
      · intro W hSW; go_simp; try (with_reducible rfl)
      simp only [Act.put, List.getElem_toArray, List.getElem_cons_succ, List.getElem_cons_zero, List.setIfInBounds_toArray, List.set_cons_zero, List.set_cons_succ]
      refine wpAnyH_take (i := 1) (v := .int .i64 u) rfl (by kernel_rfl) (by kernel_rfl) (by kernel_rfl) (fun _ _ _ h => h) (Or.inl ⟨by rfl, ?_⟩) (by first | assumption | exact trivial) ?_
      · intro W hSW; have y0 := hSW; go_simp; try (with_reducible rfl)
      simp only [Act.put, List.getElem_toArray, List.getElem_cons_succ, List.getElem_cons_zero, List.setIfInBounds_toArray, List.set_cons_zero, List.set_cons_succ]
      refine wpAnyH_take (i := 2) (v := .int .i64 (R : Int)) rfl (by kernel_rfl) (by kernel_rfl) (by kernel_rfl) (fun _ _ _ h => h) (Or.inl ⟨by rfl, ?_⟩) (by first | assumption | exact trivial) ?_
      · intro W hSW; go_simp; try (with_reducible rfl)
      simp only [Act.put, List.getElem_toArray, List.getElem_cons_succ, List.getElem_cons_zero, List.setIfInBounds_toArray, List.set_cons_zero, List.set_cons_succ]
      refine wpAnyH_take (i := 3) (v := .int .i64 (u + (R : Int))) rfl (by kernel_rfl) (by kernel_rfl) (by kernel_rfl) (fun _ _ _ h => h) (Or.inl ⟨by rfl, ?_⟩) (by first | assumption | exact trivial) ?_
      · intro W hSW; have hwr := HWr.out; go_simp; try (with_reducible rfl)
      simp only [Act.put, List.getElem_toArray, List.getElem_cons_succ, List.getElem_cons_zero, List.setIfInBounds_toArray, List.set_cons_zero, List.set_cons_succ]
      refine wpAnyH_take (i := 4) (v := .slice (some ⟨g, 0, none⟩) N cp) rfl (by kernel_rfl) (by kernel_rfl) (by kernel_rfl) (fun _ _ _ h => h) (Or.inl ⟨by rfl, ?_⟩) (by first | assumption | exact trivial) ?_
      · intro W hSW; go_simp; try (with_reducible rfl)
      simp only [Act.put, List.getElem_toArray, List.getElem_cons_succ, List.getElem_cons_zero, List.setIfInBounds_toArray, List.set_cons_zero, List.set_cons_succ]
      refine wpAnyH_take (i := 5) (v := .int .i64 (R : Int)) rfl (by kernel_rfl) (by kernel_rfl) (by kernel_rfl) (fun _ _ _ h => h) (Or.inl ⟨by rfl, ?_⟩) (by first | assumption | exact trivial) ?_
      · intro W hSW; go_simp; try (with_reducible rfl)
      simp only [Act.put, List.getElem_toArray, List.getElem_cons_succ, List.getElem_cons_zero, List.setIfInBounds_toArray, List.set_cons_zero, List.set_cons_succ]
      refine wpAnyH_ready (rs := [6]) (by kernel_rfl) (by simp) ?_
      refine AllReadyH.cons rfl (fun K hK => ?_) AllReadyH.nil
      go_simp
      go_wp2_with (go_at_call 97; refine (HCut.out _).mono ?_; rintro e w' ⟨rfl, rfl⟩)
      refine hK.out _ _ (S0) (fun hHeld => ?_)
      clear hK K
      refine wpAnyH_take (i := 7) (v := .agg #[.int .i64 (u + (R : Int)), .slice (cutA g R N) (N - R) (N - R)]) rfl (by kernel_rfl) (by kernel_rfl) (by kernel_rfl) (fun _ _ _ h => h) (Or.inl ⟨by rfl, ?_⟩) (by first | assumption | exact trivial) ?_
      · intro W hSW; go_simp; try (with_reducible rfl)
      simp only [Act.put, List.getElem_toArray, List.getElem_cons_succ, List.getElem_cons_zero, List.setIfInBounds_toArray, List.set_cons_zero, List.set_cons_succ]
      refine wpAnyH_ready (rs := [8]) (by kernel_rfl) (by simp) ?_
      refine AllReadyH.cons rfl (fun K hK => ?_) AllReadyH.nil
      rw [if_pos (by kernel_rfl)]
      refine wp_store_row 126 (.tmp 4) (.tmp 47) rfl (w.heap.size + 1) #[.int .i64 (u + (R : Int)), .slice (cutA g R N) (N - R) (N - R)] rfl (by rfl) 126 _ y2 (by kernel_rfl) rfl (mk_one _ _ _ _) ?_
      simp only [Act.put, List.getElem_toArray, List.getElem_cons_succ, List.getElem_cons_zero, List.setIfInBounds_toArray, List.set_cons_zero, List.set_cons_succ]
      obtain ⟨V9, hV9⟩ : ∃ X, V.drew.setRow (w.heap.size + 1) #[.int .i64 (u + (R : Int)), .slice (cutA g R N) (N - R) (N - R)] = X := ⟨_, rfl⟩
      have q0 : V9.heap[w.heap.size + 1]? = some (.cells #[.int .i64 (u + (R : Int)), .slice (cutA g R N) (N - R) (N - R)] 126 (0, 0)) := by rw [← hV9]; exact setRow_heap _ _ _ _ _ _ y2
      have q1 : ∀ k, k ≠ w.heap.size + 1 → V9.heap[k]? = V.heap[k]? := fun k hk => by rw [← hV9]; exact setRow_other _ _ k _ hk
      have q2 : Below w.heap.size w V9 := by rw [← hV9]; exact Sb.below_setRow _ y3.drew (by omega)
      rw [hV9]
      refine hK.out _ _ (((World.cell?_of_block (w := V) (a := ⟨w.heap.size, 0, none⟩) (q1 w.heap.size (by omega))).trans S0)) (fun hHeld => ?_)
      clear hK K
      refine wpAnyH_done (by kernel_rfl) ?_ _
      have q3 : V9.heap[g]? = V.heap[g]? := q1 g (by have := HG.out; omega)
      have q4 := cut_sl (W := V9) HLN.out hNb hrun (q3.trans y5) (fun i hi => (World.cell?_of_block (w := V) (a := ⟨g, i, none⟩) q3).trans (y4 i hi))
      go_wp2
      exact ret_box (g := w.heap.size + 1) rfl (by rfl) q0 rfl Tryz.underlying126 (by kernel_rfl) rfl ⟨_, rfl, mk_el HWT.out HLN.out q4, q2⟩
end Go.Proofs.YtfnlhfelpdkieaaGreat.Se
