/- placeOf, has, New. -/
import Derived.Test.YtpofdimagfldnaaSeIns
namespace Go.Proofs.Ytpofdimagfldnaa.Se
open Go.RowKit
open Go.Proofs.Ytpofdimagfldnaa.Me Go.Proofs.Ytpofdimagfldnaa.Sb
set_option linter.unusedVariables false
set_option linter.unusedSimpArgs false

theorem mk_map (W : World) : (Instr.makeMap 122 none).run Try.prog W = .ok (.map (some W.heap.size)) (W.alloc (.map #[] 0)) := by kernel_rfl
theorem pl_one (o e : Int) : (#[.int .i64 o, .int .i64 e] : Array Value).all (·.oneCell') = true := by simp [Value.oneCell']
set_option maxRecDepth 100000 in
set_option maxHeartbeats 4000000 in
theorem placeOf_any (i : Mg.Id4) (w : World) : Calls Try.prog 68 #[.agg (Mg.idC i)] w fun e w' => e = .returned (.agg #[.int .i64 i.o, .int .i64 i.e]) ∧ Hid (Below w.heap.size w w') := by
  obtain ⟨o, d, ee, c⟩ := i
  simp only [Mg.idC]
  have R2 : Hid (((w.alloc (.cells #[.int .i64 o, .int .i64 d, .int .i64 ee, .int .i64 c] 28)).alloc (.cells #[.int .i64 o, .int .i64 ee] 126)).heap[w.heap.size + 1]? = some (.cells #[.int .i64 o, .int .i64 ee] 126 (0, 0))) := by
    have := heap_alloc_new (w.alloc (.cells #[.int .i64 o, .int .i64 d, .int .i64 ee, .int .i64 c] 28)) (.cells #[.int .i64 o, .int .i64 ee] 126)
    rw [World.size_alloc] at this
    exact this
  have HB : Hid (Below w.heap.size w ((w.alloc (.cells #[.int .i64 o, .int .i64 d, .int .i64 ee, .int .i64 c] 28)).alloc (.cells #[.int .i64 o, .int .i64 ee] 126))) := Me.below_alloc (Me.below_alloc (Below.refl _ _))
  go_enter Try.func68, Try.ntmps68
  go_wp2
  exact ret_box (g := w.heap.size + 1) rfl (by rfl) R2.out rfl Try.underlying126 (by kernel_rfl) rfl ⟨rfl, HB.out⟩
set_option maxRecDepth 100000 in
set_option maxHeartbeats 4000000 in
theorem has_any (m : Mk) (t : Bool) (v : Value) (c : Int) (w : World) (hv : Hid (El w t v m)) (hl : Hid (m.more.Pairwise (· < ·))) (hn : m.more.length ≤ 1000000000) : Calls Try.prog 69 #[v, .int .i64 c] w fun e w' => e = .returned (.bool (has m c)) ∧ Hid (Below w.heap.size w w') := by
  obtain ⟨A, cp, rfl, _, hS⟩ := hv.out
  obtain ⟨u, l⟩ := m
  simp only at hS hl hn ⊢
  have HB : Hid (Below w.heap.size w (w.alloc (.cells #[.int .i64 u, .slice A l.length cp] 121))) := Me.below_alloc (Below.refl _ _)
  have HS : Hid (Calls Try.prog 96 #[.slice A l.length cp, .int .i64 c] (w.alloc (.cells #[.int .i64 u, .slice A l.length cp] 121)) fun e w' => e = .returned (.tuple #[.int .i64 ((lb l c : Nat) : Int), .bool (l.contains c)]) ∧ Hid (Below (w.alloc (.cells #[.int .i64 u, .slice A l.length cp] 121)).heap.size (w.alloc (.cells #[.int .i64 u, .slice A l.length cp] 121)) w')) := Search_any A cp l c _ (hS.keep (Ints.below HB.out)) hl hn
  have HC : Hid (∀ W, Below (w.alloc (.cells #[.int .i64 u, .slice A l.length cp] 121)).heap.size (w.alloc (.cells #[.int .i64 u, .slice A l.length cp] 121)) W → W.cell? ⟨w.heap.size, 0, none⟩ = some (.int .i64 u) ∧ W.cell? ⟨w.heap.size, 1, none⟩ = some (.slice A l.length cp)) := fun W hW => by
    have h := (hW.block w.heap.size (by simp)).trans (heap_alloc_new w _)
    exact ⟨cell_of_row W _ 0 _ _ (0, 0) h, cell_of_row W _ 1 _ _ (0, 0) h⟩
  have hh : has ⟨u, l⟩ c = (l.contains c || decide (c ≤ u)) := rfl
  rw [hh]
  obtain ⟨p, hp⟩ : ∃ p, l.contains c = p := ⟨_, rfl⟩
  obtain ⟨q, hq⟩ : ∃ q, lb l c = q := ⟨_, rfl⟩
  rw [hp, hq] at HS
  rw [hp]
  clear hv hS hh hp hq hl hn
  go_enter Try.func69, Try.ntmps69
  cases p
  all_goals
    go_wp2_with (go_at_call 96; refine HS.out.mono ?_; rintro e w2 ⟨rfl, hb2⟩; obtain ⟨x0, x1⟩ := HC.out w2 hb2.out)
    go_ret
    exact ⟨by simp, go_on HB.out hb2.out⟩
set_option maxRecDepth 100000 in
set_option maxHeartbeats 4000000 in
theorem New_ok (g : Int) (h0 : 0 ≤ g) (h1 : g ≤ 256) (w : World) : Calls Try.prog 45 #[.int .i64 g] w fun e w' => ∃ D b, e = .returned (.tuple #[.pointer (some ⟨D, 0, none⟩), .int .i64 0]) ∧ Set w' true D b 0 ⟨g, 0, fun _ _ => none⟩ ∧ w.heap.size ≤ D ∧ w.heap.size ≤ b ∧ Hid (Below w.heap.size w w') := by
  have hok : Okk ⟨g, 0, fun _ _ => none⟩ := ⟨h0, h1, fun o e m h => (by cases h), h0, [], List.nodup_nil, fun o e => ⟨fun h => absurd rfl h, fun h => absurd h (by simp)⟩, rfl⟩
  have HM := Lib.hid (Mp.made w true)
  have a0 : ¬ g < 0 := by omega
  have a1 : ¬ (256 < g) := by omega
  have HF : Hid (Set ((w.alloc (.map #[] 0)).alloc (.cells #[.int .i64 g, .int .i64 0, .map (some w.heap.size)] 124)) true (w.heap.size + 1) w.heap.size 0 ⟨g, 0, fun _ _ => none⟩) := by
    have hba : Below (w.alloc (.map #[] 0)).heap.size (w.alloc (.map #[] 0)) ((w.alloc (.map #[] 0)).alloc (.cells #[.int .i64 g, .int .i64 0, .map (some w.heap.size)] 124)) := Me.below_alloc (Below.refl _ _)
    have hb := heap_alloc_new (w.alloc (.map #[] 0)) (.cells #[.int .i64 g, .int .i64 0, .map (some w.heap.size)] 124)
    rw [World.size_alloc] at hb
    exact ⟨hb, HM.out.keep (hba.block _ (by simp)) (Ints.below hba), hok⟩
  have HB : Hid (Below w.heap.size w ((w.alloc (.map #[] 0)).alloc (.cells #[.int .i64 g, .int .i64 0, .map (some w.heap.size)] 124))) := Me.below_alloc (Me.below_alloc (Below.refl _ _))
  clear hok h0 h1 HM
  go_enter Try.func45, Try.ntmps45
  go_wp2_with (simp only [mk_map, Result.andThen_ok])
  go_ret2
  exact ⟨_, rfl, _, HF.out, by omega, Nat.le_refl _, HB.out⟩
end Go.Proofs.Ytpofdimagfldnaa.Se
