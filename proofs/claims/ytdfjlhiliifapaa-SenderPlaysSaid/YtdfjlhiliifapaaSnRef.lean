/- The contracts of the reference's sender. -/
import Derived.Test.YtdfjlhiliifapaaSnUnder
import Derived.Laws.ResultCell
import Derived.Laws.Tables
namespace Go.Proofs.Ytdfjlhiliifapaa.Sn
open Go.RowKit
open Go.Proofs.Ytdfjlhiliifapaa.Me Go.Proofs.Ytdfjlhiliifapaa.Hd
set_option linter.unusedVariables false
set_option linter.unusedSimpArgs false

theorem app8x {w0 w : World} {o : Oper} {a : Act} {K : Act → World → Prop} {Q : Exit → Act → World → Prop} (s x : Operand)
    (ho : o.op = .call { callee := .builtin .append, args := #[s, x], argTypes := #[36, 36] })
    (B Bx : Nat) (v : Value) (l r : List Nat) (hs : a.eval s = v) (hown : Me.Own w B v l) (hb : Below B w0 w) (hB : B ≤ w.heap.size)
    (ad : Addr) (c : Nat) (hx : a.eval x = .slice (some ad) r.length c) (hr : Me.Rd w Bx (some ad) r) (hlen : l.length + r.length ≤ 140737488355328)
    (h : ∀ v' w', Me.Own w' B v' (l ++ r) → Below B w0 w' → K (a.put o.dst v') w') : o.wp Try.prog a w K Q := by
  obtain ⟨i0, hi, hz0, hz1, hz2⟩ := info_parts info8
  refine wp_append_own w s x 36 ho B 5 i0 (.int .u8 0) 1 1 Try.underlying36 hi hz0 hz1 hz2 rfl (by decide) v l.length (l.map byV) hs hown ad r.length c (r.map byV) hx (len_map r) (Me.rd_cells hr (Below.refl _ _)) (Me.one_cells _) (by unfold maxLen; omega) (by omega) hB ?_
  intro v' w' h1 h2 _
  refine h v' w' ?_ (hb.grown h2 hB fun k hk => (hown.lt k hk).1)
  unfold Me.Own
  rw [List.length_append, List.map_append]; exact h1
/-- Returns of a struct that lies in a block, and of temporaries. -/
theorem ret_cell {fn : Func} {R : Ending → World → Prop} {a : Act} {w : World} {g : Nat} {cs : Array Value} {p u : Tmp} {ty t : TypeId} {fr : Nat × Nat} {d : TypeDesc} (hres : fn.results = #[.cell p ty, .tmp u]) (hp : a.tmps.getD p undef = .pointer (some ⟨g, 0, none⟩)) (hg : w.heap[g]? = some (.cells cs t fr))
    (hd : d.isRow = true) (hu : Try.prog.underlying ty = some d) (hi : (Try.prog.info? ty).map (·.size) = some cs.size) (hdef : a.defers = [])
    (hR : R (.returned (.tuple #[.agg cs, a.tmps.getD u undef])) w) : bodyPost Try.prog fn R .ret a w :=
  bodyPost_ret (v := .tuple #[.agg cs, a.tmps.getD u undef]) (by rw [results_cell_tmp hres, hp]; simp only [asAddr, Sem.run_pure, Result.andThen_ok, run_loadVar_row w g t ty cs fr d hg hu (by cases d <;> first | rfl | cases hd) hi]) hdef hR
theorem ret_cell3 {fn : Func} {R : Ending → World → Prop} {a : Act} {w : World} {g : Nat} {cs : Array Value} {p u v : Tmp} {ty t : TypeId} {fr : Nat × Nat} {d : TypeDesc} (hres : fn.results = #[.cell p ty, .tmp u, .tmp v]) (hp : a.tmps.getD p undef = .pointer (some ⟨g, 0, none⟩)) (hg : w.heap[g]? = some (.cells cs t fr))
    (hd : d.isRow = true) (hu : Try.prog.underlying ty = some d) (hi : (Try.prog.info? ty).map (·.size) = some cs.size) (hdef : a.defers = [])
    (hR : R (.returned (.tuple #[.agg cs, a.tmps.getD u undef, a.tmps.getD v undef])) w) : bodyPost Try.prog fn R .ret a w := by
  have hl := run_loadVar_row w g t ty cs fr d hg hu (by cases d <;> first | rfl | cases hd) hi
  refine bodyPost_ret (v := .tuple #[.agg cs, a.tmps.getD u undef, a.tmps.getD v undef]) ?_ hdef hR
  have hp' : a.tmps[p]?.getD undef = .pointer (some ⟨g, 0, none⟩) := by simpa using hp
  simp only [results, hres]
  simp [Sem.run_bind, hp', asAddr, hl]
theorem ret_cell4 {fn : Func} {R : Ending → World → Prop} {a : Act} {w : World} {g : Nat} {cs : Array Value} {p u v z : Tmp} {ty t : TypeId} {fr : Nat × Nat} {d : TypeDesc} (hres : fn.results = #[.cell p ty, .tmp u, .tmp v, .tmp z]) (hp : a.tmps.getD p undef = .pointer (some ⟨g, 0, none⟩)) (hg : w.heap[g]? = some (.cells cs t fr))
    (hd : d.isRow = true) (hu : Try.prog.underlying ty = some d) (hi : (Try.prog.info? ty).map (·.size) = some cs.size) (hdef : a.defers = [])
    (hR : R (.returned (.tuple #[.agg cs, a.tmps.getD u undef, a.tmps.getD v undef, a.tmps.getD z undef])) w) : bodyPost Try.prog fn R .ret a w := by
  have hl := run_loadVar_row w g t ty cs fr d hg hu (by cases d <;> first | rfl | cases hd) hi
  refine bodyPost_ret (v := .tuple #[.agg cs, a.tmps.getD u undef, a.tmps.getD v undef, a.tmps.getD z undef]) ?_ hdef hR
  have hp' : a.tmps[p]?.getD undef = .pointer (some ⟨g, 0, none⟩) := by simpa using hp
  simp only [results, hres]
  simp [Sem.run_bind, hp', asAddr, hl]
/-- The cells of the result's block ahead of the return. -/
def zcells : Array Value := #[.int .i64 0, .int .i64 0, .slice none 0 0, .int .i64 0]
theorem rc_one (s : Snd) (A : Option Addr) (c : Nat) : (rcells s A c).all (·.oneCell') = true := by simp [rcells, Value.oneCell']
/-- The boxes of the argument and of the result. -/
structure Two (w : World) (s : Snd) (A : Option Addr) (c : Nat) (W : World) : Prop where
  x : W.heap[w.heap.size]? = some (.cells (rcells s A c) 29 (0, 0))
  z : W.heap[w.heap.size + 1]? = some (.cells zcells 29 (0, 0))
  b : Below w.heap.size w W
  n : W.heap.size = w.heap.size + 2
theorem Two.new (w : World) (s : Snd) (A : Option Addr) (c : Nat) : Two w s A c ((w.alloc (.cells (rcells s A c) 29)).alloc (.cells zcells 29)) := by
  refine ⟨(Below.heap_alloc _ _ _ (by simp)).trans (heap_alloc_new w _), ?_, Me.below_alloc (Me.below_alloc (Below.refl _ _)), by simp⟩
  have := heap_alloc_new (w.alloc (.cells (rcells s A c) 29)) (.cells zcells 29)
  rw [World.size_alloc] at this
  exact this
theorem Two.cell {w W : World} {s : Snd} {A : Option Addr} {c : Nat} (h : Two w s A c W) (i : Nat) : W.cell? ⟨w.heap.size, i, none⟩ = (rcells s A c)[i]? := cell_of_row W _ i _ _ (0, 0) h.x
theorem Two.lt {w W : World} {s : Snd} {A : Option Addr} {c : Nat} (h : Two w s A c W) : w.heap.size < W.heap.size ∧ w.heap.size + 1 < W.heap.size := by have := h.n; omega
/-- Behind the store of the result, in a world that has grown. -/
theorem Two.done {w W W2 : World} {s : Snd} {A : Option Addr} {c : Nat} (h : Two w s A c W) (hb : Below W.heap.size W W2) (cs : Array Value) :
    (W2.setRow (w.heap.size + 1) cs).heap[w.heap.size + 1]? = some (.cells cs 29 (0, 0)) ∧ Below w.heap.size w (W2.setRow (w.heap.size + 1) cs) ∧ (∀ k, k ≠ w.heap.size + 1 → (W2.setRow (w.heap.size + 1) cs).heap[k]? = W2.heap[k]?) := by
  have hz := (hb.block _ h.lt.2).trans h.z
  refine ⟨setRow_heap _ _ _ _ _ _ hz, ?_, fun k hk => setRow_other _ _ k _ hk⟩
  exact (h.b.trans (hb.mono h.b.size)).trans ⟨rfl, rfl, rfl, by simp [World.setRow], fun k hk => setRow_other _ _ k _ (by omega)⟩
def payE (p : List Nat) : Nat := if p.length = 0 then 2 else if 121 < p.length then 3 else 0
theorem Payload_any (Ap : Option Addr) (cp : Nat) (p : List Nat) (w : World) : Calls Try.prog 41 #[.slice Ap p.length cp] w fun e w' => e = .returned (.int .i64 (payE p : Int)) ∧ w = w' := by
  by_cases h1 : p.length = 0
  · have HE : Hid (payE p = 2) := by show _ = _; unfold payE; rw [if_pos h1]
    rw [h1]
    go_enter Try.func41, Try.ntmps41
    go_wp2
    go_ret
    exact ⟨by rw [HE.out]; rfl, rfl⟩
  · have g1 : ((p.length : Int) == 0) = false := beq_eq_false_iff_ne.mpr (by omega)
    by_cases h2 : 121 < p.length
    · have HE : Hid (payE p = 3) := by show _ = _; unfold payE; rw [if_neg h1, if_pos h2]
      have g2 : (121 : Int) < (p.length : Int) := by omega
      obtain ⟨n, hn⟩ : ∃ n, p.length = n := ⟨_, rfl⟩
      rw [hn] at g1 g2 ⊢
      clear h1 h2 hn
      go_enter Try.func41, Try.ntmps41
      go_wp2
      go_ret
      exact ⟨by rw [HE.out]; rfl, rfl⟩
    · have HE : Hid (payE p = 0) := by show _ = _; unfold payE; rw [if_neg h1, if_neg h2]
      have g2 : ¬ (121 : Int) < (p.length : Int) := by omega
      obtain ⟨n, hn⟩ : ∃ n, p.length = n := ⟨_, rfl⟩
      rw [hn] at g1 g2 ⊢
      clear h1 h2 hn
      go_enter Try.func41, Try.ntmps41
      go_wp2
      go_ret
      exact ⟨by rw [HE.out]; rfl, rfl⟩
theorem RNew_bad (n : Int) (h : n < 1 ∨ 63 < n) (w : World) : Calls Try.prog 10 #[.int .i64 n] w fun e w' => e = .returned (.tuple #[.agg zcells, .int .i64 1]) ∧ Hid (Below w.heap.size w w') := by
  by_cases h1 : n < 1
  · clear h
    go_enter Try.func10, Try.ntmps10
    go_wp2
    refine ret_cell rfl rfl (heap_alloc_new w _) rfl Try.underlying29 (by kernel_rfl) rfl ?_
    exact ⟨rfl, Me.below_alloc (Below.refl _ _)⟩
  · have h2 : 63 < n := by omega
    clear h
    go_enter Try.func10, Try.ntmps10
    go_wp2
    refine ret_cell rfl rfl (heap_alloc_new w _) rfl Try.underlying29 (by kernel_rfl) rfl ?_
    exact ⟨rfl, Me.below_alloc (Below.refl _ _)⟩
theorem RNew_ok (n : Nat) (h1 : 1 ≤ n) (h2 : n ≤ 63) (w : World) : Calls Try.prog 10 #[.int .i64 n] w fun e w' => e = .returned (.tuple #[rval (newS n) none 0, .int .i64 0]) ∧ Hid (Below w.heap.size w w') := by
  have g1 : ¬ (n : Int) < 1 := by omega
  have g2 : ¬ 63 < (n : Int) := by omega
  go_enter Try.func10, Try.ntmps10
  go_wp2
  refine ret_cell rfl rfl (heap_alloc_new w _) rfl Try.underlying29 (by kernel_rfl) rfl ?_
  exact ⟨rfl, Me.below_alloc (Below.refl _ _)⟩
end Go.Proofs.Ytdfjlhiliifapaa.Sn
