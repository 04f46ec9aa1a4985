/- A new store. -/
import Derived.Test.YtfnlhfelpdkieaaGreatZ12
import Derived.Test.YtfnlhfelpdkieaaGreatZ13
import Derived.Test.YtfnlhfelpdkieaaGreatZ8
import Derived.Test.YtfnlhfelpdkieaaGreatZ2
namespace Go.Proofs.YtfnlhfelpdkieaaGreat.So
open Go.RowKit
open Go.Proofs.YtfnlhfelpdkieaaGreat.Me Go.Proofs.YtfnlhfelpdkieaaGreat.Sb
set_option linter.unusedVariables false
set_option linter.unusedSimpArgs false

/-- The store that has nothing. -/
def new0 (me qh qb qg : Int) : Sto := ⟨me, qh, qb, qg, 0, fun _ => 0, [], ⟨qg, 0, fun _ _ => none⟩⟩
structure NewOk (me qh qb qg : Int) : Prop where
  s0 : 0 ≤ me
  s1 : me < 64
  h0 : 0 ≤ qh
  h1 : qh ≤ 256
  b0 : 0 ≤ qb
  b1 : qb ≤ 1048576
  g0 : 0 ≤ qg
  g1 : qg ≤ 256
instance (me qh qb qg : Int) : Decidable (NewOk me qh qb qg) :=
  decidable_of_iff (0 ≤ me ∧ me < 64 ∧ 0 ≤ qh ∧ qh ≤ 256 ∧ 0 ≤ qb ∧ qb ≤ 1048576 ∧ 0 ≤ qg ∧ qg ≤ 256) ⟨fun ⟨a, b, c, d, e, f, g, h⟩ => ⟨a, b, c, d, e, f, g, h⟩, fun h => ⟨h.1, h.2, h.3, h.4, h.5, h.6, h.7, h.8⟩⟩
theorem new_ok {me qh qb qg : Int} (h : NewOk me qh qb qg) : Ok (new0 me qh qb qg) :=
  ⟨h.s0, h.s1, h.h0, h.h1, h.b0, h.b1, Int.le_refl _, by show (0 : Int) ≤ 65535; omega, fun _ _ => ⟨Int.le_refl _, by show (0 : Int) ≤ 65535; omega⟩, h.h0, h.b0, List.nodup_nil, fun x hx => (by cases hx), rfl,
    ⟨h.g0, h.g1, fun o e m h => (by cases h), h.g0, [], List.nodup_nil, fun o e => ⟨fun h => absurd rfl h, fun h => absurd h (by simp)⟩, rfl⟩⟩
theorem mk_map (W : World) : (Instr.makeMap 74 none).run Tryz.prog W = .ok (.map (some W.heap.size)) (W.alloc (.map #[] 0)) := by kernel_rfl
theorem build_new (me qh qb qg : Int) (hb sd : Nat) (w : World) : (Instr.build 79 #[(0, .int .i64 me), (1, .agg #[.int .i64 qh, .int .i64 qb, .int .i64 qg]), (4, .map (some hb)), (7, .pointer (some ⟨sd, 0, none⟩))]).run Tryz.prog w = .ok (.agg (scs (new0 me qh qb qg) hb sd (.slice none 0 0) 0)) w := by kernel_rfl
theorem exec_build (ρ : Operand → Value) (o : Oper) (x0 x1 x2 x3 : Operand) (me qh qb qg : Int) (hb sd : Nat) (ho : o.op = .build 79 #[(0, x0), (1, x1), (4, x2), (7, x3)]) (h0 : ρ x0 = .int .i64 me) (h1 : ρ x1 = .agg #[.int .i64 qh, .int .i64 qb, .int .i64 qg]) (h2 : ρ x2 = .map (some hb)) (h3 : ρ x3 = .pointer (some ⟨sd, 0, none⟩)) (w : World) :
    (execOp ρ o).run Tryz.prog w = .ok (.value (.agg (scs (new0 me qh qb qg) hb sd (.slice none 0 0) 0))) w := by
  unfold execOp
  rw [ho]
  simp [h0, h1, h2, h3, build_new, Result.andThen]
theorem exec_box (ρ : Operand → Value) (o : Oper) (x : Operand) (me qh qb qg : Int) (hb sd : Nat) (ho : o.op = .box 79 x) (h0 : ρ x = .agg (scs (new0 me qh qb qg) hb sd (.slice none 0 0) 0)) (w : World) :
    (execOp ρ o).run Tryz.prog w = .ok (.value (.pointer (some ⟨w.heap.size, 0, none⟩))) (w.alloc (.cells (scs (new0 me qh qb qg) hb sd (.slice none 0 0) 0) 79 (0, 0))) := by
  unfold execOp
  rw [ho]
  simp only [h0]
  kernel_rfl
theorem valTo {ops : Array Oper} {rest : List Oper} {o : Oper} {a : Act} {w : World} {Q : Exit → Act → World → Prop} (hg : o.guard = none) (v : Value) (hrun : (execOp a.eval o).run Tryz.prog w = .ok (.value v) w)
    (h : wpList Tryz.prog ops Q rest (a.put o.dst v) w) : wpList Tryz.prog ops Q (o :: rest) a w := by
  refine wpList_plain hg fun K hK => ?_
  unfold Oper.wp
  rw [hrun, Oper.upon_value]
  exact hK _ _ h
theorem allocTo {ops : Array Oper} {rest : List Oper} {o : Oper} {a : Act} {w : World} {Q : Exit → Act → World → Prop} (hg : o.guard = none) (v : Value) (ob : Obj) (hrun : (execOp a.eval o).run Tryz.prog w = .ok (.value v) (w.alloc ob))
    (h : wpList Tryz.prog ops Q rest (a.put o.dst v) (w.alloc ob)) : wpList Tryz.prog ops Q (o :: rest) a w := Mi.allocTo hg v ob hrun h
theorem ki_nil (w : World) : Ki w 0 (.slice none 0 0) [] := ⟨rfl, .inl ⟨rfl, rfl⟩⟩
theorem SNew_no (g : Int) (h : g < 0 ∨ 256 < g) (w : World) : Calls Tryz.prog 24 #[.int .i64 g] w fun e w' => e = .returned (.tuple #[.pointer none, .int .i64 1]) ∧ w = w' := by
  by_cases a0 : g < 0
  · clear h
    go_enter Tryz.func24, Tryz.ntmps24
    go_wp2
    go_ret2
    exact ⟨rfl, rfl⟩
  · have a1 : 256 < g := by omega
    clear h
    go_enter Tryz.func24, Tryz.ntmps24
    go_wp2
    go_ret2
    exact ⟨rfl, rfl⟩
set_option maxRecDepth 100000 in
set_option maxHeartbeats 8000000 in
theorem New_no (me qh qb qg : Int) (h : ¬ NewOk me qh qb qg) (w : World) : Calls Tryz.prog 7 #[.int .i64 me, .agg #[.int .i64 qh, .int .i64 qb, .int .i64 qg]] w fun e w' => e = .returned (.tuple #[.pointer none, .int .i64 1]) ∧ Hid (Below w.heap.size w w') := by
  have HB : Hid (Below w.heap.size w (w.alloc (.cells #[.int .i64 qh, .int .i64 qb, .int .i64 qg] 23))) := Me.below_alloc (Below.refl _ _)
  have HN := Lib.hid (fun W => isNode_any me W)
  have HS := Lib.hid (fun (hg : qg < 0 ∨ 256 < qg) W => SNew_no qg hg W)
  have hc : Mg.nodeB me = false ∨ (Mg.nodeB me = true ∧ (qh < 0 ∨ (¬ qh < 0 ∧ (256 < qh ∨ (¬ 256 < qh ∧ (qb < 0 ∨ (¬ qb < 0 ∧ (1048576 < qb ∨ (¬ 1048576 < qb ∧ (qg < 0 ∨ 256 < qg)))))))))) := by
    by_cases a : 0 ≤ me ∧ me < 64
    · refine .inr ⟨Mg.nodeB_iff.2 a, ?_⟩
      have : ¬ (0 ≤ qh ∧ qh ≤ 256 ∧ 0 ≤ qb ∧ qb ≤ 1048576 ∧ 0 ≤ qg ∧ qg ≤ 256) := fun ⟨q1, q2, q3, q4, q5, q6⟩ => h ⟨a.1, a.2, q1, q2, q3, q4, q5, q6⟩
      omega
    · exact .inl (by unfold Mg.nodeB; exact decide_eq_false a)
  obtain ⟨nb, hnb⟩ : ∃ b, Mg.nodeB me = b := ⟨_, rfl⟩
  rw [hnb] at HN hc
  clear hnb h
  rcases hc with rfl | ⟨rfl, h | ⟨h1, h | ⟨h2, h | ⟨h3, h | ⟨h4, h⟩⟩⟩⟩⟩
  case inr.inr.inr.inr.inr =>
    have HSg := Lib.hid (HS.out h)
    clear h HS
    go_enter Tryz.func7, Tryz.ntmps7
    go_wp2_with (first
      | (go_at_call 23; refine (HN.out _).mono ?_; rintro e w2 ⟨rfl, rfl⟩)
      | (go_at_call 24; refine (HSg.out _).mono ?_; rintro e w2 ⟨rfl, rfl⟩))
    go_ret2
    exact ⟨rfl, HB.out⟩
  all_goals
    clear HS
    go_enter Tryz.func7, Tryz.ntmps7
    go_wp2_with (go_at_call 23; refine (HN.out _).mono ?_; rintro e w2 ⟨rfl, rfl⟩)
    go_ret2
    exact ⟨rfl, HB.out⟩
set_option maxRecDepth 100000 in
set_option maxHeartbeats 8000000 in
theorem New_ok (E : Nat → Prop) (me qh qb qg : Int) (h : NewOk me qh qb qg) (w : World) : Calls Tryz.prog 7 #[.int .i64 me, .agg #[.int .i64 qh, .int .i64 qb, .int .i64 qg]] w fun e w' =>
    ∃ D hb sd sb, e = .returned (.tuple #[.pointer (some ⟨D, 0, none⟩), .int .i64 0]) ∧ Hid (Sq E w' D hb sd sb 0 (.slice none 0 0) (new0 me qh qb qg)) ∧ Hid (w.heap.size ≤ D ∧ w.heap.size ≤ hb ∧ w.heap.size ≤ sd ∧ w.heap.size ≤ sb) ∧ Hid (Below w.heap.size w w') := by
  have HB : Hid (Below w.heap.size w (w.alloc (.cells #[.int .i64 qh, .int .i64 qb, .int .i64 qg] 23))) := Me.below_alloc (Below.refl _ _)
  have HR : Hid (∀ W, Below (w.alloc (.cells #[.int .i64 qh, .int .i64 qb, .int .i64 qg] 23)).heap.size (w.alloc (.cells #[.int .i64 qh, .int .i64 qb, .int .i64 qg] 23)) W → W.cell? ⟨w.heap.size, 0, none⟩ = some (.int .i64 qh) ∧ W.cell? ⟨w.heap.size, 1, none⟩ = some (.int .i64 qb) ∧ W.cell? ⟨w.heap.size, 2, none⟩ = some (.int .i64 qg)) := fun W hW => by
    have h := (hW.block w.heap.size (by simp)).trans (heap_alloc_new w _)
    exact ⟨cell_of_row W _ 0 _ _ (0, 0) h, cell_of_row W _ 1 _ _ (0, 0) h, cell_of_row W _ 2 _ _ (0, 0) h⟩
  have HN : Hid (∀ W, Calls Tryz.prog 23 #[.int .i64 me] W fun e w' => e = .returned (.bool true) ∧ W = w') := fun W => by
    have := isNode_any me W
    rw [Mg.nodeB_iff.2 ⟨h.s0, h.s1⟩] at this
    exact this
  have HS := Lib.hid (fun W => Se.New_ok qg h.g0 h.g1 W)
  have HOk := Lib.hid (new_ok h)
  have g1 : ¬ qh < 0 := by have := h.h0; omega
  have g2 : ¬ 256 < qh := by have := h.h1; omega
  have g3 : ¬ qb < 0 := by have := h.b0; omega
  have g4 : ¬ 1048576 < qb := by have := h.b1; omega
  clear h
  go_enter Tryz.func7, Tryz.ntmps7
  go_wp2_with (first
    | (go_at_call 23; refine (HN.out _).mono ?_; rintro e w2 ⟨rfl, rfl⟩)
    | (go_at_call 24; refine (HS.out _).mono ?_; rintro e w3 ⟨sd, sb, rfl, hS3, hsd, hsb, hb3⟩; have HS3 := Lib.hid hS3; have HG := Lib.hid (And.intro hsd hsb); clear hS3 hsd hsb; obtain ⟨x0, x1, x2⟩ := HR.out w3 hb3.out)
    | (simp only [mk_map, Result.andThen_ok])
    | (refine valTo rfl (.agg (scs (new0 me qh qb qg) w3.heap.size sd (.slice none 0 0) 0)) (exec_build _ _ (.tmp 40) (.tmp 41) (.tmp 42) (.tmp 43) me qh qb qg w3.heap.size sd rfl rfl rfl rfl rfl _) ?_)
    | (refine allocTo rfl (.pointer (some ⟨_, 0, none⟩)) (.cells (scs (new0 me qh qb qg) w3.heap.size sd (.slice none 0 0) 0) 79 (0, 0)) (exec_box _ _ (.tmp 44) me qh qb qg w3.heap.size sd rfl rfl _) ?_))
  go_ret2
  have hk3 := go_on HB.out hb3.out
  have hz : w.heap.size + 1 ≤ w3.heap.size := by
    have := hb3.out.size
    simpa using this
  have hbm : Below w3.heap.size w3 (w3.alloc (.map #[] 0)) := Me.below_alloc (Below.refl _ _)
  have hbn : Below (w3.alloc (.map #[] 0)).heap.size (w3.alloc (.map #[] 0)) ((w3.alloc (.map #[] 0)).alloc (.cells (scs (new0 me qh qb qg) w3.heap.size sd (.slice none 0 0) 0) 79 (0, 0))) := Me.below_alloc (Below.refl _ _)
  have hbb := go_on hbm hbn
  have hnew := heap_alloc_new (w3.alloc (.map #[] 0)) (.cells (scs (new0 me qh qb qg) w3.heap.size sd (.slice none 0 0) 0) 79 (0, 0))
  rw [World.size_alloc] at hnew
  have hsl := HS3.out.lt
  have hgg := HG.out
  rw [World.size_alloc] at hgg
  refine ⟨_, rfl, w3.heap.size, sd, sb, ⟨hnew, ?_, ki_nil _, HS3.out.below hbb, HOk.out, by omega⟩, ⟨by omega, by omega, by omega, by omega⟩, go_on hk3 hbb⟩
  exact (Mp.made E w3).keep (hbn.block _ (by simp)) (U8s.below hbn) fun _ _ h => h
end Go.Proofs.YtfnlhfelpdkieaaGreat.So
