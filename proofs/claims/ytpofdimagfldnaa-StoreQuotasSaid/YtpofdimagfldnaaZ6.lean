/- The store's small questions: is a number a node, does an id fit, is an event right. -/
import Derived.Test.YtpofdimagfldnaaZ3
import Derived.Test.YtpofdimagfldnaaZ4
import Derived.Test.YtpofdimagfldnaaZ2
import Derived.Test.YtpofdimagfldnaaZ5
import Derived.Test.YtpofdimagfldnaaZ7
namespace Go.Proofs.Ytpofdimagfldnaa.So
open Go.RowKit
open Go.Proofs.Ytpofdimagfldnaa.Me Go.Proofs.Ytpofdimagfldnaa.Sb
set_option linter.unusedVariables false
set_option linter.unusedSimpArgs false

/-- An event as a value. -/
def evC (k : Int) (i : Mg.Id4) (A : Option Addr) (n c : Nat) : Array Value := #[.int .i64 k, .int .i64 i.o, .int .i64 i.d, .int .i64 i.e, .int .i64 i.c, .slice A n c]
theorem ev_cells {W : World} {D : Nat} {k o d e c : Int} {A : Option Addr} {n q : Nat} (h : W.heap[D]? = some (.cells #[.int .i64 k, .int .i64 o, .int .i64 d, .int .i64 e, .int .i64 c, .slice A n q] 60 (0, 0))) :
    W.cell? ⟨D, 0, none⟩ = some (.int .i64 k) ∧ W.cell? ⟨D, 1, none⟩ = some (.int .i64 o) ∧ W.cell? ⟨D, 2, none⟩ = some (.int .i64 d) ∧ W.cell? ⟨D, 3, none⟩ = some (.int .i64 e) ∧ W.cell? ⟨D, 4, none⟩ = some (.int .i64 c) ∧ W.cell? ⟨D, 5, none⟩ = some (.slice A n q) := by
  refine ⟨?_, ?_, ?_, ?_, ?_, ?_⟩
  all_goals
    rw [cell_of_row _ D _ _ _ (0, 0) h]
    rfl
theorem isNode_any (n : Int) (w : World) : Calls Try.prog 34 #[.int .i64 n] w fun e w' => e = .returned (.bool (Mg.nodeB n)) ∧ w = w' := by
  by_cases a : 0 ≤ n
  · by_cases b : n < 64
    · have HE : Hid (Mg.nodeB n = true) := decide_eq_true ⟨a, b⟩
      rw [HE.out]
      go_enter Try.func34, Try.ntmps34
      go_wp2
      go_ret
      exact ⟨rfl, rfl⟩
    · have HE : Hid (Mg.nodeB n = false) := decide_eq_false fun h => b h.2
      rw [HE.out]
      go_enter Try.func34, Try.ntmps34
      go_wp2
      go_ret
      exact ⟨rfl, rfl⟩
  · have HE : Hid (Mg.nodeB n = false) := decide_eq_false fun h => a h.1
    rw [HE.out]
    go_enter Try.func34, Try.ntmps34
    go_wp2
    go_ret
    exact ⟨rfl, rfl⟩
set_option maxHeartbeats 4000000 in
theorem fits_any (i : Mg.Id4) (self epoch : Int) (w : World) : Calls Try.prog 89 #[.agg (Mg.idC i), .int .i64 self, .int .i64 epoch] w fun e w' => e = .returned (.bool (fitsB i self epoch)) ∧ Hid (Below w.heap.size w w') := by
  have HB : Hid (Below w.heap.size w (w.alloc (.cells (Mg.idC i) 28))) := Me.below_alloc (Below.refl _ _)
  obtain ⟨r, hr⟩ : ∃ r, fitsB i self epoch = r := ⟨_, rfl⟩
  rw [hr]
  unfold fitsB at hr
  obtain ⟨o, d, ee, c⟩ := i
  simp only [Mg.idC] at HB hr ⊢
  by_cases h1 : d = self
  · have e1 : (d != self) = false := by simp [h1]
    obtain rfl : r = false := by rw [← hr]; simp [h1]
    clear hr h1
    go_enter Try.func89, Try.ntmps89
    go_wp2
    go_ret
    exact ⟨rfl, HB.out⟩
  · have e1 : (d != self) = true := by simp [h1]
    by_cases h2 : o = self
    · have e2 : (o != self) = false := by simp [h2]
      by_cases h3 : ee ≤ epoch
      · obtain rfl : r = true := by rw [← hr]; simp [h1, h3]
        clear hr h1 h2
        go_enter Try.func89, Try.ntmps89
        go_wp2
        go_ret
        exact ⟨rfl, HB.out⟩
      · obtain rfl : r = false := by rw [← hr]; simp [h2, h3]
        clear hr h1 h2
        go_enter Try.func89, Try.ntmps89
        go_wp2
        go_ret
        exact ⟨rfl, HB.out⟩
    · have e2 : (o != self) = true := by simp [h2]
      obtain rfl : r = true := by rw [← hr]; simp [h1, h2]
      clear hr h1 h2
      go_enter Try.func89, Try.ntmps89
      go_wp2
      go_ret
      exact ⟨rfl, HB.out⟩
set_option maxRecDepth 100000 in
set_option maxHeartbeats 8000000 in
theorem check_any (k : Int) (i : Mg.Id4) (A : Option Addr) (n q : Nat) (w : World) : Calls Try.prog 48 #[.agg (evC k i A n q)] w fun e w' => e = .returned (.int .i64 (chkE k i n : Int)) ∧ Hid (Below w.heap.size w w') := by
  have HB : Hid (Below w.heap.size w (w.alloc (.cells (evC k i A n q) 60))) := Me.below_alloc (Below.refl _ _)
  have HR : Hid (∀ W, Below (w.alloc (.cells (evC k i A n q) 60)).heap.size (w.alloc (.cells (evC k i A n q) 60)) W → W.heap[w.heap.size]? = some (.cells (evC k i A n q) 60 (0, 0))) := fun W hW => (hW.block _ (by simp)).trans (heap_alloc_new w _)
  have HK := Lib.hid (fun W => Mg.Check_any i W)
  have HM := Lib.hid (fun W => Mg.CheckMsg_any i A n q W)
  obtain ⟨c, hc⟩ : ∃ c, Mg.chkN i = c := ⟨_, rfl⟩
  obtain ⟨z, hz⟩ : ∃ z, Mg.msgN i n = z := ⟨_, rfl⟩
  unfold chkE
  rw [hc, hz]
  rw [hc] at HK
  rw [hz] at HM
  by_cases k1 : k = 1
  · subst k1
    rw [if_pos rfl]
    clear HK HM hc hz
    by_cases hi : i = zeroI
    · subst hi
      by_cases hn : n = 0
      · subst hn
        rw [if_pos ⟨rfl, rfl⟩]
        simp only [evC, zeroI] at HB HR ⊢
        go_enter Try.func48, Try.ntmps48
        go_wp2
        go_ret
        exact ⟨rfl, HB.out⟩
      · rw [if_neg (fun h => hn h.2)]
        have e1 : decide ((0 : Int) < (n : Int)) = true := by simp; omega
        have e2 : (0 : Int) < (n : Int) := by omega
        simp only [evC, zeroI] at HB HR ⊢
        go_enter Try.func48, Try.ntmps48
        go_wp2
        go_ret
        exact ⟨rfl, HB.out⟩
    · rw [if_neg (fun h => hi h.1)]
      obtain ⟨o, d, ee, cc⟩ := i
      have hne : ¬ o = 0 ∨ (o = 0 ∧ ¬ d = 0) ∨ (o = 0 ∧ d = 0 ∧ ¬ ee = 0) ∨ (o = 0 ∧ d = 0 ∧ ee = 0 ∧ ¬ cc = 0) := by
        by_cases a0 : o = 0
        · by_cases a1 : d = 0
          · by_cases a2 : ee = 0
            · exact .inr (.inr (.inr ⟨a0, a1, a2, fun h => hi (by rw [a0, a1, a2, h]; rfl)⟩))
            · exact .inr (.inr (.inl ⟨a0, a1, a2⟩))
          · exact .inr (.inl ⟨a0, a1⟩)
        · exact .inl a0
      clear hi
      simp only [evC] at HB HR ⊢
      rcases hne with h | ⟨rfl, h⟩ | ⟨rfl, rfl, h⟩ | ⟨rfl, rfl, rfl, h⟩
      all_goals
        go_enter Try.func48, Try.ntmps48
        go_wp2
        go_ret
        exact ⟨rfl, HB.out⟩
  · rw [if_neg k1]
    have g1 : (k == 1) = false := by simpa using k1
    by_cases k2 : k = 2
    · subst k2
      rw [if_pos rfl]
      obtain ⟨o, d, ee, cc⟩ := i
      simp only [evC, Mg.msgC] at HB HR HM ⊢
      go_enter Try.func48, Try.ntmps48
      go_wp2_with (go_at_call 80; refine (HM.out _).mono ?_; rintro e w2 ⟨rfl, b2⟩)
      go_ret
      exact ⟨rfl, go_on HB.out b2.out⟩
    · rw [if_neg k2]
      have g2 : (k == 2) = false := by simpa using k2
      by_cases k3 : k = 3 ∨ k = 4
      · rw [if_pos k3]
        obtain ⟨o, d, ee, cc⟩ := i
        have g3 : (k == 3) = true ∨ ((k == 3) = false ∧ (k == 4) = true) := by
          rcases k3 with rfl | rfl
          · exact .inl (by decide)
          · exact .inr ⟨by decide, by decide⟩
        have HG := Lib.hid g3
        simp only [evC, Mg.idC] at HB HR HK ⊢
        by_cases h0 : c = 0
        · subst h0
          rw [if_neg (by simp)]
          simp only [show ((0 : Nat) : Int) = 0 from rfl] at HK
          by_cases hn : n = 0
          · subst hn
            rw [if_pos rfl]
            clear k3 g3 hc hz HM k1 k2
            rcases HG.out with g3 | ⟨g3, g4⟩
            all_goals
              go_enter Try.func48, Try.ntmps48
              go_wp2_with (go_at_call 67; refine (HK.out _).mono ?_; rintro e w2 ⟨rfl, b2⟩; obtain ⟨x0, x1, x2, x3, x4, x5⟩ := ev_cells (HR.out w2 b2.out))
              go_ret
              exact ⟨rfl, go_on HB.out b2.out⟩
          · rw [if_neg hn]
            have hn2 : ((n : Int) == 0) = false := Mg.nz hn
            clear k3 g3 hc hz HM k1 k2 hn
            rcases HG.out with g3 | ⟨g3, g4⟩
            all_goals
              go_enter Try.func48, Try.ntmps48
              go_wp2_with (go_at_call 67; refine (HK.out _).mono ?_; rintro e w2 ⟨rfl, b2⟩; obtain ⟨x0, x1, x2, x3, x4, x5⟩ := ev_cells (HR.out w2 b2.out))
              go_ret
              exact ⟨rfl, go_on HB.out b2.out⟩
        · rw [if_pos h0]
          have hc2 : ((c : Int) == 0) = false := Mg.nz h0
          clear k3 g3 hc hz HM k1 k2 h0
          rcases HG.out with g3 | ⟨g3, g4⟩
          all_goals
            go_enter Try.func48, Try.ntmps48
            go_wp2_with (go_at_call 67; refine (HK.out _).mono ?_; rintro e w2 ⟨rfl, b2⟩; obtain ⟨x0, x1, x2, x3, x4, x5⟩ := ev_cells (HR.out w2 b2.out))
            go_ret
            exact ⟨rfl, go_on HB.out b2.out⟩
      · rw [if_neg k3]
        have g3 : (k == 3) = false := by simp; omega
        have g4 : (k == 4) = false := by simp; omega
        obtain ⟨o, d, ee, cc⟩ := i
        clear k3 k1 k2 hc hz HM HK
        simp only [evC] at HB HR ⊢
        go_enter Try.func48, Try.ntmps48
        go_wp2
        go_ret
        exact ⟨rfl, HB.out⟩
end Go.Proofs.Ytpofdimagfldnaa.So
/- A new store. -/
namespace Go.Proofs.Ytpofdimagfldnaa.So
open Go.RowKit
open Go.Proofs.Ytpofdimagfldnaa.Me Go.Proofs.Ytpofdimagfldnaa.Sb
set_option linter.unusedVariables false
set_option linter.unusedSimpArgs false

/-- The store that has nothing. -/
def new0 (me qh qb qg : Int) : Sto := ⟨me, qh, qb, qg, 0, fun _ => 0, [], ⟨qg, 0, fun _ _ => none⟩⟩
structure NewOk (me qh qb qg : Int) : Prop where
  s0 : 0 ≤ me
  s1 : me < 64
  h0 : 0 ≤ qh
  h1 : qh ≤ 256
  b0 : 0 ≤ qb
  b1 : qb ≤ 1048576
  g0 : 0 ≤ qg
  g1 : qg ≤ 256
instance (me qh qb qg : Int) : Decidable (NewOk me qh qb qg) :=
  decidable_of_iff (0 ≤ me ∧ me < 64 ∧ 0 ≤ qh ∧ qh ≤ 256 ∧ 0 ≤ qb ∧ qb ≤ 1048576 ∧ 0 ≤ qg ∧ qg ≤ 256) ⟨fun ⟨a, b, c, d, e, f, g, h⟩ => ⟨a, b, c, d, e, f, g, h⟩, fun h => ⟨h.1, h.2, h.3, h.4, h.5, h.6, h.7, h.8⟩⟩
theorem new_ok {me qh qb qg : Int} (h : NewOk me qh qb qg) : Ok (new0 me qh qb qg) :=
  ⟨h.s0, h.s1, h.h0, h.h1, h.b0, h.b1, Int.le_refl _, by show (0 : Int) ≤ 65535; omega, fun _ _ => ⟨Int.le_refl _, by show (0 : Int) ≤ 65535; omega⟩, h.h0, h.b0, List.nodup_nil, fun x hx => (by cases hx), rfl,
    ⟨h.g0, h.g1, fun o e m h => (by cases h), h.g0, [], List.nodup_nil, fun o e => ⟨fun h => absurd rfl h, fun h => absurd h (by simp)⟩, rfl⟩⟩
theorem mk_map (W : World) : (Instr.makeMap 86 none).run Try.prog W = .ok (.map (some W.heap.size)) (W.alloc (.map #[] 0)) := by kernel_rfl
theorem build_new (me qh qb qg : Int) (hb sd : Nat) (w : World) : (Instr.build 89 #[(0, .int .i64 me), (1, .agg #[.int .i64 qh, .int .i64 qb, .int .i64 qg]), (4, .map (some hb)), (7, .pointer (some ⟨sd, 0, none⟩))]).run Try.prog w = .ok (.agg (scs (new0 me qh qb qg) hb sd (.slice none 0 0) 0)) w := by kernel_rfl
theorem exec_build (ρ : Operand → Value) (o : Oper) (x0 x1 x2 x3 : Operand) (me qh qb qg : Int) (hb sd : Nat) (ho : o.op = .build 89 #[(0, x0), (1, x1), (4, x2), (7, x3)]) (h0 : ρ x0 = .int .i64 me) (h1 : ρ x1 = .agg #[.int .i64 qh, .int .i64 qb, .int .i64 qg]) (h2 : ρ x2 = .map (some hb)) (h3 : ρ x3 = .pointer (some ⟨sd, 0, none⟩)) (w : World) :
    (execOp ρ o).run Try.prog w = .ok (.value (.agg (scs (new0 me qh qb qg) hb sd (.slice none 0 0) 0))) w := by
  unfold execOp
  rw [ho]
  simp [h0, h1, h2, h3, build_new, Result.andThen]
theorem exec_box (ρ : Operand → Value) (o : Oper) (x : Operand) (me qh qb qg : Int) (hb sd : Nat) (ho : o.op = .box 89 x) (h0 : ρ x = .agg (scs (new0 me qh qb qg) hb sd (.slice none 0 0) 0)) (w : World) :
    (execOp ρ o).run Try.prog w = .ok (.value (.pointer (some ⟨w.heap.size, 0, none⟩))) (w.alloc (.cells (scs (new0 me qh qb qg) hb sd (.slice none 0 0) 0) 89 (0, 0))) := by
  unfold execOp
  rw [ho]
  simp only [h0]
  kernel_rfl
theorem valTo {ops : Array Oper} {rest : List Oper} {o : Oper} {a : Act} {w : World} {Q : Exit → Act → World → Prop} (hg : o.guard = none) (v : Value) (hrun : (execOp a.eval o).run Try.prog w = .ok (.value v) w)
    (h : wpList Try.prog ops Q rest (a.put o.dst v) w) : wpList Try.prog ops Q (o :: rest) a w := by
  refine wpList_plain hg fun K hK => ?_
  unfold Oper.wp
  rw [hrun, Oper.upon_value]
  exact hK _ _ h
theorem allocTo {ops : Array Oper} {rest : List Oper} {o : Oper} {a : Act} {w : World} {Q : Exit → Act → World → Prop} (hg : o.guard = none) (v : Value) (ob : Obj) (hrun : (execOp a.eval o).run Try.prog w = .ok (.value v) (w.alloc ob))
    (h : wpList Try.prog ops Q rest (a.put o.dst v) (w.alloc ob)) : wpList Try.prog ops Q (o :: rest) a w := Mi.allocTo hg v ob hrun h
theorem ki_nil (w : World) : Ki w 0 (.slice none 0 0) [] := ⟨rfl, .inl ⟨rfl, rfl⟩⟩
theorem SNew_no (g : Int) (h : g < 0 ∨ 256 < g) (w : World) : Calls Try.prog 45 #[.int .i64 g] w fun e w' => e = .returned (.tuple #[.pointer none, .int .i64 1]) ∧ w = w' := by
  by_cases a0 : g < 0
  · clear h
    go_enter Try.func45, Try.ntmps45
    go_wp2
    go_ret2
    exact ⟨rfl, rfl⟩
  · have a1 : 256 < g := by omega
    clear h
    go_enter Try.func45, Try.ntmps45
    go_wp2
    go_ret2
    exact ⟨rfl, rfl⟩
set_option maxRecDepth 100000 in
set_option maxHeartbeats 8000000 in
theorem New_no (me qh qb qg : Int) (h : ¬ NewOk me qh qb qg) (w : World) : Calls Try.prog 20 #[.int .i64 me, .agg #[.int .i64 qh, .int .i64 qb, .int .i64 qg]] w fun e w' => e = .returned (.tuple #[.pointer none, .int .i64 1]) ∧ Hid (Below w.heap.size w w') := by
  have HB : Hid (Below w.heap.size w (w.alloc (.cells #[.int .i64 qh, .int .i64 qb, .int .i64 qg] 23))) := Me.below_alloc (Below.refl _ _)
  have HN := Lib.hid (fun W => isNode_any me W)
  have HS := Lib.hid (fun (hg : qg < 0 ∨ 256 < qg) W => SNew_no qg hg W)
  have hc : Mg.nodeB me = false ∨ (Mg.nodeB me = true ∧ (qh < 0 ∨ (¬ qh < 0 ∧ (256 < qh ∨ (¬ 256 < qh ∧ (qb < 0 ∨ (¬ qb < 0 ∧ (1048576 < qb ∨ (¬ 1048576 < qb ∧ (qg < 0 ∨ 256 < qg)))))))))) := by
    by_cases a : 0 ≤ me ∧ me < 64
    · refine .inr ⟨Mg.nodeB_iff.2 a, ?_⟩
      have : ¬ (0 ≤ qh ∧ qh ≤ 256 ∧ 0 ≤ qb ∧ qb ≤ 1048576 ∧ 0 ≤ qg ∧ qg ≤ 256) := fun ⟨q1, q2, q3, q4, q5, q6⟩ => h ⟨a.1, a.2, q1, q2, q3, q4, q5, q6⟩
      omega
    · exact .inl (by unfold Mg.nodeB; exact decide_eq_false a)
  obtain ⟨nb, hnb⟩ : ∃ b, Mg.nodeB me = b := ⟨_, rfl⟩
  rw [hnb] at HN hc
  clear hnb h
  rcases hc with rfl | ⟨rfl, h | ⟨h1, h | ⟨h2, h | ⟨h3, h | ⟨h4, h⟩⟩⟩⟩⟩
  case inr.inr.inr.inr.inr =>
    have HSg := Lib.hid (HS.out h)
    clear h HS
    go_enter Try.func20, Try.ntmps20
    go_wp2_with (first
      | (go_at_call 34; refine (HN.out _).mono ?_; rintro e w2 ⟨rfl, rfl⟩)
      | (go_at_call 45; refine (HSg.out _).mono ?_; rintro e w2 ⟨rfl, rfl⟩))
    go_ret2
    exact ⟨rfl, HB.out⟩
  all_goals
    clear HS
    go_enter Try.func20, Try.ntmps20
    go_wp2_with (go_at_call 34; refine (HN.out _).mono ?_; rintro e w2 ⟨rfl, rfl⟩)
    go_ret2
    exact ⟨rfl, HB.out⟩
set_option maxRecDepth 100000 in
set_option maxHeartbeats 8000000 in
theorem New_ok (E : Nat → Prop) (me qh qb qg : Int) (h : NewOk me qh qb qg) (w : World) : Calls Try.prog 20 #[.int .i64 me, .agg #[.int .i64 qh, .int .i64 qb, .int .i64 qg]] w fun e w' =>
    ∃ D hb sd sb, e = .returned (.tuple #[.pointer (some ⟨D, 0, none⟩), .int .i64 0]) ∧ Hid (Sq E w' D hb sd sb 0 (.slice none 0 0) (new0 me qh qb qg)) ∧ Hid (w.heap.size ≤ D ∧ w.heap.size ≤ hb ∧ w.heap.size ≤ sd ∧ w.heap.size ≤ sb) ∧ Hid (Below w.heap.size w w') := by
  have HB : Hid (Below w.heap.size w (w.alloc (.cells #[.int .i64 qh, .int .i64 qb, .int .i64 qg] 23))) := Me.below_alloc (Below.refl _ _)
  have HR : Hid (∀ W, Below (w.alloc (.cells #[.int .i64 qh, .int .i64 qb, .int .i64 qg] 23)).heap.size (w.alloc (.cells #[.int .i64 qh, .int .i64 qb, .int .i64 qg] 23)) W → W.cell? ⟨w.heap.size, 0, none⟩ = some (.int .i64 qh) ∧ W.cell? ⟨w.heap.size, 1, none⟩ = some (.int .i64 qb) ∧ W.cell? ⟨w.heap.size, 2, none⟩ = some (.int .i64 qg)) := fun W hW => by
    have h := (hW.block w.heap.size (by simp)).trans (heap_alloc_new w _)
    exact ⟨cell_of_row W _ 0 _ _ (0, 0) h, cell_of_row W _ 1 _ _ (0, 0) h, cell_of_row W _ 2 _ _ (0, 0) h⟩
  have HN : Hid (∀ W, Calls Try.prog 34 #[.int .i64 me] W fun e w' => e = .returned (.bool true) ∧ W = w') := fun W => by
    have := isNode_any me W
    rw [Mg.nodeB_iff.2 ⟨h.s0, h.s1⟩] at this
    exact this
  have HS := Lib.hid (fun W => Se.New_ok qg h.g0 h.g1 W)
  have HOk := Lib.hid (new_ok h)
  have g1 : ¬ qh < 0 := by have := h.h0; omega
  have g2 : ¬ 256 < qh := by have := h.h1; omega
  have g3 : ¬ qb < 0 := by have := h.b0; omega
  have g4 : ¬ 1048576 < qb := by have := h.b1; omega
  clear h
  go_enter Try.func20, Try.ntmps20
  go_wp2_with (first
    | (go_at_call 34; refine (HN.out _).mono ?_; rintro e w2 ⟨rfl, rfl⟩)
    | (go_at_call 45; refine (HS.out _).mono ?_; rintro e w3 ⟨sd, sb, rfl, hS3, hsd, hsb, hb3⟩; have HS3 := Lib.hid hS3; have HG := Lib.hid (And.intro hsd hsb); clear hS3 hsd hsb; obtain ⟨x0, x1, x2⟩ := HR.out w3 hb3.out)
    | (simp only [mk_map, Result.andThen_ok])
    | (refine valTo rfl (.agg (scs (new0 me qh qb qg) w3.heap.size sd (.slice none 0 0) 0)) (exec_build _ _ (.tmp 40) (.tmp 41) (.tmp 42) (.tmp 43) me qh qb qg w3.heap.size sd rfl rfl rfl rfl rfl _) ?_)
    | (refine allocTo rfl (.pointer (some ⟨_, 0, none⟩)) (.cells (scs (new0 me qh qb qg) w3.heap.size sd (.slice none 0 0) 0) 89 (0, 0)) (exec_box _ _ (.tmp 44) me qh qb qg w3.heap.size sd rfl rfl _) ?_))
  go_ret2
  have hk3 := go_on HB.out hb3.out
  have hz : w.heap.size + 1 ≤ w3.heap.size := by
    have := hb3.out.size
    simpa using this
  have hbm : Below w3.heap.size w3 (w3.alloc (.map #[] 0)) := Me.below_alloc (Below.refl _ _)
  have hbn : Below (w3.alloc (.map #[] 0)).heap.size (w3.alloc (.map #[] 0)) ((w3.alloc (.map #[] 0)).alloc (.cells (scs (new0 me qh qb qg) w3.heap.size sd (.slice none 0 0) 0) 89 (0, 0))) := Me.below_alloc (Below.refl _ _)
  have hbb := go_on hbm hbn
  have hnew := heap_alloc_new (w3.alloc (.map #[] 0)) (.cells (scs (new0 me qh qb qg) w3.heap.size sd (.slice none 0 0) 0) 89 (0, 0))
  rw [World.size_alloc] at hnew
  have hsl := HS3.out.lt
  have hgg := HG.out
  rw [World.size_alloc] at hgg
  refine ⟨_, rfl, w3.heap.size, sd, sb, ⟨hnew, ?_, ki_nil _, HS3.out.below hbb, HOk.out, by omega⟩, ⟨by omega, by omega, by omega, by omega⟩, go_on hk3 hbb⟩
  exact (Mp.made E w3).keep (hbn.block _ (by simp)) (U8s.below hbn) fun _ _ h => h
end Go.Proofs.Ytpofdimagfldnaa.So
