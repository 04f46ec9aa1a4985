/- A new store. -/
import Derived.Test.YtfnlhfelpdkieaaGreatZ14
import Derived.Test.YtfnlhfelpdkieaaGreatZ6
import Derived.Test.YtfnlhfelpdkieaaGreatZ11
import Derived.Test.YtfnlhfelpdkieaaGreatZ2
import Derived.Test.YtfnlhfelpdkieaaGreatZ15
import Derived.Test.YtfnlhfelpdkieaaGreatZ16
import Derived.Test.YtfnlhfelpdkieaaGreatSeAddL
namespace Go.Proofs.YtfnlhfelpdkieaaGreat.So
open Go.RowKit
open Go.Proofs.YtfnlhfelpdkieaaGreat.Me Go.Proofs.YtfnlhfelpdkieaaGreat.Sb
set_option linter.unusedVariables false
set_option linter.unusedSimpArgs false

/-- The store that has nothing. -/
def new0 (me qh qb qg : Int) : Sto := ⟨me, qh, qb, qg, 0, fun _ => 0, [], ⟨qg, 0, fun _ _ => none⟩⟩
structure NewOk (me qh qb qg : Int) : Prop where
  s0 : 0 ≤ me
  s1 : me < 64
  h0 : 0 ≤ qh
  h1 : qh ≤ 256
  b0 : 0 ≤ qb
  b1 : qb ≤ 1048576
  g0 : 0 ≤ qg
  g1 : qg ≤ 256
instance (me qh qb qg : Int) : Decidable (NewOk me qh qb qg) :=
  decidable_of_iff (0 ≤ me ∧ me < 64 ∧ 0 ≤ qh ∧ qh ≤ 256 ∧ 0 ≤ qb ∧ qb ≤ 1048576 ∧ 0 ≤ qg ∧ qg ≤ 256) ⟨fun ⟨a, b, c, d, e, f, g, h⟩ => ⟨a, b, c, d, e, f, g, h⟩, fun h => ⟨h.1, h.2, h.3, h.4, h.5, h.6, h.7, h.8⟩⟩
theorem new_ok {me qh qb qg : Int} (h : NewOk me qh qb qg) : Ok (new0 me qh qb qg) :=
  ⟨h.s0, h.s1, h.h0, h.h1, h.b0, h.b1, Int.le_refl _, by show (0 : Int) ≤ 65535; omega, fun _ _ => ⟨Int.le_refl _, by show (0 : Int) ≤ 65535; omega⟩, h.h0, h.b0, List.nodup_nil, fun x hx => (by cases hx), rfl,
    ⟨h.g0, h.g1, fun o e m h => (by cases h), h.g0, [], List.nodup_nil, fun o e => ⟨fun h => absurd rfl h, fun h => absurd h (by simp)⟩, rfl⟩⟩
theorem mk_map (W : World) : (Instr.makeMap 74 none).run Tryz.prog W = .ok (.map (some W.heap.size)) (W.alloc (.map #[] 0)) := by kernel_rfl
theorem build_new (me qh qb qg : Int) (hb sd : Nat) (w : World) : (Instr.build 79 #[(0, .int .i64 me), (1, .agg #[.int .i64 qh, .int .i64 qb, .int .i64 qg]), (4, .map (some hb)), (7, .pointer (some ⟨sd, 0, none⟩))]).run Tryz.prog w = .ok (.agg (scs (new0 me qh qb qg) hb sd (.slice none 0 0) 0)) w := by kernel_rfl
theorem exec_build (ρ : Operand → Value) (o : Oper) (x0 x1 x2 x3 : Operand) (me qh qb qg : Int) (hb sd : Nat) (ho : o.op = .build 79 #[(0, x0), (1, x1), (4, x2), (7, x3)]) (h0 : ρ x0 = .int .i64 me) (h1 : ρ x1 = .agg #[.int .i64 qh, .int .i64 qb, .int .i64 qg]) (h2 : ρ x2 = .map (some hb)) (h3 : ρ x3 = .pointer (some ⟨sd, 0, none⟩)) (w : World) :
    (execOp ρ o).run Tryz.prog w = .ok (.value (.agg (scs (new0 me qh qb qg) hb sd (.slice none 0 0) 0))) w := by
  unfold execOp
  rw [ho]
  simp [h0, h1, h2, h3, build_new, Result.andThen]
theorem exec_box (ρ : Operand → Value) (o : Oper) (x : Operand) (me qh qb qg : Int) (hb sd : Nat) (ho : o.op = .box 79 x) (h0 : ρ x = .agg (scs (new0 me qh qb qg) hb sd (.slice none 0 0) 0)) (w : World) :
    (execOp ρ o).run Tryz.prog w = .ok (.value (.pointer (some ⟨w.heap.size, 0, none⟩))) (w.alloc (.cells (scs (new0 me qh qb qg) hb sd (.slice none 0 0) 0) 79 (0, 0))) := by
  unfold execOp
  rw [ho]
  simp only [h0]
  kernel_rfl
theorem valTo {ops : Array Oper} {rest : List Oper} {o : Oper} {a : Act} {w : World} {Q : Exit → Act → World → Prop} (hg : o.guard = none) (v : Value) (hrun : (execOp a.eval o).run Tryz.prog w = .ok (.value v) w)
    (h : wpList Tryz.prog ops Q rest (a.put o.dst v) w) : wpList Tryz.prog ops Q (o :: rest) a w := by
  refine wpList_plain hg fun K hK => ?_
  unfold Oper.wp
  rw [hrun, Oper.upon_value]
  exact hK _ _ h
theorem allocTo {ops : Array Oper} {rest : List Oper} {o : Oper} {a : Act} {w : World} {Q : Exit → Act → World → Prop} (hg : o.guard = none) (v : Value) (ob : Obj) (hrun : (execOp a.eval o).run Tryz.prog w = .ok (.value v) (w.alloc ob))
    (h : wpList Tryz.prog ops Q rest (a.put o.dst v) (w.alloc ob)) : wpList Tryz.prog ops Q (o :: rest) a w := Mi.allocTo hg v ob hrun h
theorem ki_nil (w : World) : Ki w 0 (.slice none 0 0) [] := ⟨rfl, .inl ⟨rfl, rfl⟩⟩
theorem SNew_no (g : Int) (h : g < 0 ∨ 256 < g) (w : World) : Calls Tryz.prog 24 #[.int .i64 g] w fun e w' => e = .returned (.tuple #[.pointer none, .int .i64 1]) ∧ w = w' := by
  by_cases a0 : g < 0
  · clear h
    go_enter Tryz.func24, Tryz.ntmps24
    go_wp2
    go_ret2
    exact ⟨rfl, rfl⟩
  · have a1 : 256 < g := by omega
    clear h
    go_enter Tryz.func24, Tryz.ntmps24
    go_wp2
    go_ret2
    exact ⟨rfl, rfl⟩
set_option maxRecDepth 100000 in
set_option maxHeartbeats 8000000 in
theorem New_no (me qh qb qg : Int) (h : ¬ NewOk me qh qb qg) (w : World) : Calls Tryz.prog 7 #[.int .i64 me, .agg #[.int .i64 qh, .int .i64 qb, .int .i64 qg]] w fun e w' => e = .returned (.tuple #[.pointer none, .int .i64 1]) ∧ Hid (Below w.heap.size w w') := by
  have HB : Hid (Below w.heap.size w (w.alloc (.cells #[.int .i64 qh, .int .i64 qb, .int .i64 qg] 23))) := Me.below_alloc (Below.refl _ _)
  have HN := Lib.hid (fun W => isNode_any me W)
  have HS := Lib.hid (fun (hg : qg < 0 ∨ 256 < qg) W => SNew_no qg hg W)
  have hc : Mg.nodeB me = false ∨ (Mg.nodeB me = true ∧ (qh < 0 ∨ (¬ qh < 0 ∧ (256 < qh ∨ (¬ 256 < qh ∧ (qb < 0 ∨ (¬ qb < 0 ∧ (1048576 < qb ∨ (¬ 1048576 < qb ∧ (qg < 0 ∨ 256 < qg)))))))))) := by
    by_cases a : 0 ≤ me ∧ me < 64
    · refine .inr ⟨Mg.nodeB_iff.2 a, ?_⟩
      have : ¬ (0 ≤ qh ∧ qh ≤ 256 ∧ 0 ≤ qb ∧ qb ≤ 1048576 ∧ 0 ≤ qg ∧ qg ≤ 256) := fun ⟨q1, q2, q3, q4, q5, q6⟩ => h ⟨a.1, a.2, q1, q2, q3, q4, q5, q6⟩
      omega
    · exact .inl (by unfold Mg.nodeB; exact decide_eq_false a)
  obtain ⟨nb, hnb⟩ : ∃ b, Mg.nodeB me = b := ⟨_, rfl⟩
  rw [hnb] at HN hc
  clear hnb h
  rcases hc with rfl | ⟨rfl, h | ⟨h1, h | ⟨h2, h | ⟨h3, h | ⟨h4, h⟩⟩⟩⟩⟩
  case inr.inr.inr.inr.inr =>
    have HSg := Lib.hid (HS.out h)
    clear h HS
    go_enter Tryz.func7, Tryz.ntmps7
    go_wp2_with (first
      | (go_at_call 23; refine (HN.out _).mono ?_; rintro e w2 ⟨rfl, rfl⟩)
      | (go_at_call 24; refine (HSg.out _).mono ?_; rintro e w2 ⟨rfl, rfl⟩))
    go_ret2
    exact ⟨rfl, HB.out⟩
  all_goals
    clear HS
    go_enter Tryz.func7, Tryz.ntmps7
    go_wp2_with (go_at_call 23; refine (HN.out _).mono ?_; rintro e w2 ⟨rfl, rfl⟩)
    go_ret2
    exact ⟨rfl, HB.out⟩
set_option maxRecDepth 100000 in
set_option maxHeartbeats 8000000 in
theorem New_ok (E : Nat → Prop) (me qh qb qg : Int) (h : NewOk me qh qb qg) (w : World) : Calls Tryz.prog 7 #[.int .i64 me, .agg #[.int .i64 qh, .int .i64 qb, .int .i64 qg]] w fun e w' =>
    ∃ D hb sd sb, e = .returned (.tuple #[.pointer (some ⟨D, 0, none⟩), .int .i64 0]) ∧ Hid (Sq E w' D hb sd sb 0 (.slice none 0 0) (new0 me qh qb qg)) ∧ Hid (w.heap.size ≤ D ∧ w.heap.size ≤ hb ∧ w.heap.size ≤ sd ∧ w.heap.size ≤ sb) ∧ Hid (Below w.heap.size w w') := by
  have HB : Hid (Below w.heap.size w (w.alloc (.cells #[.int .i64 qh, .int .i64 qb, .int .i64 qg] 23))) := Me.below_alloc (Below.refl _ _)
  have HR : Hid (∀ W, Below (w.alloc (.cells #[.int .i64 qh, .int .i64 qb, .int .i64 qg] 23)).heap.size (w.alloc (.cells #[.int .i64 qh, .int .i64 qb, .int .i64 qg] 23)) W → W.cell? ⟨w.heap.size, 0, none⟩ = some (.int .i64 qh) ∧ W.cell? ⟨w.heap.size, 1, none⟩ = some (.int .i64 qb) ∧ W.cell? ⟨w.heap.size, 2, none⟩ = some (.int .i64 qg)) := fun W hW => by
    have h := (hW.block w.heap.size (by simp)).trans (heap_alloc_new w _)
    exact ⟨cell_of_row W _ 0 _ _ (0, 0) h, cell_of_row W _ 1 _ _ (0, 0) h, cell_of_row W _ 2 _ _ (0, 0) h⟩
  have HN : Hid (∀ W, Calls Tryz.prog 23 #[.int .i64 me] W fun e w' => e = .returned (.bool true) ∧ W = w') := fun W => by
    have := isNode_any me W
    rw [Mg.nodeB_iff.2 ⟨h.s0, h.s1⟩] at this
    exact this
  have HS := Lib.hid (fun W => Se.New_ok qg h.g0 h.g1 W)
  have HOk := Lib.hid (new_ok h)
  have g1 : ¬ qh < 0 := by have := h.h0; omega
  have g2 : ¬ 256 < qh := by have := h.h1; omega
  have g3 : ¬ qb < 0 := by have := h.b0; omega
  have g4 : ¬ 1048576 < qb := by have := h.b1; omega
  clear h
  go_enter Tryz.func7, Tryz.ntmps7
  go_wp2_with (first
    | (go_at_call 23; refine (HN.out _).mono ?_; rintro e w2 ⟨rfl, rfl⟩)
    | (go_at_call 24; refine (HS.out _).mono ?_; rintro e w3 ⟨sd, sb, rfl, hS3, hsd, hsb, hb3⟩; have HS3 := Lib.hid hS3; have HG := Lib.hid (And.intro hsd hsb); clear hS3 hsd hsb; obtain ⟨x0, x1, x2⟩ := HR.out w3 hb3.out)
    | (simp only [mk_map, Result.andThen_ok])
    | (refine valTo rfl (.agg (scs (new0 me qh qb qg) w3.heap.size sd (.slice none 0 0) 0)) (exec_build _ _ (.tmp 40) (.tmp 41) (.tmp 42) (.tmp 43) me qh qb qg w3.heap.size sd rfl rfl rfl rfl rfl _) ?_)
    | (refine allocTo rfl (.pointer (some ⟨_, 0, none⟩)) (.cells (scs (new0 me qh qb qg) w3.heap.size sd (.slice none 0 0) 0) 79 (0, 0)) (exec_box _ _ (.tmp 44) me qh qb qg w3.heap.size sd rfl rfl _) ?_))
  go_ret2
  have hk3 := go_on HB.out hb3.out
  have hz : w.heap.size + 1 ≤ w3.heap.size := by
    have := hb3.out.size
    simpa using this
  have hbm : Below w3.heap.size w3 (w3.alloc (.map #[] 0)) := Me.below_alloc (Below.refl _ _)
  have hbn : Below (w3.alloc (.map #[] 0)).heap.size (w3.alloc (.map #[] 0)) ((w3.alloc (.map #[] 0)).alloc (.cells (scs (new0 me qh qb qg) w3.heap.size sd (.slice none 0 0) 0) 79 (0, 0))) := Me.below_alloc (Below.refl _ _)
  have hbb := go_on hbm hbn
  have hnew := heap_alloc_new (w3.alloc (.map #[] 0)) (.cells (scs (new0 me qh qb qg) w3.heap.size sd (.slice none 0 0) 0) 79 (0, 0))
  rw [World.size_alloc] at hnew
  have hsl := HS3.out.lt
  have hgg := HG.out
  rw [World.size_alloc] at hgg
  refine ⟨_, rfl, w3.heap.size, sd, sb, ⟨hnew, ?_, ki_nil _, (Se.SetL.of_new E HS3.out).below hbb, HOk.out, by omega⟩, ⟨by omega, by omega, by omega, by omega⟩, go_on hk3 hbb⟩
  exact (Mp.made E w3).keep (hbn.block _ (by simp)) (U8s.below hbn) fun _ _ h => h
end Go.Proofs.YtfnlhfelpdkieaaGreat.So
/- An event makes of a store what it is behind it: Apply. -/
namespace Go.Proofs.YtfnlhfelpdkieaaGreat.So
open Go.RowKit
open Go.Proofs.YtfnlhfelpdkieaaGreat.Me Go.Proofs.YtfnlhfelpdkieaaGreat.Sb
set_option linter.unusedVariables false
set_option linter.unusedSimpArgs false

/-- 64 noughts. -/
def z64 : Array Value := (List.replicate 64 (Value.int .i64 0)).toArray
theorem build_z (w : World) : (Instr.build 76 #[]).run Tryz.prog w = .ok (.agg z64) w := by kernel_rfl
theorem exec_z (ρ : Operand → Value) (o : Oper) (ho : o.op = .build 76 #[]) (w : World) : (execOp ρ o).run Tryz.prog w = .ok (.value (.agg z64)) w := by
  unfold execOp
  rw [ho]
  simp [build_z, Result.andThen]
set_option maxRecDepth 100000 in
theorem Box.zero {w : World} {D : Nat} {s : Sto} {hb sd : Nat} {v : Value} {n : Int} (h : Box w D s hb sd v n) : Box (w.setCells D 5 z64.toList) D ⟨s.self, s.qh, s.qb, s.qg, s.epoch, fun _ => 0, s.held, s.seen⟩ hb sd v n := by
  have hl : z64.toList.length = 64 := by show (List.replicate 64 (Value.int .i64 0)).length = 64; exact List.length_replicate
  have hz : ∀ j, j < 64 → z64.toList[j]? = some (.int .i64 0) := fun j hj => by show (List.replicate 64 (Value.int .i64 0))[j]? = _; rw [List.getElem?_replicate, if_pos hj]
  obtain ⟨z, hzz⟩ : ∃ z, z64.toList = z := ⟨_, rfl⟩
  rw [hzz] at hl hz ⊢
  clear hzz
  obtain ⟨cur, hcur⟩ : ∃ x, scs s hb sd v n = x := ⟨_, rfl⟩
  have hs : cur.size = 73 := by rw [← hcur]; exact row_size _
  have hat : ∀ k, k < 73 → cur[k]? = some (gc s.self s.qh s.qb s.qg s.epoch s.last (.map (some hb)) v n (.pointer (some ⟨sd, 0, none⟩)) k) := fun k hk => by rw [← hcur]; exact row_at _ hk
  have h' : w.heap[D]? = some (.cells cur 79 (0, 0)) := by rw [← hcur]; exact h
  clear hcur h
  obtain ⟨cur', q1, q2, q3, q4⟩ := heap_setCells D 79 z 5 w cur h'
  have hc : cur' = row (gc s.self s.qh s.qb s.qg s.epoch (fun _ => 0) (.map (some hb)) v n (.pointer (some ⟨sd, 0, none⟩))) := by
    apply Array.ext_getElem?
    intro k
    by_cases hk : k < 73
    · rw [row_at _ hk]
      by_cases h5 : 5 ≤ k ∧ k < 69
      · obtain ⟨j, rfl⟩ : ∃ j, k = 5 + j := ⟨k - 5, by omega⟩
        rw [q4 j (by rw [hl]; omega) (by rw [hs]; omega), gc_last _ _ _ _ _ _ _ _ _ _ (by omega), hz j (by omega)]
      · rw [q3 k (by rw [hl]; omega), hat k hk]
        congr 1
        unfold gc
        by_cases k5 : k < 5
        · have : k = 0 ∨ k = 1 ∨ k = 2 ∨ k = 3 ∨ k = 4 := by omega
          rcases this with rfl | rfl | rfl | rfl | rfl <;> rfl
        · have : k = 69 ∨ k = 70 ∨ k = 71 ∨ k = 72 := by omega
          rcases this with rfl | rfl | rfl | rfl <;> rfl
    · rw [Array.getElem?_eq_none (by rw [q2, hs]; omega), Array.getElem?_eq_none (by rw [row_size]; omega)]
  rw [hc] at q1
  exact q1
theorem Box.there {w : World} {D : Nat} {s : Sto} {hb sd : Nat} {v : Value} {n : Int} (h : Box w D s hb sd v n) : w.there D 5 64 := fun j hj => ⟨by rw [h.cell (by omega)]; rfl, h.frozen _⟩
/-- The blocks that Apply turns: those of the store's, and its set's lists. -/
def ChgI (E : Nat → Prop) (w : World) (D hb sd sb : Nat) (v : Value) (k : Nat) : Prop := Chg D hb sd sb v k ∨ (E k ∧ ∃ cs, w.heap[k]? = some (.cells cs 3 (0, 0)))
theorem Sq.deliver {E : Nat → Prop} {w w' : World} {D hb sd sb m m' : Nat} {v : Value} {s : Sto} {i : Mg.Id4} (h : Sq E w D hb sd sb m v s) (hb' : But (fun k => k = sd ∨ k = sb ∨ (E k ∧ ∃ cs, w.heap[k]? = some (.cells cs 3 (0, 0)))) w w') (hset : Se.SetL E w' sd sb m' (Se.addS s.seen i)) (hok : Ok (delS s i)) : Sq E w' D hb sd sb m' v (delS s i) := by
  obtain ⟨a1, a2, a3, a4, a5, a6, a7⟩ := h.apart
  have hn : ∀ k, Chg D hb sd sb v k → ¬ (E k ∧ ∃ cs, w.heap[k]? = some (.cells cs 3 (0, 0))) := fun k hk ⟨_, cs, hc⟩ => (h.no8 hk cs).2 hc
  have hu : U8s E w w' := U8s.but hb' fun k cs _ hk e => by
    rcases e with rfl | rfl | ⟨_, cs', hc⟩
    · exact (h.no8 (.inr (.inr (.inl rfl))) cs).1 hk
    · exact (h.no8 (.inr (.inr (.inr (.inl rfl)))) cs).1 hk
    · rw [hc] at hk
      simp at hk
  refine ⟨h.box.at_ (hb'.same D h.box.lt fun e => e.elim a2 fun e => e.elim a3 (hn D (.inl rfl))), h.map.keep (hb'.same hb h.map.lt fun e => e.elim a4 fun e => e.elim a5 (hn hb (.inr (.inl rfl)))) hu fun _ _ h => h, ki_at h.ord fun k e => hb'.same k (Ki.lt h.ord e).2 fun q => q.elim (a7 k e).2.2.1 fun q => q.elim (a7 k e).2.2.2 (hn k (.inr (.inr (.inr (.inr e))))), hset, hok, h.ne⟩
/-- What Apply leaves. -/
def AppP (E : Nat → Prop) (D hb sd sb m : Nat) (v : Value) (s : Sto) (k : Int) (i : Mg.Id4) (p : List Nat) (w : World) (e : Ending) (w' : World) : Prop :=
  e = .returned (.int .i64 (mayE s k i p.length : Int)) ∧ ∃ v' m', m' ≤ m + 1 ∧ Hid (Sq E w' D hb sd sb m' v' (appE s k i p)) ∧ Hid (But (ChgI E w D hb sd sb v) w w') ∧ Hid (∀ q, v'.ownBlock = some q → v.ownBlock = some q ∨ w.heap.size ≤ q)
section
variable (E : Nat → Prop) (D hb sd sb m : Nat) (v : Value) (s : Sto) (w : World)
set_option maxRecDepth 100000 in
set_option maxHeartbeats 8000000 in
theorem Apply_any (k : Int) (i : Mg.Id4) (A : Option Addr) (c : Nat) (p : List Nat) (hm : m ≤ 5000000) (hp : Hid (Rd w w.heap.size A p)) (hA : Hid (A = none → p.length = 0 ∧ c = 0)) (hE : Hid (∀ k, w.heap.size ≤ k → E k)) (hS : Hid (Sq E w D hb sd sb m v s)) :
    Calls Tryz.prog 13 #[.pointer (some ⟨D, 0, none⟩), .agg (evC k i A p.length c)] w (AppP E D hb sd sb m v s k i p w) := by
  have HM : Hid (∀ W, Below w.heap.size w W → Calls Tryz.prog 18 #[.pointer (some ⟨D, 0, none⟩), .agg (evC k i A p.length c)] W fun e w' => e = .returned (.int .i64 (mayE s k i p.length : Int)) ∧ Hid (Below W.heap.size W w')) := fun W hW => May_any E D hb sd sb m v s W k i A p.length c (hS.out.below hW)
  obtain ⟨V, hV⟩ : ∃ V, w.alloc (.cells (evC k i A p.length c) 48) = V := ⟨_, rfl⟩
  have hB : Below w.heap.size w V := by rw [← hV]; exact Me.below_alloc (Below.refl _ _)
  have hR : V.heap[w.heap.size]? = some (.cells (evC k i A p.length c) 48 (0, 0)) := by rw [← hV]; exact heap_alloc_new w _
  have HC : Hid (∀ W, Below V.heap.size V W → Sq E W D hb sd sb m v s ∧ W.heap[w.heap.size]? = some (.cells (evC k i A p.length c) 48 (0, 0)) ∧ Below w.heap.size w W) := fun W hW => by
    have h := hB.trans (hW.mono hB.size)
    exact ⟨hS.out.below h, (hW.block _ (Array.getElem?_eq_some_iff.1 hR).1).trans hR, h⟩
  have HV := Lib.hid hV
  have HB := Lib.hid hB
  have HLt := Lib.hid hS.out.lt
  have hbytes : ∀ z ∈ p, z < 256 := hp.out.1
  have HOkA := Lib.hid (hS.out.ok.app k i hbytes)
  unfold AppP
  by_cases h0 : mayE s k i p.length = 0
  · have hch : chkE k i p.length = 0 := by
      unfold mayE at h0
      split at h0
      · rename_i h1; exact absurd h0 h1
      · rename_i h1; exact Decidable.not_not.1 h1
    rw [h0] at HM ⊢
    rcases fit_ev hch with rfl | ⟨rfl, hr, hn⟩ | ⟨rfl, hr⟩ | ⟨rfl, hr⟩
    · have hap : appE s 1 i p = bootS s := by unfold appE; rw [if_neg (by simp [h0]), if_pos rfl]
      rw [hap] at HOkA ⊢
      have he1 := hS.out.ok.e1
      have he0 := hS.out.ok.e0
      have HWr : Hid (IntKind.i64.wrap (s.epoch + 1) = s.epoch + 1) := Mi.fits' ⟨by omega, by omega⟩
      have HE : Hid (∀ W, Below V.heap.size V W → W.heap[w.heap.size]? = some (.cells (evC 1 i A p.length c) 48 (0, 0))) := fun W hW => (HC.out W hW).2.1
      obtain ⟨pn, hpn⟩ : ∃ x, p.length = x := ⟨_, rfl⟩
      rw [hpn] at HM HV HE ⊢
      obtain ⟨o, d, ee, cc⟩ := i
      simp only [evC, show ((0 : Nat) : Int) = 0 from rfl] at HM HV HE ⊢
      obtain ⟨ep, hep⟩ : ∃ x, s.epoch = x := ⟨_, rfl⟩
      have HEp := Lib.hid hep
      rw [hep] at HWr
      clear hV hB hR hch hap hbytes hpn hp hA hS hep h0 he0 he1
      go_enter Tryz.func13, Tryz.ntmps13
      go_wp2_with (first
        | (go_at_call 18; rw [HV.out]; refine (HM.out _ HB.out).mono ?_; rintro e w2 ⟨rfl, b2⟩; obtain ⟨x0, x1, x2, x3, x4, x5⟩ := ev_cells (HE.out w2 b2.out); have HS2 := Lib.hid (HC.out w2 b2.out).1; have ye := HS2.out.box.epoch; rw [HEp.out] at ye; have yf := HS2.out.box.frozen 4; have q := HWr.out)
        | (refine valTo rfl (.agg z64) (exec_z _ _ rfl _) ?_)
        | (refine wpList_store_mid rfl 76 (.tmp 26) (.tmp 24) rfl D 5 z64 rfl rfl ?ht (by kernel_rfl) (by kernel_rfl) ?_))
      case ht => exact (HS2.out.box.setE (ep + 1)).there
      go_ret
      have hbox : Box ((w2.setCell ⟨D, 4, none⟩ (.int .i64 (ep + 1))).setCells D 5 z64.toList) D (bootS s) hb sd v (bytesOf (bootS s).held) := by
        have := (HS2.out.box.setE (ep + 1)).zero
        rw [← HEp.out] at this ⊢
        exact this
      have hbut : But (fun k => k = D) w2 ((w2.setCell ⟨D, 4, none⟩ (.int .i64 (ep + 1))).setCells D 5 z64.toList) := ((But.refl (fun k => k = D) w2).set (p := ⟨D, 4, none⟩) (.inl rfl) _).trans (but_setCells _ D 5 _).1 fun _ _ h => h
      exact ⟨rfl, v, m, by omega, HS2.out.only hbut rfl rfl hbox HOkA.out, (But.of_below (HC.out w2 b2.out).2.2).trans hbut fun _ _ h => .inl (.inl h), fun q e => .inl e⟩
    · have hap : appE s 2 i p = useS (holdS s i p) i := by unfold appE; rw [if_neg (by simp [h0]), if_neg (by decide), if_pos rfl]
      have hmh : mayH s i p.length = 0 := by
        unfold mayE at h0
        rw [if_neg (by simp [hch]), if_neg (by decide), if_pos rfl] at h0
        exact h0
      have hg : Mg.msgN i p.length = 0 := by
        unfold chkE at hch
        rw [if_neg (by decide), if_pos rfl] at hch
        exact hch
      have hno : findH s.held i = none := by
        cases hf : findH s.held i with
        | none => rfl
        | some q =>
          unfold mayH at hmh
          split at hmh
          · cases hmh
          split at hmh
          · cases hmh
          rename_i h2
          exact absurd (by unfold hasH; rw [hf]; rfl) h2
      rw [hap]
      have HHo : Hid (∀ W, Below V.heap.size V W → Calls Tryz.prog 34 #[.pointer (some ⟨D, 0, none⟩), .agg (Mg.msgC i A p.length c)] W fun e w' => (∃ x, e = .returned x) ∧ ∃ v', Hid (Sq E w' D hb sd sb m v' (holdS s i p)) ∧ Hid (But (Chg D hb sd sb v) W w') ∧ Hid (∀ k, v'.ownBlock = some k → v.ownBlock = some k ∨ W.heap.size ≤ k)) := fun W hW => by
        obtain ⟨s1, _, s3⟩ := HC.out W hW
        exact hold_any E D hb sd sb m v s W i A c p hr hno (hS.out.ok.hold hmh hg hbytes) ((hp.out.below s3).more s3.size) hA (fun k hk => hE.out k (by have := s3.size; omega)) s1
      have HUs : Hid (∀ W v', Sq E W D hb sd sb m v' (holdS s i p) → Calls Tryz.prog 35 #[.pointer (some ⟨D, 0, none⟩), .agg (Mg.idC i)] W fun e w' => (∃ x, e = .returned x) ∧ Hid (Sq E w' D hb sd sb m v' (useS (holdS s i p) i)) ∧ Hid (But (fun k => k = D) W w')) := fun W v' hW => use_any E D hb sd sb m v' (holdS s i p) W i hr hW
      have HE : Hid (∀ W, Below V.heap.size V W → W.heap[w.heap.size]? = some (.cells (evC 2 i A p.length c) 48 (0, 0))) := fun W hW => (HC.out W hW).2.1
      have HW : Hid (∀ W, Below V.heap.size V W → Below w.heap.size w W) := fun W hW => (HC.out W hW).2.2
      have HXc : Hid (¬ Chg D hb sd sb v w.heap.size) := fun h => by have := HLt.out _ h; omega
      obtain ⟨S2, hS2⟩ : ∃ x, holdS s i p = x := ⟨_, rfl⟩
      rw [hS2] at HHo HUs ⊢
      obtain ⟨S3, hS3⟩ : ∃ x, useS S2 i = x := ⟨_, rfl⟩
      rw [hS3] at HUs ⊢
      obtain ⟨pn, hpn⟩ : ∃ x, p.length = x := ⟨_, rfl⟩
      rw [hpn] at HM HV HE HHo ⊢
      obtain ⟨o, d, ee, cc⟩ := i
      simp only [evC, Mg.msgC, Mg.idC, show ((0 : Nat) : Int) = 0 from rfl] at HM HV HE HHo HUs ⊢
      clear hV hB hR hch hap hbytes hpn hp hA hS h0 hmh hg hno hS2 hS3 hr hn HOkA HC
      go_enter Tryz.func13, Tryz.ntmps13
      go_wp2_with (first
        | (go_at_call 18; rw [HV.out]; refine (HM.out _ HB.out).mono ?_; rintro e w2 ⟨rfl, b2⟩; obtain ⟨x0, x1, x2, x3, x4, x5⟩ := ev_cells (HE.out w2 b2.out))
        | (go_at_call 34; refine (HHo.out _ b2.out).mono ?_; rintro e w3 ⟨⟨y, rfl⟩, v3, hs3, hb3, hv3⟩; obtain ⟨x0, x1, x2, x3, x4, x5⟩ := ev_cells (hb3.out.at_ (HE.out w2 b2.out) HXc.out))
        | (go_at_call 35; refine (HUs.out _ v3 hs3.out).mono ?_; rintro e w4 ⟨⟨y4, rfl⟩, hs4, hb4⟩))
      go_ret
      have hbw := HW.out w2 b2.out
      refine ⟨rfl, v3, m, by omega, hs4.out, (((But.of_below (S := Chg D hb sd sb v) hbw).trans hb3.out fun _ _ h => h).trans hb4.out fun _ _ h => .inl h).mono fun _ _ h => .inl h, fun q e => ?_⟩
      rcases hv3.out q e with h | h
      · exact .inl h
      · have := hbw.size
        exact .inr (by omega)
    · have hap : appE s 3 i p = relS s i := by unfold appE; rw [if_neg (by simp [h0]), if_neg (by decide), if_neg (by decide), if_pos rfl]
      have hmr : mayR s i = 0 := by
        unfold mayE at h0
        rw [if_neg (by simp [hch]), if_neg (by decide), if_neg (by decide), if_pos rfl] at h0
        exact h0
      obtain ⟨q0, hq0⟩ : ∃ q, findH s.held i = some q := by
        unfold mayR hasH at hmr
        cases hf : findH s.held i with
        | some q => exact ⟨q, rfl⟩
        | none => rw [hf] at hmr; exact absurd hmr (by decide)
      rw [hap]
      have HRe : Hid (∀ W, Below V.heap.size V W → Calls Tryz.prog 36 #[.pointer (some ⟨D, 0, none⟩), .agg (Mg.idC i)] W fun e w' => (∃ x, e = .returned x) ∧ ∃ v', Hid (Sq E w' D hb sd sb m v' (relS s i)) ∧ Hid (But (Chg D hb sd sb v) W w') ∧ Hid (v'.ownBlock = v.ownBlock)) := fun W hW => release_any E D hb sd sb m v s W i q0 hr hq0 (HC.out W hW).1
      have HE : Hid (∀ W, Below V.heap.size V W → W.heap[w.heap.size]? = some (.cells (evC 3 i A p.length c) 48 (0, 0))) := fun W hW => (HC.out W hW).2.1
      have HW : Hid (∀ W, Below V.heap.size V W → Below w.heap.size w W) := fun W hW => (HC.out W hW).2.2
      obtain ⟨S2, hS2⟩ : ∃ x, relS s i = x := ⟨_, rfl⟩
      rw [hS2] at HRe ⊢
      obtain ⟨pn, hpn⟩ : ∃ x, p.length = x := ⟨_, rfl⟩
      rw [hpn] at HM HV HE ⊢
      obtain ⟨o, d, ee, cc⟩ := i
      simp only [evC, Mg.idC, show ((0 : Nat) : Int) = 0 from rfl] at HM HV HE HRe ⊢
      clear hV hB hR hch hap hbytes hpn hp hA hS h0 hmr hq0 hS2 hr HOkA HC
      go_enter Tryz.func13, Tryz.ntmps13
      go_wp2_with (first
        | (go_at_call 18; rw [HV.out]; refine (HM.out _ HB.out).mono ?_; rintro e w2 ⟨rfl, b2⟩; obtain ⟨x0, x1, x2, x3, x4, x5⟩ := ev_cells (HE.out w2 b2.out))
        | (go_at_call 36; refine (HRe.out _ b2.out).mono ?_; rintro e w3 ⟨⟨y, rfl⟩, v3, hs3, hb3, hv3⟩))
      go_ret
      have hbw := HW.out w2 b2.out
      exact ⟨rfl, v3, m, by omega, hs3.out, (But.of_below hbw).trans hb3.out fun _ _ h => .inl h, fun q e => .inl (hv3.out.symm.trans e)⟩
    · have hap : appE s 4 i p = delS s i := by unfold appE; rw [if_neg (by simp [h0]), if_neg (by decide), if_neg (by decide), if_neg (by decide)]
      have hmd : Se.mayN s.seen i = 0 := by
        unfold mayE at h0
        rw [if_neg (by simp [hch]), if_neg (by decide), if_neg (by decide), if_neg (by decide)] at h0
        unfold mayD at h0
        split at h0
        · cases h0
        · exact h0
      rw [hap] at HOkA ⊢
      have HAd : Hid (∀ W, Below V.heap.size V W → Calls Tryz.prog 37 #[.pointer (some ⟨sd, 0, none⟩), .agg (Mg.idC i)] W fun e w' => e = .returned (.int .i64 0) ∧ ∃ m', m' ≤ m + 1 ∧ Hid (Sq E w' D hb sd sb m' v (delS s i)) ∧ Hid (But (fun k => k = sd ∨ k = sb ∨ (E k ∧ ∃ cs, W.heap[k]? = some (.cells cs 3 (0, 0)))) W w')) := fun W hW => (Se.Add_anyL E sd sb m s.seen i W (HC.out W hW).1.set hm fun k hk => hE.out k (Nat.le_trans (HC.out W hW).2.2.size hk)).mono fun e w' h => by
        unfold Se.AddPL at h
        rw [hmd] at h
        obtain ⟨h1, n', h2, h3, h4⟩ := h
        exact ⟨h1, n', h2, (HC.out W hW).1.deliver h4.out h3.out HOkA.out, h4⟩
      have HE : Hid (∀ W, Below V.heap.size V W → W.heap[w.heap.size]? = some (.cells (evC 4 i A p.length c) 48 (0, 0)) ∧ W.cell? ⟨D, 72, none⟩ = some (.pointer (some ⟨sd, 0, none⟩))) := fun W hW => ⟨(HC.out W hW).2.1, (HC.out W hW).1.box.set⟩
      have HW : Hid (∀ W, Below V.heap.size V W → Below w.heap.size w W) := fun W hW => (HC.out W hW).2.2
      have HDb : Hid (∀ W, Below V.heap.size V W → W.heap[D]? = some (.cells (scs s hb sd v (bytesOf s.held)) 79 (0, 0))) := fun W hW => (HC.out W hW).1.box
      have HDs : Hid (¬ (D = sd ∨ D = sb)) := fun h => h.elim hS.out.apart.2.1 hS.out.apart.2.2.1
      obtain ⟨S2, hS2⟩ : ∃ x, delS s i = x := ⟨_, rfl⟩
      rw [hS2] at HAd ⊢
      obtain ⟨pn, hpn⟩ : ∃ x, p.length = x := ⟨_, rfl⟩
      rw [hpn] at HM HV HE ⊢
      obtain ⟨o, d, ee, cc⟩ := i
      simp only [evC, Mg.idC, show ((0 : Nat) : Int) = 0 from rfl] at HM HV HE HAd ⊢
      clear hV hB hR hch hap hbytes hpn hp hA hS h0 hmd hS2 hr HOkA HC
      go_enter Tryz.func13, Tryz.ntmps13
      go_wp2_with (go_at_call 18; rw [HV.out]; refine (HM.out _ HB.out).mono ?_; rintro e w2 ⟨rfl, b2⟩; obtain ⟨x0, x1, x2, x3, x4, x5⟩ := ev_cells (HE.out w2 b2.out).1)
      have S0 : But (fun k => k = sd ∨ k = sb ∨ (E k ∧ ∃ cs, w2.heap[k]? = some (.cells cs 3 (0, 0)))) w2 w2.drew := But.of_below (Below.refl _ _).drew
      have HB2 := Lib.hid b2.out
      have hX2 : ∀ W, Below w2.heap.size w2 W → W.heap[w.heap.size]? = some (.cells #[.int .i64 4, .int .i64 o, .int .i64 d, .int .i64 ee, .int .i64 cc, .slice A pn c] 48 (0, 0)) ∧ W.cell? ⟨D, 72, none⟩ = some (.pointer (some ⟨sd, 0, none⟩)) := fun W hW => HE.out W (HB2.out.trans (hW.mono HB2.out.size))
      have hxs : ¬ (w.heap.size = sd ∨ w.heap.size = sb ∨ (E w.heap.size ∧ ∃ cs, w2.heap[w.heap.size]? = some (.cells cs 3 (0, 0)))) ∧ ¬ (D = sd ∨ D = sb ∨ (E D ∧ ∃ cs, w2.heap[D]? = some (.cells cs 3 (0, 0)))) := ⟨fun h => by
        have h1 := HLt.out sd (.inr (.inr (.inl rfl)))
        have h2 := HLt.out sb (.inr (.inr (.inr (.inl rfl))))
        rcases h with h | h | ⟨_, cs, hc⟩
        · omega
        · omega
        · rw [(hX2 w2 (Below.refl _ _)).1] at hc
          simp at hc, fun h => by
        rcases h with h | h | ⟨_, cs, hc⟩
        · exact HDs.out (.inl h)
        · exact HDs.out (.inr h)
        · rw [HDb.out w2 HB2.out] at hc
          simp at hc⟩
      have HX3 : Hid (∀ W, But (fun k => k = sd ∨ k = sb ∨ (E k ∧ ∃ cs, w2.heap[k]? = some (.cells cs 3 (0, 0)))) w2 W → W.heap[w.heap.size]? = some (.cells #[.int .i64 4, .int .i64 o, .int .i64 d, .int .i64 ee, .int .i64 cc, .slice A pn c] 48 (0, 0)) ∧ W.cell? ⟨D, 72, none⟩ = some (.pointer (some ⟨sd, 0, none⟩))) := fun W hW => by
        obtain ⟨h1, h2⟩ := hX2 w2 (Below.refl _ _)
        refine ⟨hW.at_ h1 hxs.1, ?_⟩
        rw [← h2]
        exact World.cell?_of_block (w := w2) (a := ⟨D, 72, none⟩) (hW.same D (World.block_lt_of_cell? w2 _ h2) hxs.2)
      clear hX2 hxs x0 x1 x2 x3 x4 x5
      refine wp_region_held_drew (S := fun W => But (fun k => k = sd ∨ k = sb ∨ (E k ∧ ∃ cs, w2.heap[k]? = some (.cells cs 3 (0, 0)))) w2 W) (by kernel_rfl) S0 (fun hHeld => ?_)
      refine wpAnyH_take (i := 0) (v := .pointer (some ⟨D, 0, none⟩)) rfl (by kernel_rfl) (by kernel_rfl) (by kernel_rfl) (fun _ _ _ h => h) (Or.inl ⟨by rfl, ?_⟩) (by first | assumption | exact trivial) ?_
      · intro W hSW; go_simp; try (with_reducible rfl)
      simp only [Act.put, List.getElem_toArray, List.getElem_cons_succ, List.getElem_cons_zero, List.setIfInBounds_toArray, List.set_cons_zero, List.set_cons_succ]
      refine wpAnyH_take (i := 1) (v := .pointer (some ⟨D, 0, none⟩)) rfl (by kernel_rfl) (by kernel_rfl) (by kernel_rfl) (fun _ _ _ h => h) (Or.inl ⟨by rfl, ?_⟩) (by first | assumption | exact trivial) ?_
      · intro W hSW; go_simp; try (with_reducible rfl)
      simp only [Act.put, List.getElem_toArray, List.getElem_cons_succ, List.getElem_cons_zero, List.setIfInBounds_toArray, List.set_cons_zero, List.set_cons_succ]
      refine wpAnyH_take (i := 2) (v := .pointer (some ⟨D, 72, none⟩)) rfl (by kernel_rfl) (by kernel_rfl) (by kernel_rfl) (fun _ _ _ h => h) (Or.inl ⟨by rfl, ?_⟩) (by first | assumption | exact trivial) ?_
      · intro W hSW; go_simp; try (with_reducible rfl)
      simp only [Act.put, List.getElem_toArray, List.getElem_cons_succ, List.getElem_cons_zero, List.setIfInBounds_toArray, List.set_cons_zero, List.set_cons_succ]
      refine wpAnyH_take (i := 3) (v := .pointer (some ⟨sd, 0, none⟩)) rfl (by kernel_rfl) (by kernel_rfl) (by kernel_rfl) (fun _ _ _ h => h) (Or.inl ⟨by rfl, ?_⟩) (by first | assumption | exact trivial) ?_
      · intro W hSW; have y := (HX3.out W hSW).2; go_simp; try (with_reducible rfl)
      simp only [Act.put, List.getElem_toArray, List.getElem_cons_succ, List.getElem_cons_zero, List.setIfInBounds_toArray, List.set_cons_zero, List.set_cons_succ]
      refine wpAnyH_take (i := 4) (v := .pointer (some ⟨w.heap.size, 1, none⟩)) rfl (by kernel_rfl) (by kernel_rfl) (by kernel_rfl) (fun _ _ _ h => h) (Or.inl ⟨by rfl, ?_⟩) (by first | assumption | exact trivial) ?_
      · intro W hSW; go_simp; try (with_reducible rfl)
      simp only [Act.put, List.getElem_toArray, List.getElem_cons_succ, List.getElem_cons_zero, List.setIfInBounds_toArray, List.set_cons_zero, List.set_cons_succ]
      refine wpAnyH_take (i := 5) (v := .pointer (some ⟨w.heap.size, 1, none⟩)) rfl (by kernel_rfl) (by kernel_rfl) (by kernel_rfl) (fun _ _ _ h => h) (Or.inl ⟨by rfl, ?_⟩) (by first | assumption | exact trivial) ?_
      · intro W hSW; go_simp; try (with_reducible rfl)
      simp only [Act.put, List.getElem_toArray, List.getElem_cons_succ, List.getElem_cons_zero, List.setIfInBounds_toArray, List.set_cons_zero, List.set_cons_succ]
      refine wpAnyH_take (i := 6) (v := .agg #[.int .i64 o, .int .i64 d, .int .i64 ee, .int .i64 cc]) rfl (by kernel_rfl) (by kernel_rfl) (by kernel_rfl) (fun _ _ _ h => h) (Or.inl ⟨by rfl, ?_⟩) (by first | assumption | exact trivial) ?_
      · intro W hSW; obtain ⟨z0, z1, z2, z3, z4, z5⟩ := ev_cells (HX3.out W hSW).1; go_simp; try (with_reducible rfl)
      simp only [Act.put, List.getElem_toArray, List.getElem_cons_succ, List.getElem_cons_zero, List.setIfInBounds_toArray, List.set_cons_zero, List.set_cons_succ]
      refine wpAnyH_ready (rs := [7]) (by kernel_rfl) (by simp) ?_
      refine AllReadyH.cons rfl (fun K hK => ?_) AllReadyH.nil
      go_simp
      have SB : Below V.heap.size V w2.drew := HB2.out.drew
      go_wp2_with (go_at_call 37; refine (HAd.out _ SB).mono ?_; rintro e w3 ⟨rfl, m3, hm3, hs3, hb3⟩)
      have S3 := S0.trans hb3.out fun _ _ h => h
      refine hK.out _ _ (S3) (fun hHeld => ?_)
      clear hK K
      refine wpAnyH_take (i := 8) (v := .int .i64 0) rfl (by kernel_rfl) (by kernel_rfl) (by kernel_rfl) (fun _ _ _ h => h) (Or.inl ⟨by rfl, ?_⟩) (by first | assumption | exact trivial) ?_
      · intro W hSW; go_simp; try (with_reducible rfl)
      simp only [Act.put, List.getElem_toArray, List.getElem_cons_succ, List.getElem_cons_zero, List.setIfInBounds_toArray, List.set_cons_zero, List.set_cons_succ]
      refine wpAnyH_done (by kernel_rfl) ?_ _
      go_wp2
      go_ret
      refine ⟨rfl, v, m3, hm3, hs3.out, (But.of_below (HW.out w2 HB2.out)).trans S3 fun k _ h => ?_, fun q e => .inl e⟩
      rcases h with h | h | h
      · exact .inl (.inr (.inr (.inl h)))
      · exact .inl (.inr (.inr (.inr (.inl h))))
      · exact .inr ⟨h.1, by rw [← (HW.out w2 HB2.out).block k (by assumption)]; exact h.2⟩
  · have hap : appE s k i p = s := by unfold appE; rw [if_pos h0]
    rw [hap]
    have hne := Mg.nz h0
    obtain ⟨z, hz⟩ : ∃ z, mayE s k i p.length = z := ⟨_, rfl⟩
    rw [hz] at HM hne ⊢
    obtain ⟨pn, hpn⟩ : ∃ x, p.length = x := ⟨_, rfl⟩
    rw [hpn] at HM HV ⊢
    obtain ⟨o, d, ee, cc⟩ := i
    simp only [evC] at HM HV ⊢
    clear hV hB hR hap hbytes hpn hp hA hS h0 hz
    go_enter Tryz.func13, Tryz.ntmps13
    go_wp2_with (go_at_call 18; rw [HV.out]; refine (HM.out _ HB.out).mono ?_; rintro e w2 ⟨rfl, b2⟩)
    go_ret
    obtain ⟨s1, _, s3⟩ := HC.out w2 b2.out
    exact ⟨rfl, v, m, by omega, s1, But.of_below s3, fun q e => .inl e⟩
end
end Go.Proofs.YtfnlhfelpdkieaaGreat.So
