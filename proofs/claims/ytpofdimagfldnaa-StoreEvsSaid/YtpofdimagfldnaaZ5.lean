/- The document's form of an event. -/
import Derived.Test.YtpofdimagfldnaaZ4
import Derived.Test.YtpofdimagfldnaaZ11
import Derived.Test.YtpofdimagfldnaaZ10
namespace Go.Proofs.Ytpofdimagfldnaa.So
open Go.RowKit
open Go.Proofs.Ytpofdimagfldnaa.Me Go.Proofs.Ytpofdimagfldnaa.Sb
set_option linter.unusedVariables false
set_option linter.unusedSimpArgs false

set_option maxRecDepth 100000 in
set_option maxHeartbeats 8000000 in
theorem zero_any (i : Mg.Id4) (w : World) : Calls Try.prog 85 #[.agg (Mg.idC i)] w fun e w' => e = .returned (.bool (decide (i = zeroI))) ∧ Hid (Below w.heap.size w w') := by
  have HB : Hid (Below w.heap.size w (w.alloc (.cells (Mg.idC i) 28))) := Me.below_alloc (Below.refl _ _)
  by_cases hi : i = zeroI
  · subst hi
    rw [decide_eq_true rfl]
    simp only [zeroI, Mg.idC] at HB ⊢
    go_enter Try.func85, Try.ntmps85
    go_wp2
    go_ret
    exact ⟨rfl, HB.out⟩
  · rw [decide_eq_false hi]
    obtain ⟨o, d, ee, cc⟩ := i
    have hne : (o == 0) = false ∨ (o = 0 ∧ (d == 0) = false) ∨ (o = 0 ∧ d = 0 ∧ (ee == 0) = false) ∨ (o = 0 ∧ d = 0 ∧ ee = 0 ∧ (cc == 0) = false) := by
      by_cases a0 : o = 0
      · by_cases a1 : d = 0
        · by_cases a2 : ee = 0
          · exact .inr (.inr (.inr ⟨a0, a1, a2, by simpa using fun h : cc = 0 => hi (by rw [a0, a1, a2, h]; rfl)⟩))
          · exact .inr (.inr (.inl ⟨a0, a1, by simpa using a2⟩))
        · exact .inr (.inl ⟨a0, by simpa using a1⟩)
      · exact .inl (by simpa using a0)
    clear hi
    simp only [Mg.idC] at HB ⊢
    rcases hne with h | ⟨rfl, h⟩ | ⟨rfl, rfl, h⟩ | ⟨rfl, rfl, rfl, h⟩
    all_goals
      go_enter Try.func85, Try.ntmps85
      go_wp2
      go_ret
      exact ⟨rfl, HB.out⟩
set_option maxRecDepth 100000 in
set_option maxHeartbeats 8000000 in
theorem RForm_any (k : Int) (i : Mg.Id4) (A : Option Addr) (n q : Nat) (w : World) : Calls Try.prog 51 #[.agg (evC k i A n q)] w fun e w' => e = .returned (.int .i64 (chkE k i n : Int)) ∧ Hid (Below w.heap.size w w') := by
  have HB : Hid (Below w.heap.size w (w.alloc (.cells (evC k i A n q) 60))) := Me.below_alloc (Below.refl _ _)
  have HR : Hid (∀ W, Below (w.alloc (.cells (evC k i A n q) 60)).heap.size (w.alloc (.cells (evC k i A n q) 60)) W → W.heap[w.heap.size]? = some (.cells (evC k i A n q) 60 (0, 0))) := fun W hW => (hW.block _ (by simp)).trans (heap_alloc_new w _)
  have HK := Lib.hid (fun W => Mg.RCheck_any i W)
  have HM := Lib.hid (fun W => Mg.RCheckMsg_any i A n q W)
  have HZ := Lib.hid (fun W => zero_any i W)
  obtain ⟨c, hc⟩ : ∃ c, Mg.chkN i = c := ⟨_, rfl⟩
  obtain ⟨z, hz⟩ : ∃ z, Mg.msgN i n = z := ⟨_, rfl⟩
  obtain ⟨b, hb⟩ : ∃ b, decide (i = zeroI) = b := ⟨_, rfl⟩
  have hb' : (i = zeroI) ↔ b = true := by rw [← hb]; simp
  unfold chkE
  rw [hc, hz]
  rw [hc] at HK
  rw [hz] at HM
  rw [hb] at HZ
  clear hb
  by_cases k1 : k = 1
  · subst k1
    rw [if_pos rfl]
    clear HK HM hc hz
    obtain ⟨o, d, ee, cc⟩ := i
    simp only [evC, Mg.idC] at HB HR HZ ⊢
    by_cases hi : b = true
    · by_cases hn : n = 0
      · rw [if_pos ⟨hb'.2 hi, hn⟩]
        subst hi hn
        clear hb'
        go_enter Try.func51, Try.ntmps51
        go_wp2_with (go_at_call 85; refine (HZ.out _).mono ?_; rintro e w2 ⟨rfl, b2⟩; obtain ⟨x0, x1, x2, x3, x4, x5⟩ := ev_cells (HR.out w2 b2.out))
        go_ret
        exact ⟨rfl, go_on HB.out b2.out⟩
      · rw [if_neg (fun h => hn h.2)]
        subst hi
        have e1 : decide ((0 : Int) < (n : Int)) = true := by simp; omega
        have e2 : (0 : Int) < (n : Int) := by omega
        clear hb'
        go_enter Try.func51, Try.ntmps51
        go_wp2_with (go_at_call 85; refine (HZ.out _).mono ?_; rintro e w2 ⟨rfl, b2⟩; obtain ⟨x0, x1, x2, x3, x4, x5⟩ := ev_cells (HR.out w2 b2.out))
        go_ret
        exact ⟨rfl, go_on HB.out b2.out⟩
    · rw [if_neg (fun h => hi (hb'.1 h.1))]
      obtain rfl : b = false := by simpa using hi
      clear hb' hi
      go_enter Try.func51, Try.ntmps51
      go_wp2_with (go_at_call 85; refine (HZ.out _).mono ?_; rintro e w2 ⟨rfl, b2⟩; obtain ⟨x0, x1, x2, x3, x4, x5⟩ := ev_cells (HR.out w2 b2.out))
      go_ret
      exact ⟨rfl, go_on HB.out b2.out⟩
  · rw [if_neg k1]
    have g1 : (k == 1) = false := by simpa using k1
    clear HZ hb'
    by_cases k2 : k = 2
    · subst k2
      rw [if_pos rfl]
      obtain ⟨o, d, ee, cc⟩ := i
      simp only [evC, Mg.msgC] at HB HR HM ⊢
      go_enter Try.func51, Try.ntmps51
      go_wp2_with (go_at_call 84; refine (HM.out _).mono ?_; rintro e w2 ⟨rfl, b2⟩)
      go_ret
      exact ⟨rfl, go_on HB.out b2.out⟩
    · rw [if_neg k2]
      have g2 : (k == 2) = false := by simpa using k2
      by_cases k3 : k = 3 ∨ k = 4
      · rw [if_pos k3]
        have l1 : ¬ k < 1 := by omega
        have l2 : ¬ 4 < k := by omega
        obtain ⟨o, d, ee, cc⟩ := i
        simp only [evC, Mg.idC] at HB HR HK ⊢
        by_cases h0 : c = 0
        · subst h0
          rw [if_neg (by simp)]
          simp only [show ((0 : Nat) : Int) = 0 from rfl] at HK
          by_cases hn : n = 0
          · subst hn
            rw [if_pos rfl]
            clear k3 hc hz HM k1 k2
            go_enter Try.func51, Try.ntmps51
            go_wp2_with (go_at_call 70; refine (HK.out _).mono ?_; rintro e w2 ⟨rfl, b2⟩; obtain ⟨x0, x1, x2, x3, x4, x5⟩ := ev_cells (HR.out w2 b2.out))
            go_ret
            exact ⟨rfl, go_on HB.out b2.out⟩
          · rw [if_neg hn]
            have hn1 : (0 : Int) < (n : Int) := by omega
            clear k3 hc hz HM k1 k2 hn
            go_enter Try.func51, Try.ntmps51
            go_wp2_with (go_at_call 70; refine (HK.out _).mono ?_; rintro e w2 ⟨rfl, b2⟩; obtain ⟨x0, x1, x2, x3, x4, x5⟩ := ev_cells (HR.out w2 b2.out))
            go_ret
            exact ⟨rfl, go_on HB.out b2.out⟩
        · rw [if_pos h0]
          have hc2 : ((c : Int) == 0) = false := Mg.nz h0
          clear k3 hc hz HM k1 k2 h0
          go_enter Try.func51, Try.ntmps51
          go_wp2_with (go_at_call 70; refine (HK.out _).mono ?_; rintro e w2 ⟨rfl, b2⟩; first
            | (have HG3 := Lib.hid (go_on HG2.out b2.out))
            | (have HG2 := Lib.hid (go_on HB.out b2.out); obtain ⟨x0, x1, x2, x3, x4, x5⟩ := ev_cells (HR.out w2 b2.out)))
          go_ret
          exact ⟨rfl, HG3.out⟩
      · rw [if_neg k3]
        have l1 : k < 1 ∨ (¬ k < 1 ∧ 4 < k) := by omega
        obtain ⟨o, d, ee, cc⟩ := i
        clear k3 k1 k2 hc hz HM HK
        simp only [evC] at HB HR ⊢
        rcases l1 with l1 | ⟨l1, l2⟩
        all_goals
          go_enter Try.func51, Try.ntmps51
          go_wp2
          go_ret
          exact ⟨rfl, HB.out⟩
end Go.Proofs.Ytpofdimagfldnaa.So
/- An event's bytes, on both sides. -/
namespace Go.Proofs.Ytpofdimagfldnaa.So
open Go.RowKit
open Go.Proofs.Ytpofdimagfldnaa.Me Go.Proofs.Ytpofdimagfldnaa.Sb
open Go.Proofs.Ytpofdimagfldnaa.Mg (OwP PutM idL idL_len row_own by_below)
set_option linter.unusedVariables false
set_option linter.unusedSimpArgs false

theorem one_own {w W : World} {b : Nat} (h : Below w.heap.size w W) : Me.Own (W.alloc (.cells #[.int .u8 (b : Int)] 5)) w.heap.size (.slice (some ⟨W.heap.size, 0, none⟩) 1 1) [b] :=
  row_own (l := [b]) (heap_alloc_new W _) h.size (by simp)
theorem box6 (k : Int) (i : Mg.Id4) (A : Option Addr) (n c : Nat) (w : World) : ∀ W, Below (w.alloc (.cells (evC k i A n c) 60)).heap.size (w.alloc (.cells (evC k i A n c) 60)) W → (W.cell? ⟨w.heap.size, 0, none⟩ = some (.int .i64 k) ∧ W.cell? ⟨w.heap.size, 1, none⟩ = some (.int .i64 i.o) ∧ W.cell? ⟨w.heap.size, 2, none⟩ = some (.int .i64 i.d) ∧ W.cell? ⟨w.heap.size, 3, none⟩ = some (.int .i64 i.e) ∧ W.cell? ⟨w.heap.size, 4, none⟩ = some (.int .i64 i.c) ∧ W.cell? ⟨w.heap.size, 5, none⟩ = some (.slice A n c)) ∧ Below w.heap.size w W := fun W hW =>
  ⟨ev_cells ((hW.block _ (by simp)).trans (heap_alloc_new w _)), go_on (Me.below_alloc (Below.refl _ _)) hW⟩
theorem own_sl {w : World} {B : Nat} {v : Value} {l : List Nat} (h : Me.Own w B v l) : ∃ A c, v = .slice A l.length c := by
  rcases h.2 with ⟨h1, h2⟩ | ⟨g, cap, cur, h1, _⟩
  · have : l = [] := by simpa using h2
    subst this
    exact ⟨none, 0, h1⟩
  · exact ⟨_, cap, h1⟩
theorem ow_some {L : List Nat} {v : Value} {w w' : World} (h : Me.Own w' w.heap.size v L) (hb : Below w.heap.size w w') {e : Ending} (he : e = .returned (.tuple #[v, .int .i64 0])) : OwP L 0 w e w' := by
  obtain ⟨A, c, rfl⟩ := own_sl h
  exact ⟨A, c, he, h, hb⟩
theorem own_rd {w : World} {B g n c : Nat} {l : List Nat} (h : Me.Own w B (.slice (some ⟨g, 0, none⟩) n c) l) (hl : ∀ z ∈ l, z < 256) : Rd w w.heap.size (some ⟨g, 0, none⟩) l := by
  obtain ⟨A', c', e, h1, h2, h3⟩ := h.held hl
  simp only [Value.slice.injEq] at e
  obtain ⟨rfl, _, rfl⟩ := e
  exact h3.rd
/-- A call that gives bytes of its own, and no error. -/
def Giv2 (f : FuncId) (args : Array Value) (w : World) (l : List Nat) (L : Nat) : Prop := ∀ W, Below w.heap.size w W → Calls Try.prog f args W fun e w' => ∃ g c', e = .returned (.tuple #[.slice (some ⟨g, 0, none⟩) L c', .int .i64 0]) ∧ Hid (Me.Own w' W.heap.size (.slice (some ⟨g, 0, none⟩) L c') l) ∧ Hid (Below W.heap.size W w')
theorem put_giv {f : FuncId} {i : Mg.Id4} {A : Option Addr} {n c : Nat} {p : List Nat} {w : World} (h : ∀ W, Below w.heap.size w W → Calls Try.prog f #[.agg (Mg.msgC i A n c)] W (PutM i n p W)) (hm : Mg.msgN i n = 0) : Giv2 f #[.agg (Mg.msgC i A n c)] w (idL i ++ p) (idL i ++ p).length := fun W hW => (h W hW).mono fun e w' hq => by
  unfold PutM at hq
  rw [hm] at hq
  rcases hq with ⟨hq, _⟩ | ⟨_, v, he, ho, hb⟩
  · exact absurd rfl hq
  · obtain ⟨g, c', rfl, _⟩ := ho.form (by rw [List.length_append, idL_len]; omega)
    exact ⟨g, c', he, ho, hb⟩
theorem pid_giv {f : FuncId} {i : Mg.Id4} {w : World} (h : ∀ W, Calls Try.prog f #[.agg (Mg.idC i)] W fun e w' => ∃ g, e = .returned (.tuple #[.slice (some ⟨g, 0, none⟩) 6 6, .int .i64 0]) ∧ W.heap.size ≤ g ∧ Hid (Row w' g (idL i)) ∧ Hid (Below W.heap.size W w')) : Giv2 f #[.agg (Mg.idC i)] w (idL i) 6 := fun W _ => (h W).mono fun e w' hq => by
  obtain ⟨g, he, hg, hr, hb⟩ := hq
  have := row_own hr.out hg (by rw [idL_len]; omega)
  rw [idL_len] at this
  exact ⟨g, 6, he, this, hb⟩
set_option maxRecDepth 100000 in
set_option maxHeartbeats 16000000 in
theorem PutEv_any (k : Int) (i : Mg.Id4) (A : Option Addr) (c : Nat) (p : List Nat) (w : World) (hi : Hid (BySlice w A p.length c p)) (hp : Hid (∀ z ∈ p, z < 256)) : Calls Try.prog 24 #[.agg (evC k i A p.length c)] w (OwP (evL k i p) (chkE k i p.length) w) := by
  have HK := Lib.hid (fun W => check_any k i A p.length c W)
  have HX := Lib.hid (box6 k i A p.length c w)
  have HB0 : Hid (Below w.heap.size w (w.alloc (.cells (evC k i A p.length c) 60))) := Me.below_alloc (Below.refl _ _)
  by_cases h0 : chkE k i p.length = 0
  · rw [evL_ok h0, h0]
    rw [h0] at HK
    have hc := chk_zero h0
    rw [show ((0 : Nat) : Int) = 0 from rfl] at HK
    clear h0
    rcases hc with ⟨rfl, rfl, hn⟩ | ⟨rfl, hm⟩ | ⟨hk, hz, hn⟩
    · obtain rfl : p = [] := List.eq_nil_of_length_eq_zero hn
      simp only [evC, zeroI, List.length_nil] at HK HX HB0 ⊢
      clear hi hp hn
      go_enter Try.func24, Try.ntmps24
      go_wp2_with (first
        | (go_at_call 48; refine (HK.out _).mono ?_; rintro e w1 ⟨rfl, b1⟩; obtain ⟨⟨x0, x1, x2, x3, x4, x5⟩, hw1⟩ := HX.out w1 b1.out; have HW1 := Lib.hid hw1; clear hw1)
        | (at_builtin; have ho1 := one_own (b := 1) HW1.out; have hb1 := Me.below_alloc (o := .cells #[.int .u8 1] 5) HW1.out; refine app8 rfl (.tmp 34) (.tmp 35) rfl w.heap.size w.heap.size _ [1] [] rfl ho1 hb1 hb1.size none 0 rfl ⟨by simp, by simp⟩ (fun _ => ⟨rfl, rfl⟩) (by simp) ?_; intro v3 w3 ho3 hb3 _; have HO3 := Lib.hid ho3; have HB3 := Lib.hid hb3; clear ho3 hb3))
      go_ret2
      exact ow_some HO3.out HB3.out rfl
    · have HLT : Hid (∀ z ∈ idL i ++ p, z < 256) := fun z hz => (List.mem_append.1 hz).elim (Mg.bytK_lt i 4 z) (hp.out z)
      have HG := Lib.hid (put_giv (fun W hW => Mg.Put_any i A p.length c p W (by_below hi.out hW)) hm)
      have HLe : Hid ([2].length + (idL i ++ p).length ≤ 140737488355328) := by
        have := (Mg.msgN_zero hm).2.2
        show _ + _ ≤ _
        rw [List.length_append, idL_len]
        simp only [List.length_cons, List.length_nil]
        omega
      rw [evB_two]
      obtain ⟨l, hl⟩ : ∃ l, idL i ++ p = l := ⟨_, rfl⟩
      rw [hl] at HLT HG HLe ⊢
      obtain ⟨L, hL⟩ : ∃ L, l.length = L := ⟨_, rfl⟩
      rw [hL] at HG
      have HLn := Lib.hid hL
      obtain ⟨n, hn⟩ : ∃ n, p.length = n := ⟨_, rfl⟩
      rw [hn] at HK HX HB0 HG ⊢
      obtain ⟨o, d, ee, cc⟩ := i
      unfold Giv2 at HG
      simp only [evC, Mg.msgC] at HK HX HB0 HG ⊢
      clear hm hl hL hn hi hp
      go_enter Try.func24, Try.ntmps24
      go_wp2_with (first
        | (go_at_call 48; refine (HK.out _).mono ?_; rintro e w1 ⟨rfl, b1⟩; obtain ⟨⟨x0, x1, x2, x3, x4, x5⟩, hw1⟩ := HX.out w1 b1.out; have HW1 := Lib.hid hw1; clear hw1)
        | (go_at_call 49; refine (HG.out w1 HW1.out).mono ?_; rintro e w2 ⟨g, c', rfl, ho, hb⟩; have HW2 := Lib.hid (go_on HW1.out hb.out); have HR2 := Lib.hid (own_rd ho.out HLT.out); obtain ⟨⟨y0, y1, y2, y3, y4, y5⟩, hw2⟩ := HX.out w2 (go_on b1.out hb.out); clear hw2)
        | (at_builtin; have ho1 := one_own (b := 2) HW2.out; have hb1 := Me.below_alloc (o := .cells #[.int .u8 2] 5) HW2.out; have hr1 := HR2.out.below (Me.below_alloc (o := .cells #[.int .u8 2] 5) (Below.refl w2.heap.size w2)); refine app8 rfl (.tmp 34) (.tmp 35) rfl w.heap.size w2.heap.size _ [2] l rfl ho1 hb1 hb1.size (some ⟨g, 0, none⟩) c' (by first | rfl | (rw [HLn.out]; rfl)) hr1 (fun e => by cases e) HLe.out ?_; intro v3 w3 ho3 hb3 _; have HO3 := Lib.hid ho3; have HB3 := Lib.hid hb3; clear ho3 hb3))
      go_ret2
      exact ow_some HO3.out HB3.out rfl
    · obtain rfl : p = [] := List.eq_nil_of_length_eq_zero hn
      have HG := Lib.hid (pid_giv (w := w) (fun W => Mg.PutId_ok i (Mg.right_iff.1 hz) W))
      have HLT : Hid (∀ z ∈ idL i, z < 256) := Mg.bytK_lt i 4
      have HLe : Hid ([3].length + (idL i).length ≤ 140737488355328) := by show _ + _ ≤ _; rw [idL_len]; decide
      rw [evB_id hk]
      have hL : (idL i).length = 6 := idL_len i
      have HLn := Lib.hid hL
      obtain ⟨l, hl⟩ : ∃ l, idL i = l := ⟨_, rfl⟩
      rw [hl] at HLT HG HLe HLn ⊢
      obtain ⟨o, d, ee, cc⟩ := i
      unfold Giv2 at HG
      simp only [evC, Mg.idC, List.length_nil] at HK HX HB0 HG ⊢
      clear hz hl hL hn hi hp
      rcases hk with rfl | rfl
      · go_enter Try.func24, Try.ntmps24
        go_wp2_with (first
          | (go_at_call 48; refine (HK.out _).mono ?_; rintro e w1 ⟨rfl, b1⟩; obtain ⟨⟨x0, x1, x2, x3, x4, x5⟩, hw1⟩ := HX.out w1 b1.out; have HW1 := Lib.hid hw1; clear hw1)
          | (go_at_call 50; refine (HG.out w1 HW1.out).mono ?_; rintro e w2 ⟨g, c', rfl, ho, hb⟩; have HW2 := Lib.hid (go_on HW1.out hb.out); have HR2 := Lib.hid (own_rd ho.out HLT.out); obtain ⟨⟨y0, y1, y2, y3, y4, y5⟩, hw2⟩ := HX.out w2 (go_on b1.out hb.out); clear hw2)
          | (at_builtin; have ho1 := one_own (b := 3) HW2.out; have hb1 := Me.below_alloc (o := .cells #[.int .u8 3] 5) HW2.out; have hr1 := HR2.out.below (Me.below_alloc (o := .cells #[.int .u8 3] 5) (Below.refl w2.heap.size w2)); refine app8 rfl (.tmp 34) (.tmp 35) rfl w.heap.size w2.heap.size _ [3] l rfl ho1 hb1 hb1.size (some ⟨g, 0, none⟩) c' (by first | rfl | (rw [HLn.out]; rfl)) hr1 (fun e => by cases e) HLe.out ?_; intro v3 w3 ho3 hb3 _; have HO3 := Lib.hid ho3; have HB3 := Lib.hid hb3; clear ho3 hb3))
        go_ret2
        exact ow_some HO3.out HB3.out rfl
      · go_enter Try.func24, Try.ntmps24
        go_wp2_with (first
          | (go_at_call 48; refine (HK.out _).mono ?_; rintro e w1 ⟨rfl, b1⟩; obtain ⟨⟨x0, x1, x2, x3, x4, x5⟩, hw1⟩ := HX.out w1 b1.out; have HW1 := Lib.hid hw1; clear hw1)
          | (go_at_call 50; refine (HG.out w1 HW1.out).mono ?_; rintro e w2 ⟨g, c', rfl, ho, hb⟩; have HW2 := Lib.hid (go_on HW1.out hb.out); have HR2 := Lib.hid (own_rd ho.out HLT.out); obtain ⟨⟨y0, y1, y2, y3, y4, y5⟩, hw2⟩ := HX.out w2 (go_on b1.out hb.out); clear hw2)
          | (at_builtin; have ho1 := one_own (b := 4) HW2.out; have hb1 := Me.below_alloc (o := .cells #[.int .u8 4] 5) HW2.out; have hr1 := HR2.out.below (Me.below_alloc (o := .cells #[.int .u8 4] 5) (Below.refl w2.heap.size w2)); refine app8 rfl (.tmp 34) (.tmp 35) rfl w.heap.size w2.heap.size _ [4] l rfl ho1 hb1 hb1.size (some ⟨g, 0, none⟩) c' (by first | rfl | (rw [HLn.out]; rfl)) hr1 (fun e => by cases e) HLe.out ?_; intro v3 w3 ho3 hb3 _; have HO3 := Lib.hid ho3; have HB3 := Lib.hid hb3; clear ho3 hb3))
        go_ret2
        exact ow_some HO3.out HB3.out rfl
  · rw [evL_no h0]
    obtain ⟨z, hz⟩ : ∃ z, chkE k i p.length = z := ⟨_, rfl⟩
    rw [hz] at HK h0 ⊢
    have hz0 := Mg.nz h0
    have HZ : Hid (¬ z = 0) := h0
    obtain ⟨n, hn⟩ : ∃ n, p.length = n := ⟨_, rfl⟩
    rw [hn] at HK HX HB0 ⊢
    obtain ⟨o, d, ee, cc⟩ := i
    simp only [evC] at HK HX HB0 ⊢
    clear h0 hz hn hi hp
    go_enter Try.func24, Try.ntmps24
    go_wp2_with (go_at_call 48; refine (HK.out _).mono ?_; rintro e w1 ⟨rfl, b1⟩; obtain ⟨⟨x0, x1, x2, x3, x4, x5⟩, hw1⟩ := HX.out w1 b1.out; have HW1 := Lib.hid hw1; clear hw1)
    go_ret2
    exact ⟨none, 0, rfl, Me.Own.nil _ _, HW1.out⟩
set_option maxRecDepth 100000 in
set_option maxHeartbeats 16000000 in
theorem RPutEv_any (k : Int) (i : Mg.Id4) (A : Option Addr) (c : Nat) (p : List Nat) (w : World) (hi : Hid (BySlice w A p.length c p)) (hp : Hid (∀ z ∈ p, z < 256)) : Calls Try.prog 25 #[.agg (evC k i A p.length c)] w (OwP (evL k i p) (chkE k i p.length) w) := by
  have HK := Lib.hid (fun W => RForm_any k i A p.length c W)
  have HX := Lib.hid (box6 k i A p.length c w)
  have HB0 : Hid (Below w.heap.size w (w.alloc (.cells (evC k i A p.length c) 60))) := Me.below_alloc (Below.refl _ _)
  by_cases h0 : chkE k i p.length = 0
  · rw [evL_ok h0, h0]
    rw [h0] at HK
    have hc := chk_zero h0
    rw [show ((0 : Nat) : Int) = 0 from rfl] at HK
    clear h0
    rcases hc with ⟨rfl, rfl, hn⟩ | ⟨rfl, hm⟩ | ⟨hk, hz, hn⟩
    · obtain rfl : p = [] := List.eq_nil_of_length_eq_zero hn
      simp only [evC, zeroI, List.length_nil] at HK HX HB0 ⊢
      clear hi hp hn
      have HPI : Hid (∀ W, Calls Try.prog 53 #[.agg #[.int .i64 0, .int .i64 0, .int .i64 0, .int .i64 0]] W fun e w' => e = .returned (.tuple #[.slice none 0 0, .int .i64 1]) ∧ Hid (Below W.heap.size W w')) := fun W => Mg.RPutId_no ⟨0, 0, 0, 0⟩ (by show Mg.chkN _ ≠ 0; decide) W
      go_enter Try.func25, Try.ntmps25
      go_wp2_with (first
        | (go_at_call 51; refine (HK.out _).mono ?_; rintro e w1 ⟨rfl, b1⟩; obtain ⟨⟨x0, x1, x2, x3, x4, x5⟩, hw1⟩ := HX.out w1 b1.out; have HW1 := Lib.hid hw1; clear hw1
           obtain ⟨⟨y0, y1, y2, y3, y4, y5⟩, hw2⟩ := HX.out (w1.alloc (.cells #[.int .u8 1] 5)) (Me.below_alloc b1.out); have HW2 := Lib.hid hw2; clear hw2)
        | (go_at_call 53; refine (HPI.out _).mono ?_; rintro e w2 ⟨rfl, b2⟩; have HB2 := Lib.hid (go_on HW2.out b2.out))
        | (at_builtin; have ho1 := own_same (one_own (b := 1) HW1.out) fun k _ hk => b2.out.block k hk; refine app8 rfl (.tmp 37) (.tmp 38) rfl w.heap.size w.heap.size _ [1] [] rfl ho1 HB2.out HB2.out.size none 0 rfl ⟨by simp, by simp⟩ (fun _ => ⟨rfl, rfl⟩) (by simp) ?_; intro v3 w3 ho3 hb3 _; have HO3 := Lib.hid ho3; have HB3 := Lib.hid hb3; clear ho3 hb3))
      go_ret2
      exact ow_some HO3.out HB3.out rfl
    · have HLT : Hid (∀ z ∈ idL i ++ p, z < 256) := fun z hz => (List.mem_append.1 hz).elim (Mg.bytK_lt i 4 z) (hp.out z)
      have HG := Lib.hid (put_giv (fun W hW => Mg.RPut_any i A p.length c p W (by_below hi.out hW)) hm)
      have HLe : Hid ([2].length + (idL i ++ p).length ≤ 140737488355328) := by
        have := (Mg.msgN_zero hm).2.2
        show _ + _ ≤ _
        rw [List.length_append, idL_len]
        simp only [List.length_cons, List.length_nil]
        omega
      rw [evB_two]
      obtain ⟨l, hl⟩ : ∃ l, idL i ++ p = l := ⟨_, rfl⟩
      rw [hl] at HLT HG HLe ⊢
      obtain ⟨L, hL⟩ : ∃ L, l.length = L := ⟨_, rfl⟩
      rw [hL] at HG
      have HLn := Lib.hid hL
      obtain ⟨n, hn⟩ : ∃ n, p.length = n := ⟨_, rfl⟩
      rw [hn] at HK HX HB0 HG ⊢
      obtain ⟨o, d, ee, cc⟩ := i
      unfold Giv2 at HG
      simp only [evC, Mg.msgC] at HK HX HB0 HG ⊢
      clear hm hl hL hn hi hp
      go_enter Try.func25, Try.ntmps25
      go_wp2_with (first
        | (go_at_call 51; refine (HK.out _).mono ?_; rintro e w1 ⟨rfl, b1⟩; obtain ⟨⟨x0, x1, x2, x3, x4, x5⟩, hw1⟩ := HX.out w1 b1.out; have HW1 := Lib.hid hw1; clear hw1
           obtain ⟨⟨y0, y1, y2, y3, y4, y5⟩, hw2⟩ := HX.out (w1.alloc (.cells #[.int .u8 2] 5)) (Me.below_alloc b1.out); have HW2 := Lib.hid hw2; clear hw2)
        | (go_at_call 52; refine (HG.out _ HW2.out).mono ?_; rintro e w2 ⟨g, c', rfl, ho, hb⟩; have HW3 := Lib.hid (go_on HW2.out hb.out); have HR2 := Lib.hid (own_rd ho.out HLT.out))
        | (at_builtin; have ho1 := own_same (one_own (b := 2) HW1.out) fun k _ hk => hb.out.block k hk; refine app8 rfl (.tmp 27) (.tmp 28) rfl w.heap.size w2.heap.size _ [2] l rfl ho1 HW3.out HW3.out.size (some ⟨g, 0, none⟩) c' (by first | rfl | (rw [HLn.out]; rfl)) HR2.out (fun e => by cases e) HLe.out ?_; intro v3 w3 ho3 hb3 _; have HO3 := Lib.hid ho3; have HB3 := Lib.hid hb3; clear ho3 hb3))
      go_ret2
      exact ow_some HO3.out HB3.out rfl
    · obtain rfl : p = [] := List.eq_nil_of_length_eq_zero hn
      have HG := Lib.hid (pid_giv (w := w) (fun W => Mg.RPutId_ok i (Mg.right_iff.1 hz) W))
      have HLT : Hid (∀ z ∈ idL i, z < 256) := Mg.bytK_lt i 4
      have HLe : Hid ([3].length + (idL i).length ≤ 140737488355328) := by show _ + _ ≤ _; rw [idL_len]; decide
      rw [evB_id hk]
      have hL : (idL i).length = 6 := idL_len i
      have HLn := Lib.hid hL
      obtain ⟨l, hl⟩ : ∃ l, idL i = l := ⟨_, rfl⟩
      rw [hl] at HLT HG HLe HLn ⊢
      obtain ⟨o, d, ee, cc⟩ := i
      unfold Giv2 at HG
      simp only [evC, Mg.idC, List.length_nil] at HK HX HB0 HG ⊢
      clear hz hl hL hn hi hp
      rcases hk with rfl | rfl
      · go_enter Try.func25, Try.ntmps25
        go_wp2_with (first
          | (go_at_call 51; refine (HK.out _).mono ?_; rintro e w1 ⟨rfl, b1⟩; obtain ⟨⟨x0, x1, x2, x3, x4, x5⟩, hw1⟩ := HX.out w1 b1.out; have HW1 := Lib.hid hw1; clear hw1
             obtain ⟨⟨y0, y1, y2, y3, y4, y5⟩, hw2⟩ := HX.out (w1.alloc (.cells #[.int .u8 3] 5)) (Me.below_alloc b1.out); have HW2 := Lib.hid hw2; clear hw2)
          | (go_at_call 53; refine (HG.out _ HW2.out).mono ?_; rintro e w2 ⟨g, c', rfl, ho, hb⟩; have HW3 := Lib.hid (go_on HW2.out hb.out); have HR2 := Lib.hid (own_rd ho.out HLT.out))
          | (at_builtin; have ho1 := own_same (one_own (b := 3) HW1.out) fun k _ hk => hb.out.block k hk; refine app8 rfl (.tmp 37) (.tmp 38) rfl w.heap.size w2.heap.size _ [3] l rfl ho1 HW3.out HW3.out.size (some ⟨g, 0, none⟩) c' (by first | rfl | (rw [HLn.out]; rfl)) HR2.out (fun e => by cases e) HLe.out ?_; intro v3 w3 ho3 hb3 _; have HO3 := Lib.hid ho3; have HB3 := Lib.hid hb3; clear ho3 hb3))
        go_ret2
        exact ow_some HO3.out HB3.out rfl
      · go_enter Try.func25, Try.ntmps25
        go_wp2_with (first
          | (go_at_call 51; refine (HK.out _).mono ?_; rintro e w1 ⟨rfl, b1⟩; obtain ⟨⟨x0, x1, x2, x3, x4, x5⟩, hw1⟩ := HX.out w1 b1.out; have HW1 := Lib.hid hw1; clear hw1
             obtain ⟨⟨y0, y1, y2, y3, y4, y5⟩, hw2⟩ := HX.out (w1.alloc (.cells #[.int .u8 4] 5)) (Me.below_alloc b1.out); have HW2 := Lib.hid hw2; clear hw2)
          | (go_at_call 53; refine (HG.out _ HW2.out).mono ?_; rintro e w2 ⟨g, c', rfl, ho, hb⟩; have HW3 := Lib.hid (go_on HW2.out hb.out); have HR2 := Lib.hid (own_rd ho.out HLT.out))
          | (at_builtin; have ho1 := own_same (one_own (b := 4) HW1.out) fun k _ hk => hb.out.block k hk; refine app8 rfl (.tmp 37) (.tmp 38) rfl w.heap.size w2.heap.size _ [4] l rfl ho1 HW3.out HW3.out.size (some ⟨g, 0, none⟩) c' (by first | rfl | (rw [HLn.out]; rfl)) HR2.out (fun e => by cases e) HLe.out ?_; intro v3 w3 ho3 hb3 _; have HO3 := Lib.hid ho3; have HB3 := Lib.hid hb3; clear ho3 hb3))
        go_ret2
        exact ow_some HO3.out HB3.out rfl
  · rw [evL_no h0]
    obtain ⟨z, hz⟩ : ∃ z, chkE k i p.length = z := ⟨_, rfl⟩
    rw [hz] at HK h0 ⊢
    have hz0 := Mg.nz h0
    have HZ : Hid (¬ z = 0) := h0
    obtain ⟨n, hn⟩ : ∃ n, p.length = n := ⟨_, rfl⟩
    rw [hn] at HK HX HB0 ⊢
    obtain ⟨o, d, ee, cc⟩ := i
    simp only [evC] at HK HX HB0 ⊢
    clear h0 hz hn hi hp
    go_enter Try.func25, Try.ntmps25
    go_wp2_with (go_at_call 51; refine (HK.out _).mono ?_; rintro e w1 ⟨rfl, b1⟩; first
      | (have HW2 := Lib.hid (go_on HW1.out b1.out))
      | (obtain ⟨⟨x0, x1, x2, x3, x4, x5⟩, hw1⟩ := HX.out w1 b1.out; have HW1 := Lib.hid hw1; clear hw1))
    go_ret2
    exact ⟨none, 0, rfl, Me.Own.nil _ _, HW2.out⟩
end Go.Proofs.Ytpofdimagfldnaa.So
/- The event of bytes: the program's GetEv. -/
namespace Go.Proofs.Ytpofdimagfldnaa.So
open Go.RowKit
open Go.Proofs.Ytpofdimagfldnaa.Me Go.Proofs.Ytpofdimagfldnaa.Sb
open Go.Proofs.Ytpofdimagfldnaa.Mg (getI getZ mI mD mZ mgO GetM by_below own_setRow own_ty msg_one5)
set_option linter.unusedVariables false
set_option linter.unusedSimpArgs false

theorem geI_two (r : List Nat) : geI 2 r = mI r ∧ geD 2 r = mD r ∧ (if geO 2 r = true then 0 else 2) = mZ r := by
  have eo : geO 2 r = decide (mgO r) := by unfold geO; rw [if_neg (by decide), if_pos rfl]
  unfold geI geD mZ
  rw [eo]
  by_cases h : mgO r
  · simp [h]
  · simp [h, (mI_no h).1, (mI_no h).2]
theorem geI_id {k : Int} (hk : k = 3 ∨ k = 4) (r : List Nat) : geI k r = getI r ∧ geD k r = [] ∧ (if geO k r = true then 0 else 2) = getZ r := by
  have eo : geO k r = decide (getZ r = 0) := by unfold geO; rw [if_neg (by omega), if_neg (by omega), if_pos hk]
  unfold geI geD
  rw [eo]
  by_cases h : getZ r = 0
  · simp [h]
    rw [if_neg (by omega), if_neg (by omega)]
    exact ⟨rfl, fun e => by omega⟩
  · have hz : getZ r = 2 := by
      unfold getZ at h ⊢
      by_cases hc : r.length = 6 ∧ Mg.chkN (Mg.idOf r) = 0
      · rw [if_pos hc] at h; exact absurd rfl h
      · rw [if_neg hc]
    simp [h, getI_zero h, hz]
theorem geI_none {k : Int} {r : List Nat} (h : geO k r = false) : geI k r = zeroI ∧ geD k r = [] ∧ (if geO k r = true then 0 else 2) = 2 := by
  unfold geI geD
  simp [h]
/-- What getMsg answers. -/
def GeM (k : Int) (r : List Nat) (w : World) (e : Ending) (w' : World) : Prop :=
  ∃ A c, e = .returned (.tuple #[.agg (Mg.msgC (geI k r) A (geD k r).length c), .int .i64 ((if geO k r = true then 0 else 2 : Nat) : Int)]) ∧ Hid (Me.Own w' w.heap.size (.slice A (geD k r).length c) (geD k r)) ∧ Hid (Below w.heap.size w w')
theorem GeM.of {k : Int} {r : List Nat} {w w' : World} {e : Ending} {i : Mg.Id4} {d : List Nat} {z : Nat} (h : geI k r = i ∧ geD k r = d ∧ (if geO k r = true then 0 else 2) = z) (hq : ∃ A c, e = .returned (.tuple #[.agg (Mg.msgC i A d.length c), .int .i64 (z : Int)]) ∧ Hid (Me.Own w' w.heap.size (.slice A d.length c) d) ∧ Hid (Below w.heap.size w w')) : GeM k r w e w' := by
  obtain ⟨h1, h2, h3⟩ := h
  unfold GeM
  rw [h1, h2, h3]
  exact hq
set_option maxRecDepth 100000 in
set_option maxHeartbeats 16000000 in
theorem getMsg_any (k : Int) (A : Option Addr) (n cap : Nat) (r : List Nat) (w : World) (hi : Hid (BySlice w A n cap r)) :
    Calls Try.prog 54 #[.int .i64 k, .slice A n cap] w (GeM k r w) := by
  obtain rfl : n = r.length := hi.out.1
  have HX : Hid ((w.alloc (.cells #[.int .i64 0, .int .i64 0, .int .i64 0, .int .i64 0, .slice none 0 0] 46)).heap[w.heap.size]? = some (.cells #[.int .i64 0, .int .i64 0, .int .i64 0, .int .i64 0, .slice none 0 0] 46 (0, 0))) := heap_alloc_new w _
  have HB : Hid (Below w.heap.size w (w.alloc (.cells #[.int .i64 0, .int .i64 0, .int .i64 0, .int .i64 0, .slice none 0 0] 46))) := Me.below_alloc (Below.refl _ _)
  have HGm := Lib.hid (fun W (hW : Below w.heap.size w W) => Mg.Get_any A r.length cap r W (by_below hi.out hW))
  have HGi := Lib.hid (fun W (hW : Below w.heap.size w W) => Mg.GetId_any A r.length cap r W (by_below hi.out hW))
  obtain ⟨L, hL⟩ : ∃ L, r.length = L := ⟨_, rfl⟩
  rw [hL] at HGm HGi ⊢
  by_cases k1 : k = 1
  · subst k1
    by_cases hr : r = []
    · refine Calls.mono ?_ fun e w' h => GeM.of (i := zeroI) (d := []) (z := 0) (by rw [hr]; exact ⟨by decide, by decide, by decide⟩) h
      have : L = 0 := by rw [← hL, hr]; rfl
      subst this
      clear hL hr hi HGm HGi
      go_enter Try.func54, Try.ntmps54
      go_wp2_with (refine wpList_store_row rfl 46 (.tmp 4) (.tmp 14) rfl w.heap.size #[.int .i64 0, .int .i64 0, .int .i64 0, .int .i64 0, .slice none 0 0] rfl rfl 46 _ HX.out (by kernel_rfl) rfl (by kernel_rfl) ?_)
      exact Sb.ret_box2 (g := w.heap.size) rfl (by rfl) (setRow_heap _ _ _ _ _ _ HX.out) rfl Try.underlying46 (by kernel_rfl) rfl ⟨none, 0, rfl, Me.Own.nil _ _, Sb.below_setRow _ HB.out (Nat.le_refl _)⟩
    · refine Calls.mono ?_ fun e w' h => GeM.of (i := zeroI) (d := []) (z := 2) (geI_none (by unfold geO; rw [if_pos rfl]; simpa using hr)) h
      have hl : ((L : Int) == 0) = false := Mg.nz (by rw [← hL]; intro h; exact hr (List.eq_nil_of_length_eq_zero h))
      clear hL hr hi HGm HGi
      go_enter Try.func54, Try.ntmps54
      go_wp2_with (refine wpList_store_row rfl 46 (.tmp 4) (.tmp 32) rfl w.heap.size #[.int .i64 0, .int .i64 0, .int .i64 0, .int .i64 0, .slice none 0 0] rfl rfl 46 _ HX.out (by kernel_rfl) rfl (by kernel_rfl) ?_)
      exact Sb.ret_box2 (g := w.heap.size) rfl (by rfl) (setRow_heap _ _ _ _ _ _ HX.out) rfl Try.underlying46 (by kernel_rfl) rfl ⟨none, 0, rfl, Me.Own.nil _ _, Sb.below_setRow _ HB.out (Nat.le_refl _)⟩
  · by_cases k2 : k = 2
    · subst k2
      refine Calls.mono ?_ fun e w' h => GeM.of (geI_two r) h
      obtain ⟨⟨o, d, ee, cc⟩, hI⟩ : ∃ i, mI r = i := ⟨_, rfl⟩
      obtain ⟨D, hD⟩ : ∃ D, mD r = D := ⟨_, rfl⟩
      obtain ⟨z, hz⟩ : ∃ z, mZ r = z := ⟨_, rfl⟩
      unfold GetM at HGm
      rw [hI, hD, hz] at HGm
      rw [hI, hD, hz]
      obtain ⟨nD, hn⟩ : ∃ n, D.length = n := ⟨_, rfl⟩
      rw [hn] at HGm ⊢
      simp only [Mg.msgC] at HGm ⊢
      clear hL hi HGi hI hD hz hn k1
      go_enter Try.func54, Try.ntmps54
      go_wp2_with (first
        | (go_at_call 86; refine (HGm.out _ HB.out).mono ?_; rintro e w2 ⟨A2, c2, rfl, ho2, hb2⟩; have HX2 := Lib.hid ((hb2.out.block _ (Array.getElem?_eq_some_iff.1 HX.out).1).trans HX.out); have HB2 := Lib.hid (go_on HB.out hb2.out))
        | (refine wpList_store_row rfl 46 (.tmp 4) (.tmp 19) rfl w.heap.size #[.int .i64 o, .int .i64 d, .int .i64 ee, .int .i64 cc, .slice A2 nD c2] rfl rfl 46 _ HX2.out (by kernel_rfl) rfl (msg_one5 _ _ _ _ _ _ _) ?_))
      exact Sb.ret_box2 (g := w.heap.size) rfl (by rfl) (setRow_heap _ _ _ _ _ _ HX2.out) rfl Try.underlying46 (by kernel_rfl) rfl ⟨A2, c2, rfl, own_setRow _ (own_base ho2.out fun k e => Nat.le_trans HB.out.size (World.ownsRow.lt ho2.out k e).1) (own_ty ho2.out HX2.out (by decide)), Sb.below_setRow _ HB2.out (Nat.le_refl _)⟩
    · have g1 : (k == 1) = false := by simpa using k1
      have g2 : (k == 2) = false := by simpa using k2
      by_cases k3 : k = 3 ∨ k = 4
      · refine Calls.mono ?_ fun e w' h => GeM.of (geI_id k3 r) h
        obtain ⟨⟨o, d, ee, cc⟩, hI⟩ : ∃ i, getI r = i := ⟨_, rfl⟩
        obtain ⟨z, hz⟩ : ∃ z, getZ r = z := ⟨_, rfl⟩
        rw [hI, hz] at HGi
        rw [hI, hz]
        simp only [Mg.msgC, Mg.idC, List.length_nil] at HGi ⊢
        have g3 : (k == 3) = true ∨ ((k == 3) = false ∧ (k == 4) = true) := by
          rcases k3 with rfl | rfl
          · exact .inl (by decide)
          · exact .inr ⟨by decide, by decide⟩
        have HG3 := Lib.hid g3
        clear hL hi HGm hI hz k1 k2 k3 g3
        rcases HG3.out with g3 | ⟨g3, g4⟩
        all_goals
          go_enter Try.func54, Try.ntmps54
          go_wp2_with (first
            | (go_at_call 87; refine (HGi.out _ HB.out).mono ?_; rintro e w2 ⟨rfl, hb2⟩
               have hbn : Below w2.heap.size w2 (w2.alloc (.cells #[.int .i64 o, .int .i64 d, .int .i64 ee, .int .i64 cc] 28)) := Me.below_alloc (Below.refl _ _)
               have HX2 := Lib.hid ((hbn.block _ (Array.getElem?_eq_some_iff.1 ((hb2.out.block _ (Array.getElem?_eq_some_iff.1 HX.out).1).trans HX.out)).1).trans ((hb2.out.block _ (Array.getElem?_eq_some_iff.1 HX.out).1).trans HX.out))
               have HB2 := Lib.hid (go_on (go_on HB.out hb2.out) hbn)
               clear hbn)
            | (refine wpList_store_row rfl 46 (.tmp 4) (.tmp 30) rfl w.heap.size #[.int .i64 o, .int .i64 d, .int .i64 ee, .int .i64 cc, .slice none 0 0] rfl rfl 46 _ HX2.out (by kernel_rfl) rfl (msg_one5 _ _ _ _ _ _ _) ?_))
          exact Sb.ret_box2 (g := w.heap.size) rfl (by rfl) (setRow_heap _ _ _ _ _ _ HX2.out) rfl Try.underlying46 (by kernel_rfl) rfl ⟨none, 0, rfl, Me.Own.nil _ _, Sb.below_setRow _ HB2.out (Nat.le_refl _)⟩
      · refine Calls.mono ?_ fun e w' h => GeM.of (i := zeroI) (d := []) (z := 2) (geI_none (by unfold geO; rw [if_neg k1, if_neg k2, if_neg k3])) h
        have g3 : (k == 3) = false := by simp; omega
        have g4 : (k == 4) = false := by simp; omega
        clear hL hi HGm HGi k1 k2 k3
        go_enter Try.func54, Try.ntmps54
        go_wp2_with (refine wpList_store_row rfl 46 (.tmp 4) (.tmp 32) rfl w.heap.size #[.int .i64 0, .int .i64 0, .int .i64 0, .int .i64 0, .slice none 0 0] rfl rfl 46 _ HX.out (by kernel_rfl) rfl (by kernel_rfl) ?_)
        exact Sb.ret_box2 (g := w.heap.size) rfl (by rfl) (setRow_heap _ _ _ _ _ _ HX.out) rfl Try.underlying46 (by kernel_rfl) rfl ⟨none, 0, rfl, Me.Own.nil _ _, Sb.below_setRow _ HB.out (Nat.le_refl _)⟩
end Go.Proofs.Ytpofdimagfldnaa.So
