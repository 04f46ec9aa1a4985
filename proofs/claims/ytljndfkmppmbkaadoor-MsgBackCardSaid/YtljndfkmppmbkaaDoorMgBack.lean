/- The law of messages there and back: its walk. -/
import Derived.Test.YtljndfkmppmbkaaDoorMgBk
namespace Go.Proofs.YtljndfkmppmbkaaDoor.Mg
open Go.RowKit
open Go.Proofs.YtljndfkmppmbkaaDoor.Me Go.Proofs.YtljndfkmppmbkaaDoor.Ba Go.Proofs.YtljndfkmppmbkaaDoor.Ma Go.Proofs.YtljndfkmppmbkaaDoor.Bt Go.Proofs.YtljndfkmppmbkaaDoor.Hd
set_option linter.unusedVariables false
set_option linter.unusedSimpArgs false

theorem go_on {w W W' : World} (h : Below w.heap.size w W) (h2 : Below W.heap.size W W') : Below w.heap.size w W' := h.trans (h2.mono h.size)
def ROw (L : List Nat) (Z : Int) (W : World) (e : Ending) (w' : World) : Prop := ∃ A c, e = .returned (.tuple #[.slice A L.length c, .int .i64 Z]) ∧ Hid (Own w' W.heap.size (.slice A L.length c) L) ∧ Hid (Below W.heap.size W w')
def RMs (o dd ee cc : Int) (L : List Nat) (Z : Int) (W : World) (e : Ending) (w' : World) : Prop := ∃ A c, e = .returned (.tuple #[.agg #[.int .i64 o, .int .i64 dd, .int .i64 ee, .int .i64 cc, .slice A L.length c], .int .i64 Z]) ∧ Hid (Own w' W.heap.size (.slice A L.length c) L) ∧ Hid (Below W.heap.size W w')
def RTx (S : ByteArray) (Z : Int) (W : World) (e : Ending) (w' : World) : Prop := e = .returned (.tuple #[.string S, .int .i64 Z]) ∧ Hid (Below W.heap.size W w')
def RId (o dd ee cc : Int) (Z : Int) (W : World) (e : Ending) (w' : World) : Prop := e = .returned (.tuple #[.agg #[.int .i64 o, .int .i64 dd, .int .i64 ee, .int .i64 cc], .int .i64 Z]) ∧ Hid (Below W.heap.size W w')
set_option maxRecDepth 100000 in
set_option maxHeartbeats 16000000 in
theorem backC (o dd ee cc o2 d2 e2 cc2 o3 d3 e3 cc3 : Int) (A A' : Option Addr) (c c' : Nat) (l l' q D : List Nat) (S X : ByteArray) (Z1 Z2 Z3 Z4 : Int) (w W0 : World)
    (hW0 : w.alloc (.cells #[.int .i64 o, .int .i64 dd, .int .i64 ee, .int .i64 cc, .slice A l.length c] 26 (0, 0)) = W0)
    (HX : Hid (∀ W, Below W0.heap.size W0 W → W.cell? ⟨w.heap.size, 0, none⟩ = some (.int .i64 o) ∧ W.cell? ⟨w.heap.size, 1, none⟩ = some (.int .i64 dd) ∧ W.cell? ⟨w.heap.size, 2, none⟩ = some (.int .i64 ee) ∧ W.cell? ⟨w.heap.size, 3, none⟩ = some (.int .i64 cc) ∧ W.cell? ⟨w.heap.size, 4, none⟩ = some (.slice A l.length c) ∧ Below w.heap.size w W))
    (HLq : Hid (∀ z ∈ q, z < 256)) (HLl : Hid (∀ z ∈ l, z < 256)) (HLp : Hid (∀ z ∈ l', z < 256)) (HLd : Hid (∀ z ∈ D, z < 256))
    (HPm : Hid (∀ W, Below W0.heap.size W0 W → Calls Tryd.prog 19 #[.agg #[.int .i64 o, .int .i64 dd, .int .i64 ee, .int .i64 cc, .slice A l.length c]] W (ROw q Z1 W)))
    (HGq0 : Hid (Z1 = 0 → ∀ A1 c1 W, Hid (BySlice W A1 q.length c1 q) → Calls Tryd.prog 23 #[.slice A1 q.length c1] W (RMs o dd ee cc l 0 W)))
    (HYm : Hid (∀ W, Below W0.heap.size W0 W → Hid (BySlice W A l.length c l)))
    (HS : Hid (∀ A2 c2 W, Hid (BySlice W A l.length c l) → Hid (BySlice W A2 l.length c2 l) → Calls Tryd.prog 18 #[.agg #[.int .i64 o, .int .i64 dd, .int .i64 ee, .int .i64 cc, .slice A l.length c], .agg #[.int .i64 o, .int .i64 dd, .int .i64 ee, .int .i64 cc, .slice A2 l.length c2]] W fun e w' => e = .returned (.bool true) ∧ Hid (Below W.heap.size W w')))
    (HGp : Hid (∀ W, Below W0.heap.size W0 W → Calls Tryd.prog 23 #[.slice A' l'.length c'] W (RMs o2 d2 e2 cc2 D Z2 W)))
    (HPp0 : Hid (Z2 = 0 → ∀ A4 c4 W, Hid (BySlice W A4 D.length c4 D) → Calls Tryd.prog 19 #[.agg #[.int .i64 o2, .int .i64 d2, .int .i64 e2, .int .i64 cc2, .slice A4 D.length c4]] W (ROw l' 0 W)))
    (HCp : Hid (∀ W, Below W0.heap.size W0 W → (convert 24 9 (.slice A' l'.length c')).run Tryd.prog W = .ok (.string (strOf l')) W))
    (HTm : Hid (∀ W, Below W0.heap.size W0 W → Calls Tryd.prog 27 #[.agg #[.int .i64 o, .int .i64 dd, .int .i64 ee, .int .i64 cc]] W (RTx X Z3 W)))
    (HPx0 : Hid (Z3 = 0 → ∀ W, Below W0.heap.size W0 W → Calls Tryd.prog 29 #[.string X] W (RId o dd ee cc 0 W)))
    (HPs : Hid (∀ W, Below W0.heap.size W0 W → Calls Tryd.prog 29 #[.string S] W (RId o3 d3 e3 cc3 Z4 W)))
    (HTs0 : Hid (Z4 = 0 → ∀ W, Below W0.heap.size W0 W → Calls Tryd.prog 27 #[.agg #[.int .i64 o3, .int .i64 d3, .int .i64 e3, .int .i64 cc3]] W (RTx S 0 W)))
    (h1 : Z1 = 0 ∨ ((Z1 == 0) = false ∧ (Z1 != 0) = true)) (h2 : Z2 = 0 ∨ ((Z2 == 0) = false ∧ (Z2 != 0) = true)) (h3 : Z3 = 0 ∨ ((Z3 == 0) = false ∧ (Z3 != 0) = true)) (h4 : Z4 = 0 ∨ ((Z4 == 0) = false ∧ (Z4 != 0) = true)) :
    Calls Tryd.prog 8 #[.agg #[.int .i64 o, .int .i64 dd, .int .i64 ee, .int .i64 cc, .slice A l.length c], .slice A' l'.length c', .string S] w fun e w' => e = .returned (.bool true) ∧ Below w.heap.size w w' := by
  have hb0 := Lib.hid (Below.refl W0.heap.size W0)
  obtain ⟨x0, x1, x2, x3, x4, bw⟩ := HX.out _ hb0.out
  have HBW := Lib.hid bw
  clear bw
  rcases h1 with rfl | ⟨a1, b1⟩
  all_goals rcases h2 with rfl | ⟨a2, b2⟩
  all_goals rcases h3 with rfl | ⟨a3, b3⟩
  all_goals rcases h4 with rfl | ⟨a4, b4⟩
  all_goals (try have HGq := Lib.hid (HGq0.out rfl))
  all_goals (try have HPp := Lib.hid (HPp0.out rfl))
  all_goals (try have HPx := Lib.hid (HPx0.out rfl))
  all_goals (try have HTs := Lib.hid (HTs0.out rfl))
  all_goals clear HGq0 HPp0 HPx0 HTs0
  all_goals (go_enter Tryd.func8, Tryd.ntmps8)
  all_goals
    go_wp2_with (first
    | (go_at_call 19; first
        | ((with_reducible refine (HPm.out _ (by first | exact hb10.out | exact hb9a.out | exact hb9.out | exact hb7a.out | exact hb7.out | exact hb6.out | exact hb5.out | exact hb4a.out | exact hb4.out | exact hb3.out | exact hb2a.out | exact hb2.out | exact hb1.out | exact hb0.out)).mono ?_); rintro e w1 ⟨A1, c1, rfl, HO1, HB1⟩; have hb1 := Lib.hid (go_on (by first | exact hb10.out | exact hb9a.out | exact hb9.out | exact hb7a.out | exact hb7.out | exact hb6.out | exact hb5.out | exact hb4a.out | exact hb4.out | exact hb3.out | exact hb2a.out | exact hb2.out | exact hb1.out | exact hb0.out) HB1.out); have HY1 := Lib.hid (own_by HO1.out HLq.out); obtain ⟨x0, x1, x2, x3, x4, bw⟩ := HX.out _ hb1.out; clear bw)
        | ((with_reducible refine (HPp.out A4 c4 _ HY4).mono ?_); rintro e w5 ⟨A5, c5, rfl, HO5, HB5⟩; have hb5 := Lib.hid (go_on hb4a.out HB5.out); have k5 := conv_own HO5.out HLp.out (Below.refl _ _); have k6 := HCp.out _ hb5.out; obtain ⟨x0, x1, x2, x3, x4, bw⟩ := HX.out _ hb5.out; clear bw))
    | (go_at_call 23; first
        | ((with_reducible refine (HGp.out _ (by first | exact hb10.out | exact hb9a.out | exact hb9.out | exact hb7a.out | exact hb7.out | exact hb6.out | exact hb5.out | exact hb4a.out | exact hb4.out | exact hb3.out | exact hb2a.out | exact hb2.out | exact hb1.out | exact hb0.out)).mono ?_); rintro e w4 ⟨A4, c4, rfl, HO4, HB4⟩; have hb4 := Lib.hid (go_on (by first | exact hb10.out | exact hb9a.out | exact hb9.out | exact hb7a.out | exact hb7.out | exact hb6.out | exact hb5.out | exact hb4a.out | exact hb4.out | exact hb3.out | exact hb2a.out | exact hb2.out | exact hb1.out | exact hb0.out) HB4.out); have hb4a := Lib.hid (Me.below_alloc (o := (.cells #[.int .i64 o2, .int .i64 d2, .int .i64 e2, .int .i64 cc2, .slice A4 D.length c4] 26)) hb4.out); have HY4 := Lib.hid (by_below (own_by HO4.out HLd.out) (Me.below_alloc (o := (.cells #[.int .i64 o2, .int .i64 d2, .int .i64 e2, .int .i64 cc2, .slice A4 D.length c4] 26)) (Below.refl _ _))); obtain ⟨y0, y1, y2, y3, y4⟩ := bx_row (heap_alloc_new w4 (.cells #[.int .i64 o2, .int .i64 d2, .int .i64 e2, .int .i64 cc2, .slice A4 D.length c4] 26)); obtain ⟨x0, x1, x2, x3, x4, bw⟩ := HX.out _ hb4a.out; clear bw)
        | ((with_reducible refine (HGq.out A1 c1 _ HY1).mono ?_); rintro e w2 ⟨A2, c2, rfl, HO2, HB2⟩; have hb2 := Lib.hid (go_on hb1.out HB2.out); have hb2a := Lib.hid (Me.below_alloc (o := (.cells #[.int .i64 o, .int .i64 dd, .int .i64 ee, .int .i64 cc, .slice A2 l.length c2] 26)) hb2.out); have HY2 := Lib.hid (by_below (own_by HO2.out HLl.out) (Me.below_alloc (o := (.cells #[.int .i64 o, .int .i64 dd, .int .i64 ee, .int .i64 cc, .slice A2 l.length c2] 26)) (Below.refl _ _))); obtain ⟨y0, y1, y2, y3, y4⟩ := bx_row (heap_alloc_new w2 (.cells #[.int .i64 o, .int .i64 dd, .int .i64 ee, .int .i64 cc, .slice A2 l.length c2] 26)); obtain ⟨x0, x1, x2, x3, x4, bw⟩ := HX.out _ hb2a.out; clear bw))
    | (go_at_call 18; refine (HS.out A2 c2 _ (HYm.out _ hb2a.out) HY2).mono ?_; rintro e w3 ⟨rfl, HB3⟩; have hb3 := Lib.hid (go_on hb2a.out HB3.out); obtain ⟨x0, x1, x2, x3, x4, bw⟩ := HX.out _ hb3.out; clear bw)
    | (go_at_call 27; first
        | ((with_reducible refine (HTm.out _ (by first | exact hb10.out | exact hb9a.out | exact hb9.out | exact hb7a.out | exact hb7.out | exact hb6.out | exact hb5.out | exact hb4a.out | exact hb4.out | exact hb3.out | exact hb2a.out | exact hb2.out | exact hb1.out | exact hb0.out)).mono ?_); rintro e w6 ⟨rfl, HB6⟩; have hb6 := Lib.hid (go_on (by first | exact hb10.out | exact hb9a.out | exact hb9.out | exact hb7a.out | exact hb7.out | exact hb6.out | exact hb5.out | exact hb4a.out | exact hb4.out | exact hb3.out | exact hb2a.out | exact hb2.out | exact hb1.out | exact hb0.out) HB6.out); obtain ⟨x0, x1, x2, x3, x4, bw⟩ := HX.out _ hb6.out; clear bw)
        | ((with_reducible refine (HTs.out _ hb9a.out).mono ?_); rintro e w10 ⟨rfl, HB10⟩; have hb10 := Lib.hid (go_on hb9a.out HB10.out)))
    | (go_at_call 29; first
        | ((with_reducible refine (HPx.out _ hb6.out).mono ?_); rintro e w7 ⟨rfl, HB7⟩; have hb7 := Lib.hid (go_on hb6.out HB7.out); have hb7a := Lib.hid (Me.below_alloc (o := (.cells #[.int .i64 o, .int .i64 dd, .int .i64 ee, .int .i64 cc] 23)) hb7.out); obtain ⟨y0, y1, y2, y3⟩ := id_row (heap_alloc_new w7 (.cells #[.int .i64 o, .int .i64 dd, .int .i64 ee, .int .i64 cc] 23)); obtain ⟨x0, x1, x2, x3, x4, bw⟩ := HX.out _ hb7a.out; clear bw)
        | ((with_reducible refine (HPs.out _ (by first | exact hb10.out | exact hb9a.out | exact hb9.out | exact hb7a.out | exact hb7.out | exact hb6.out | exact hb5.out | exact hb4a.out | exact hb4.out | exact hb3.out | exact hb2a.out | exact hb2.out | exact hb1.out | exact hb0.out)).mono ?_); rintro e w9 ⟨rfl, HB9⟩; have hb9 := Lib.hid (go_on (by first | exact hb10.out | exact hb9a.out | exact hb9.out | exact hb7a.out | exact hb7.out | exact hb6.out | exact hb5.out | exact hb4a.out | exact hb4.out | exact hb3.out | exact hb2a.out | exact hb2.out | exact hb1.out | exact hb0.out) HB9.out); have hb9a := Lib.hid (Me.below_alloc (o := (.cells #[.int .i64 o3, .int .i64 d3, .int .i64 e3, .int .i64 cc3] 23)) hb9.out); obtain ⟨y0, y1, y2, y3⟩ := id_row (heap_alloc_new w9 (.cells #[.int .i64 o3, .int .i64 d3, .int .i64 e3, .int .i64 cc3] 23))))
    | (go_at_call 14; refine (awake_any _).mono ?_; rintro e w11 ⟨rfl, HB11⟩; have hb11 := Lib.hid (go_on (by first | exact hb10.out | exact hb9a.out | exact hb9.out | exact hb7a.out | exact hb7.out | exact hb6.out | exact hb5.out | exact hb4a.out | exact hb4.out | exact hb3.out | exact hb2a.out | exact hb2.out | exact hb1.out | exact hb0.out) HB11.out)))
    go_ret
    exact ⟨rfl, HBW.out.trans (hb11.out.mono HBW.out.size)⟩
end Go.Proofs.YtljndfkmppmbkaaDoor.Mg
