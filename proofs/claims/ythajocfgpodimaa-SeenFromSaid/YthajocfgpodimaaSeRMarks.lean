/- The reference's Marks. -/
import Derived.Test.YthajocfgpodimaaZ3
import Derived.Test.YthajocfgpodimaaZ6
namespace Go.Proofs.Ythajocfgpodimaa.Se
open Go.RowKit
open Go.Proofs.Ythajocfgpodimaa.Me Go.Proofs.Ythajocfgpodimaa.Sb
set_option linter.unusedVariables false
set_option linter.unusedSimpArgs false

def mPut (m : Mr) (c : Int) : Mr := if m.more.length = 0 ∧ c = m.up + 1 then ⟨m.o, m.e, m.up + 1, m.more⟩ else ⟨m.o, m.e, m.up, m.more ++ [c]⟩
def mStep (ms : List Mr) (k : Ky) : List Mr :=
  match ms.getLast? with
  | some m => if m.o = k.o ∧ m.e = k.e then ms.dropLast ++ [mPut m k.c] else ms ++ [mPut ⟨k.o, k.e, 0, []⟩ k.c]
  | none => [mPut ⟨k.o, k.e, 0, []⟩ k.c]
/-- What keys in order become. -/
def marksL (L : Ks) : List Mr := L.foldl mStep []
theorem mStep_nil (k : Ky) : mStep [] k = [mPut ⟨k.o, k.e, 0, []⟩ k.c] := rfl
theorem mStep_same (I : List Mr) (m : Mr) (k : Ky) (h : m.o = k.o ∧ m.e = k.e) : mStep (I ++ [m]) k = I ++ [mPut m k.c] := by simp [mStep, h]
theorem mStep_new (I : List Mr) (m : Mr) (k : Ky) (h : ¬ (m.o = k.o ∧ m.e = k.e)) : mStep (I ++ [m]) k = I ++ [m] ++ [mPut ⟨k.o, k.e, 0, []⟩ k.c] := by simp [mStep, h]
theorem marks_snoc (L : Ks) (k : Ky) : marksL (L ++ [k]) = mStep (marksL L) k := by simp [marksL]
def msP (P : List Pm) : List Mr := P.map (·.m)
theorem nil_snoc (P : List Pm) : P = [] ∨ ∃ I y, P = I ++ [y] := by
  rcases List.eq_nil_or_concat P with h | ⟨I, y, h⟩
  · exact .inl h
  · exact .inr ⟨I, y, by rw [h, List.concat_eq_append]⟩
theorem below_cell {B g i : Nat} {w W : World} (h : Below B w W) (hg : B ≤ g) (v : Value) : Below B w (W.setCell ⟨g, i, none⟩ v) :=
  ⟨h.os, h.tape, h.output, by simpa using h.size, fun k hk => (Below.heap_setCell W _ v k (by show k ≠ g; omega)).trans (h.block k hk)⟩
theorem msP_snoc (I : List Pm) (p : Pm) : msP (I ++ [p]) = msP I ++ [p.m] := by simp [msP]
/-- A list of one's own and a key's box are two blocks. -/
theorem own_ky {V : World} {B D : Nat} {v : Value} {l : List Int} {old : Array Value} {f : Nat × Nat} (h : Mi.Own V B v l) (hD : V.heap[D]? = some (.cells old 68 f)) : v.ownBlock ≠ some D := by
  rcases h.2 with ⟨h1, _⟩ | ⟨g, cap, cur, h1, h2, h3, _⟩
  · rw [h1]; intro e; cases e
  · rw [h1]
    intro e
    have e : g = D := by simpa [Value.ownBlock] using e
    subst e
    rw [h3] at hD
    injection hD with hD
    injection hD with _ hT _
    exact absurd hT (by decide)
theorem mo_ky {V : World} {B D G n c : Nat} {P : List Pm} {old : Array Value} {f : Nat × Nat} (h : Mo V B (.slice (some ⟨G, 0, none⟩) n c) P) (hD : V.heap[D]? = some (.cells old 68 f)) : D ≠ G := by
  rcases h.own.2 with ⟨h1, _⟩ | ⟨g, cap, cur, h1, h2, h3, _⟩
  · cases h1
  · cases h1
    intro e
    subst e
    rw [h3] at hD
    injection hD with hD
    injection hD with _ hT _
    exact absurd hT (by decide)
theorem own_frozen {w : World} {B T s n m g c : Nat} {xs : List Value} (h : w.ownsRow B T s (.slice (some ⟨g, 0, none⟩) n c) m xs) (i : Nat) : w.frozen? ⟨g, i, none⟩ = false := by
  rcases h.2 with ⟨h1, _⟩ | ⟨g', cap, cur, h1, h2, h3, _⟩
  · cases h1
  · cases h1
    exact frozen_of_row w g i _ _ h3
theorem mo_new {w : World} {B n : Nat} {v : Value} {P : List Pm} {x : Pm} (h : Mo w B v (P ++ [x])) (hn : P.length = n) : ∃ G c, v = .slice (some ⟨G, 0, none⟩) (n + 1) c ∧ Mo w B (.slice (some ⟨G, 0, none⟩) (n + 1) c) (P ++ [x]) := by
  subst hn
  obtain ⟨A, c, rfl, _, _⟩ := h.form
  obtain ⟨G, rfl, _⟩ := h.at_ (j := P.length) (p := x) (by simp)
  have e : (P ++ [x]).length = P.length + 1 := by simp
  rw [e] at h ⊢
  exact ⟨G, c, rfl, h⟩
/-- Numbers stay small. -/
def Sm (P : List Pm) (j : Nat) : Prop := P.length ≤ j ∧ ∀ p ∈ P, 0 ≤ p.m.up ∧ p.m.up ≤ j ∧ p.m.more.length ≤ j
theorem rs_cells {W : World} {D : Nat} {r : Int} {v : Value} (h : W.heap[D]? = some (.cells #[.int .i64 r, v] 29 (0, 0))) : W.cell? ⟨D, 1, none⟩ = some v := cell_of_row W D 1 _ _ (0, 0) h
theorem ky_cells {W : World} {D : Nat} {o e c : Int} (h : W.heap[D]? = some (.cells #[.int .i64 o, .int .i64 e, .int .i64 c] 68 (0, 0))) : W.cell? ⟨D, 0, none⟩ = some (.int .i64 o) ∧ W.cell? ⟨D, 1, none⟩ = some (.int .i64 e) ∧ W.cell? ⟨D, 2, none⟩ = some (.int .i64 c) :=
  ⟨cell_of_row W D 0 _ _ (0, 0) h, cell_of_row W D 1 _ _ (0, 0) h, cell_of_row W D 2 _ _ (0, 0) h⟩
set_option maxRecDepth 100000 in
set_option maxHeartbeats 16000000 in
theorem RMarks_any (Q : Nat → Prop) (room : Int) (v : Value) (L : Ks) (w : World) (hv : Hid (Kv Q w v L)) (hL : L.length ≤ 900) : Calls Try.prog 14 #[.agg #[.int .i64 room, v]] w fun e w' => ∃ v' P, e = .returned v' ∧ Hid (Mo w' w.heap.size v' P) ∧ msP P = marksL L ∧ Sm P L.length ∧ Hid (Below w.heap.size w w') := by
  obtain ⟨A, cp, rfl, h1, h2⟩ := hv.out.form
  obtain ⟨W1, hW1⟩ : ∃ W, w.alloc (.cells #[.int .i64 room, .slice A L.length cp] 29) = W := ⟨_, rfl⟩
  have b1 : Below w.heap.size w W1 := by rw [← hW1]; exact Me.below_alloc (Below.refl _ _)
  have z1 : W1.heap.size = w.heap.size + 1 := by rw [← hW1]; simp
  have r1 : W1.heap[w.heap.size]? = some (.cells #[.int .i64 room, .slice A L.length cp] 29 (0, 0)) := by rw [← hW1]; exact heap_alloc_new w _
  have HW := Lib.hid hW1
  have HB1 := Lib.hid b1
  have HC : Hid (∀ W, Below W1.heap.size W1 W → W.cell? ⟨w.heap.size, 1, none⟩ = some (.slice A L.length cp)) := fun W hW => rs_cells ((hW.block w.heap.size (by omega)).trans r1)
  have HA : Hid (∀ j, j < L.length → ∃ g, A = some ⟨g, 0, none⟩ ∧ ∀ W, Below W1.heap.size W1 W → W.cell? ⟨g, j * 3, none⟩ = some (.int .i64 (kyAt L j).o) ∧ W.cell? ⟨g, j * 3 + 1, none⟩ = some (.int .i64 (kyAt L j).e) ∧ W.cell? ⟨g, j * 3 + 2, none⟩ = some (.int .i64 (kyAt L j).c)) := fun j hj => by
    obtain ⟨g, e1, _, e3⟩ := hv.out.at_ hj
    exact ⟨g, e1, fun W hW => e3 W (b1.trans (hW.mono b1.size))⟩
  have HO : Hid (Mo (W1.alloc (.cells #[] 55)) W1.heap.size (.slice (some ⟨w.heap.size + 1, 0, none⟩) 0 0) []) := by rw [← z1]; exact Mo.lit (Nat.le_refl _)
  have HO2 : Hid (Below W1.heap.size W1 (W1.alloc (.cells #[] 55))) := Me.below_alloc (Below.refl _ _)
  have HSt : Hid (∀ j, j < L.length → marksL (L.take (j + 1)) = mStep (marksL (L.take j)) (kyAt L j)) := fun j hj => by
    have e : L.take (j + 1) = L.take j ++ [kyAt L j] := by
      rw [List.take_add_one, kyAt_get hj]
      simp [hj]
    rw [e, marks_snoc]
  have HEnd : Hid (marksL (L.take L.length) = marksL L) := by show _ = _; rw [List.take_length]
  obtain ⟨N, hN⟩ : ∃ N, L.length = N := ⟨_, rfl⟩
  rw [hN] at HW HC HA HSt HEnd h1 hL ⊢
  clear hN hW1 b1 z1 r1 hv
  obtain ⟨F, hF⟩ : ∃ F : Nat → List Mr, (fun j => marksL (L.take j)) = F := ⟨_, rfl⟩
  have hF2 : ∀ j, marksL (L.take j) = F j := fun j => by rw [← hF]
  simp only [hF2] at HSt HEnd
  have HF0 : Hid (F 0 = []) := by show _ = _; rw [← hF2]; rfl
  clear hF hF2
  go_enter Try.func14, Try.ntmps14
  go_wp2
  rw [HW.out]
  go_loopw [3, 4] (fun v3 v4 wr => ∃ (j : Nat) (P : List Pm), v4 = .int .i64 (j : Int) ∧ j ≤ N ∧ Hid (Mo wr W1.heap.size v3 P) ∧ Hid (msP P = F j) ∧ Hid (Sm P j) ∧ Hid (Below W1.heap.size W1 wr)) (fun _ i _ => N - (intOf i).toNat)
  case atStart => exact ⟨0, [], rfl, Nat.zero_le _, HO.out, HF0.out.symm, ⟨by simp, by simp⟩, HO2.out⟩
  case round =>
    obtain ⟨j, P, rfl, hj, HM, HP, HS, HBr⟩ := hrel
    have y1 := HC.out wr HBr.out
    by_cases hlt : j < N
    · obtain ⟨g, rfl, hgc⟩ := HA.out j hlt
      obtain ⟨z0, z1, z2⟩ := hgc wr HBr.out
      have g1 : (j : Int) < (N : Int) := by omega
      have HSj := Lib.hid (HSt.out j hlt)
      obtain ⟨x, hx⟩ : ∃ x, kyAt L j = x := ⟨_, rfl⟩
      rw [hx] at z0 z1 z2 HSj
      clear hx hgc
      obtain ⟨o, e, c⟩ := x
      simp only at z0 z1 z2
      obtain ⟨A3, c3, rfl, hc3, hc4⟩ := HM.out.form
      have HX := Lib.hid (heap_alloc_new wr (.cells #[.int .i64 o, .int .i64 e, .int .i64 c] 68))
      have HBX : Hid (Below wr.heap.size wr (wr.alloc (.cells #[.int .i64 o, .int .i64 e, .int .i64 c] 68))) := Me.below_alloc (Below.refl _ _)
      have HM2 := Lib.hid (HM.out.below HBX.out)
      obtain ⟨n, hn⟩ : ∃ n, P.length = n := ⟨_, rfl⟩
      have hn2 : n ≤ 900 := by have := HS.out.1; omega
      have HN := Lib.hid hn
      rw [hn] at hc3 HM HM2 ⊢
      clear hn
      go_wp2
      rename_i Q9 K2 hK2 K1 hK1 K0 hK0
      suffices HC : ∀ (s8 s9 s10 s11 s12 s13 s14 s15 s16 s17 s18 s19 s20 s21 s22 s23 s24 s25 s26 s27 s28 s29 s30 s31 s32 s33 s34 s35 s36 s37 s38 s39 s40 s41 s42 s43 s44 s45 s46 s47 s48 s49 s50 s51 s52 s53 s54 : Value) (k G C : Nat) (I : List Pm) (x : Pm) (wz : World), I.length = k → k ≤ 900 → Hid (Mo wz W1.heap.size (.slice (some ⟨G, 0, none⟩) (k + 1) C) (I ++ [x])) → Hid (Below W1.heap.size W1 wz) → Hid (wz.heap[wr.heap.size]? = some (.cells #[.int .i64 o, .int .i64 e, .int .i64 c] 68 (0, 0))) → Hid (F (j + 1) = msP I ++ [mPut x.m c]) → Hid (k ≤ j ∧ (∀ p ∈ I, 0 ≤ p.m.up ∧ p.m.up ≤ j ∧ p.m.more.length ≤ j) ∧ 0 ≤ x.m.up ∧ x.m.up ≤ j ∧ x.m.more.length ≤ j) → K1 ⟨#[.agg #[.int .i64 room, .slice (some ⟨g, 0, none⟩) N cp], .pointer (some ⟨w.heap.size, 0, none⟩), .slice none 0 0, .slice (some ⟨G, 0, none⟩) (k + 1) C, .int .i64 (j : Int), .pointer (some ⟨wr.heap.size, 0, none⟩), .int .i64 (k : Int), .slice (some ⟨w.heap.size + 1, 0, none⟩) 0 0, s8, s9, s10, s11, s12, s13, s14, s15, s16, s17, s18, s19, s20, s21, s22, s23, s24, s25, s26, s27, s28, s29, s30, s31, s32, s33, s34, s35, s36, s37, s38, s39, s40, s41, s42, s43, s44, s45, s46, s47, s48, s49, s50, s51, s52, s53, s54, u55, u56, u57, u58, u59, u60, u61, u62, u63, u64, u65, u66, u67, u68, u69, u70, u71, u72, u73, u74, u75, u76, u77, u78, u79, u80, u81, u82, u83, u84, u85, u86, u87, u88, u89, u90, u91, u92, u93, undef], []⟩ wz by
        clear hK1
        have HX3 : ∀ q, Hid (((wr.alloc (.cells #[.int .i64 o, .int .i64 e, .int .i64 c] 68)).drewN q).heap[wr.heap.size]? = some (.cells #[.int .i64 o, .int .i64 e, .int .i64 c] 68 (0, 0))) := fun q => ((Me.below_drewN (Below.refl _ (wr.alloc (.cells #[.int .i64 o, .int .i64 e, .int .i64 c] 68))) q).block _ (Array.getElem?_eq_some_iff.1 HX.out).1).trans HX.out
        have HM3 : ∀ q, Hid (Mo ((wr.alloc (.cells #[.int .i64 o, .int .i64 e, .int .i64 c] 68)).drewN q) W1.heap.size (.slice A3 n c3) P) := fun q => HM2.out.below (Me.below_drewN (Below.refl _ _) q)
        have HB3 : ∀ q, Hid (Below W1.heap.size W1 ((wr.alloc (.cells #[.int .i64 o, .int .i64 e, .int .i64 c] 68)).drewN q)) := fun q => Me.below_drewN (HBr.out.trans (HBX.out.mono HBr.out.size)) q
        have HZ3 : Hid (∀ q, ((wr.alloc (.cells #[.int .i64 o, .int .i64 e, .int .i64 c] 68)).drewN q).heap.size = wr.heap.size + 1) := fun q => by simp
        have HLn : Hid (P.length ≤ 1000) := by show _ ≤ _; rw [HN.out]; omega
        have HSn : Hid (n ≤ j ∧ (∀ p ∈ P, 0 ≤ p.m.up ∧ p.m.up ≤ j ∧ p.m.more.length ≤ j)) := ⟨by rw [← HN.out]; exact HS.out.1, HS.out.2⟩
        have HSx : Hid (n ≤ j ∧ (∀ p ∈ P, 0 ≤ p.m.up ∧ p.m.up ≤ j ∧ p.m.more.length ≤ j) ∧ (0 : Int) ≤ 0 ∧ (0 : Int) ≤ j ∧ ([] : List Int).length ≤ j) := ⟨HSn.out.1, HSn.out.2, by omega, by omega, by simp⟩
        clear HS
        rcases nil_snoc P with rfl | ⟨I, y, rfl⟩
        · have h0 : n = 0 := HN.out.symm
          subst h0
          have HE : Hid (F (j + 1) = msP [] ++ [mPut ⟨o, e, 0, []⟩ c]) := by
            show _ = _
            rw [HSj.out, ← HP.out]
            rfl
          go_quiet (fail)
          go_wp2_with (at_builtin; refine appMk (w0 := W1) rfl (.tmp 45) (.tmp 51) rfl W1.heap.size _ [] o e rfl rfl (HM3 _).out (HB3 _).out (HB3 _).out.size (wr.heap.size + 1) (HZ3.out _).symm rfl HLn.out ?_; intro v1 w1 ho1 hb1 hg1; obtain ⟨G1, c1, rfl, ho1⟩ := mo_new ho1 HN.out; have HK4 := Lib.hid ((hg1.block wr.heap.size (Array.getElem?_eq_some_iff.1 (HX3 _).out).1 (fun e9 => Nat.lt_irrefl _ (HM.out.own.lt _ e9.symm).2)).trans (HX3 _).out); have HO4 := Lib.hid ho1; have HB4 := Lib.hid hb1; clear ho1 hb1 hg1)
          exact HC _ _ _ _ _ _ _ _ _ _ _ _ _ _ _ _ _ _ _ _ _ _ _ _ _ _ _ _ _ _ _ _ _ _ _ _ _ _ _ _ _ _ _ _ _ _ _ 0 G1 c1 [] ⟨⟨o, e, 0, []⟩, none, 0⟩ w1 rfl (Nat.zero_le _) HO4 HB4 HK4 HE HSx
        · obtain ⟨m, rfl⟩ : ∃ m, n = m + 1 := ⟨I.length, by have := HN.out; rw [List.length_append] at this; exact this.symm⟩
          have hIm : I.length = m := by have := HN.out; rw [List.length_append] at this; simp at this; exact this
          have e6 : (((m + 1 : Nat) : Int) - 1) = (m : Int) := by push_cast; omega
          rw [e6]
          obtain ⟨G3, rfl, hGB, hGlt, hGc⟩ := HM2.out.at_ (j := m) (p := y) (by rw [← hIm]; simp)
          obtain ⟨z0, z1, z2, z3, z4⟩ := hGc _ rfl
          have HGc := Lib.hid hGc
          clear hGc z2 z3 z4 hGB hGlt e6
          have n0 : ¬ ((m : Int) < 0) := by omega
          have n1 : ¬ ((m : Int) + 1 ≤ (m : Int)) := by omega
          obtain ⟨⟨yo, ye, up, more⟩, yA, yc⟩ := y
          simp only at z0 z1
          by_cases hs : yo = o ∧ ye = e
          · obtain ⟨rfl, rfl⟩ := hs
            have HE : Hid (F (j + 1) = msP I ++ [mPut ⟨yo, ye, up, more⟩ c]) := by
              show _ = _
              rw [HSj.out, ← HP.out, msP_snoc, mStep_same _ _ _ ⟨rfl, rfl⟩]
            have HSy : Hid (m ≤ j ∧ (∀ p ∈ I, 0 ≤ p.m.up ∧ p.m.up ≤ j ∧ p.m.more.length ≤ j) ∧ (0 : Int) ≤ up ∧ up ≤ j ∧ more.length ≤ j) := by
              obtain ⟨h1, h2⟩ := HSn.out
              obtain ⟨h3, h4, h5⟩ := h2 ⟨⟨yo, ye, up, more⟩, yA, yc⟩ (by simp)
              exact ⟨by omega, fun p hp => h2 p (by simp [hp]), h3, h4, h5⟩
            go_quiet (fail)
            go_wp2
            exact HC _ _ _ _ _ _ _ _ _ _ _ _ _ _ _ _ _ _ _ _ _ _ _ _ _ _ _ _ _ _ _ _ _ _ _ _ _ _ _ _ _ _ _ _ _ _ _ m G3 c3 I ⟨⟨yo, ye, up, more⟩, yA, yc⟩ _ hIm (by omega) (HM3 _) (HB3 _) (HX3 _) HE HSy
          · have HE : Hid (F (j + 1) = msP (I ++ [⟨⟨yo, ye, up, more⟩, yA, yc⟩]) ++ [mPut ⟨o, e, 0, []⟩ c]) := by
              show _ = _
              rw [HSj.out, ← HP.out, msP_snoc, mStep_new _ _ _ hs]
            have hor : (yo != o) = true ∨ ((yo != o) = false ∧ (ye != e) = true) := by
              by_cases h : yo = o
              · right
                exact ⟨by simp [h], by simpa using fun h2 : ye = e => hs ⟨h, h2⟩⟩
              · left; simpa using h
            clear hs
            rcases hor with g1' | ⟨g1', g2'⟩
            all_goals
              go_quiet (fail)
              go_wp2_with (at_builtin; refine appMk (w0 := W1) rfl (.tmp 45) (.tmp 51) rfl W1.heap.size _ (I ++ [⟨⟨yo, ye, up, more⟩, yA, yc⟩]) o e rfl rfl (HM3 _).out (HB3 _).out (HB3 _).out.size (wr.heap.size + 1) (HZ3.out _).symm rfl HLn.out ?_; intro v1 w1 ho1 hb1 hg1; obtain ⟨G1, c1, rfl, ho1⟩ := mo_new ho1 HN.out; have HK4 := Lib.hid ((hg1.block wr.heap.size (Array.getElem?_eq_some_iff.1 (HX3 _).out).1 (fun e9 => Nat.lt_irrefl _ (HM.out.own.lt _ e9.symm).2)).trans (HX3 _).out); have HO4 := Lib.hid ho1; have HB4 := Lib.hid hb1; clear ho1 hb1 hg1)
              exact HC _ _ _ _ _ _ _ _ _ _ _ _ _ _ _ _ _ _ _ _ _ _ _ _ _ _ _ _ _ _ _ _ _ _ _ _ _ _ _ _ _ _ _ _ _ _ _ (m + 1) G1 c1 (I ++ [⟨⟨yo, ye, up, more⟩, yA, yc⟩]) ⟨⟨o, e, 0, []⟩, none, 0⟩ w1 HN.out hn2 HO4 HB4 HK4 HE HSx
      intro s8 s9 s10 s11 s12 s13 s14 s15 s16 s17 s18 s19 s20 s21 s22 s23 s24 s25 s26 s27 s28 s29 s30 s31 s32 s33 s34 s35 s36 s37 s38 s39 s40 s41 s42 s43 s44 s45 s46 s47 s48 s49 s50 s51 s52 s53 s54 k G C I x wz hk hk2 HMz HBz HKz HFz HSz
      refine hK1 _ _ ?_
      clear hK1 hK0
      have ix : (I ++ [x])[k]? = some x := by rw [← hk]; simp
      obtain ⟨G', eG, hGB, hGlt, hGc⟩ := HMz.out.at_ ix
      obtain rfl : G = G' := by injection eG with e; injection e
      obtain ⟨z0, z1, z2, z3, z4⟩ := hGc wz rfl
      obtain ⟨y0, y1, y2⟩ := ky_cells HKz.out
      obtain ⟨k1, k2', k3, k4, k5⟩ := HSz.out
      have hj1 := hlt
      have HSI : Hid (∀ p ∈ I, 0 ≤ p.m.up ∧ p.m.up ≤ ((j + 1 : Nat) : Int) ∧ p.m.more.length ≤ j + 1) := fun p hp => by obtain ⟨h1, h2, h3⟩ := k2' p hp; exact ⟨h1, by omega, by omega⟩
      have HGB := Lib.hid hGB
      have HGlt := Lib.hid hGlt
      have HGc := Lib.hid hGc
      clear eG hGlt ix hGc k2' HX HBX HM2 HM HP HS HN hn2 hc3 hc4 hGB HSz
      obtain ⟨⟨xo, xe, up, more⟩, xA, xc⟩ := x
      simp only [Pm.v] at z0 z1 z2 z3 k3 k4 k5
      have q0 : up ≤ 900 := by omega
      have HMn : ∀ n, Hid (Mo (wz.drewN n) W1.heap.size (.slice (some ⟨G, 0, none⟩) (k + 1) C) (I ++ [⟨⟨xo, xe, up, more⟩, xA, xc⟩])) := fun n => HMz.out.below (Me.below_drewN (Below.refl _ _) n)
      have HBn : ∀ n, Hid (Below W1.heap.size W1 (wz.drewN n)) := fun n => Me.below_drewN HBz.out n
      by_cases hcu : more = [] ∧ c = up + 1
      · obtain ⟨rfl, rfl⟩ := hcu
        simp only [List.length_nil] at z3
        have g1 : (up + 1 == up + 1) = true := by simp
        have HE : Hid (F (j + 1) = msP (I ++ [⟨⟨xo, xe, up + 1, []⟩, xA, xc⟩])) := by
          show _ = _
          rw [HFz.out, msP_snoc]
          simp [mPut]
        go_wp2
        go_quiet (fail)
        go_wp2
        go_roundw
        case rel =>
          refine ⟨j + 1, (I ++ [(⟨⟨xo, xe, up + 1, []⟩, xA, xc⟩ : Pm)] : List Pm), by go_num, hj1, ?_, HE.out.symm, ⟨?_, ?_⟩, below_cell (HBn _).out HGB.out _⟩
          · have h := (HMn nq).out.up (up + 1)
            rw [hk] at h
            exact h
          · rw [List.length_append, hk]; simp; omega
          · intro p hp
            rcases List.mem_append.1 hp with hp | hp
            · exact HSI.out p hp
            · obtain rfl : p = ⟨⟨xo, xe, up + 1, []⟩, xA, xc⟩ := by simpa using hp
              refine ⟨by show 0 ≤ up + 1; omega, by show up + 1 ≤ _; push_cast; omega, by show ([] : List Int).length ≤ _; simp⟩
        case measure => simp [intOf]; omega
      · have HE : Hid (F (j + 1) = msP I ++ [⟨xo, xe, up, more ++ [c]⟩]) := by
          show _ = _
          rw [HFz.out]
          unfold mPut
          rw [if_neg (fun h => hcu ⟨List.eq_nil_of_length_eq_zero h.1, h.2⟩)]
        have hcs : ((((more.length : Nat) : Int) == 0) = true ∧ (c == up + 1) = false) ∨ (((more.length : Nat) : Int) == 0) = false := by
          by_cases h : more.length = 0
          · left; exact ⟨by simp [h], by simpa using fun h2 : c = up + 1 => hcu ⟨List.eq_nil_of_length_eq_zero h, h2⟩⟩
          · right; rw [beq_eq_false_iff_ne]; omega
        have HL : Hid (more.length ≤ j) := k5
        have HL2 : Hid (more.length ≤ 1000000) := by show _ ≤ _; omega
        have HEo : Hid (more.length + 1 ≤ j + 1 ∧ (0 : Int) ≤ up ∧ up ≤ ((j + 1 : Nat) : Int)) := ⟨by omega, k3, by push_cast; omega⟩
        have g9 : ¬ ((k : Int) + 1 ≤ (k : Int)) := by omega
        clear hcu
        rcases hcs with ⟨g0, g1⟩ | g0
        all_goals
          go_wp2
          go_quiet (fail)
          go_wp2
          have HM0 := HMn nq
          have HB0 := HBn nq
          have HK0 : Hid ((wz.drewN nq).heap[wr.heap.size]? = some (.cells #[.int .i64 o, .int .i64 e, .int .i64 c] 68 (0, 0))) := ((Me.below_drewN (Below.refl wz.heap.size wz) nq).block _ (Array.getElem?_eq_some_iff.1 HKz.out).1).trans HKz.out
          have HG0 : Hid ((wz.drewN nq).heap[G]? = wz.heap[G]?) := (Me.below_drewN (Below.refl wz.heap.size wz) nq).block _ HGlt.out
          have HGv : Hid (G < (wz.drewN nq).heap.size) := (Array.getElem?_eq_some_iff.1 (HG0.out.trans (Array.getElem?_eq_getElem HGlt.out))).1
          obtain ⟨V0, hV0⟩ : ∃ V, wz.drewN nq = V := ⟨_, rfl⟩
          rw [hV0] at HM0 HB0 HK0 HG0 HGv ⊢
          clear HMn HBn HMz HBz HKz hV0 z0 z1 z2 z3 z4 y0 y1 y2
          have S0 : Below W1.heap.size W1 V0.drew ∧ V0.drew.heap[wr.heap.size]? = some (.cells #[.int .i64 o, .int .i64 e, .int .i64 c] 68 (0, 0)) := ⟨HB0.out.drew, HK0.out⟩
          refine wp_region_held_drew (S := fun W => Below W1.heap.size W1 W ∧ W.heap[wr.heap.size]? = some (.cells #[.int .i64 o, .int .i64 e, .int .i64 c] 68 (0, 0))) (by kernel_rfl) S0 (fun hHeld => ?_)
          refine wpAnyH_take (i := 0) (v := .slice (some ⟨G, 0, none⟩) (k + 1) C) rfl (by kernel_rfl) (by kernel_rfl) (by kernel_rfl) (fun _ _ _ h => h) (Or.inl ⟨by rfl, ?_⟩) (by first | assumption | exact trivial) ?_
          · intro W hSW; go_simp; try (with_reducible rfl)
          simp only [Act.put, List.getElem_toArray, List.getElem_cons_succ, List.getElem_cons_zero, List.setIfInBounds_toArray, List.set_cons_zero, List.set_cons_succ]
          refine wpAnyH_take (i := 1) (v := .int .i64 (k : Int)) rfl (by kernel_rfl) (by kernel_rfl) (by kernel_rfl) (fun _ _ _ h => h) (Or.inl ⟨by rfl, ?_⟩) (by first | assumption | exact trivial) ?_
          · intro W hSW; go_simp; try (with_reducible rfl)
          simp only [Act.put, List.getElem_toArray, List.getElem_cons_succ, List.getElem_cons_zero, List.setIfInBounds_toArray, List.set_cons_zero, List.set_cons_succ]
          refine wpAnyH_take (i := 2) (v := .slice (some ⟨G, 0, none⟩) (k + 1) C) rfl (by kernel_rfl) (by kernel_rfl) (by kernel_rfl) (fun _ _ _ h => h) (Or.inl ⟨by rfl, ?_⟩) (by first | assumption | exact trivial) ?_
          · intro W hSW; go_simp; try (with_reducible rfl)
          simp only [Act.put, List.getElem_toArray, List.getElem_cons_succ, List.getElem_cons_zero, List.setIfInBounds_toArray, List.set_cons_zero, List.set_cons_succ]
          refine wpAnyH_take (i := 3) (v := .int .i64 (k : Int)) rfl (by kernel_rfl) (by kernel_rfl) (by kernel_rfl) (fun _ _ _ h => h) (Or.inl ⟨by rfl, ?_⟩) (by first | assumption | exact trivial) ?_
          · intro W hSW; go_simp; try (with_reducible rfl)
          simp only [Act.put, List.getElem_toArray, List.getElem_cons_succ, List.getElem_cons_zero, List.setIfInBounds_toArray, List.set_cons_zero, List.set_cons_succ]
          refine wpAnyH_take (i := 4) (v := .pointer (some ⟨G, k * 4, none⟩)) rfl (by kernel_rfl) (by kernel_rfl) (by kernel_rfl) (fun _ _ _ h => h) (Or.inl ⟨by rfl, ?_⟩) (by first | assumption | exact trivial) ?_
          · intro W hSW; go_simp; try (with_reducible rfl)
          simp only [Act.put, List.getElem_toArray, List.getElem_cons_succ, List.getElem_cons_zero, List.setIfInBounds_toArray, List.set_cons_zero, List.set_cons_succ]
          refine wpAnyH_take (i := 5) (v := .pointer (some ⟨G, k * 4 + 3, none⟩)) rfl (by kernel_rfl) (by kernel_rfl) (by kernel_rfl) (fun _ _ _ h => h) (Or.inl ⟨by rfl, ?_⟩) (by first | assumption | exact trivial) ?_
          · intro W hSW; go_simp; try (with_reducible rfl)
          simp only [Act.put, List.getElem_toArray, List.getElem_cons_succ, List.getElem_cons_zero, List.setIfInBounds_toArray, List.set_cons_zero, List.set_cons_succ]
          refine wpAnyH_take (i := 7) (v := .pointer (some ⟨wr.heap.size, 2, none⟩)) rfl (by kernel_rfl) (by kernel_rfl) (by kernel_rfl) (fun _ _ _ h => h) (Or.inl ⟨by rfl, ?_⟩) (by first | assumption | exact trivial) ?_
          · intro W hSW; go_simp; try (with_reducible rfl)
          simp only [Act.put, List.getElem_toArray, List.getElem_cons_succ, List.getElem_cons_zero, List.setIfInBounds_toArray, List.set_cons_zero, List.set_cons_succ]
          refine wpAnyH_take (i := 8) (v := .int .i64 c) rfl (by kernel_rfl) (by kernel_rfl) (by kernel_rfl) (fun _ _ _ h => h) (Or.inl ⟨by rfl, ?_⟩) (by first | assumption | exact trivial) ?_
          · intro W hSW; obtain ⟨y0, y1, y2⟩ := ky_cells hSW.2; go_simp; try (with_reducible rfl)
          simp only [Act.put, List.getElem_toArray, List.getElem_cons_succ, List.getElem_cons_zero, List.setIfInBounds_toArray, List.set_cons_zero, List.set_cons_succ]
          refine wpAnyH_ready (rs := [6, 9]) (by kernel_rfl) (by simp) ?_
          refine AllReadyH.cons rfl (fun K hK => ?pa) (AllReadyH.cons rfl (fun K hK => ?pb) AllReadyH.nil)
          case pa =>
            obtain ⟨z0, z1, z2, z3, z4⟩ := HGc.out V0 HG0.out
            simp only [Pm.v] at z3
            go_simp
            clear z0 z1 z2 z3 z4
            refine hK.out _ _ (S0) (fun hHeld => ?_)
            clear hK K
            refine wpAnyH_ready (rs := [9]) (by kernel_rfl) (by simp) ?_
            refine AllReadyH.cons rfl (fun K hK => ?_) AllReadyH.nil
            go_simp
            obtain ⟨W9, hW9⟩ : ∃ V, (V0.alloc (.cells #[.int .i64 c] 3)).drew = V := ⟨_, rfl⟩
            have hb9 : Below V0.heap.size V0 W9 := by rw [← hW9]; exact (Me.below_alloc (Below.refl _ _)).drew
            have hz9 : W9.cell? ⟨V0.heap.size, 0, none⟩ = some (.int .i64 c) := by
              have h := cell_of_row W9 V0.heap.size 0 #[.int .i64 c] 3 (0, 0) (by rw [← hW9]; exact heap_alloc_new V0 _)
              simpa using h
            rw [hW9]
            clear hW9
            have hM9 := HM0.out.below hb9
            have hB9 : Below W1.heap.size W1 W9 := HB0.out.trans (hb9.mono HB0.out.size)
            have hK9 : W9.heap[wr.heap.size]? = some (.cells #[.int .i64 o, .int .i64 e, .int .i64 c] 68 (0, 0)) := (hb9.block _ (Array.getElem?_eq_some_iff.1 HK0.out).1).trans HK0.out
            have ho9 : Mi.Own W9 W1.heap.size (.slice xA more.length xc) more := hM9.each ⟨⟨xo, xe, up, more⟩, xA, xc⟩ (by simp)
            refine hK.out _ _ (⟨hB9, hK9⟩) (fun hHeld => ?_)
            clear hK K
            refine wpAnyH_ready (rs := [10]) (by kernel_rfl) (by simp) ?_
            refine AllReadyH.cons rfl (fun K hK => ?_) AllReadyH.nil
            rw [if_pos (by kernel_rfl)]
            refine appMoreW (.tmp 87) (.tmp 90) rfl W1.heap.size (.slice xA more.length xc) more c V0.heap.size rfl ho9 rfl hz9 HL2.out hB9.size ?_
            intro A7 c7 W7 ho7 hg7 hor
            simp only [Act.put, List.getElem_toArray, List.getElem_cons_succ, List.getElem_cons_zero, List.setIfInBounds_toArray, List.set_cons_zero, List.set_cons_succ]
            have hB7 : Below W1.heap.size W1 W7 := hB9.grown hg7 hB9.size fun k' hk' => (ho9.lt k' hk').1
            have hK7 : W7.heap[wr.heap.size]? = some (.cells #[.int .i64 o, .int .i64 e, .int .i64 c] 68 (0, 0)) := (hg7.block _ (Array.getElem?_eq_some_iff.1 hK9).1 (own_ky ho9 hK9).symm).trans hK9
            have hM7 := hM9.more (x := ⟨⟨xo, xe, up, more⟩, xA, xc⟩) (z := c) ho7 hg7 (fun k' hk' => by
              have e1 : A7 = k' := by simpa [Value.ownBlock] using hk'
              subst e1
              exact hor)
            rw [hk] at hM7
            have hne := mo_ky hM9 hK9
            have hGne : some G ≠ (Value.slice xA more.length xc).ownBlock := by
              rcases ty_ne hM9.own ho9 (by decide) with h | h
              · cases h
              · exact h
            have z3 : W7.cell? ⟨G, k * 4 + 3, none⟩ = some (.slice xA more.length xc) := hg7.cell (HGc.out W9 ((hb9.block _ HGv.out).trans HG0.out)).2.2.2.1 hGne
            have z4 : ∀ i, W7.frozen? ⟨G, i, none⟩ = false := own_frozen (hM9.own.kept hg7 (ty_ne hM9.own ho9 (by decide)))
            clear hM9 hor hg7 ho9 hz9 hb9 ho7
            refine hK.out _ _ (⟨hB7, hK7⟩) (fun hHeld => ?_)
            clear hK K
            refine wpAnyH_take (i := 11) (v := .pointer (some ⟨G, k * 4, none⟩)) rfl (by kernel_rfl) (by kernel_rfl) (by kernel_rfl) (fun _ _ _ h => h) (Or.inl ⟨by rfl, ?_⟩) (by first | assumption | exact trivial) ?_
            · intro W hSW; go_simp; try (with_reducible rfl)
            simp only [Act.put, List.getElem_toArray, List.getElem_cons_succ, List.getElem_cons_zero, List.setIfInBounds_toArray, List.set_cons_zero, List.set_cons_succ]
            refine wpAnyH_take (i := 12) (v := .pointer (some ⟨G, k * 4 + 3, none⟩)) rfl (by kernel_rfl) (by kernel_rfl) (by kernel_rfl) (fun _ _ _ h => h) (Or.inl ⟨by rfl, ?_⟩) (by first | assumption | exact trivial) ?_
            · intro W hSW; go_simp; try (with_reducible rfl)
            simp only [Act.put, List.getElem_toArray, List.getElem_cons_succ, List.getElem_cons_zero, List.setIfInBounds_toArray, List.set_cons_zero, List.set_cons_succ]
            refine wpAnyH_ready (rs := [13]) (by kernel_rfl) (by simp) ?_
            refine AllReadyH.cons rfl (fun K hK => ?_) AllReadyH.nil
            go_simp
            refine hK.out _ _ (⟨below_cell hB7 HGB.out _, (Below.heap_setCell W7 ⟨G, k * 4 + 3, none⟩ _ wr.heap.size hne).trans hK7⟩) (fun hHeld => ?_)
            clear hK K
            refine wpAnyH_done (by kernel_rfl) ?_ _
            have hBL := below_cell (i := k * 4 + 3) hB7 HGB.out (.slice (some ⟨A7, 0, none⟩) (more.length + 1) c7)
            clear hHeld hK7 z3 z4 hne hGne
            go_wp2
            go_roundw
            case rel =>
              refine ⟨j + 1, (I ++ [(⟨⟨xo, xe, up, more ++ [c]⟩, some ⟨A7, 0, none⟩, c7⟩ : Pm)] : List Pm), by go_num, hj1, hM7, ?_, ⟨?_, ?_⟩, hBL⟩
              · show _ = _
                rw [HE.out, msP_snoc]
              · rw [List.length_append, hk]; simp; omega
              · intro p hp
                rcases List.mem_append.1 hp with hp | hp
                · exact HSI.out p hp
                · obtain rfl : p = ⟨⟨xo, xe, up, more ++ [c]⟩, some ⟨A7, 0, none⟩, c7⟩ := by simpa using hp
                  obtain ⟨q1, q2, q3⟩ := HEo.out
                  exact ⟨q2, q3, by show (more ++ [c]).length ≤ _; rw [List.length_append]; exact q1⟩
            case measure => simp [intOf]; omega
          case pb =>
            go_simp
            obtain ⟨W9, hW9⟩ : ∃ V, (V0.alloc (.cells #[.int .i64 c] 3)).drew = V := ⟨_, rfl⟩
            have hb9 : Below V0.heap.size V0 W9 := by rw [← hW9]; exact (Me.below_alloc (Below.refl _ _)).drew
            have hz9 : W9.cell? ⟨V0.heap.size, 0, none⟩ = some (.int .i64 c) := by
              have h := cell_of_row W9 V0.heap.size 0 #[.int .i64 c] 3 (0, 0) (by rw [← hW9]; exact heap_alloc_new V0 _)
              simpa using h
            rw [hW9]
            clear hW9
            have hM9 := HM0.out.below hb9
            have hB9 : Below W1.heap.size W1 W9 := HB0.out.trans (hb9.mono HB0.out.size)
            have hK9 : W9.heap[wr.heap.size]? = some (.cells #[.int .i64 o, .int .i64 e, .int .i64 c] 68 (0, 0)) := (hb9.block _ (Array.getElem?_eq_some_iff.1 HK0.out).1).trans HK0.out
            have ho9 : Mi.Own W9 W1.heap.size (.slice xA more.length xc) more := hM9.each ⟨⟨xo, xe, up, more⟩, xA, xc⟩ (by simp)
            refine hK.out _ _ (⟨hB9, hK9⟩) (fun hHeld => ?_)
            clear hK K
            refine wpAnyH_ready (rs := [6]) (by kernel_rfl) (by simp) ?_
            refine AllReadyH.cons rfl (fun K hK => ?_) AllReadyH.nil
            obtain ⟨z0, z1, z2, z3, z4⟩ := HGc.out W9 ((hb9.block _ HGv.out).trans HG0.out)
            simp only [Pm.v] at z3
            go_simp
            clear z0 z1 z2 z3 z4
            refine hK.out _ _ (⟨hB9, hK9⟩) (fun hHeld => ?_)
            clear hK K
            refine wpAnyH_ready (rs := [10]) (by kernel_rfl) (by simp) ?_
            refine AllReadyH.cons rfl (fun K hK => ?_) AllReadyH.nil
            rw [if_pos (by kernel_rfl)]
            refine appMoreW (.tmp 87) (.tmp 90) rfl W1.heap.size (.slice xA more.length xc) more c V0.heap.size rfl ho9 rfl hz9 HL2.out hB9.size ?_
            intro A7 c7 W7 ho7 hg7 hor
            simp only [Act.put, List.getElem_toArray, List.getElem_cons_succ, List.getElem_cons_zero, List.setIfInBounds_toArray, List.set_cons_zero, List.set_cons_succ]
            have hB7 : Below W1.heap.size W1 W7 := hB9.grown hg7 hB9.size fun k' hk' => (ho9.lt k' hk').1
            have hK7 : W7.heap[wr.heap.size]? = some (.cells #[.int .i64 o, .int .i64 e, .int .i64 c] 68 (0, 0)) := (hg7.block _ (Array.getElem?_eq_some_iff.1 hK9).1 (own_ky ho9 hK9).symm).trans hK9
            have hM7 := hM9.more (x := ⟨⟨xo, xe, up, more⟩, xA, xc⟩) (z := c) ho7 hg7 (fun k' hk' => by
              have e1 : A7 = k' := by simpa [Value.ownBlock] using hk'
              subst e1
              exact hor)
            rw [hk] at hM7
            have hne := mo_ky hM9 hK9
            have hGne : some G ≠ (Value.slice xA more.length xc).ownBlock := by
              rcases ty_ne hM9.own ho9 (by decide) with h | h
              · cases h
              · exact h
            have z3 : W7.cell? ⟨G, k * 4 + 3, none⟩ = some (.slice xA more.length xc) := hg7.cell (HGc.out W9 ((hb9.block _ HGv.out).trans HG0.out)).2.2.2.1 hGne
            have z4 : ∀ i, W7.frozen? ⟨G, i, none⟩ = false := own_frozen (hM9.own.kept hg7 (ty_ne hM9.own ho9 (by decide)))
            clear hM9 hor hg7 ho9 hz9 hb9 ho7
            refine hK.out _ _ (⟨hB7, hK7⟩) (fun hHeld => ?_)
            clear hK K
            refine wpAnyH_take (i := 11) (v := .pointer (some ⟨G, k * 4, none⟩)) rfl (by kernel_rfl) (by kernel_rfl) (by kernel_rfl) (fun _ _ _ h => h) (Or.inl ⟨by rfl, ?_⟩) (by first | assumption | exact trivial) ?_
            · intro W hSW; go_simp; try (with_reducible rfl)
            simp only [Act.put, List.getElem_toArray, List.getElem_cons_succ, List.getElem_cons_zero, List.setIfInBounds_toArray, List.set_cons_zero, List.set_cons_succ]
            refine wpAnyH_take (i := 12) (v := .pointer (some ⟨G, k * 4 + 3, none⟩)) rfl (by kernel_rfl) (by kernel_rfl) (by kernel_rfl) (fun _ _ _ h => h) (Or.inl ⟨by rfl, ?_⟩) (by first | assumption | exact trivial) ?_
            · intro W hSW; go_simp; try (with_reducible rfl)
            simp only [Act.put, List.getElem_toArray, List.getElem_cons_succ, List.getElem_cons_zero, List.setIfInBounds_toArray, List.set_cons_zero, List.set_cons_succ]
            refine wpAnyH_ready (rs := [13]) (by kernel_rfl) (by simp) ?_
            refine AllReadyH.cons rfl (fun K hK => ?_) AllReadyH.nil
            go_simp
            refine hK.out _ _ (⟨below_cell hB7 HGB.out _, (Below.heap_setCell W7 ⟨G, k * 4 + 3, none⟩ _ wr.heap.size hne).trans hK7⟩) (fun hHeld => ?_)
            clear hK K
            refine wpAnyH_done (by kernel_rfl) ?_ _
            have hBL := below_cell (i := k * 4 + 3) hB7 HGB.out (.slice (some ⟨A7, 0, none⟩) (more.length + 1) c7)
            clear hHeld hK7 z3 z4 hne hGne
            go_wp2
            go_roundw
            case rel =>
              refine ⟨j + 1, (I ++ [(⟨⟨xo, xe, up, more ++ [c]⟩, some ⟨A7, 0, none⟩, c7⟩ : Pm)] : List Pm), by go_num, hj1, hM7, ?_, ⟨?_, ?_⟩, hBL⟩
              · show _ = _
                rw [HE.out, msP_snoc]
              · rw [List.length_append, hk]; simp; omega
              · intro p hp
                rcases List.mem_append.1 hp with hp | hp
                · exact HSI.out p hp
                · obtain rfl : p = ⟨⟨xo, xe, up, more ++ [c]⟩, some ⟨A7, 0, none⟩, c7⟩ := by simpa using hp
                  obtain ⟨q1, q2, q3⟩ := HEo.out
                  exact ⟨q2, q3, by show (more ++ [c]).length ≤ _; rw [List.length_append]; exact q1⟩
            case measure => simp [intOf]; omega
    · obtain rfl : j = N := by omega
      have g1 : ¬ (j : Int) < (j : Int) := by omega
      go_wp2
      go_ret
      exact ⟨_, rfl, P, ⟨own_base HM.out.own fun b hb => Nat.le_trans HB1.out.size (HM.out.own.lt b hb).1, fun p hp => own_base (HM.out.each p hp) fun b hb => Nat.le_trans HB1.out.size ((HM.out.each p hp).lt b hb).1, HM.out.last⟩, HP.out.trans HEnd.out, HS.out, HB1.out.trans (HBr.out.mono HB1.out.size)⟩
end Go.Proofs.Ythajocfgpodimaa.Se
