/- RoutesNear: the next hop has said that it costs one less. -/
import Derived.Test.YtablejhajilpiaaRtNearM
namespace Go.Proofs.Ytablejhajilpiaa.Rt
open Go.RowKit Go.Maps
open Go.Proofs.Ytablejhajilpiaa.Sb
set_option linter.unusedVariables false
set_option linter.unusedSimpArgs false
set_option maxRecDepth 100000 in
set_option maxHeartbeats 16000000 in
theorem routesNear (ss sg : Int) (sR : Option Addr) (sn sc : Nat) (l : List Int) (A : Option Addr) (len cap : Nat) (ls : List Ac) (w : World) (hs : Mi.BySlice w sR sn sc l ∧ sc * 8 ≤ 140737488351232) (hl : len = ls.length ∧ len ≤ cap ∧ cap ≤ 9223372036854775807 ∧ Acts w A ls) :
    Calls Try.prog 5 #[.agg #[.int .i64 ss, .slice sR sn sc, .int .i64 sg], .slice A len cap] w fun e w' => e = .returned (.bool true) ∧ Below w.heap.size w w' := by
  obtain ⟨⟨hln, hlc, hcm, hrd, hnil, _⟩, hc8⟩ := hs
  subst hln
  show Calls Try.prog _ #[.agg (stV ss sR l.length sc sg), .slice A len cap] w _
  have hl6 : l.length ≤ 9223372036854775806 := by omega
  have HB : Hid ((w.alloc (.cells (stV ss sR l.length sc sg) 24)).heap[w.heap.size]? = some (.cells (stV ss sR l.length sc sg) 24 (0, 0))) := heap_alloc_new w _
  have HBW : Hid (Below w.heap.size w (w.alloc (.cells (stV ss sR l.length sc sg) 24))) := Mi.below_alloc (Below.refl _ _)
  have HSZ : Hid ((w.alloc (.cells (stV ss sR l.length sc sg) 24)).heap.size = w.heap.size + 1) := World.size_alloc _ _
  obtain ⟨w1, hw1⟩ : ∃ w1, w.alloc (.cells (stV ss sR l.length sc sg) 24) = w1 := ⟨_, rfl⟩
  have HW1 : Hid (w.alloc (.cells (stV ss sR l.length sc sg) 24) = w1) := hw1
  rw [hw1] at HB HBW HSZ
  clear hw1
  have HRD : Hid (Mi.Rd w1 w.heap.size sR l) := hrd.below HBW.out
  have HNIL : Hid (sR = none → l.length = 0 ∧ sc = 0) := hnil
  have HK := Lib.hid awake_any
  obtain ⟨hln2, hlc2, hcm2, hac⟩ := hl
  have HAC : Hid (Acts w1 A ls) := hac.below HBW.out
  have HLN : Hid (len = ls.length) := hln2
  have hlen6 : len ≤ 9223372036854775807 := Nat.le_trans hlc2 hcm2
  obtain ⟨c0, c1, c2⟩ := st_cells HB.out
  clear hln2 hac hc8
  by_cases hE : newE ss l sg = 0
  · obtain ⟨self, age, rfl, rfl⟩ := newE_nat hE
    have HN := Lib.hid (New_ok self age sR sc w.heap.size l w1 HRD HNIL HBW.out.size hE)
    have HST := Lib.hid (fun (W : World) (hW : Below w1.heap.size w1 W) => st_cells ((hW.block _ (by have := HSZ.out; omega)).trans HB.out))
    obtain ⟨N, hN⟩ : ∃ N, min len 40 = N := ⟨_, rfl⟩
    have hNN : N ≤ len ∧ N ≤ 40 ∧ (N = len ∨ (N = 40 ∧ 40 < len)) := by omega
    clear hE hN hl6
    go_enter Try.func5, Try.ntmps5
    go_wp2_with (first
      | (refine Mi.allocTo rfl (.pointer (some ⟨_, 0, none⟩)) (.cells (stV (self : Int) sR l.length sc (age : Int)) 24 (0, 0)) (exec_boxs _ _ (self : Int) (age : Int) sR l.length sc (.tmp 0) rfl rfl _) ?_; rw [HW1.out])
      | (go_at_call 9; refine HN.out.mono ?_; rintro e w2 ⟨D, mb, v, rfl, ht2, hb2⟩)
      | (refine Mi.allocTo rfl (.slice (some ⟨w2.heap.size, 0, none⟩) 64 64) (.cells (csv fun _ => cs0) 22 (0, 0)) (make_cs _ _ rfl _) ?_))
    have HN0 : Hid (Nr w1 (w2.alloc (.cells (csv fun _ => cs0) 22)) D mb v (newT self age l) w2.heap.size fun _ => cs0) := by
      have hb4 : Below w2.heap.size w2 (w2.alloc (.cells (csv fun _ => cs0) 22)) := Mi.below_alloc (Below.refl _ _)
      have e1 := ht2.out.tq.lt
      have e2 := ht2.out.tq.ltm
      exact ⟨ht2.out.below hb4, heap_alloc_new w2 _, go_on hb2.out hb4, hb2.out.size, by omega, by omega, fun k hk => by (have := ht2.out.tq.ltv k hk; omega), fun n _ => Mi.Rd.nil _ _ _, (fun n p _ hp => by cases hp), fun d _ => rfl⟩
    obtain ⟨gs, hgs⟩ : ∃ g, w2.heap.size = g := ⟨_, rfl⟩
    obtain ⟨w4, hw4⟩ : ∃ w4, w2.alloc (.cells (csv fun _ => cs0) 22) = w4 := ⟨_, rfl⟩
    rw [hw4] at HN0 ⊢
    rw [hgs] at HN0 ⊢
    clear hw4 hgs c0 c1 c2 ht2 hb2 HN
    obtain ⟨t0, ht0⟩ : ∃ t0, newT self age l = t0 := ⟨_, rfl⟩
    rw [ht0] at HN0
    have HTS : Hid (t0.self = self) := by rw [← ht0]; exact Lib.hid rfl
    clear ht0
    go_loopw [10] (fun k wr => ∃ (i : Nat) (t : Tb) (f : Nat → Cs), i ≤ N ∧ k = .int .i64 i ∧ Hid (t.self = self) ∧ Hid (Nr w1 wr D mb v t gs f)) (fun k _ => N - (intOf k).toNat)
    case atStart => exact ⟨0, _, _, Nat.zero_le _, rfl, HTS, HN0⟩
    case round =>
      obtain ⟨k, t, f, hk, rfl, hts, HNr⟩ := hrel
      clear HN0
      by_cases hlt : k < N
      · obtain ⟨b, off, R, cr, rfl, hin, hca⟩ := acts_cells HAC.out (k := k) (by rw [← HLN.out]; omega)
        have HCA := Lib.hid hca
        have hki : (k : Int) < (len : Int) := by omega
        have hk40 : (k : Int) < 40 := by omega
        have hrp := hin.rd
        have hpl : (acAt ls k).p.length ≤ 9223372036854775806 := by have := hin.le; have := hin.sz; omega
        clear hca hin
        obtain ⟨a, ha⟩ : ∃ a, acAt ls k = a := ⟨_, rfl⟩
        rw [ha] at HCA hrp hpl
        clear ha
        obtain ⟨kk, dd, via, cst⟩ := a
        simp only at HCA hrp hpl
        by_cases h1 : kk = 1
        · subst h1
          have HH := Lib.hid (Hear_any (w := wr.drew) (Lib.hid HNr.out.drew.tn) via R cr w1.heap.size cst (Lib.hid (hrp.below HNr.out.bel.drew)) HNr.out.bel.drew.size hpl)
          by_cases hE : hearE t via cst = 0
          · obtain ⟨m, rfl, hm⟩ := hearE_nat HNr.out.tn.ok hE
            have hm64 : (m : Int) < 64 := by omega
            rw [hE, show (((0 : Nat) : Int)) = 0 from rfl] at HH
            have HE := Lib.hid hE
            have HRP := Lib.hid hrp
            have hts' : Hid ((hearT t (m : Int) cst).self = self) := by
              show _ = _
              rw [← hts.out]
              unfold hearT
              split <;> rfl
            clear hE hrp
            go_wp2
            refine wp_region_held_drew (S := fun W => Below w1.heap.size w1 W) (by kernel_rfl) HNr.out.bel.drew (fun hHeld => ?_)
            refine wpAnyH_take (i := 0) (v := .slice (some ⟨b, off, none⟩) len cap) rfl (by kernel_rfl) (by kernel_rfl) (by kernel_rfl) (fun _ _ _ h => h) (Or.inl ⟨by rfl, ?_⟩) (by first | assumption | exact trivial) ?_
            · intro W hSW; go_simp; try (with_reducible rfl)
            simp only [Act.put, List.getElem_toArray, List.getElem_cons_succ, List.getElem_cons_zero, List.setIfInBounds_toArray, List.set_cons_zero, List.set_cons_succ]
            refine wpAnyH_take (i := 1) (v := .int .i64 (k : Int)) rfl (by kernel_rfl) (by kernel_rfl) (by kernel_rfl) (fun _ _ _ h => h) (Or.inl ⟨by rfl, ?_⟩) (by first | assumption | exact trivial) ?_
            · intro W hSW; go_simp; try (with_reducible rfl)
            simp only [Act.put, List.getElem_toArray, List.getElem_cons_succ, List.getElem_cons_zero, List.setIfInBounds_toArray, List.set_cons_zero, List.set_cons_succ]
            refine wpAnyH_take (i := 2) (v := .pointer (some ⟨b, off + k * 4, none⟩)) rfl (by kernel_rfl) (by kernel_rfl) (by kernel_rfl) (fun _ _ _ h => h) (Or.inl ⟨by rfl, ?_⟩) (by first | assumption | exact trivial) ?_
            · intro W hSW; have q6 := hki; go_simp; try (with_reducible rfl)
            simp only [Act.put, List.getElem_toArray, List.getElem_cons_succ, List.getElem_cons_zero, List.setIfInBounds_toArray, List.set_cons_zero, List.set_cons_succ]
            refine wpAnyH_take (i := 3) (v := .pointer (some ⟨b, off + k * 4, none⟩)) rfl (by kernel_rfl) (by kernel_rfl) (by kernel_rfl) (fun _ _ _ h => h) (Or.inl ⟨by rfl, ?_⟩) (by first | assumption | exact trivial) ?_
            · intro W hSW; go_simp; try (with_reducible rfl)
            simp only [Act.put, List.getElem_toArray, List.getElem_cons_succ, List.getElem_cons_zero, List.setIfInBounds_toArray, List.set_cons_zero, List.set_cons_succ]
            refine wpAnyH_take (i := 4) (v := .int .i64 1) rfl (by kernel_rfl) (by kernel_rfl) (by kernel_rfl) (fun _ _ _ h => h) (Or.inl ⟨by rfl, ?_⟩) (by first | assumption | exact trivial) ?_
            · intro W hSW; have q7 := (HCA.out W hSW).1; go_simp; try (with_reducible rfl)
            simp only [Act.put, List.getElem_toArray, List.getElem_cons_succ, List.getElem_cons_zero, List.setIfInBounds_toArray, List.set_cons_zero, List.set_cons_succ]
            refine wpAnyH_take (i := 5) (v := .bool true) rfl (by kernel_rfl) (by kernel_rfl) (by kernel_rfl) (fun _ _ _ h => h) (Or.inl ⟨by rfl, ?_⟩) (by first | assumption | exact trivial) ?_
            · intro W hSW; go_simp; try (with_reducible rfl)
            simp only [Act.put, List.getElem_toArray, List.getElem_cons_succ, List.getElem_cons_zero, List.setIfInBounds_toArray, List.set_cons_zero, List.set_cons_succ]
            refine wpAnyH_take (i := 6) (v := .bool true) rfl (by kernel_rfl) (by kernel_rfl) (by kernel_rfl) (fun _ _ _ h => h) (Or.inl ⟨by rfl, ?_⟩) (by first | assumption | exact trivial) ?_
            · intro W hSW; go_simp; try (with_reducible rfl)
            simp only [Act.put, List.getElem_toArray, List.getElem_cons_succ, List.getElem_cons_zero, List.setIfInBounds_toArray, List.set_cons_zero, List.set_cons_succ]
            refine wpAnyH_take (i := 7) (v := .pointer (some ⟨D, 0, none⟩)) rfl (by kernel_rfl) (by kernel_rfl) (by kernel_rfl) (fun _ _ _ h => h) (Or.inl ⟨by rfl, ?_⟩) (by first | assumption | exact trivial) ?_
            · intro W hSW; go_simp; try (with_reducible rfl)
            simp only [Act.put, List.getElem_toArray, List.getElem_cons_succ, List.getElem_cons_zero, List.setIfInBounds_toArray, List.set_cons_zero, List.set_cons_succ]
            refine wpAnyH_take (i := 8) (v := .slice (some ⟨b, off, none⟩) len cap) rfl (by kernel_rfl) (by kernel_rfl) (by kernel_rfl) (fun _ _ _ h => h) (Or.inl ⟨by rfl, ?_⟩) (by first | assumption | exact trivial) ?_
            · intro W hSW; go_simp; try (with_reducible rfl)
            simp only [Act.put, List.getElem_toArray, List.getElem_cons_succ, List.getElem_cons_zero, List.setIfInBounds_toArray, List.set_cons_zero, List.set_cons_succ]
            refine wpAnyH_take (i := 9) (v := .int .i64 (k : Int)) rfl (by kernel_rfl) (by kernel_rfl) (by kernel_rfl) (fun _ _ _ h => h) (Or.inl ⟨by rfl, ?_⟩) (by first | assumption | exact trivial) ?_
            · intro W hSW; go_simp; try (with_reducible rfl)
            simp only [Act.put, List.getElem_toArray, List.getElem_cons_succ, List.getElem_cons_zero, List.setIfInBounds_toArray, List.set_cons_zero, List.set_cons_succ]
            refine wpAnyH_take (i := 10) (v := .pointer (some ⟨b, off + k * 4, none⟩)) rfl (by kernel_rfl) (by kernel_rfl) (by kernel_rfl) (fun _ _ _ h => h) (Or.inl ⟨by rfl, ?_⟩) (by first | assumption | exact trivial) ?_
            · intro W hSW; have q6 := hki; go_simp; try (with_reducible rfl)
            simp only [Act.put, List.getElem_toArray, List.getElem_cons_succ, List.getElem_cons_zero, List.setIfInBounds_toArray, List.set_cons_zero, List.set_cons_succ]
            refine wpAnyH_take (i := 11) (v := .pointer (some ⟨b, off + k * 4 + 2, none⟩)) rfl (by kernel_rfl) (by kernel_rfl) (by kernel_rfl) (fun _ _ _ h => h) (Or.inl ⟨by rfl, ?_⟩) (by first | assumption | exact trivial) ?_
            · intro W hSW; go_simp; try (with_reducible rfl)
            simp only [Act.put, List.getElem_toArray, List.getElem_cons_succ, List.getElem_cons_zero, List.setIfInBounds_toArray, List.set_cons_zero, List.set_cons_succ]
            refine wpAnyH_take (i := 12) (v := .int .i64 (m : Int)) rfl (by kernel_rfl) (by kernel_rfl) (by kernel_rfl) (fun _ _ _ h => h) (Or.inl ⟨by rfl, ?_⟩) (by first | assumption | exact trivial) ?_
            · intro W hSW; have q7 := (HCA.out W hSW).2.1; go_simp; try (with_reducible rfl)
            simp only [Act.put, List.getElem_toArray, List.getElem_cons_succ, List.getElem_cons_zero, List.setIfInBounds_toArray, List.set_cons_zero, List.set_cons_succ]
            refine wpAnyH_take (i := 13) (v := .slice (some ⟨b, off, none⟩) len cap) rfl (by kernel_rfl) (by kernel_rfl) (by kernel_rfl) (fun _ _ _ h => h) (Or.inl ⟨by rfl, ?_⟩) (by first | assumption | exact trivial) ?_
            · intro W hSW; go_simp; try (with_reducible rfl)
            simp only [Act.put, List.getElem_toArray, List.getElem_cons_succ, List.getElem_cons_zero, List.setIfInBounds_toArray, List.set_cons_zero, List.set_cons_succ]
            refine wpAnyH_take (i := 14) (v := .int .i64 (k : Int)) rfl (by kernel_rfl) (by kernel_rfl) (by kernel_rfl) (fun _ _ _ h => h) (Or.inl ⟨by rfl, ?_⟩) (by first | assumption | exact trivial) ?_
            · intro W hSW; go_simp; try (with_reducible rfl)
            simp only [Act.put, List.getElem_toArray, List.getElem_cons_succ, List.getElem_cons_zero, List.setIfInBounds_toArray, List.set_cons_zero, List.set_cons_succ]
            refine wpAnyH_take (i := 15) (v := .pointer (some ⟨b, off + k * 4, none⟩)) rfl (by kernel_rfl) (by kernel_rfl) (by kernel_rfl) (fun _ _ _ h => h) (Or.inl ⟨by rfl, ?_⟩) (by first | assumption | exact trivial) ?_
            · intro W hSW; have q6 := hki; go_simp; try (with_reducible rfl)
            simp only [Act.put, List.getElem_toArray, List.getElem_cons_succ, List.getElem_cons_zero, List.setIfInBounds_toArray, List.set_cons_zero, List.set_cons_succ]
            refine wpAnyH_take (i := 16) (v := .pointer (some ⟨b, off + k * 4 + 3, none⟩)) rfl (by kernel_rfl) (by kernel_rfl) (by kernel_rfl) (fun _ _ _ h => h) (Or.inl ⟨by rfl, ?_⟩) (by first | assumption | exact trivial) ?_
            · intro W hSW; go_simp; try (with_reducible rfl)
            simp only [Act.put, List.getElem_toArray, List.getElem_cons_succ, List.getElem_cons_zero, List.setIfInBounds_toArray, List.set_cons_zero, List.set_cons_succ]
            refine wpAnyH_take (i := 17) (v := .slice R cst.length cr) rfl (by kernel_rfl) (by kernel_rfl) (by kernel_rfl) (fun _ _ _ h => h) (Or.inl ⟨by rfl, ?_⟩) (by first | assumption | exact trivial) ?_
            · intro W hSW; have q7 := (HCA.out W hSW).2.2; go_simp; try (with_reducible rfl)
            simp only [Act.put, List.getElem_toArray, List.getElem_cons_succ, List.getElem_cons_zero, List.setIfInBounds_toArray, List.set_cons_zero, List.set_cons_succ]
            refine wpAnyH_ready (rs := [18]) (by kernel_rfl) (by simp) ?_
            refine AllReadyH.cons rfl (fun K hK => ?_) AllReadyH.nil
            go_simp
            go_wp2_with (go_at_call 23; refine HH.out.mono ?_; rintro e wh ⟨rfl, hth, hbh⟩)
            have hbl : Below w1.heap.size w1 wh := HNr.out.drew.bel' hbh.out
            refine hK.out _ _ (hbl) (fun hHeld => ?_)
            clear hK K
            refine wpAnyH_take (i := 19) (v := .bool true) rfl (by kernel_rfl) (by kernel_rfl) (by kernel_rfl) (fun _ _ _ h => h) (Or.inl ⟨by rfl, ?_⟩) (by first | assumption | exact trivial) ?_
            · intro W hSW; go_simp; try (with_reducible rfl)
            simp only [Act.put, List.getElem_toArray, List.getElem_cons_succ, List.getElem_cons_zero, List.setIfInBounds_toArray, List.set_cons_zero, List.set_cons_succ]
            refine wpAnyH_take (i := 20) (v := .bool true) rfl (by kernel_rfl) (by kernel_rfl) (by kernel_rfl) (fun _ _ _ h => h) (Or.inl ⟨by rfl, ?_⟩) (by first | assumption | exact trivial) ?_
            · intro W hSW; go_simp; try (with_reducible rfl)
            simp only [Act.put, List.getElem_toArray, List.getElem_cons_succ, List.getElem_cons_zero, List.setIfInBounds_toArray, List.set_cons_zero, List.set_cons_succ]
            refine wpAnyH_done (by kernel_rfl) ?_ _
            have hsd : Sd wh gs f := HNr.out.drew.sd' hbh.out
            have HSH := Lib.hid hsd
            have HBLH := Lib.hid hbl
            go_wp2
            refine wp_region_held_drew (S := fun W => Below w1.heap.size w1 W) (by kernel_rfl) hbl.drew (fun hHeld => ?_)
            refine wpAnyH_take (i := 0) (v := .slice (some ⟨gs, 0, none⟩) 64 64) rfl (by kernel_rfl) (by kernel_rfl) (by kernel_rfl) (fun _ _ _ h => h) (Or.inl ⟨by rfl, ?_⟩) (by first | assumption | exact trivial) ?_
            · intro W hSW; go_simp; try (with_reducible rfl)
            simp only [Act.put, List.getElem_toArray, List.getElem_cons_succ, List.getElem_cons_zero, List.setIfInBounds_toArray, List.set_cons_zero, List.set_cons_succ]
            refine wpAnyH_take (i := 1) (v := .slice (some ⟨b, off, none⟩) len cap) rfl (by kernel_rfl) (by kernel_rfl) (by kernel_rfl) (fun _ _ _ h => h) (Or.inl ⟨by rfl, ?_⟩) (by first | assumption | exact trivial) ?_
            · intro W hSW; go_simp; try (with_reducible rfl)
            simp only [Act.put, List.getElem_toArray, List.getElem_cons_succ, List.getElem_cons_zero, List.setIfInBounds_toArray, List.set_cons_zero, List.set_cons_succ]
            refine wpAnyH_take (i := 2) (v := .int .i64 (k : Int)) rfl (by kernel_rfl) (by kernel_rfl) (by kernel_rfl) (fun _ _ _ h => h) (Or.inl ⟨by rfl, ?_⟩) (by first | assumption | exact trivial) ?_
            · intro W hSW; go_simp; try (with_reducible rfl)
            simp only [Act.put, List.getElem_toArray, List.getElem_cons_succ, List.getElem_cons_zero, List.setIfInBounds_toArray, List.set_cons_zero, List.set_cons_succ]
            refine wpAnyH_take (i := 3) (v := .pointer (some ⟨b, off + k * 4, none⟩)) rfl (by kernel_rfl) (by kernel_rfl) (by kernel_rfl) (fun _ _ _ h => h) (Or.inl ⟨by rfl, ?_⟩) (by first | assumption | exact trivial) ?_
            · intro W hSW; have q6 := hki; go_simp; try (with_reducible rfl)
            simp only [Act.put, List.getElem_toArray, List.getElem_cons_succ, List.getElem_cons_zero, List.setIfInBounds_toArray, List.set_cons_zero, List.set_cons_succ]
            refine wpAnyH_take (i := 4) (v := .pointer (some ⟨b, off + k * 4 + 2, none⟩)) rfl (by kernel_rfl) (by kernel_rfl) (by kernel_rfl) (fun _ _ _ h => h) (Or.inl ⟨by rfl, ?_⟩) (by first | assumption | exact trivial) ?_
            · intro W hSW; go_simp; try (with_reducible rfl)
            simp only [Act.put, List.getElem_toArray, List.getElem_cons_succ, List.getElem_cons_zero, List.setIfInBounds_toArray, List.set_cons_zero, List.set_cons_succ]
            refine wpAnyH_take (i := 5) (v := .int .i64 (m : Int)) rfl (by kernel_rfl) (by kernel_rfl) (by kernel_rfl) (fun _ _ _ h => h) (Or.inl ⟨by rfl, ?_⟩) (by first | assumption | exact trivial) ?_
            · intro W hSW; have q7 := (HCA.out W hSW).2.1; go_simp; try (with_reducible rfl)
            simp only [Act.put, List.getElem_toArray, List.getElem_cons_succ, List.getElem_cons_zero, List.setIfInBounds_toArray, List.set_cons_zero, List.set_cons_succ]
            refine wpAnyH_take (i := 6) (v := .slice (some ⟨b, off, none⟩) len cap) rfl (by kernel_rfl) (by kernel_rfl) (by kernel_rfl) (fun _ _ _ h => h) (Or.inl ⟨by rfl, ?_⟩) (by first | assumption | exact trivial) ?_
            · intro W hSW; go_simp; try (with_reducible rfl)
            simp only [Act.put, List.getElem_toArray, List.getElem_cons_succ, List.getElem_cons_zero, List.setIfInBounds_toArray, List.set_cons_zero, List.set_cons_succ]
            refine wpAnyH_take (i := 7) (v := .int .i64 (k : Int)) rfl (by kernel_rfl) (by kernel_rfl) (by kernel_rfl) (fun _ _ _ h => h) (Or.inl ⟨by rfl, ?_⟩) (by first | assumption | exact trivial) ?_
            · intro W hSW; go_simp; try (with_reducible rfl)
            simp only [Act.put, List.getElem_toArray, List.getElem_cons_succ, List.getElem_cons_zero, List.setIfInBounds_toArray, List.set_cons_zero, List.set_cons_succ]
            refine wpAnyH_take (i := 8) (v := .pointer (some ⟨b, off + k * 4, none⟩)) rfl (by kernel_rfl) (by kernel_rfl) (by kernel_rfl) (fun _ _ _ h => h) (Or.inl ⟨by rfl, ?_⟩) (by first | assumption | exact trivial) ?_
            · intro W hSW; have q6 := hki; go_simp; try (with_reducible rfl)
            simp only [Act.put, List.getElem_toArray, List.getElem_cons_succ, List.getElem_cons_zero, List.setIfInBounds_toArray, List.set_cons_zero, List.set_cons_succ]
            refine wpAnyH_take (i := 9) (v := .pointer (some ⟨b, off + k * 4 + 3, none⟩)) rfl (by kernel_rfl) (by kernel_rfl) (by kernel_rfl) (fun _ _ _ h => h) (Or.inl ⟨by rfl, ?_⟩) (by first | assumption | exact trivial) ?_
            · intro W hSW; go_simp; try (with_reducible rfl)
            simp only [Act.put, List.getElem_toArray, List.getElem_cons_succ, List.getElem_cons_zero, List.setIfInBounds_toArray, List.set_cons_zero, List.set_cons_succ]
            refine wpAnyH_take (i := 10) (v := .slice R cst.length cr) rfl (by kernel_rfl) (by kernel_rfl) (by kernel_rfl) (fun _ _ _ h => h) (Or.inl ⟨by rfl, ?_⟩) (by first | assumption | exact trivial) ?_
            · intro W hSW; have q7 := (HCA.out W hSW).2.2; go_simp; try (with_reducible rfl)
            simp only [Act.put, List.getElem_toArray, List.getElem_cons_succ, List.getElem_cons_zero, List.setIfInBounds_toArray, List.set_cons_zero, List.set_cons_succ]
            refine wpAnyH_take (i := 11) (v := .pointer (some ⟨gs, m, none⟩)) rfl (by kernel_rfl) (by kernel_rfl) (by kernel_rfl) (fun _ _ _ h => h) (Or.inl ⟨by rfl, ?_⟩) (by first | assumption | exact trivial) ?_
            · intro W hSW; have q8 := hm64; go_simp; try (with_reducible rfl)
            simp only [Act.put, List.getElem_toArray, List.getElem_cons_succ, List.getElem_cons_zero, List.setIfInBounds_toArray, List.set_cons_zero, List.set_cons_succ]
            have c9 : wh.drew.cell? ⟨gs, m, none⟩ = some (.slice (f m).R (f m).l.length (f m).c) := hsd.cell hm
            have z9 : wh.drew.frozen? ⟨gs, m, none⟩ = false := hsd.frozen m
            refine wpAnyH_ready (rs := [12]) (by kernel_rfl) (by simp) ?_
            refine AllReadyH.cons rfl (fun K hK => ?_) AllReadyH.nil
            go_simp
            have HNX : Hid (Nr w1 (wh.setCell ⟨gs, m, none⟩ (.slice R cst.length cr)).drew D mb v (hearT t (m : Int) cst) gs (updS f m ⟨R, cst, cr⟩)) := (HNr.out.drew.hear hbh.out hm HE.out hth.out HRP.out).drew
            refine hK.out _ _ (HNX.out.bel) (fun hHeld => ?_)
            clear hK K
            refine wpAnyH_done (by kernel_rfl) ?_ _
            have hts := hts'
            have c11 := (HCA.out _ HNX.out.bel).1
            go_wp2
            go_roundw
            case rel => exact ⟨k + 1, _, _, by omega, by go_num, hts, HNX⟩
            case measure => simp [intOf]; omega
          · obtain ⟨E, hE2⟩ : ∃ E : Int, ((hearE t via cst : Nat) : Int) = E := ⟨_, rfl⟩
            have g1 : (E == 0) = false := beq_eq_false_iff_ne.mpr (by omega)
            have g2 : hearT t via cst = t := by unfold hearT; rw [if_neg hE]
            rw [hE2, g2] at HH
            clear hE hE2 g2
            go_wp2
            refine wp_region_held_drew (S := fun W => Below w1.heap.size w1 W) (by kernel_rfl) HNr.out.bel.drew (fun hHeld => ?_)
            refine wpAnyH_take (i := 0) (v := .slice (some ⟨b, off, none⟩) len cap) rfl (by kernel_rfl) (by kernel_rfl) (by kernel_rfl) (fun _ _ _ h => h) (Or.inl ⟨by rfl, ?_⟩) (by first | assumption | exact trivial) ?_
            · intro W hSW; go_simp; try (with_reducible rfl)
            simp only [Act.put, List.getElem_toArray, List.getElem_cons_succ, List.getElem_cons_zero, List.setIfInBounds_toArray, List.set_cons_zero, List.set_cons_succ]
            refine wpAnyH_take (i := 1) (v := .int .i64 (k : Int)) rfl (by kernel_rfl) (by kernel_rfl) (by kernel_rfl) (fun _ _ _ h => h) (Or.inl ⟨by rfl, ?_⟩) (by first | assumption | exact trivial) ?_
            · intro W hSW; go_simp; try (with_reducible rfl)
            simp only [Act.put, List.getElem_toArray, List.getElem_cons_succ, List.getElem_cons_zero, List.setIfInBounds_toArray, List.set_cons_zero, List.set_cons_succ]
            refine wpAnyH_take (i := 2) (v := .pointer (some ⟨b, off + k * 4, none⟩)) rfl (by kernel_rfl) (by kernel_rfl) (by kernel_rfl) (fun _ _ _ h => h) (Or.inl ⟨by rfl, ?_⟩) (by first | assumption | exact trivial) ?_
            · intro W hSW; have q6 := hki; go_simp; try (with_reducible rfl)
            simp only [Act.put, List.getElem_toArray, List.getElem_cons_succ, List.getElem_cons_zero, List.setIfInBounds_toArray, List.set_cons_zero, List.set_cons_succ]
            refine wpAnyH_take (i := 3) (v := .pointer (some ⟨b, off + k * 4, none⟩)) rfl (by kernel_rfl) (by kernel_rfl) (by kernel_rfl) (fun _ _ _ h => h) (Or.inl ⟨by rfl, ?_⟩) (by first | assumption | exact trivial) ?_
            · intro W hSW; go_simp; try (with_reducible rfl)
            simp only [Act.put, List.getElem_toArray, List.getElem_cons_succ, List.getElem_cons_zero, List.setIfInBounds_toArray, List.set_cons_zero, List.set_cons_succ]
            refine wpAnyH_take (i := 4) (v := .int .i64 1) rfl (by kernel_rfl) (by kernel_rfl) (by kernel_rfl) (fun _ _ _ h => h) (Or.inl ⟨by rfl, ?_⟩) (by first | assumption | exact trivial) ?_
            · intro W hSW; have q7 := (HCA.out W hSW).1; go_simp; try (with_reducible rfl)
            simp only [Act.put, List.getElem_toArray, List.getElem_cons_succ, List.getElem_cons_zero, List.setIfInBounds_toArray, List.set_cons_zero, List.set_cons_succ]
            refine wpAnyH_take (i := 5) (v := .bool true) rfl (by kernel_rfl) (by kernel_rfl) (by kernel_rfl) (fun _ _ _ h => h) (Or.inl ⟨by rfl, ?_⟩) (by first | assumption | exact trivial) ?_
            · intro W hSW; go_simp; try (with_reducible rfl)
            simp only [Act.put, List.getElem_toArray, List.getElem_cons_succ, List.getElem_cons_zero, List.setIfInBounds_toArray, List.set_cons_zero, List.set_cons_succ]
            refine wpAnyH_take (i := 6) (v := .bool true) rfl (by kernel_rfl) (by kernel_rfl) (by kernel_rfl) (fun _ _ _ h => h) (Or.inl ⟨by rfl, ?_⟩) (by first | assumption | exact trivial) ?_
            · intro W hSW; go_simp; try (with_reducible rfl)
            simp only [Act.put, List.getElem_toArray, List.getElem_cons_succ, List.getElem_cons_zero, List.setIfInBounds_toArray, List.set_cons_zero, List.set_cons_succ]
            refine wpAnyH_take (i := 7) (v := .pointer (some ⟨D, 0, none⟩)) rfl (by kernel_rfl) (by kernel_rfl) (by kernel_rfl) (fun _ _ _ h => h) (Or.inl ⟨by rfl, ?_⟩) (by first | assumption | exact trivial) ?_
            · intro W hSW; go_simp; try (with_reducible rfl)
            simp only [Act.put, List.getElem_toArray, List.getElem_cons_succ, List.getElem_cons_zero, List.setIfInBounds_toArray, List.set_cons_zero, List.set_cons_succ]
            refine wpAnyH_take (i := 8) (v := .slice (some ⟨b, off, none⟩) len cap) rfl (by kernel_rfl) (by kernel_rfl) (by kernel_rfl) (fun _ _ _ h => h) (Or.inl ⟨by rfl, ?_⟩) (by first | assumption | exact trivial) ?_
            · intro W hSW; go_simp; try (with_reducible rfl)
            simp only [Act.put, List.getElem_toArray, List.getElem_cons_succ, List.getElem_cons_zero, List.setIfInBounds_toArray, List.set_cons_zero, List.set_cons_succ]
            refine wpAnyH_take (i := 9) (v := .int .i64 (k : Int)) rfl (by kernel_rfl) (by kernel_rfl) (by kernel_rfl) (fun _ _ _ h => h) (Or.inl ⟨by rfl, ?_⟩) (by first | assumption | exact trivial) ?_
            · intro W hSW; go_simp; try (with_reducible rfl)
            simp only [Act.put, List.getElem_toArray, List.getElem_cons_succ, List.getElem_cons_zero, List.setIfInBounds_toArray, List.set_cons_zero, List.set_cons_succ]
            refine wpAnyH_take (i := 10) (v := .pointer (some ⟨b, off + k * 4, none⟩)) rfl (by kernel_rfl) (by kernel_rfl) (by kernel_rfl) (fun _ _ _ h => h) (Or.inl ⟨by rfl, ?_⟩) (by first | assumption | exact trivial) ?_
            · intro W hSW; have q6 := hki; go_simp; try (with_reducible rfl)
            simp only [Act.put, List.getElem_toArray, List.getElem_cons_succ, List.getElem_cons_zero, List.setIfInBounds_toArray, List.set_cons_zero, List.set_cons_succ]
            refine wpAnyH_take (i := 11) (v := .pointer (some ⟨b, off + k * 4 + 2, none⟩)) rfl (by kernel_rfl) (by kernel_rfl) (by kernel_rfl) (fun _ _ _ h => h) (Or.inl ⟨by rfl, ?_⟩) (by first | assumption | exact trivial) ?_
            · intro W hSW; go_simp; try (with_reducible rfl)
            simp only [Act.put, List.getElem_toArray, List.getElem_cons_succ, List.getElem_cons_zero, List.setIfInBounds_toArray, List.set_cons_zero, List.set_cons_succ]
            refine wpAnyH_take (i := 12) (v := .int .i64 via) rfl (by kernel_rfl) (by kernel_rfl) (by kernel_rfl) (fun _ _ _ h => h) (Or.inl ⟨by rfl, ?_⟩) (by first | assumption | exact trivial) ?_
            · intro W hSW; have q7 := (HCA.out W hSW).2.1; go_simp; try (with_reducible rfl)
            simp only [Act.put, List.getElem_toArray, List.getElem_cons_succ, List.getElem_cons_zero, List.setIfInBounds_toArray, List.set_cons_zero, List.set_cons_succ]
            refine wpAnyH_take (i := 13) (v := .slice (some ⟨b, off, none⟩) len cap) rfl (by kernel_rfl) (by kernel_rfl) (by kernel_rfl) (fun _ _ _ h => h) (Or.inl ⟨by rfl, ?_⟩) (by first | assumption | exact trivial) ?_
            · intro W hSW; go_simp; try (with_reducible rfl)
            simp only [Act.put, List.getElem_toArray, List.getElem_cons_succ, List.getElem_cons_zero, List.setIfInBounds_toArray, List.set_cons_zero, List.set_cons_succ]
            refine wpAnyH_take (i := 14) (v := .int .i64 (k : Int)) rfl (by kernel_rfl) (by kernel_rfl) (by kernel_rfl) (fun _ _ _ h => h) (Or.inl ⟨by rfl, ?_⟩) (by first | assumption | exact trivial) ?_
            · intro W hSW; go_simp; try (with_reducible rfl)
            simp only [Act.put, List.getElem_toArray, List.getElem_cons_succ, List.getElem_cons_zero, List.setIfInBounds_toArray, List.set_cons_zero, List.set_cons_succ]
            refine wpAnyH_take (i := 15) (v := .pointer (some ⟨b, off + k * 4, none⟩)) rfl (by kernel_rfl) (by kernel_rfl) (by kernel_rfl) (fun _ _ _ h => h) (Or.inl ⟨by rfl, ?_⟩) (by first | assumption | exact trivial) ?_
            · intro W hSW; have q6 := hki; go_simp; try (with_reducible rfl)
            simp only [Act.put, List.getElem_toArray, List.getElem_cons_succ, List.getElem_cons_zero, List.setIfInBounds_toArray, List.set_cons_zero, List.set_cons_succ]
            refine wpAnyH_take (i := 16) (v := .pointer (some ⟨b, off + k * 4 + 3, none⟩)) rfl (by kernel_rfl) (by kernel_rfl) (by kernel_rfl) (fun _ _ _ h => h) (Or.inl ⟨by rfl, ?_⟩) (by first | assumption | exact trivial) ?_
            · intro W hSW; go_simp; try (with_reducible rfl)
            simp only [Act.put, List.getElem_toArray, List.getElem_cons_succ, List.getElem_cons_zero, List.setIfInBounds_toArray, List.set_cons_zero, List.set_cons_succ]
            refine wpAnyH_take (i := 17) (v := .slice R cst.length cr) rfl (by kernel_rfl) (by kernel_rfl) (by kernel_rfl) (fun _ _ _ h => h) (Or.inl ⟨by rfl, ?_⟩) (by first | assumption | exact trivial) ?_
            · intro W hSW; have q7 := (HCA.out W hSW).2.2; go_simp; try (with_reducible rfl)
            simp only [Act.put, List.getElem_toArray, List.getElem_cons_succ, List.getElem_cons_zero, List.setIfInBounds_toArray, List.set_cons_zero, List.set_cons_succ]
            refine wpAnyH_ready (rs := [18]) (by kernel_rfl) (by simp) ?_
            refine AllReadyH.cons rfl (fun K hK => ?_) AllReadyH.nil
            go_simp
            go_wp2_with (go_at_call 23; refine HH.out.mono ?_; rintro e wh ⟨rfl, hth, hbh⟩)
            have hbl : Below w1.heap.size w1 wh := HNr.out.drew.bel' hbh.out
            refine hK.out _ _ (hbl) (fun hHeld => ?_)
            clear hK K
            refine wpAnyH_take (i := 19) (v := .bool false) rfl (by kernel_rfl) (by kernel_rfl) (by kernel_rfl) (fun _ _ _ h => h) (Or.inl ⟨by rfl, ?_⟩) (by first | assumption | exact trivial) ?_
            · intro W hSW; go_simp; try (with_reducible rfl)
            simp only [Act.put, List.getElem_toArray, List.getElem_cons_succ, List.getElem_cons_zero, List.setIfInBounds_toArray, List.set_cons_zero, List.set_cons_succ]
            refine wpAnyH_take (i := 20) (v := .bool false) rfl (by kernel_rfl) (by kernel_rfl) (by kernel_rfl) (fun _ _ _ h => h) (Or.inl ⟨by rfl, ?_⟩) (by first | assumption | exact trivial) ?_
            · intro W hSW; go_simp; try (with_reducible rfl)
            simp only [Act.put, List.getElem_toArray, List.getElem_cons_succ, List.getElem_cons_zero, List.setIfInBounds_toArray, List.set_cons_zero, List.set_cons_succ]
            refine wpAnyH_done (by kernel_rfl) ?_ _
            have HNX : Hid (Nr w1 wh D mb v t gs f) := HNr.out.drew.no hbh.out hth.out
            have c11 := (HCA.out _ HNX.out.bel).1
            go_wp2
            go_roundw
            case rel => exact ⟨k + 1, _, _, by omega, by go_num, hts, HNX⟩
            case measure => simp [intOf]; omega
        · have g1 : (kk == 1) = false := beq_eq_false_iff_ne.mpr h1
          have HNX : Hid (Nr w1 wr.drew D mb v t gs f) := HNr.out.drew
          by_cases h2 : kk = 2
          · subst h2
            have HTK := Lib.hid (Tick_f (w := wr.drew) (Lib.hid HNX.out.tn))
            have hts' : Hid ((tickT t).self = self) := hts
            go_wp2
            refine wp_region_held_drew (S := fun W => Below w1.heap.size w1 W) (by kernel_rfl) HNr.out.bel.drew (fun hHeld => ?_)
            refine wpAnyH_take (i := 0) (v := .slice (some ⟨b, off, none⟩) len cap) rfl (by kernel_rfl) (by kernel_rfl) (by kernel_rfl) (fun _ _ _ h => h) (Or.inl ⟨by rfl, ?_⟩) (by first | assumption | exact trivial) ?_
            · intro W hSW; go_simp; try (with_reducible rfl)
            simp only [Act.put, List.getElem_toArray, List.getElem_cons_succ, List.getElem_cons_zero, List.setIfInBounds_toArray, List.set_cons_zero, List.set_cons_succ]
            refine wpAnyH_take (i := 1) (v := .int .i64 (k : Int)) rfl (by kernel_rfl) (by kernel_rfl) (by kernel_rfl) (fun _ _ _ h => h) (Or.inl ⟨by rfl, ?_⟩) (by first | assumption | exact trivial) ?_
            · intro W hSW; go_simp; try (with_reducible rfl)
            simp only [Act.put, List.getElem_toArray, List.getElem_cons_succ, List.getElem_cons_zero, List.setIfInBounds_toArray, List.set_cons_zero, List.set_cons_succ]
            refine wpAnyH_take (i := 2) (v := .pointer (some ⟨b, off + k * 4, none⟩)) rfl (by kernel_rfl) (by kernel_rfl) (by kernel_rfl) (fun _ _ _ h => h) (Or.inl ⟨by rfl, ?_⟩) (by first | assumption | exact trivial) ?_
            · intro W hSW; have q6 := hki; go_simp; try (with_reducible rfl)
            simp only [Act.put, List.getElem_toArray, List.getElem_cons_succ, List.getElem_cons_zero, List.setIfInBounds_toArray, List.set_cons_zero, List.set_cons_succ]
            refine wpAnyH_take (i := 3) (v := .pointer (some ⟨b, off + k * 4, none⟩)) rfl (by kernel_rfl) (by kernel_rfl) (by kernel_rfl) (fun _ _ _ h => h) (Or.inl ⟨by rfl, ?_⟩) (by first | assumption | exact trivial) ?_
            · intro W hSW; go_simp; try (with_reducible rfl)
            simp only [Act.put, List.getElem_toArray, List.getElem_cons_succ, List.getElem_cons_zero, List.setIfInBounds_toArray, List.set_cons_zero, List.set_cons_succ]
            refine wpAnyH_take (i := 4) (v := .int .i64 2) rfl (by kernel_rfl) (by kernel_rfl) (by kernel_rfl) (fun _ _ _ h => h) (Or.inl ⟨by rfl, ?_⟩) (by first | assumption | exact trivial) ?_
            · intro W hSW; have q7 := (HCA.out W hSW).1; go_simp; try (with_reducible rfl)
            simp only [Act.put, List.getElem_toArray, List.getElem_cons_succ, List.getElem_cons_zero, List.setIfInBounds_toArray, List.set_cons_zero, List.set_cons_succ]
            refine wpAnyH_take (i := 5) (v := .bool false) rfl (by kernel_rfl) (by kernel_rfl) (by kernel_rfl) (fun _ _ _ h => h) (Or.inl ⟨by rfl, ?_⟩) (by first | assumption | exact trivial) ?_
            · intro W hSW; go_simp; try (with_reducible rfl)
            simp only [Act.put, List.getElem_toArray, List.getElem_cons_succ, List.getElem_cons_zero, List.setIfInBounds_toArray, List.set_cons_zero, List.set_cons_succ]
            refine wpAnyH_take (i := 6) (v := .bool false) rfl (by kernel_rfl) (by kernel_rfl) (by kernel_rfl) (fun _ _ _ h => h) (Or.inl ⟨by rfl, ?_⟩) (by first | assumption | exact trivial) ?_
            · intro W hSW; go_simp; try (with_reducible rfl)
            simp only [Act.put, List.getElem_toArray, List.getElem_cons_succ, List.getElem_cons_zero, List.setIfInBounds_toArray, List.set_cons_zero, List.set_cons_succ]
            refine wpAnyH_take (i := 7) (v := undef) rfl (by kernel_rfl) (by kernel_rfl) (by kernel_rfl) (fun _ _ _ h => h) (Or.inr ⟨by rfl, rfl⟩) (by first | assumption | exact trivial) ?restz1
            simp only [Act.put, List.getElem_toArray, List.getElem_cons_succ, List.getElem_cons_zero, List.setIfInBounds_toArray, List.set_cons_zero, List.set_cons_succ]
            refine wpAnyH_take (i := 8) (v := undef) rfl (by kernel_rfl) (by kernel_rfl) (by kernel_rfl) (fun _ _ _ h => h) (Or.inr ⟨by rfl, rfl⟩) (by first | assumption | exact trivial) ?restz2
            simp only [Act.put, List.getElem_toArray, List.getElem_cons_succ, List.getElem_cons_zero, List.setIfInBounds_toArray, List.set_cons_zero, List.set_cons_succ]
            refine wpAnyH_take (i := 9) (v := undef) rfl (by kernel_rfl) (by kernel_rfl) (by kernel_rfl) (fun _ _ _ h => h) (Or.inr ⟨by rfl, rfl⟩) (by first | assumption | exact trivial) ?restz3
            simp only [Act.put, List.getElem_toArray, List.getElem_cons_succ, List.getElem_cons_zero, List.setIfInBounds_toArray, List.set_cons_zero, List.set_cons_succ]
            refine wpAnyH_take (i := 10) (v := undef) rfl (by kernel_rfl) (by kernel_rfl) (by kernel_rfl) (fun _ _ _ h => h) (Or.inr ⟨by rfl, rfl⟩) (by first | assumption | exact trivial) ?restz4
            simp only [Act.put, List.getElem_toArray, List.getElem_cons_succ, List.getElem_cons_zero, List.setIfInBounds_toArray, List.set_cons_zero, List.set_cons_succ]
            refine wpAnyH_take (i := 11) (v := undef) rfl (by kernel_rfl) (by kernel_rfl) (by kernel_rfl) (fun _ _ _ h => h) (Or.inr ⟨by rfl, rfl⟩) (by first | assumption | exact trivial) ?restz5
            simp only [Act.put, List.getElem_toArray, List.getElem_cons_succ, List.getElem_cons_zero, List.setIfInBounds_toArray, List.set_cons_zero, List.set_cons_succ]
            refine wpAnyH_take (i := 12) (v := undef) rfl (by kernel_rfl) (by kernel_rfl) (by kernel_rfl) (fun _ _ _ h => h) (Or.inr ⟨by rfl, rfl⟩) (by first | assumption | exact trivial) ?restz6
            simp only [Act.put, List.getElem_toArray, List.getElem_cons_succ, List.getElem_cons_zero, List.setIfInBounds_toArray, List.set_cons_zero, List.set_cons_succ]
            refine wpAnyH_take (i := 13) (v := undef) rfl (by kernel_rfl) (by kernel_rfl) (by kernel_rfl) (fun _ _ _ h => h) (Or.inr ⟨by rfl, rfl⟩) (by first | assumption | exact trivial) ?restz7
            simp only [Act.put, List.getElem_toArray, List.getElem_cons_succ, List.getElem_cons_zero, List.setIfInBounds_toArray, List.set_cons_zero, List.set_cons_succ]
            refine wpAnyH_take (i := 14) (v := undef) rfl (by kernel_rfl) (by kernel_rfl) (by kernel_rfl) (fun _ _ _ h => h) (Or.inr ⟨by rfl, rfl⟩) (by first | assumption | exact trivial) ?restz8
            simp only [Act.put, List.getElem_toArray, List.getElem_cons_succ, List.getElem_cons_zero, List.setIfInBounds_toArray, List.set_cons_zero, List.set_cons_succ]
            refine wpAnyH_take (i := 15) (v := undef) rfl (by kernel_rfl) (by kernel_rfl) (by kernel_rfl) (fun _ _ _ h => h) (Or.inr ⟨by rfl, rfl⟩) (by first | assumption | exact trivial) ?restz9
            simp only [Act.put, List.getElem_toArray, List.getElem_cons_succ, List.getElem_cons_zero, List.setIfInBounds_toArray, List.set_cons_zero, List.set_cons_succ]
            refine wpAnyH_take (i := 16) (v := undef) rfl (by kernel_rfl) (by kernel_rfl) (by kernel_rfl) (fun _ _ _ h => h) (Or.inr ⟨by rfl, rfl⟩) (by first | assumption | exact trivial) ?restz10
            simp only [Act.put, List.getElem_toArray, List.getElem_cons_succ, List.getElem_cons_zero, List.setIfInBounds_toArray, List.set_cons_zero, List.set_cons_succ]
            refine wpAnyH_take (i := 17) (v := undef) rfl (by kernel_rfl) (by kernel_rfl) (by kernel_rfl) (fun _ _ _ h => h) (Or.inr ⟨by rfl, rfl⟩) (by first | assumption | exact trivial) ?restz11
            simp only [Act.put, List.getElem_toArray, List.getElem_cons_succ, List.getElem_cons_zero, List.setIfInBounds_toArray, List.set_cons_zero, List.set_cons_succ]
            refine wpAnyH_take (i := 18) (v := undef) rfl (by kernel_rfl) (by kernel_rfl) (by kernel_rfl) (fun _ _ _ h => h) (Or.inr ⟨by rfl, rfl⟩) (by first | assumption | exact trivial) ?restz12
            simp only [Act.put, List.getElem_toArray, List.getElem_cons_succ, List.getElem_cons_zero, List.setIfInBounds_toArray, List.set_cons_zero, List.set_cons_succ]
            refine wpAnyH_take (i := 19) (v := undef) rfl (by kernel_rfl) (by kernel_rfl) (by kernel_rfl) (fun _ _ _ h => h) (Or.inr ⟨by rfl, rfl⟩) (by first | assumption | exact trivial) ?restz13
            simp only [Act.put, List.getElem_toArray, List.getElem_cons_succ, List.getElem_cons_zero, List.setIfInBounds_toArray, List.set_cons_zero, List.set_cons_succ]
            refine wpAnyH_take (i := 20) (v := .bool false) rfl (by kernel_rfl) (by kernel_rfl) (by kernel_rfl) (fun _ _ _ h => h) (Or.inl ⟨by rfl, ?_⟩) (by first | assumption | exact trivial) ?_
            · intro W hSW; go_simp; try (with_reducible rfl)
            simp only [Act.put, List.getElem_toArray, List.getElem_cons_succ, List.getElem_cons_zero, List.setIfInBounds_toArray, List.set_cons_zero, List.set_cons_succ]
            refine wpAnyH_done (by kernel_rfl) ?_ _
            have c11 := (HCA.out _ HNX.out.bel).1
            go_wp2_with (go_at_call 24; refine HTK.out.mono ?_; rintro e wt ⟨rfl, htt, hbt⟩)
            have HNY : Hid (Nr w1 wt D mb v (tickT t) gs f) := HNX.out.tick hbt.out htt.out
            go_roundw
            case rel => exact ⟨k + 1, _, _, by omega, by go_num, hts', HNY⟩
            case measure => simp [intOf]; omega
          · have g2 : (kk == 2) = false := beq_eq_false_iff_ne.mpr h2
            clear h1 h2
            go_wp2
            refine wp_region_held_drew (S := fun W => Below w1.heap.size w1 W) (by kernel_rfl) HNr.out.bel.drew (fun hHeld => ?_)
            refine wpAnyH_take (i := 0) (v := .slice (some ⟨b, off, none⟩) len cap) rfl (by kernel_rfl) (by kernel_rfl) (by kernel_rfl) (fun _ _ _ h => h) (Or.inl ⟨by rfl, ?_⟩) (by first | assumption | exact trivial) ?_
            · intro W hSW; go_simp; try (with_reducible rfl)
            simp only [Act.put, List.getElem_toArray, List.getElem_cons_succ, List.getElem_cons_zero, List.setIfInBounds_toArray, List.set_cons_zero, List.set_cons_succ]
            refine wpAnyH_take (i := 1) (v := .int .i64 (k : Int)) rfl (by kernel_rfl) (by kernel_rfl) (by kernel_rfl) (fun _ _ _ h => h) (Or.inl ⟨by rfl, ?_⟩) (by first | assumption | exact trivial) ?_
            · intro W hSW; go_simp; try (with_reducible rfl)
            simp only [Act.put, List.getElem_toArray, List.getElem_cons_succ, List.getElem_cons_zero, List.setIfInBounds_toArray, List.set_cons_zero, List.set_cons_succ]
            refine wpAnyH_take (i := 2) (v := .pointer (some ⟨b, off + k * 4, none⟩)) rfl (by kernel_rfl) (by kernel_rfl) (by kernel_rfl) (fun _ _ _ h => h) (Or.inl ⟨by rfl, ?_⟩) (by first | assumption | exact trivial) ?_
            · intro W hSW; have q6 := hki; go_simp; try (with_reducible rfl)
            simp only [Act.put, List.getElem_toArray, List.getElem_cons_succ, List.getElem_cons_zero, List.setIfInBounds_toArray, List.set_cons_zero, List.set_cons_succ]
            refine wpAnyH_take (i := 3) (v := .pointer (some ⟨b, off + k * 4, none⟩)) rfl (by kernel_rfl) (by kernel_rfl) (by kernel_rfl) (fun _ _ _ h => h) (Or.inl ⟨by rfl, ?_⟩) (by first | assumption | exact trivial) ?_
            · intro W hSW; go_simp; try (with_reducible rfl)
            simp only [Act.put, List.getElem_toArray, List.getElem_cons_succ, List.getElem_cons_zero, List.setIfInBounds_toArray, List.set_cons_zero, List.set_cons_succ]
            refine wpAnyH_take (i := 4) (v := .int .i64 kk) rfl (by kernel_rfl) (by kernel_rfl) (by kernel_rfl) (fun _ _ _ h => h) (Or.inl ⟨by rfl, ?_⟩) (by first | assumption | exact trivial) ?_
            · intro W hSW; have q7 := (HCA.out W hSW).1; go_simp; try (with_reducible rfl)
            simp only [Act.put, List.getElem_toArray, List.getElem_cons_succ, List.getElem_cons_zero, List.setIfInBounds_toArray, List.set_cons_zero, List.set_cons_succ]
            refine wpAnyH_take (i := 5) (v := .bool false) rfl (by kernel_rfl) (by kernel_rfl) (by kernel_rfl) (fun _ _ _ h => h) (Or.inl ⟨by rfl, ?_⟩) (by first | assumption | exact trivial) ?_
            · intro W hSW; go_simp; try (with_reducible rfl)
            simp only [Act.put, List.getElem_toArray, List.getElem_cons_succ, List.getElem_cons_zero, List.setIfInBounds_toArray, List.set_cons_zero, List.set_cons_succ]
            refine wpAnyH_take (i := 6) (v := .bool false) rfl (by kernel_rfl) (by kernel_rfl) (by kernel_rfl) (fun _ _ _ h => h) (Or.inl ⟨by rfl, ?_⟩) (by first | assumption | exact trivial) ?_
            · intro W hSW; go_simp; try (with_reducible rfl)
            simp only [Act.put, List.getElem_toArray, List.getElem_cons_succ, List.getElem_cons_zero, List.setIfInBounds_toArray, List.set_cons_zero, List.set_cons_succ]
            refine wpAnyH_take (i := 7) (v := undef) rfl (by kernel_rfl) (by kernel_rfl) (by kernel_rfl) (fun _ _ _ h => h) (Or.inr ⟨by rfl, rfl⟩) (by first | assumption | exact trivial) ?restz14
            simp only [Act.put, List.getElem_toArray, List.getElem_cons_succ, List.getElem_cons_zero, List.setIfInBounds_toArray, List.set_cons_zero, List.set_cons_succ]
            refine wpAnyH_take (i := 8) (v := undef) rfl (by kernel_rfl) (by kernel_rfl) (by kernel_rfl) (fun _ _ _ h => h) (Or.inr ⟨by rfl, rfl⟩) (by first | assumption | exact trivial) ?restz15
            simp only [Act.put, List.getElem_toArray, List.getElem_cons_succ, List.getElem_cons_zero, List.setIfInBounds_toArray, List.set_cons_zero, List.set_cons_succ]
            refine wpAnyH_take (i := 9) (v := undef) rfl (by kernel_rfl) (by kernel_rfl) (by kernel_rfl) (fun _ _ _ h => h) (Or.inr ⟨by rfl, rfl⟩) (by first | assumption | exact trivial) ?restz16
            simp only [Act.put, List.getElem_toArray, List.getElem_cons_succ, List.getElem_cons_zero, List.setIfInBounds_toArray, List.set_cons_zero, List.set_cons_succ]
            refine wpAnyH_take (i := 10) (v := undef) rfl (by kernel_rfl) (by kernel_rfl) (by kernel_rfl) (fun _ _ _ h => h) (Or.inr ⟨by rfl, rfl⟩) (by first | assumption | exact trivial) ?restz17
            simp only [Act.put, List.getElem_toArray, List.getElem_cons_succ, List.getElem_cons_zero, List.setIfInBounds_toArray, List.set_cons_zero, List.set_cons_succ]
            refine wpAnyH_take (i := 11) (v := undef) rfl (by kernel_rfl) (by kernel_rfl) (by kernel_rfl) (fun _ _ _ h => h) (Or.inr ⟨by rfl, rfl⟩) (by first | assumption | exact trivial) ?restz18
            simp only [Act.put, List.getElem_toArray, List.getElem_cons_succ, List.getElem_cons_zero, List.setIfInBounds_toArray, List.set_cons_zero, List.set_cons_succ]
            refine wpAnyH_take (i := 12) (v := undef) rfl (by kernel_rfl) (by kernel_rfl) (by kernel_rfl) (fun _ _ _ h => h) (Or.inr ⟨by rfl, rfl⟩) (by first | assumption | exact trivial) ?restz19
            simp only [Act.put, List.getElem_toArray, List.getElem_cons_succ, List.getElem_cons_zero, List.setIfInBounds_toArray, List.set_cons_zero, List.set_cons_succ]
            refine wpAnyH_take (i := 13) (v := undef) rfl (by kernel_rfl) (by kernel_rfl) (by kernel_rfl) (fun _ _ _ h => h) (Or.inr ⟨by rfl, rfl⟩) (by first | assumption | exact trivial) ?restz20
            simp only [Act.put, List.getElem_toArray, List.getElem_cons_succ, List.getElem_cons_zero, List.setIfInBounds_toArray, List.set_cons_zero, List.set_cons_succ]
            refine wpAnyH_take (i := 14) (v := undef) rfl (by kernel_rfl) (by kernel_rfl) (by kernel_rfl) (fun _ _ _ h => h) (Or.inr ⟨by rfl, rfl⟩) (by first | assumption | exact trivial) ?restz21
            simp only [Act.put, List.getElem_toArray, List.getElem_cons_succ, List.getElem_cons_zero, List.setIfInBounds_toArray, List.set_cons_zero, List.set_cons_succ]
            refine wpAnyH_take (i := 15) (v := undef) rfl (by kernel_rfl) (by kernel_rfl) (by kernel_rfl) (fun _ _ _ h => h) (Or.inr ⟨by rfl, rfl⟩) (by first | assumption | exact trivial) ?restz22
            simp only [Act.put, List.getElem_toArray, List.getElem_cons_succ, List.getElem_cons_zero, List.setIfInBounds_toArray, List.set_cons_zero, List.set_cons_succ]
            refine wpAnyH_take (i := 16) (v := undef) rfl (by kernel_rfl) (by kernel_rfl) (by kernel_rfl) (fun _ _ _ h => h) (Or.inr ⟨by rfl, rfl⟩) (by first | assumption | exact trivial) ?restz23
            simp only [Act.put, List.getElem_toArray, List.getElem_cons_succ, List.getElem_cons_zero, List.setIfInBounds_toArray, List.set_cons_zero, List.set_cons_succ]
            refine wpAnyH_take (i := 17) (v := undef) rfl (by kernel_rfl) (by kernel_rfl) (by kernel_rfl) (fun _ _ _ h => h) (Or.inr ⟨by rfl, rfl⟩) (by first | assumption | exact trivial) ?restz24
            simp only [Act.put, List.getElem_toArray, List.getElem_cons_succ, List.getElem_cons_zero, List.setIfInBounds_toArray, List.set_cons_zero, List.set_cons_succ]
            refine wpAnyH_take (i := 18) (v := undef) rfl (by kernel_rfl) (by kernel_rfl) (by kernel_rfl) (fun _ _ _ h => h) (Or.inr ⟨by rfl, rfl⟩) (by first | assumption | exact trivial) ?restz25
            simp only [Act.put, List.getElem_toArray, List.getElem_cons_succ, List.getElem_cons_zero, List.setIfInBounds_toArray, List.set_cons_zero, List.set_cons_succ]
            refine wpAnyH_take (i := 19) (v := undef) rfl (by kernel_rfl) (by kernel_rfl) (by kernel_rfl) (fun _ _ _ h => h) (Or.inr ⟨by rfl, rfl⟩) (by first | assumption | exact trivial) ?restz26
            simp only [Act.put, List.getElem_toArray, List.getElem_cons_succ, List.getElem_cons_zero, List.setIfInBounds_toArray, List.set_cons_zero, List.set_cons_succ]
            refine wpAnyH_take (i := 20) (v := .bool false) rfl (by kernel_rfl) (by kernel_rfl) (by kernel_rfl) (fun _ _ _ h => h) (Or.inl ⟨by rfl, ?_⟩) (by first | assumption | exact trivial) ?_
            · intro W hSW; go_simp; try (with_reducible rfl)
            simp only [Act.put, List.getElem_toArray, List.getElem_cons_succ, List.getElem_cons_zero, List.setIfInBounds_toArray, List.set_cons_zero, List.set_cons_succ]
            refine wpAnyH_done (by kernel_rfl) ?_ _
            have c11 := (HCA.out _ HNX.out.bel).1
            go_wp2
            go_roundw
            case rel => exact ⟨k + 1, _, _, by omega, by go_num, hts, HNX⟩
            case measure => simp [intOf]; omega
      · obtain rfl : k = N := by omega
        have HLOOK := Lib.hid (fun (W : World) (hW : Below wr.heap.size wr W) => HNr.out.below hW)
        rcases hNN.2.2 with e | ⟨e, e2⟩
        case' inl =>
          have hend : ¬ (k : Int) < (len : Int) := by omega
        case' inr =>
          have hen1 : (k : Int) < (len : Int) := by omega
          have hend : ¬ (k : Int) < 40 := by omega
        case inl =>
          obtain ⟨WR, hWR⟩ : ∃ X, wr = X := ⟨_, rfl⟩
          rw [hWR] at HLOOK HNr ⊢
          clear hWR
          clear e
          go_wp2
          go_loopw [11] (fun d wd => ∃ j : Nat, j ≤ 64 ∧ d = .int .i64 j ∧ Hid (Below WR.heap.size WR wd)) (fun d _ => 64 - (intOf d).toNat)
          case atStart => exact ⟨0, Nat.zero_le _, rfl, Below.refl _ _⟩
          case round =>
            obtain ⟨j, hj, rfl, hbd⟩ := hrel
            by_cases hjl : j < 64
            · have hj64 : (j : Int) < 64 := by omega
              have hND : isN (j : Int) = true := isN_nat hjl
              have hcs : costN t (j : Int) = waysC t j := by unfold costN; rw [if_pos hND]; rfl
              have HN1 := Lib.hid (Next_any wr D mb v t (HLOOK.out wr hbd.out).tn.tq HNr.out.tn.ok (j : Int))
              have HC1 := Lib.hid (fun (W : World) (hW : Below WR.heap.size WR W) => hcs ▸ Cost_any W D mb v t (HLOOK.out W hW).tn.tq HNr.out.tn.ok (j : Int))
              by_cases hh : waysH t j = -1
              · have hnx : nextN t (j : Int) = (0, false) := by unfold nextN; rw [if_neg (fun e => e.2 hh)]
                rw [hnx] at HN1
                by_cases hs : j = self
                · have hc16 : True := trivial
                  obtain ⟨cs, hcs2⟩ : ∃ cs, waysC t j = cs := ⟨_, rfl⟩
                  rw [hcs2] at HC1
                  subst hs
                  have HSL := HST
                  clear hcs2 hnx hh hcs hND
                  go_wp2_with (first
                    | (go_at_call 16; (with_reducible refine HN1.out.mono ?_); rintro e wa ⟨rfl, hba⟩; have hka : Hid (Below WR.heap.size WR wa) := go_on hbd.out hba.out; have HC2 := Lib.hid (HC1.out wa hka.out))
                    | (go_at_call 18; (with_reducible refine HC2.out.mono ?_); rintro e wb ⟨rfl, hbb⟩; have hkb : Hid (Below WR.heap.size WR wb) := go_on hka.out hbb.out; obtain ⟨s0, _, _⟩ := HST.out wb (go_on HNr.out.bel hkb.out)))
                  go_roundw
                  case rel => exact ⟨j + 1, by omega, by go_num, hkb⟩
                  case measure => simp [intOf]; omega
                · have hc16 := near_none HNr.out.ns hjl hh (by rw [hts.out]; exact hs)
                  rw [hc16] at HC1
                  have g1 : ((j : Int) != (self : Int)) = true := bne_iff_ne.mpr (by omega)
                  clear hc16 hnx hh hcs hND hs
                  go_wp2_with (first
                    | (go_at_call 16; (with_reducible refine HN1.out.mono ?_); rintro e wa ⟨rfl, hba⟩; have hka : Hid (Below WR.heap.size WR wa) := go_on hbd.out hba.out; have HC2 := Lib.hid (HC1.out wa hka.out))
                    | (go_at_call 18; (with_reducible refine HC2.out.mono ?_); rintro e wb ⟨rfl, hbb⟩; have hkb : Hid (Below WR.heap.size WR wb) := go_on hka.out hbb.out; obtain ⟨s0, _, _⟩ := HST.out wb (go_on HNr.out.bel hkb.out)))
                  go_roundw
                  case rel => exact ⟨j + 1, by omega, by go_num, hkb⟩
                  case measure => simp [intOf]; omega
              · obtain ⟨n, hn, hwn, hln, ha0, ha1, hac, hcl⟩ := near_some HNr.out.tn.ok HNr.out.hk HNr.out.ns hjl hh
                have hnx : nextN t (j : Int) = ((n : Int), true) := by unfold nextN; rw [if_pos ⟨hND, hh⟩]; show (waysH t j, true) = _; rw [hwn]
                rw [hnx] at HN1
                have hn64 : (n : Int) < 64 := by omega
                have hrn := HNr.out.rd n hn
                have HSC := Lib.hid (fun (W : World) (hW : Below WR.heap.size WR W) => (HLOOK.out W hW).sd.cell hn)
                obtain ⟨y, hy⟩ : ∃ y, f n = y := ⟨_, rfl⟩
                rw [hy] at hrn hln ha0 ha1 hac HSC
                obtain ⟨bc, oc, hR, hbc, hcc⟩ := hrn (by omega)
                obtain ⟨yR, yl, yc⟩ := y
                simp only at hR hln ha0 ha1 hac HSC hcc
                subst hR
                have hc1 := hcc j (by omega)
                have HY := Lib.hid (fun (W : World) (hW : Below WR.heap.size WR W) => ((go_on HNr.out.bel hW).cell (p := ⟨bc, oc + j, none⟩) hbc).trans hc1)
                rw [hln] at HSC
                rw [← hac] at HC1 hcl
                obtain ⟨z, hz⟩ : ∃ z, Mi.at_ yl j = z := ⟨_, rfl⟩
                rw [hz] at HC1 HY ha0 ha1 hcl
                have g3 : ((64 : Int) != 64) = false := rfl
                clear hz hac hc1 hcc hy hnx hwn hh hcs hND hbc
                go_wp2_with (first
                  | (go_at_call 16; (with_reducible refine HN1.out.mono ?_); rintro e wa ⟨rfl, hba⟩; have hka : Hid (Below WR.heap.size WR wa) := go_on hbd.out hba.out; have HC2 := Lib.hid (HC1.out wa hka.out))
                  | (go_at_call 18; (with_reducible refine HC2.out.mono ?_); rintro e wb ⟨rfl, hbb⟩; have hkb : Hid (Below WR.heap.size WR wb) := go_on hka.out hbb.out; obtain ⟨s0, _, _⟩ := HST.out wb (go_on HNr.out.bel hkb.out); have y0 := HSC.out wb hkb.out; have y1 := HY.out wb hkb.out))
                go_roundw
                case rel => exact ⟨j + 1, by omega, by go_num, hkb⟩
                case measure => simp [intOf]; omega
            · obtain rfl : j = 64 := by omega
              go_wp2_with (go_at_call 11; with_reducible refine (HK.out wr).mono ?_; rintro e w7 ⟨rfl, hb7⟩)
              go_ret
              exact ⟨rfl, go_on (go_on (go_on HBW.out HNr.out.bel) hbd.out) hb7.out⟩
        case inr =>
          obtain ⟨WR, hWR⟩ : ∃ X, wr = X := ⟨_, rfl⟩
          rw [hWR] at HLOOK HNr ⊢
          clear hWR
          clear e
          go_wp2
          go_loopw [11] (fun d wd => ∃ j : Nat, j ≤ 64 ∧ d = .int .i64 j ∧ Hid (Below WR.heap.size WR wd)) (fun d _ => 64 - (intOf d).toNat)
          case atStart => exact ⟨0, Nat.zero_le _, rfl, Below.refl _ _⟩
          case round =>
            obtain ⟨j, hj, rfl, hbd⟩ := hrel
            by_cases hjl : j < 64
            · have hj64 : (j : Int) < 64 := by omega
              have hND : isN (j : Int) = true := isN_nat hjl
              have hcs : costN t (j : Int) = waysC t j := by unfold costN; rw [if_pos hND]; rfl
              have HN1 := Lib.hid (Next_any wr D mb v t (HLOOK.out wr hbd.out).tn.tq HNr.out.tn.ok (j : Int))
              have HC1 := Lib.hid (fun (W : World) (hW : Below WR.heap.size WR W) => hcs ▸ Cost_any W D mb v t (HLOOK.out W hW).tn.tq HNr.out.tn.ok (j : Int))
              by_cases hh : waysH t j = -1
              · have hnx : nextN t (j : Int) = (0, false) := by unfold nextN; rw [if_neg (fun e => e.2 hh)]
                rw [hnx] at HN1
                by_cases hs : j = self
                · have hc16 : True := trivial
                  obtain ⟨cs, hcs2⟩ : ∃ cs, waysC t j = cs := ⟨_, rfl⟩
                  rw [hcs2] at HC1
                  subst hs
                  have HSL := HST
                  clear hcs2 hnx hh hcs hND
                  go_wp2_with (first
                    | (go_at_call 16; (with_reducible refine HN1.out.mono ?_); rintro e wa ⟨rfl, hba⟩; have hka : Hid (Below WR.heap.size WR wa) := go_on hbd.out hba.out; have HC2 := Lib.hid (HC1.out wa hka.out))
                    | (go_at_call 18; (with_reducible refine HC2.out.mono ?_); rintro e wb ⟨rfl, hbb⟩; have hkb : Hid (Below WR.heap.size WR wb) := go_on hka.out hbb.out; obtain ⟨s0, _, _⟩ := HST.out wb (go_on HNr.out.bel hkb.out)))
                  go_roundw
                  case rel => exact ⟨j + 1, by omega, by go_num, hkb⟩
                  case measure => simp [intOf]; omega
                · have hc16 := near_none HNr.out.ns hjl hh (by rw [hts.out]; exact hs)
                  rw [hc16] at HC1
                  have g1 : ((j : Int) != (self : Int)) = true := bne_iff_ne.mpr (by omega)
                  clear hc16 hnx hh hcs hND hs
                  go_wp2_with (first
                    | (go_at_call 16; (with_reducible refine HN1.out.mono ?_); rintro e wa ⟨rfl, hba⟩; have hka : Hid (Below WR.heap.size WR wa) := go_on hbd.out hba.out; have HC2 := Lib.hid (HC1.out wa hka.out))
                    | (go_at_call 18; (with_reducible refine HC2.out.mono ?_); rintro e wb ⟨rfl, hbb⟩; have hkb : Hid (Below WR.heap.size WR wb) := go_on hka.out hbb.out; obtain ⟨s0, _, _⟩ := HST.out wb (go_on HNr.out.bel hkb.out)))
                  go_roundw
                  case rel => exact ⟨j + 1, by omega, by go_num, hkb⟩
                  case measure => simp [intOf]; omega
              · obtain ⟨n, hn, hwn, hln, ha0, ha1, hac, hcl⟩ := near_some HNr.out.tn.ok HNr.out.hk HNr.out.ns hjl hh
                have hnx : nextN t (j : Int) = ((n : Int), true) := by unfold nextN; rw [if_pos ⟨hND, hh⟩]; show (waysH t j, true) = _; rw [hwn]
                rw [hnx] at HN1
                have hn64 : (n : Int) < 64 := by omega
                have hrn := HNr.out.rd n hn
                have HSC := Lib.hid (fun (W : World) (hW : Below WR.heap.size WR W) => (HLOOK.out W hW).sd.cell hn)
                obtain ⟨y, hy⟩ : ∃ y, f n = y := ⟨_, rfl⟩
                rw [hy] at hrn hln ha0 ha1 hac HSC
                obtain ⟨bc, oc, hR, hbc, hcc⟩ := hrn (by omega)
                obtain ⟨yR, yl, yc⟩ := y
                simp only at hR hln ha0 ha1 hac HSC hcc
                subst hR
                have hc1 := hcc j (by omega)
                have HY := Lib.hid (fun (W : World) (hW : Below WR.heap.size WR W) => ((go_on HNr.out.bel hW).cell (p := ⟨bc, oc + j, none⟩) hbc).trans hc1)
                rw [hln] at HSC
                rw [← hac] at HC1 hcl
                obtain ⟨z, hz⟩ : ∃ z, Mi.at_ yl j = z := ⟨_, rfl⟩
                rw [hz] at HC1 HY ha0 ha1 hcl
                have g3 : ((64 : Int) != 64) = false := rfl
                clear hz hac hc1 hcc hy hnx hwn hh hcs hND hbc
                go_wp2_with (first
                  | (go_at_call 16; (with_reducible refine HN1.out.mono ?_); rintro e wa ⟨rfl, hba⟩; have hka : Hid (Below WR.heap.size WR wa) := go_on hbd.out hba.out; have HC2 := Lib.hid (HC1.out wa hka.out))
                  | (go_at_call 18; (with_reducible refine HC2.out.mono ?_); rintro e wb ⟨rfl, hbb⟩; have hkb : Hid (Below WR.heap.size WR wb) := go_on hka.out hbb.out; obtain ⟨s0, _, _⟩ := HST.out wb (go_on HNr.out.bel hkb.out); have y0 := HSC.out wb hkb.out; have y1 := HY.out wb hkb.out))
                go_roundw
                case rel => exact ⟨j + 1, by omega, by go_num, hkb⟩
                case measure => simp [intOf]; omega
            · obtain rfl : j = 64 := by omega
              go_wp2_with (go_at_call 11; with_reducible refine (HK.out wr).mono ?_; rintro e w7 ⟨rfl, hb7⟩)
              go_ret
              exact ⟨rfl, go_on (go_on (go_on HBW.out HNr.out.bel) hbd.out) hb7.out⟩
  · have HN := Lib.hid (New_bad ss sg sR sc w.heap.size l w1 HRD hl6 hE)
    have HR := Lib.hid (RNew_bad ss sg sR sc w.heap.size l w1 HRD HBW.out.size hl6 hE)
    obtain ⟨E, hE2⟩ : ∃ E : Int, ((newE ss l sg : Nat) : Int) = E := ⟨_, rfl⟩
    have g1 : (E != 0) = true := bne_iff_ne.mpr (by omega)
    rw [hE2] at HN HR
    clear hE hE2
    go_enter Try.func5, Try.ntmps5
    go_wp2_with (first
      | (refine Mi.allocTo rfl (.pointer (some ⟨_, 0, none⟩)) (.cells (stV ss sR l.length sc sg) 24 (0, 0)) (exec_boxs _ _ ss sg sR l.length sc (.tmp 0) rfl rfl _) ?_; rw [HW1.out])
      | (go_at_call 9; refine HN.out.mono ?_; rintro e w' ⟨rfl, rfl⟩)
      | (go_at_call 10; refine HR.out.mono ?_; rintro e w2 ⟨rfl, hb2⟩; have HZ2 : Hid (Bq (w2.alloc (.cells (rqV q0 p0) 33)) w2.heap.size q0 p0) := box_rq q0 p0 w2)
      | (refine Mi.allocTo rfl (.pointer (some ⟨_, 0, none⟩)) (.cells (rqV q0 p0) 33 (0, 0)) (alloc_rq _ _ rfl _) ?_)
      | (refine wpList_store_row rfl 33 (.tmp 7) (.tmp 39) rfl w2.heap.size (rqV q0 p0) rfl rfl 33 _ HZ2.out (rq_size _ _) rfl (rq_one _ _) ?_
         have hb3 : Below w2.heap.size w2 ((w2.alloc (.cells (rqV q0 p0) 33)).setRow w2.heap.size (rqV q0 p0)) := Sb.below_setRow _ (Mi.below_alloc (Below.refl _ _)) (Nat.le_refl _)
         have HBW3 : Hid (Below w.heap.size w ((w2.alloc (.cells (rqV q0 p0) 33)).setRow w2.heap.size (rqV q0 p0))) := go_on (go_on HBW.out hb2.out) hb3
         obtain ⟨w3, hw3⟩ : ∃ w3, (w2.alloc (.cells (rqV q0 p0) 33)).setRow w2.heap.size (rqV q0 p0) = w3 := ⟨_, rfl⟩
         rw [hw3] at HBW3 ⊢
         clear hw3 hb3 hb2 HZ2)
      | (go_at_call 11; with_reducible refine (HK.out w3).mono ?_; rintro e w4 ⟨rfl, hb4⟩))
    go_ret
    exact ⟨rfl, go_on HBW3.out hb4.out⟩
end Go.Proofs.Ytablejhajilpiaa.Rt
