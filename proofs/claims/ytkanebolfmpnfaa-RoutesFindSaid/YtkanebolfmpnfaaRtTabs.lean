/- The law's tables of a net. -/
import Derived.Test.YtkanebolfmpnfaaRtTabs0
namespace Go.Proofs.Ytkanebolfmpnfaa.Rt
open Go.RowKit Go.Maps
open Go.Proofs.Ytkanebolfmpnfaa.Sb
set_option linter.unusedVariables false
set_option linter.unusedSimpArgs false

/-- How many nodes a net has. -/
def nodesN (N : Int) : Nat := 1 + (N % 8).toNat
theorem nodes_le (N : Int) : 1 ≤ nodesN N ∧ nodesN N ≤ 8 := by
  unfold nodesN
  omega
theorem nodes_eq (N : Int) : wrap64 (1 + wrap64 ((IntKind.u64.wrap N).tmod 8)) = (nodesN N : Int) := by
  unfold nodesN
  have e : (IntKind.u64.wrap N).tmod 8 = N % 8 := by rw [IntKind.wrap_u64, Int.tmod_eq_emod_of_nonneg (by omega)]; omega
  rw [e, Mi.fits (n := N % 8) (by unfold Mi.I64; omega), Mi.fits (by unfold Mi.I64; omega)]
  omega
set_option maxRecDepth 100000 in
set_option maxHeartbeats 8000000 in
theorem tables_any (N : Int) (L : Nat) (hL : L < 18446744073709551616) (w : World) :
    Calls Try.prog 26 #[.agg (netV N L)] w fun e w' => ∃ P c D mb v, e = .returned (.slice (some ⟨P, 0, none⟩) (nodesN N) c) ∧ Hid (Ts w.heap.size w' (nodesN N) D mb v (T0 L (nodesN N))) ∧ Hid (Ps w' P (nodesN N) D) ∧ Hid (Below w.heap.size w w') := by
  have HNE := Lib.hid (nodes_eq N)
  obtain ⟨hn1, hn8⟩ := nodes_le N
  obtain ⟨n, hnn⟩ : ∃ n, nodesN N = n := ⟨_, rfl⟩
  rw [hnn] at HNE hn1 hn8 ⊢
  clear hnn
  have HBX : Hid ((w.alloc (.cells (netV N L) 61)).heap[w.heap.size]? = some (.cells (netV N L) 61 (0, 0))) := heap_alloc_new w _
  have HB0 : Hid (Below w.heap.size w (w.alloc (.cells (netV N L) 61))) := Mi.below_alloc (Below.refl _ _)
  have HSZ : Hid ((w.alloc (.cells (netV N L) 61)).heap.size = w.heap.size + 1) := World.size_alloc _ _
  obtain ⟨w1, hw1⟩ : ∃ w1, w.alloc (.cells (netV N L) 61) = w1 := ⟨_, rfl⟩
  have HW1 : Hid (w.alloc (.cells (netV N L) 61) = w1) := hw1
  rw [hw1] at HBX HB0 HSZ
  clear hw1
  have HLK : Hid (∀ i k : Nat, i < n → k < n → ∀ W : World, Calls Try.prog 29 #[.agg #[.int .i64 N, .int .u64 (L : Int)], .int .i64 (i : Int), .int .i64 (k : Int)] W fun e w' => e = .returned (.bool (lkB L i k)) ∧ Hid (Below W.heap.size W w')) := fun i k hi hk W => linked_any N L hL i k (by omega) (by omega) W
  have x0 : w1.cell? ⟨w.heap.size, 0, none⟩ = some (.int .i64 N) := by rw [cell_of_row w1 _ 0 _ _ (0, 0) HBX.out]; rfl
  go_enter Try.func26, Try.ntmps26
  go_wp2_with (refine Mi.allocTo rfl (.pointer (some ⟨_, 0, none⟩)) (.cells (netV N L) 61 (0, 0)) (exec_boxn _ _ N L (.tmp 0) rfl rfl _) ?_; rw [HW1.out])
  rw [HNE.out]
  clear x0
  have HO0 : Hid (Pn (w1.alloc (.cells #[] 26)) (.slice (some ⟨w1.heap.size, 0, none⟩) 0 0) []) := World.ownsRow_made w1 #[] 0 (Nat.zero_le _) (by unfold maxLen; omega) rfl
  have HBa : Hid (Below w1.heap.size w1 (w1.alloc (.cells #[] 26))) := Mi.below_alloc (Below.refl _ _)
  obtain ⟨g, hg⟩ : ∃ g, w1.heap.size = g := ⟨_, rfl⟩
  have HG : Hid (w1.heap.size = g) := hg
  obtain ⟨w2, hw2⟩ : ∃ w2, w1.alloc (.cells #[] 26) = w2 := ⟨_, rfl⟩
  rw [hw2] at HO0 HBa ⊢
  rw [hg] at HO0 HBa ⊢
  clear hg hw2
  have HX1 : Hid (∀ W, Below g w1 W → W.cell? ⟨w.heap.size, 0, none⟩ = some (.int .i64 N) ∧ W.cell? ⟨w.heap.size, 1, none⟩ = some (.int .u64 (L : Int))) := fun W hW => by
    have h1 : W.heap[w.heap.size]? = some (.cells (netV N L) 61 (0, 0)) := (hW.block _ (by have := HSZ.out; have := HG.out; omega)).trans HBX.out
    exact ⟨by rw [cell_of_row W _ 0 _ _ (0, 0) h1]; rfl, by rw [cell_of_row W _ 1 _ _ (0, 0) h1]; rfl⟩
  go_loopw [5, 4] (fun k o wr => ∃ (i : Nat) (D mb : Nat → Nat) (v : Nat → Value), i ≤ n ∧ k = .int .i64 i ∧ Hid (Pn wr o (pts D i)) ∧ Hid (∀ b, o.ownBlock = some b → g ≤ b) ∧ Hid (Ts w.heap.size wr i D mb v (T0 L n)) ∧ Hid (Below g w1 wr)) (fun k _ _ => n - (intOf k).toNat)
  case atStart => exact ⟨0, fun _ => 0, fun _ => 0, fun _ => undef, Nat.zero_le _, rfl, HO0, (fun b e => by simp only [Value.ownBlock, Option.some.injEq] at e; omega), ⟨fun k hk => by omega, fun j k hj => by omega⟩, HBa⟩
  case round =>
    obtain ⟨i, D, mb, v, hin, rfl, hov, hog, hts, hbi⟩ := hrel
    by_cases hlt : i < n
    · have HLT := Lib.hid hlt
      have HgS : Hid (g ≤ wr.heap.size) := by have := hbi.out.size; have := HG.out; show _ ≤ _; omega
      go_wp2
      have HL0 : Hid (Mi.Own (wr.alloc (.cells #[] 3)) 0 (.slice (some ⟨wr.heap.size, 0, none⟩) 0 0) []) := World.ownsRow_made wr #[] 0 (Nat.zero_le _) (by unfold maxLen; omega) rfl
      have HBb : Hid (Below wr.heap.size wr (wr.alloc (.cells #[] 3))) := Mi.below_alloc (Below.refl _ _)
      obtain ⟨gi, hgi⟩ : ∃ g, wr.heap.size = g := ⟨_, rfl⟩
      have HGi : Hid (wr.heap.size = gi) := hgi
      obtain ⟨w3, hw3⟩ : ∃ w3, wr.alloc (.cells #[] 3) = w3 := ⟨_, rfl⟩
      rw [hw3] at HL0 HBb ⊢
      rw [hgi] at HL0 HBb ⊢
      clear hgi hw3
      obtain ⟨wi, hwi⟩ : ∃ wi, wr = wi := ⟨_, rfl⟩
      rw [hwi] at HBb HGi hov hts hbi HgS
      clear hwi
      go_loopw [7, 6] (fun k l wr => ∃ (b : Nat), b ≤ n ∧ k = .int .i64 b ∧ Hid (Mi.Own wr 0 l (nbsL (lkB L i) b)) ∧ Hid (∀ c, l.ownBlock = some c → gi ≤ c) ∧ Hid (Below gi wi wr)) (fun k _ _ => n - (intOf k).toNat)
      case atStart => exact ⟨0, Nat.zero_le _, rfl, HL0, (fun b e => by simp only [Value.ownBlock, Option.some.injEq] at e; omega), HBb⟩
      case round =>
        obtain ⟨b, hbn, rfl, hlv, hlg, hbk⟩ := hrel
        have HgW : Hid (gi ≤ wr.heap.size) := by have := hbk.out.size; have := HGi.out; show _ ≤ _; omega
        have HB1 : Hid (Below g w1 wr) := hbi.out.trans (hbk.out.mono (by have := HgS.out; have := HGi.out; omega))
        by_cases hlb : b < n
        · by_cases hib : b = i
          · have g1 : ((b : Int) != (i : Int)) = false := by rw [hib]; simp
            have HNX : Hid (nbsL (lkB L i) (b + 1) = nbsL (lkB L i) b) := nbsL_no (by rw [hib]; exact lkB_self L i)
            go_wp2
            go_roundw
            case rel => exact ⟨b + 1, by omega, by go_num, by rw [HNX.out]; exact hlv, hlg, hbk⟩
            case measure => simp [intOf]; omega
          · have g1 : ((b : Int) != (i : Int)) = true := by simp only [bne_iff_ne, ne_eq]; omega
            have HLKJ := Lib.hid (HLK.out i b HLT.out hlb wr)
            obtain ⟨x0, x1⟩ := HX1.out wr HB1.out
            cases hlk : lkB L i b
            all_goals
              rw [hlk] at HLKJ
            case false =>
              have HNX : Hid (nbsL (lkB L i) (b + 1) = nbsL (lkB L i) b) := nbsL_no hlk
              clear hlk
              go_wp2_with (go_at_call 29; (with_reducible refine HLKJ.out.mono ?_); rintro e wl ⟨rfl, hblw⟩)
              go_roundw
              case rel => exact ⟨b + 1, by omega, by go_num, by rw [HNX.out]; exact hlv.out.below hblw.out, hlg, hbk.out.trans (hblw.out.mono HgW.out)⟩
              case measure => simp [intOf]; omega
            case true =>
              have HNX : Hid (nbsL (lkB L i) (b + 1) = nbsL (lkB L i) b ++ [(b : Int)]) := nbsL_yes hlk
              have HL9 : Hid (((nbsL (lkB L i) b).length + 1) * 8 ≤ 140737488355328) := by have := nbsL_len (lkB L i) b; show _ ≤ _; omega
              clear hlk
              obtain ⟨l0, hl0⟩ : ∃ l0, nbsL (lkB L i) b = l0 := ⟨_, rfl⟩
              rw [hl0] at hlv HNX HL9
              clear hl0
              go_wp2_with (first
                | (go_at_call 29; (with_reducible refine HLKJ.out.mono ?_); rintro e wl ⟨rfl, hblw⟩; have HOL := Lib.hid (hlv.out.below hblw.out); have HBW2 : Hid (Below gi wi wl) := hbk.out.trans (hblw.out.mono HgW.out); clear hblw)
                | (at_builtin; refine Mi.app1q (wl := wl) rfl (.tmp 37) (.tmp 39) rfl u6 l0 (b : Int) rfl rfl HOL.out _ rfl rfl HL9.out ?_; intro v5 w5 ho5 hg5 hk5; have HO5 := Lib.hid ho5; have HG5 := Lib.hid hg5; have HK5 := Lib.hid hk5; clear ho5 hg5 hk5))
              go_roundw
              case rel => exact ⟨b + 1, by omega, by go_num, by rw [HNX.out]; exact HO5, (fun c e => by
                rcases HK5.out c e with e | e
                · exact hlg.out c e
                · have := HBW2.out.size; have := HGi.out; omega), HBW2.out.grown HG5.out (by have := HBW2.out.size; have := HGi.out; omega) fun c e => hlg.out c e⟩
              case measure => simp [intOf]; omega
        · obtain rfl : n = b := by omega
          obtain ⟨A6, c6, hv6, h61, h62, h63, h64, h65⟩ := hlv.out.form
          subst hv6
          have HR6 := Lib.hid h63
          have HA6 : Hid (A6 = none → (nbsL (lkB L i) n).length = 0 ∧ c6 = 0) := h64
          have HNW := New_ok i 64 A6 c6 wr.heap.size (nbsL (lkB L i) n) wr HR6 HA6 (Nat.le_refl _) (new_fit HLT.out hn8 (lkB_self L i))
          rw [show ((64 : Nat) : Int) = 64 from rfl] at HNW
          obtain ⟨q, hq⟩ : ∃ q, (nbsL (lkB L i) n).length = q := ⟨_, rfl⟩
          rw [hq] at HNW ⊢
          have HNW := Lib.hid HNW
          clear h61 h62 h63 h64 h65 hq
          have HOV : Hid (Pn wr u4 (pts D i)) := own_same hov.out fun k _ hk => hbk.out.block k (by have := HGi.out; omega)
          have HTSk : Hid (Ts w.heap.size wr i D mb v (T0 L n)) := hts.out.below (by rw [HGi.out]; exact hbk.out)
          have HLp : Hid ((pts D i).length ≤ 1000000) := by rw [pts_len]; show _ ≤ _; omega
          have HgW1 : Hid (g ≤ wr.heap.size) := by have := HgS.out; have := HGi.out; have := HgW.out; show _ ≤ _; omega
          go_wp2_with (first
            | (go_at_call 9; (with_reducible refine HNW.out.mono ?_); rintro e w4 ⟨d, m, x, rfl, htn, hbn4⟩; have HTN := htn; have HB4 := hbn4; have HOV4 : Hid (Pn w4 u4 (pts D i)) := own_same HOV.out fun k _ hk => hbn4.out.block k hk; have HOA : Hid (Pn (w4.alloc (.cells #[.pointer (some ⟨d, 0, none⟩)] 26)) u4 (pts D i)) := World.ownsRow.kept HOV4.out (World.grownBy_alloc w4 _ none) (by cases u4.ownBlock <;> simp); have HCA : Hid ((w4.alloc (.cells #[.pointer (some ⟨d, 0, none⟩)] 26)).cell? ⟨w4.heap.size, 0, none⟩ = some (.pointer (some ⟨d, 0, none⟩))) := (by show _ = _; rw [cell_of_row _ w4.heap.size 0 _ _ (0, 0) (heap_alloc_new w4 _)]; rfl); clear htn hbn4)
            | (at_builtin; refine wpList_plain rfl fun K2 hK2 => appP (.tmp 53) (.tmp 55) rfl u4 (pts D i) (.pointer (some ⟨d, 0, none⟩)) rfl rfl HOA.out w4.heap.size HCA.out rfl HLp.out ?_; intro v5 w5 ho5 hg5 hk5; have HO5 := Lib.hid ho5; have HG5 := Lib.hid hg5; have HK5 := Lib.hid hk5; clear ho5 hg5 hk5; refine hK2 _ _ ?_; clear hK2 K2))
          have hT4 : Ts w.heap.size w4 (i + 1) (updV D i d) (updV mb i m) (updV v i x) (T0 L n) := HTSk.out.snoc HB4.out HTN.out (Nat.le_refl _) (by have := HgW1.out; have := HG.out; have := HSZ.out; omega)
          have hB4 : Below g w1 w4 := HB1.out.trans (HB4.out.mono HgW1.out)
          have hsz4 : g ≤ w4.heap.size := Nat.le_trans HgW1.out HB4.out.size
          have hT5 : Ts w.heap.size w5 (i + 1) (updV D i d) (updV mb i m) (updV v i x) (T0 L n) := (hT4.below (Mi.below_alloc (Below.refl _ _))).keepP HOA.out HG5.out
          have hB5 : Below g w1 w5 := (hB4.alloc hsz4 _).grown HG5.out (by rw [World.size_alloc]; omega) fun c e => hog.out c e
          go_roundw
          case rel => exact ⟨i + 1, updV D i d, updV mb i m, updV v i x, by have := HLT.out; omega, by go_num, by rw [pts_snoc]; exact HO5, (fun c e => by
            rcases HK5.out c e with e | e
            · exact hog.out c e
            · rw [World.size_alloc] at e; omega), hT5, hB5⟩
          case measure => have := HLT.out; simp [intOf]; omega
    · obtain rfl : n = i := by omega
      obtain ⟨P, c, hp1, hp2⟩ := hov.out.ps hn1
      subst hp1
      clear hov hog
      go_wp2
      go_ret
      exact ⟨P, c, D, mb, v, rfl, hts, hp2, HB0.out.trans (hbi.out.mono (by have := HG.out; have := HSZ.out; omega))⟩
end Go.Proofs.Ytkanebolfmpnfaa.Rt
