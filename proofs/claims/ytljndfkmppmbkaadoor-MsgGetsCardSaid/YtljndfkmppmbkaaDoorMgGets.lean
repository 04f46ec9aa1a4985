/- The law of messages out of bytes: its walk. -/
import Derived.Test.YtljndfkmppmbkaaDoorMgRGetM
namespace Go.Proofs.YtljndfkmppmbkaaDoor.Mg
open Go.RowKit
open Go.Proofs.YtljndfkmppmbkaaDoor.Me Go.Proofs.YtljndfkmppmbkaaDoor.Ba Go.Proofs.YtljndfkmppmbkaaDoor.Ma Go.Proofs.YtljndfkmppmbkaaDoor.Bt Go.Proofs.YtljndfkmppmbkaaDoor.Hd
set_option linter.unusedVariables false
set_option linter.unusedSimpArgs false

set_option maxRecDepth 100000 in
set_option maxHeartbeats 4000000 in
theorem RSame_self (i : Id4) (A B : Option Addr) (n m c d : Nat) (l : List Nat) (w : World) (h1 : Hid (BySlice w A n c l)) (h2 : Hid (BySlice w B m d l)) : Calls Tryd.prog 18 #[.agg (msgC i A n c), .agg (msgC i B m d)] w fun e w' => e = .returned (.bool true) ∧ Hid (Below w.heap.size w w') := by
  have HT := Lib.hid (two_boxes w)
  have k1 := fun W (hW : Below w.heap.size w W) => conv_rd W _ A l c (by_below h1.out hW).2.2.2.1 (by_below h1.out hW).2.2.2.2
  have k2 := fun W (hW : Below w.heap.size w W) => conv_rd W _ B l d (by_below h2.out hW).2.2.2.1 (by_below h2.out hW).2.2.2.2
  rw [← h1.out.1] at k1
  rw [← h2.out.1] at k2
  obtain ⟨s, hs⟩ : ∃ s, strOf l = s := ⟨_, rfl⟩
  rw [hs] at k1 k2
  obtain ⟨o, dd, ee, cc⟩ := i
  simp only [msgC]
  have q1 := k1 _ (HT.out #[.int .i64 o, .int .i64 dd, .int .i64 ee, .int .i64 cc, .slice A n c] #[.int .i64 o, .int .i64 dd, .int .i64 ee, .int .i64 cc, .slice B m d])
  have q2 := k2 _ (HT.out #[.int .i64 o, .int .i64 dd, .int .i64 ee, .int .i64 cc, .slice A n c] #[.int .i64 o, .int .i64 dd, .int .i64 ee, .int .i64 cc, .slice B m d])
  clear k1 k2 hs h1 h2
  go_enter Tryd.func18, Tryd.ntmps18
  go_wp2
  go_ret
  exact ⟨rfl, HT.out _ _⟩
theorem mD_lt {l : List Nat} (h : ∀ z ∈ l, z < 256) : ∀ z ∈ mD l, z < 256 := by
  unfold mD
  split
  · exact fun z hz => h z (List.mem_of_mem_drop hz)
  · simp
theorem id_row {W : World} {D : Nat} {o d e c : Int} (h : W.heap[D]? = some (.cells #[.int .i64 o, .int .i64 d, .int .i64 e, .int .i64 c] 23 (0, 0))) : W.cell? ⟨D, 0, none⟩ = some (.int .i64 o) ∧ W.cell? ⟨D, 1, none⟩ = some (.int .i64 d) ∧ W.cell? ⟨D, 2, none⟩ = some (.int .i64 e) ∧ W.cell? ⟨D, 3, none⟩ = some (.int .i64 c) := by
  refine ⟨?_, ?_, ?_, ?_⟩
  all_goals
    rw [cell_of_row _ D _ _ _ (0, 0) h]
    rfl
theorem own_by {W : World} {B c : Nat} {A : Option Addr} {L : List Nat} (h : Own W B (.slice A L.length c) L) (hl : ∀ z ∈ L, z < 256) : BySlice W A L.length c L := by
  obtain ⟨r1, r2, r3, r4⟩ := own_rd h hl
  exact ⟨rfl, r3, r4, r1, r2⟩
set_option maxRecDepth 100000 in
set_option maxHeartbeats 8000000 in
theorem gets (A : Option Addr) (n c : Nat) (l : List Nat) (w : World) (hi : MsIn w A n c l) : Calls Tryd.prog 6 #[.slice A n c] w fun e w' => e = .returned (.bool true) ∧ Below w.heap.size w w' := by
  obtain rfl : n = l.length := hi.1.1
  have HI := Lib.hid hi
  have HLb : Hid (∀ z ∈ l, z < 256) := hi.1.2.2.2.1.1
  have HLN : Hid (([] : List Nat).length + l.length ≤ 140737488355328) := by
    have h1 := hi.1.2.1
    have h2 := hi.2
    show 0 + _ ≤ _
    omega
  have HG := Lib.hid (fun (A1 : Option Addr) (c1 : Nat) W (h : Hid (BySlice W A1 l.length c1 l)) => Get_any A1 l.length c1 l W h)
  have HRG := Lib.hid (fun (A1 : Option Addr) (c1 : Nat) W (h : Hid (BySlice W A1 l.length c1 l)) => RGet_msg A1 l.length c1 l W h)
  have HD := Lib.hid (fun (A1 : Option Addr) (c1 : Nat) W (h : Hid (BySlice W A1 l.length c1 l)) => GetId_any A1 l.length c1 l W h)
  have HRD := Lib.hid (fun (A1 : Option Addr) (c1 : Nat) W (h : Hid (BySlice W A1 l.length c1 l)) => RGetId_any A1 l.length c1 l W h)
  have HML := Lib.hid (mD_lt hi.1.2.2.2.1.1)
  unfold GetM at HG HRG
  obtain ⟨mi, hmi⟩ : ∃ x, mI l = x := ⟨_, rfl⟩
  obtain ⟨md, hmd⟩ : ∃ x, mD l = x := ⟨_, rfl⟩
  obtain ⟨mz, hmz⟩ : ∃ x, mZ l = x := ⟨_, rfl⟩
  obtain ⟨gi, hgi⟩ : ∃ x, getI l = x := ⟨_, rfl⟩
  obtain ⟨gz, hgz⟩ : ∃ x, getZ l = x := ⟨_, rfl⟩
  simp only [hmi, hmd, hmz] at HG HRG HML
  simp only [hgi, hgz] at HD HRD
  clear hi hmi hmd hmz hgi hgz
  have HS := Lib.hid (fun (A1 A2 : Option Addr) (c1 c2 : Nat) W (h1 : Hid (BySlice W A1 md.length c1 md)) (h2 : Hid (BySlice W A2 md.length c2 md)) => RSame_self mi A1 A2 md.length md.length c1 c2 md W h1 h2)
  obtain ⟨o, dd, ee, cc⟩ := mi
  obtain ⟨p, q, r, s⟩ := gi
  simp only [msgC, idC] at HG HRG HD HRD HS
  go_enter Tryd.func6, Tryd.ntmps6
  go_wp2_with (first
    | (at_builtin; refine app8 rfl (.tmp 13) (.tmp 14) rfl w.heap.size w.heap.size _ [] l rfl (Own.lit (Below.refl _ _)) (Me.below_alloc (Below.refl _ _)) (by simp) A c rfl ((HI.out.1.2.2.2.1).below (Me.below_alloc (Below.refl _ _))) HI.out.1.2.2.2.2 HLN.out ?_; intro v1 w1 ho1 hb1 _; rw [List.nil_append] at ho1; obtain ⟨A1, c1, rfl, p1, p2, _⟩ := ho1.held HLb.out; have HO1 := Lib.hid ho1; have HB1 := Lib.hid hb1; have HY1 := Lib.hid (own_by ho1 HLb.out); clear ho1 hb1 p1 p2)
    | (go_at_call 23; refine (HG.out A1 c1 _ HY1).mono ?_; rintro e w2 ⟨A2, c2, rfl, HO2, HB2⟩)
    | (go_at_call 24; refine (HD.out A1 c1 _ (Lib.hid (by_below HY1.out (Below.trans HB2.out ((Me.below_alloc (Below.refl _ _)).mono HB2.out.size))))).mono ?_; rintro e w3 ⟨rfl, HB3⟩))
  obtain ⟨V2, hV2⟩ : ∃ V, w2.alloc (.cells #[.int .i64 o, .int .i64 dd, .int .i64 ee, .int .i64 cc, .slice A2 md.length c2] 26) = V := ⟨_, rfl⟩
  obtain ⟨V3, hV3⟩ : ∃ V, w3.alloc (.cells #[.int .i64 p, .int .i64 q, .int .i64 r, .int .i64 s] 23) = V := ⟨_, rfl⟩
  rw [hV2] at HB3
  rw [hV3]
  have z2 : V2.heap.size = w2.heap.size + 1 := by rw [← hV2]; simp
  have z3 : V3.heap.size = w3.heap.size + 1 := by rw [← hV3]; simp
  have k12 := HB2.out.size
  have k23 := HB3.out.size
  have e1 : V3.heap[w2.heap.size]? = some (.cells #[.int .i64 o, .int .i64 dd, .int .i64 ee, .int .i64 cc, .slice A2 md.length c2] 26 (0, 0)) := by
    rw [← hV3, Below.heap_alloc _ _ _ (by omega), HB3.out.block _ (by omega), ← hV2]
    exact heap_alloc_new w2 _
  have e2 : V3.heap[w3.heap.size]? = some (.cells #[.int .i64 p, .int .i64 q, .int .i64 r, .int .i64 s] 23 (0, 0)) := by
    rw [← hV3]
    exact heap_alloc_new w3 _
  have b23 : Below w2.heap.size w2 V3 := by
    rw [← hV3]
    refine Me.below_alloc ?_
    have : Below w2.heap.size w2 V2 := by rw [← hV2]; exact Me.below_alloc (Below.refl _ _)
    exact this.trans (HB3.out.mono (by omega))
  have b13 : Below w1.heap.size w1 V3 := HB2.out.trans (b23.mono k12)
  have b03 : Below w.heap.size w V3 := HB1.out.trans (b13.mono HB1.out.size)
  have o2 : Own V3 w1.heap.size (.slice A2 md.length c2) md := own_same HO2.out fun k _ hk => b23.block k hk
  have hlt1 : ∀ k, (Value.slice A1 l.length c1).ownBlock = some k → w.heap.size ≤ k ∧ k < w1.heap.size := fun k e => HO1.out.lt k e
  have HGV : Hid (Giv V3 (.slice A1 l.length c1) l.length) := ⟨l, rfl, HLb.out, own_base (B' := 0) (own_same HO1.out fun k _ hk => b13.block k hk) fun _ _ => Nat.zero_le _⟩
  have HF : Hid (∀ W, But (fun k => (Value.slice A1 l.length c1).ownBlock = some k) V3 W → Below w.heap.size w W ∧ W.heap[w2.heap.size]? = some (.cells #[.int .i64 o, .int .i64 dd, .int .i64 ee, .int .i64 cc, .slice A2 md.length c2] 26 (0, 0)) ∧ W.heap[w3.heap.size]? = some (.cells #[.int .i64 p, .int .i64 q, .int .i64 r, .int .i64 s] 23 (0, 0)) ∧ BySlice W A2 md.length c2 md ∧ BySlice W A l.length c l) := fun W hW => by
    have hb := b03.trans (hW.below b03.size fun k e => (hlt1 k e).1)
    refine ⟨hb, hW.at_ e1 (fun e => ?_), hW.at_ e2 (fun e => ?_), own_by (own_same o2 fun k e hk => hW.same k hk fun e' => ?_) HML.out, by_below HI.out.1 hb⟩
    · have := hlt1 _ e; omega
    · have := hlt1 _ e; omega
    · have := (hlt1 k e').2; have := (o2.lt k e).1; omega
  obtain ⟨E1, hE1⟩ : ∃ E, w2.heap.size = E := ⟨_, rfl⟩
  obtain ⟨E2, hE2⟩ : ∃ E, w3.heap.size = E := ⟨_, rfl⟩
  rw [hE1, hE2] at HF
  rw [hE1, hE2]
  clear hV2 hV3 z2 z3 k12 k23 e1 e2 b23 b13 b03 o2 hlt1 hE1 hE2 HO1 HO2 HB1 HB2 HB3 HY1 HG HD
  go_loopw [8] (fun i wr => ∃ k : Nat, k ≤ l.length ∧ i = .int .i64 k ∧ Hid (Giv wr (.slice A1 l.length c1) l.length) ∧ Hid (But (fun k => (Value.slice A1 l.length c1).ownBlock = some k) V3 wr)) (fun i _ => l.length - (intOf i).toNat)
  case atStart => exact ⟨0, Nat.zero_le _, rfl, HGV.out, But.refl _ _⟩
  case round =>
    obtain ⟨k, hk, rfl, HGW, HBT⟩ := hrel
    clear HGV
    by_cases hlt : k < l.length
    · obtain ⟨g, y, rfl, hy, hc1, hf1, hob⟩ := HGW.out.cell hlt
      have HOB := Lib.hid hob
      have ht := turn8 hy
      have HY : Hid (255 - y < 256) := by show _ < _; omega
      have ht2 : (255 - (y : Int)) % 256 = ((255 - y : Nat) : Int) := by omega
      have hL2 : l.length ≤ 140737488355328 := by have h := HLN.out; simpa using h
      have hkL : (k : Int) < (l.length : Int) := by omega
      clear hob
      go_wp2
      have HN : Hid (Giv (wr.setCell ⟨g, k, none⟩ (.int .u8 ((255 - y : Nat) : Int))) (.slice (some ⟨g, 0, none⟩) l.length c1) l.length) := Giv.put HGW.out HY.out
      have HT2 : Hid (But (fun k => (Value.slice (some ⟨g, 0, none⟩) l.length c1).ownBlock = some k) V3 (wr.setCell ⟨g, k, none⟩ (.int .u8 ((255 - y : Nat) : Int)))) := But.set (X := wr) HBT.out (.inl HOB.out) _
      go_roundw
      case rel => exact ⟨k + 1, by omega, by go_num, HN.out, HT2.out⟩
      case measure => simp [intOf]; omega
    · obtain rfl : k = l.length := by omega
      have HB0 := Lib.hid ((HF.out wr HBT.out).1)
      have HYr := Lib.hid ((HF.out wr HBT.out).2.2.2.2)
      have HFF : Hid (∀ W, Below wr.heap.size wr W → _) := fun W hW => HF.out W (HBT.out.trans (But.of_below (S := fun _ => False) hW) fun _ _ e => e.elim)
      clear hlt hk HGW HF
      go_wp2_with (first
        | (go_at_call 25; refine (HRG.out A c _ HYr).mono ?_; rintro e w4 ⟨A4, c4, rfl, HO4, HB4⟩; have hb4 := Lib.hid (Me.below_alloc (o := .cells #[.int .i64 o, .int .i64 dd, .int .i64 ee, .int .i64 cc, .slice A4 md.length c4] 26) HB4.out); have HY4 := Lib.hid ((HFF.out _ hb4.out).2.2.2.2))
        | (go_at_call 26; refine (HRD.out A c _ HY4).mono ?_; rintro e w5 ⟨rfl, HB5⟩; have hb9 := Lib.hid (Me.below_alloc (o := .cells #[.int .i64 p, .int .i64 q, .int .i64 r, .int .i64 s] 23) HB5.out); have HB9 := Lib.hid (hb4.out.trans (hb9.out.mono hb4.out.size)); obtain ⟨_, f1, f2, f3, _⟩ := HFF.out _ HB9.out; obtain ⟨a0, a1, a2, a3, a4⟩ := bx_row f1; have HR3 := Lib.hid ((hb9.out.block w4.heap.size (by simp)).trans (heap_alloc_new w4 _)); obtain ⟨c0, c1', c2', c3', c4'⟩ := bx_row HR3.out; have HO9 := Lib.hid (own_by (own_same HO4.out fun k e hk => (hb9.out.block k (by simp; omega)).trans (Below.heap_alloc _ _ _ hk)) HML.out); have HF2 := Lib.hid f2; have HF3 := Lib.hid f3; clear f1 f2 f3)
        | (go_at_call 18; refine (HS.out A2 A4 c2 c4 _ HF3 HO9).mono ?_; rintro e w6 ⟨rfl, HB6⟩; have HB96 := Lib.hid (HB9.out.trans (HB6.out.mono HB9.out.size)); obtain ⟨_, _, g2, _, _⟩ := HFF.out _ HB96.out; obtain ⟨i0, i1, i2, i3⟩ := id_row g2; obtain ⟨j0, j1, j2, j3⟩ := id_row ((HB6.out.block w5.heap.size (by simp)).trans (heap_alloc_new w5 _)))
        | (go_at_call 14; refine (awake_any _).mono ?_; rintro e w7 ⟨rfl, HB7⟩))
      go_ret
      exact ⟨rfl, HB0.out.trans ((HB96.out.trans (HB7.out.mono HB96.out.size)).mono HB0.out.size)⟩
theorem getsL (A : Option Addr) (n c : Nat) (l : List Nat) (w : World) (hi : BySlice w A n c l) (hc : c ≤ 140737488351232) : Calls Tryd.prog 6 #[.slice A n c] w fun e w' => e = .returned (.bool true) ∧ Below w.heap.size w w' := gets A n c l w ⟨hi, hc⟩
end Go.Proofs.YtljndfkmppmbkaaDoor.Mg
