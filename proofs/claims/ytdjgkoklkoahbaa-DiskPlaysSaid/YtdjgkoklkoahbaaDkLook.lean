/- What a disk tells: Safe, Names, Used. -/
import Derived.Test.YtdjgkoklkoahbaaDkMay
import Derived.Maps.RangeWalk
namespace Go.Proofs.Ytdjgkoklkoahbaa.Dk
open Go.RowKit Go.Maps Go.Sort Go.Shelf
open Go.Proofs.Ytdjgkoklkoahbaa.Me Go.Proofs.Ytdjgkoklkoahbaa.Hd
set_option linter.unusedVariables false
set_option linter.unusedSimpArgs false

/-! ### Names, sorted -/
theorem sorts (m : Nat) : AnyZ.SortsIn Try.prog Try.sorted__ren Fence.wide m :=
  ⟨fun blk off cap ss W hH hblk hsz => callsIn_wide.2 (AnyM.slices_Sort_string Try.sort_ blk off cap ss W hH hblk hsz),
   fun p cap W => callsIn_wide.2 (AnyM.slices_Sort_string_none Try.sort_ p cap W)⟩
theorem Keys_in (mb : Option Nat) (W : World) : CallsIn Fence.wide 5 Try.prog 48 #[.map mb] W fun e w' => e = .returned (.func (.func 62) #[] #[.pointer (some ⟨W.heap.size, 0, none⟩)]) ∧ w' = W.alloc (.cells #[.map mb] 62) :=
  AnyZ.keys_in Try.keys_ Fence.wide 5 trivial rfl mb W
set_option maxHeartbeats 1000000 in
theorem Sorted_in {H : Type} (b nn : Nat) (D0 : DataW H) (R : Value → Option (DataW H × List MemPlace)) (w : World) (hown : w.ownsMap Try.prog 9 R b nn D0) (hmax : Maps.size D0 ≤ maxLen) (hbytes : Maps.size D0 * 16 ≤ 140737488355328) :
    CallsIn Fence.wide 5 Try.prog 47 #[.func (.func 62) #[] #[.pointer (some ⟨w.heap.size, 0, none⟩)]] (w.alloc (.cells #[.map (some b)] 62)) fun e w' => ∃ (v : Value) (ss : List (List UInt8)), e = .returned v ∧ ss.Perm (strKeys D0) ∧
      w'.ownsRow (w.alloc (.cells #[.map (some b)] 62)).heap.size 9 1 v ss.length ((ss.mergeSort (fun x y => decide (x ≤ y))).map encStr) ∧ (v = .slice none 0 0 ↔ ss = []) ∧ Below (w.alloc (.cells #[.map (some b)] 62)).heap.size (w.alloc (.cells #[.map (some b)] 62)) w' := by
  have hbl := hown.lt
  have hseq : SeqGives Fence.wide 2 Try.prog 62 #[.pointer (some ⟨w.heap.size, 0, none⟩)] encStr (fun ss => ss.Perm (strKeys D0)) (Maps.size D0) (w.alloc (.cells #[.map (some b)] 62)) :=
    AnyZ.keys_gives (ρ := Try.keys__ren) { Try.keys_ with } Fence.wide _ trivial rfl (by omega) w.heap.size b nn D0 _ (by simp) (by simp) (by
      obtain ⟨es, clock, hb, Ft, hs, hD⟩ := hown
      exact ⟨es, clock, (Below.heap_alloc _ _ b hbl).trans hb, Ft, hs, hD⟩)
  exact AnyZ.sorted_in Try.sorted_ Fence.wide 5 trivial trivial trivial trivial rfl (by omega) (sorts _) (enters_of Try.func61 (by kernel_rfl) rfl) 62 #[.pointer (some ⟨w.heap.size, 0, none⟩)] trivial (enters_of Try.func62 (by kernel_rfl) rfl) _ _ hmax hbytes _ hseq
def namesL (L : Fs) : List Nm := L.map (·.1)
theorem names_perm {E : Nat → Prop} {w : World} {b : Nat} {L : Fs} {D : DataW Value} {ent : Nm → Nat × Value} (how : w.ownsMap Try.prog 9 RV b L.length D) (hv : Vf E w D ent (look L)) (hs : Srt L) : (namesL L).Perm (strKeys D) := by
  obtain ⟨es, rfl, hpw, _⟩ := how.entries keyed
  obtain ⟨es', hD', hko⟩ := how.keysOf
  obtain rfl : es = es' := by simpa using hD'
  refine perm_strKeys hpw (fun p hp => by obtain ⟨v, hv⟩ := hko p hp; obtain ⟨x, _, hx, _⟩ := Maps.keyOf_str Try.underlying9 hv; exact ⟨x, hx⟩) ?_ fun x => ?_
  · exact List.pairwise_map.2 (hs.imp fun h => nm_ne h)
  · constructor
    · intro hx
      obtain ⟨p, hp, rfl⟩ := List.mem_map.1 hx
      exact (hv.yes _ _ (look_of_mem hs (n := p.1) (f := p.2) hp)).1
    · intro hx
      obtain ⟨m, e, hm⟩ := hv.keys _ hx
      cases e
      obtain ⟨f, hf⟩ := Option.isSome_iff_exists.1 hm
      exact List.mem_map.2 ⟨_, look_mem hf, rfl⟩
theorem names_sorted {L : Fs} (hs : Srt L) {ss : List Nm} (h : ss.Perm (namesL L)) : ss.mergeSort (fun x y => decide (x ≤ y)) = namesL L := by
  have e := mergeSort_of_perm h
  have e2 : (namesL L).mergeSort leB = namesL L := List.mergeSort_of_pairwise (List.pairwise_map.2 (hs.imp fun h => by
    simp only [leB, decide_eq_true_eq]
    exact List.not_lt.1 fun h2 => nm_irrefl _ (nm_trans h h2)))
  rw [e2] at e
  exact e
/-- A slice of one's own that holds these names. -/
def NmS (w : World) (B : Nat) (v : Value) (ns : List Nm) : Prop := w.ownsRow B 9 1 v ns.length (ns.map nmV)
theorem NmS.form {w : World} {B : Nat} {v : Value} {ns : List Nm} (h : NmS w B v ns) : ∃ A c, v = .slice A ns.length c ∧ ns.length ≤ c ∧ c ≤ 9223372036854775807 ∧ (0 < ns.length → ∃ g, A = some ⟨g, 0, none⟩ ∧ B ≤ g ∧ g < w.heap.size ∧ ∀ i, i < ns.length → w.cell? ⟨g, i, none⟩ = some (nmV (ns.getD i []))) := by
  rcases h.2 with ⟨h1, h2⟩ | ⟨g, cap, cur, h1, h2, h3, h4, h5, h6, h7⟩
  · have : ns = [] := by simpa using h2
    subst this
    exact ⟨none, 0, h1, Nat.le_refl _, Nat.zero_le _, fun hp => absurd hp (by simp)⟩
  · refine ⟨some ⟨g, 0, none⟩, cap, h1, h4, by unfold maxLen at h5; omega, fun hp => ⟨g, rfl, h2, (Array.getElem?_eq_some_iff.1 h3).1, fun i hi => ?_⟩⟩
    subst h1
    have h' : w.ownsRow B 9 1 (.slice (some ⟨g, 0, none⟩) ns.length cap) ns.length (ns.map nmV) := h
    rw [h'.cellAt i (by omega)]
    simp [hi]
set_option maxHeartbeats 1000000 in
theorem Names_any {G : Nat → Prop} (w : World) (D mb : Nat) (s : St) (h : Hid (Dq G w D mb s)) (ok : Hid s.Ok) :
    Calls Try.prog 19 #[.pointer (some ⟨D, 0, none⟩)] w fun e w' => ∃ v, e = .returned v ∧ Hid (NmS w' w.heap.size v (namesL s.files)) ∧ Hid (Below w.heap.size w w') := by
  obtain ⟨D0, ent, how, hsz, hv⟩ := h.out.mf
  have hp := Lib.hid (names_perm how hv ok.out.srt)
  have hcnt := ok.out.cnt
  have HS := Lib.hid (Sorted_in mb s.files.length D0 RV w how (by rw [hsz]; unfold maxLen; omega) (by rw [hsz]; omega))
  have c0 := h.out.c0
  clear how hsz hv hcnt
  refine (callsIn_wide (n := 6)).1 ?_
  have hfK : Fence.wide.fn 48 := trivial
  have hfS : Fence.wide.fn 47 := trivial
  refine callsIn_of_wp Try.func19 rfl trivial ?_ rfl
  simp only [Try.ntmps19, List.size_toArray, List.length_cons, List.length_nil, Nat.reduceAdd, Nat.reduceSub, Array.replicate_succ, Array.replicate_zero, List.push_toArray, List.append_toArray, List.nil_append, List.cons_append]
  gi_wp2_with (first
    | (gi_at_call 48; refine (Keys_in _ _).mono ?_; rintro e w' ⟨rfl, rfl⟩)
    | (gi_at_call 47; refine HS.out.mono ?_; rintro e w' ⟨v, ss, rfl, hS, hrow, hnil, hb⟩; have HROW := Lib.hid hrow; have HPP := Lib.hid (hS.trans hp.out.symm); have HBB := Lib.hid hb; clear hrow hS hb hnil))
  go_ret
  refine ⟨v, rfl, ?_, ((Below.refl _ w).alloc (Nat.le_refl _) _).trans (HBB.out.mono (by simp))⟩
  have e1 := names_sorted ok.out.srt HPP.out
  have e2 := HPP.out.length_eq
  have := HROW.out
  rw [e1, e2] at this
  exact ownsRow_base_a this (by simp)
section
variable {G : Nat → Prop} (w : World) (D mb : Nat) (s : St)
theorem Safe_any (h : Hid (Dq G w D mb s)) (n : Nm) (hn : n.length ≤ maxLen) : Calls Try.prog 21 #[.pointer (some ⟨D, 0, none⟩), nmV n] w fun e w' => e = .returned (.int .i64 ((fileOf s n).safe : Int)) ∧ w = w' := by
  have c0 := h.out.c0
  show Calls Try.prog 21 #[.pointer (some ⟨D, 0, none⟩), .string ⟨n.toArray⟩] w _
  cases hl : look s.files n with
  | none =>
    have HE : Hid ((fileOf s n).safe = 0) := by show _ = _; simp [fileOf, hl]
    rw [HE.out]
    have hk := h.out.mf.no hn hl w rfl
    simp only [nmV] at hk
    obtain ⟨ns, hns⟩ : ∃ ns, (⟨n.toArray⟩ : ByteArray) = ns := ⟨_, rfl⟩
    rw [hns] at hk ⊢
    clear hns hl
    go_enter Try.func21, Try.ntmps21
    go_wp2
    go_ret
    exact ⟨rfl, rfl⟩
  | some f =>
    have HE : Hid ((fileOf s n).safe = f.safe) := by show _ = _; simp [fileOf, hl]
    rw [HE.out]
    obtain ⟨p, v, hF, _, _, hk, _⟩ := h.out.mf.yes hn hl
    have hk := hk w rfl
    have c1 : w.cell? ⟨p, 1, none⟩ = some (.int .i64 (f.safe : Int)) := cell_of_row w p 1 _ _ (0, 0) hF.blk
    simp only [nmV] at hk
    obtain ⟨ns, hns⟩ : ∃ ns, (⟨n.toArray⟩ : ByteArray) = ns := ⟨_, rfl⟩
    obtain ⟨q, hq⟩ : ∃ q, f.safe = q := ⟨_, rfl⟩
    rw [hns] at hk ⊢
    rw [hq] at c1 ⊢
    clear hns hl hF hq
    go_enter Try.func21, Try.ntmps21
    go_wp2
    go_ret
    exact ⟨rfl, rfl⟩
end

/-! ### How many bytes all have -/
def sumL (L : Fs) (ss : List Nm) : Nat := (ss.map fun n => ((look L n).map fun f => f.bytes.length).getD 0).sum
theorem sumL_perm (L : Fs) {ss ss' : List Nm} (h : ss.Perm ss') : sumL L ss = sumL L ss' := (h.map _).sum_nat
theorem sumL_keys {L : Fs} (hs : Srt L) : sumL L (namesL L) = used L := by
  unfold sumL namesL used
  rw [List.map_map]
  congr 1
  refine List.map_congr_left fun p hp => ?_
  simp [look_of_mem hs (n := p.1) (f := p.2) hp]
theorem sumL_snoc (L : Fs) (ss : List Nm) (n : Nm) : sumL L (ss ++ [n]) = sumL L ss + ((look L n).map fun f => f.bytes.length).getD 0 := by simp [sumL]
theorem sumL_le {L : Fs} (h : ∀ p ∈ L, p.2.bytes.length ≤ 1048576) : ∀ ss : List Nm, sumL L ss ≤ ss.length * 1048576
  | [] => by simp [sumL]
  | n :: r => by
    have ih := sumL_le h r
    unfold sumL at ih ⊢
    simp only [List.map_cons, List.sum_cons, List.length_cons]
    have : ((look L n).map fun f => f.bytes.length).getD 0 ≤ 1048576 := by
      cases hl : look L n with
      | none => simp
      | some f => exact h _ (look_mem hl)
    omega
set_option maxRecDepth 100000 in
theorem Used_any {G : Nat → Prop} (w : World) (D mb : Nat) (s : St) (h : Hid (Dq G w D mb s)) (ok : Hid s.Ok) :
    Calls Try.prog 25 #[.pointer (some ⟨D, 0, none⟩)] w fun e w' => e = .returned (.int .i64 (used s.files : Int)) ∧ Hid (Below w.heap.size w w') := by
  obtain ⟨D0, ent, how, hsz, hv⟩ := h.out.mf
  have HV := Lib.hid hv
  have HP := Lib.hid (names_perm how hv ok.out.srt)
  have HOW := Lib.hid how
  have hcnt := ok.out.cnt
  have HB := Lib.hid (fun p (hp : p ∈ s.files) => Nat.le_trans (used_mem hp) ok.out.use)
  have c0 := h.out.c0
  have hmb := h.out.ltm
  have HSZ : Hid (Maps.size D0 ≤ 64) := by show _ ≤ _; omega
  clear hv how hsz hcnt
  go_enter Try.func25, Try.ntmps25
  go_wp2_with (first
    | (at_range; refine wpList_range_own _ rfl _ 62 rfl 9 65 keyed Try.underlying62 _ mb _ _ rfl HOW.out ?_; intro w0 hrg0 hg0 hs0)
    | go_in)
  go_frame
  go_loopw [3] (fun u wr => ∃ (left : Lit → Bool) (cnt : Nat) (ss : List Nm), u = .int .i64 (sumL s.files ss : Int) ∧ Hid (wr.ranges Try.prog 9 RV mb w.heap.size s.files.length D0 left cnt) ∧ Hid (Collected D0 left ss) ∧ Hid (ss.length + cnt ≤ Maps.size D0) ∧ Hid (Below w.heap.size w wr))
    (fun _ wr => wr.rangeLeft mb w.heap.size)
  case atStart =>
    exact ⟨_, _, [], rfl, hrg0, Collected.start D0, by show 0 + _ ≤ _; omega, (Below.refl _ w).grown hg0 (Nat.le_refl _) (fun j hj => by cases hj)⟩
  case round =>
    obtain ⟨left, cnt, ss, rfl, hrg, hC, hle, hbr⟩ := hrel
    obtain ⟨u, hu⟩ : ∃ u, sumL s.files ss = u := ⟨_, rfl⟩
    have HU : Hid (sumL s.files ss = u) := hu
    have hu1 : u ≤ 67108864 := by
      have := sumL_le HB.out ss
      have := hle.out
      have := HSZ.out
      omega
    rw [hu]
    clear hu
    go_wp2_with (first
      | (at_next; refine wpList_next_ranges _ rfl _ rfl 9 keyed RV encStr (fun v : Value => v) (fun key kl hk => by obtain ⟨x, hx, _⟩ := Maps.keyOf_str Try.underlying9 hk; exact ⟨x, hx⟩) (fun v y _ => ⟨v, rfl⟩) mb w.heap.size _ _ _ _ rfl hrg.out ?_ ?_)
      | go_in)
    · intro hc0 hl0
      go_wp2
      go_ret
      refine ⟨?_, hbr⟩
      have hp := hC.out.perm HOW.out keyed Try.underlying9 hl0
      have e1 := sumL_perm s.files (hp.trans HP.out.symm)
      rw [sumL_keys ok.out.srt, HU.out] at e1
      rw [← e1]; rfl
    · intro x c kl yd yp w2 cnt2 hkey hlk hvv hyp hat hrg2 hlt hg2 hs2 hen
      clear hs2
      obtain ⟨x', ex, rfl, _⟩ := Maps.keyOf_str Try.underlying9 hkey
      obtain rfl : x = x' := encStr_inj ex
      subst hvv
      have hC2 := hC.out.step hlk hat
      have hhas := has_true_of_atKey hat
      obtain ⟨m, e, hm⟩ := HV.out.keys _ hhas
      cases e
      obtain ⟨f, hf⟩ := Option.isSome_iff_exists.1 hm
      have hy := (HV.out.yes x f hf).2 (.held c)
      rw [hat] at hy
      simp only [DataW.held.injEq] at hy
      subst hy
      obtain ⟨hF, _, _⟩ := HV.out.file x f hf
      obtain ⟨A, cc, hv2, hc1, hc2, _⟩ := hF.own.held (ok.out.byte _ (look_mem hf))
      have hbf : f.bytes.length ≤ 1048576 := HB.out _ (look_mem hf)
      have HB2 : Hid (Below w.heap.size w w2) := hbr.out.grown hg2 hbr.out.size (fun j hj => by cases hj; exact Nat.le_refl _)
      have c1 : w2.cell? ⟨(ent x).1, 0, none⟩ = some (.slice A f.bytes.length cc) := by
        rw [HB2.out.cell (p := ⟨(ent x).1, 0, none⟩) hF.lt, cell_of_row w (ent x).1 0 _ _ (0, 0) hF.blk, hv2]; rfl
      have HS2 : Hid (sumL s.files (ss ++ [x]) = u + f.bytes.length) := by
        show _ = _
        rw [sumL_snoc, hf, HU.out]; rfl
      obtain ⟨L, hL⟩ : ∃ L, f.bytes.length = L := ⟨_, rfl⟩
      obtain ⟨p, hp⟩ : ∃ p, (ent x).1 = p := ⟨_, rfl⟩
      rw [hL] at c1 HS2 hbf hc1
      rw [hp] at c1 hen
      have HRG2 := Lib.hid hrg2
      have HC2 := Lib.hid hC2
      have HLT := Lib.hid hlt
      clear hrg2 hC2 hlt hkey hlk hat hg2 hhas hm hF hv2 hf hL hp ex
      go_wp2
      go_roundw
      case rel =>
        exact ⟨_, cnt2, ss ++ [x], by rw [HS2.out]; go_num, HRG2, HC2, by show (ss ++ [x]).length + cnt2 ≤ _; have := hle.out; have := HLT.out; simp; omega, HB2⟩
      case measure => rw [HRG2.out.left_eq, hrg.out.left_eq]; exact HLT.out
end Go.Proofs.Ytdjgkoklkoahbaa.Dk
