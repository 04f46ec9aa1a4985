/- The walk of the law LineDrops. -/
import Derived.Test.YtcdpdijfgeeenaaLnStateB
import Derived.Test.YtcdpdijfgeeenaaLnWoke
namespace Go.Proofs.Ytcdpdijfgeeenaa.Li
open Go.RowKit
open Go.Proofs.Ytcdpdijfgeeenaa.Sb
set_option linter.unusedVariables false
set_option linter.unusedSimpArgs false

theorem rem_upto (N : Int) (m : Nat) : ∃ a t : Nat, IntKind.u64.wrap N = (a : Int) ∧ ((a : Int).tmod ((m : Int) + 1)) = (t : Int) ∧ t ≤ m := by
  obtain ⟨a, ha⟩ : ∃ a : Nat, IntKind.u64.wrap N = (a : Int) := by
    refine ⟨(IntKind.u64.wrap N).toNat, ?_⟩
    simp [IntKind.wrap, IntKind.bits, IntKind.signed]
    omega
  have h2 := Nat.mod_lt a (show 0 < m + 1 by omega)
  exact ⟨a, a % (m + 1), ha, by rw [show ((m : Int) + 1) = ((m + 1 : Nat) : Int) from rfl, ← Int.ofNat_tmod], by omega⟩
theorem cut_ins (s : Ln) (k b : Nat) (hk : k ≤ s.bs.length) (hl : s.due.length = s.bs.length) : cutL (insL s k b) k 1 = s := by
  have e1 : (s.bs.take k).length = k := by simp; omega
  have e2 : (s.due.take k).length = k := by simp; omega
  have a1 : ∀ {α : Type} (X Y : List α) (y : α), X.length = k → (X ++ y :: Y).take k ++ (X ++ y :: Y).drop (k + 1) = X ++ Y := fun X Y y h => by
    rw [List.take_left' h]
    have : X ++ y :: Y = (X ++ [y]) ++ Y := by simp
    rw [this, List.drop_left' (by simp [h])]
  unfold cutL insL
  simp only
  rw [a1 _ _ _ e1, a1 _ _ _ e2, List.take_append_drop, List.take_append_drop]
theorem flip_two (s : Ln) (k m : Nat) (hk : k < s.bs.length) : flipL (flipL s k m) k m = s := by
  have hb : Me.by_ (s.bs.set k (Me.by_ s.bs k ^^^ m)) k = Me.by_ s.bs k ^^^ m := by simp [Me.by_, hk]
  unfold flipL
  simp only
  rw [hb, Nat.xor_assoc, Nat.xor_self, Nat.xor_zero, List.set_set]
  have : s.bs.set k (Me.by_ s.bs k) = s.bs := by
    rw [Me.by_get hk]
    exact List.set_getElem_self hk
  rw [this]
theorem strOf_size (l : List Nat) : (Me.strOf l).size = l.length := by simp [Me.strOf, ByteArray.size]
theorem strOf_app (l r : List Nat) : Me.strOf l ++ Me.strOf r = Me.strOf (l ++ r) := by
  apply ByteArray.ext
  simp [Me.strOf]
theorem cut_any {X : World} {B c f : Nat} {A : Option Addr} {l : List Nat} (h : Me.Rd X B A l) (hf : f ≤ l.length) (hc : l.length ≤ c) (hA : A = none → l.length = 0 ∧ c = 0) :
    ∃ A2, (if c = f then A else Option.map (fun x => x.add f) A) = A2 ∧ Me.Rd X B A2 (l.drop f) ∧ (A2 = none → (l.drop f).length = 0 ∧ c - f = 0) := by
  refine ⟨_, rfl, ?_⟩
  by_cases hcf : c = f
  · have hd : l.drop f = [] := List.drop_eq_nil_of_le (by omega)
    rw [if_pos hcf, hd]
    exact ⟨⟨by simp, by simp⟩, fun _ => ⟨rfl, by omega⟩⟩
  · rw [if_neg hcf]
    cases A with
    | none => exact absurd (hA rfl) (by omega)
    | some a =>
      refine ⟨⟨fun z hz => h.1 z (List.mem_of_mem_drop hz), fun hp => ?_⟩, fun e => by cases e⟩
      rw [List.length_drop] at hp
      obtain ⟨b, off, e, _⟩ := h.2 (by omega)
      cases e
      have h2 := (h.drop f).2 (by rw [List.length_drop]; exact hp)
      obtain ⟨b', off', e', h3, h4⟩ := h2
      exact ⟨b', off', by rw [← e']; simp [Addr.add], h3, h4⟩
/-- The law's line behind its first Put. -/
def s3 (p : List Nat) : Ln := ⟨3, 0, p, List.replicate p.length 3⟩
theorem s3_put (p : List Nat) (h : p.length ≤ 3000) : putL (newL 3) p = s3 p ∧ putN (newL 3) p = 0 := by
  have h1 : ¬ 65536 < (newL 3).bs.length + p.length := by show ¬ 65536 < 0 + p.length; omega
  constructor
  · unfold putL
    rw [if_neg h1]
    rfl
  · unfold putN
    rw [if_neg h1]
set_option maxRecDepth 100000 in
theorem lineDrops_long (A : Option Addr) (len cap : Nat) (l : List Nat) (at_ n : Int) (w : World) (hl : 3000 < l.length) (hn : len = l.length) (hc : cap ≤ 140737488351232) :
    Calls Try.prog 5 #[.slice A len cap, .int .i64 at_, .int .i64 n] w fun e w' => e = .returned (.bool true) ∧ Below w.heap.size w w' := by
  subst hn
  have HN := Lib.hid (New_s w.heap.size (fun _ => False) 3 (by decide) w (Nat.le_refl _) (fun _ h => h.elim))
  have q : ((3 : Nat) : Int) = 3 := rfl
  rw [q] at HN
  have HA := Lib.hid awake_any
  obtain ⟨m, hm⟩ : ∃ m, l.length = m := ⟨_, rfl⟩
  rw [hm] at hl ⊢
  have h1 : (3000 : Int) < (m : Int) := by omega
  clear q hm
  go_enter Try.func5, Try.ntmps5
  go_wp2_with (first
    | (go_at_call 7; refine HN.out.mono ?_; rintro e w1 ⟨rfl, HL1, HB1⟩)
    | (go_at_call 9; refine (HA.out _).mono ?_; rintro e w2 ⟨rfl, HB2⟩))
  go_ret
  exact ⟨rfl, HB1.out.trans (HB2.out.mono HB1.out.size)⟩
set_option maxRecDepth 100000 in
set_option maxHeartbeats 4000000 in
theorem lineDrops (A : Option Addr) (len cap : Nat) (l : List Nat) (at_ n : Int) (w : World) (hs : Me.BySlice w A len cap l) (hc : cap ≤ 140737488351232) (hw1 : (Lit.int .i64 at_).wf = true) (hw2 : (Lit.int .i64 n).wf = true) :
    Calls Try.prog 5 #[.slice A len cap, .int .i64 at_, .int .i64 n] w fun e w' => e = .returned (.bool true) ∧ Below w.heap.size w w' := by
  obtain ⟨hlen, hlc, _, hr, hA⟩ := hs
  by_cases hlong : 3000 < l.length
  · exact lineDrops_long A len cap l at_ n w hlong hlen hc
  subst hlen
  have hl3 : l.length ≤ 3000 := by omega
  have HN := Lib.hid (New_s w.heap.size (fun _ => False) 3 (by decide) w (Nat.le_refl _) (fun _ h => h.elim))
  have q : ((3 : Nat) : Int) = 3 := rfl
  rw [q] at HN
  have HA := Lib.hid awake_any
  obtain ⟨a, k, hwa, hwk, hkm⟩ := rem_upto at_ l.length
  obtain ⟨a2, j, hwa2, hwj, hjm⟩ := rem_upto n (l.length - k)
  have ok3 : (s3 l).Ok := by
    have := putL_ok (s := newL 3) (p := l) (newL_ok (by decide)) hr.1
    rw [(s3_put l hl3).1] at this
    exact this
  -- the calls
  have HPut : Hid (∀ W D, Hid (Lr w.heap.size (fun _ => False) W D (newL 3)) → Below w.heap.size w W → Calls Try.prog 14 #[.pointer (some ⟨D, 0, none⟩), .slice A l.length cap] W fun e w' => e = .returned (.int .i64 0) ∧ Hid (Lr w.heap.size (fun _ => False) w' D (s3 l)) ∧ Hid (Below w.heap.size w w')) := fun W D h hb => by
    have hr2 : Me.Rd W W.heap.size A l := (hr.below hb).more hb.size
    refine (Put_s h A l.length cap l rfl (Lib.hid hr2) hA (by omega)).mono ?_
    rintro e w' ⟨rfl, g1, g2⟩
    rw [(s3_put l hl3).1] at g1
    rw [(s3_put l hl3).2]
    exact ⟨rfl, g1, hb.trans (but_out g2.out h.out.m)⟩
  have HIns : Hid (∀ W D, Hid (Lr w.heap.size (fun _ => False) W D (s3 l)) → Below w.heap.size w W → Calls Try.prog 17 #[.pointer (some ⟨D, 0, none⟩), .int .i64 (k : Int), .int .u8 7] W fun e w' => e = .returned (.int .i64 0) ∧ Hid (Lr w.heap.size (fun _ => False) w' D (insL (s3 l) k 7)) ∧ Hid (Below w.heap.size w w')) := fun W D h hb => by
    refine (Insert_s h k 7 hkm (by decide) (by show l.length < 65536; omega)).mono ?_
    rintro e w' ⟨rfl, g1, g2⟩
    exact ⟨rfl, g1, hb.trans (but_out g2.out h.out.m)⟩
  have HLen : Hid (∀ W D, Hid (Lr w.heap.size (fun _ => False) W D (insL (s3 l) k 7)) → Calls Try.prog 13 #[.pointer (some ⟨D, 0, none⟩)] W fun e w' => e = .returned (.int .i64 ((l.length : Int) + 1)) ∧ W = w') := fun W D h => by
    refine (Len_s h).mono ?_
    rintro e w' ⟨rfl, g1⟩
    refine ⟨?_, g1⟩
    have : (insL (s3 l) k 7).bs.length = l.length + 1 := by show (l.take k ++ 7 :: l.drop k).length = _; simp; omega
    rw [this]
    rfl
  have HDr : Hid (∀ W D, Hid (Lr w.heap.size (fun _ => False) W D (insL (s3 l) k 7)) → Below w.heap.size w W → Calls Try.prog 18 #[.pointer (some ⟨D, 0, none⟩), .int .i64 (k : Int), .int .i64 1] W fun e w' => e = .returned (.int .i64 0) ∧ Hid (Lr w.heap.size (fun _ => False) w' D (s3 l)) ∧ Hid (Below w.heap.size w w')) := fun W D h hb => by
    refine (Drop_s h k 1 (by show k + 1 ≤ (l.take k ++ 7 :: l.drop k).length; simp; omega)).mono ?_
    rintro e w' ⟨rfl, g1, g2⟩
    rw [cut_ins (s3 l) k 7 hkm ok3.len] at g1
    exact ⟨rfl, g1, hb.trans (but_out g2.out h.out.m)⟩
  have HBy : Hid (∀ W D, Hid (Lr w.heap.size (fun _ => False) W D (s3 l)) → Below w.heap.size w W → Calls Try.prog 11 #[.pointer (some ⟨D, 0, none⟩)] W fun e w' => ∃ B, e = .returned (.slice B l.length l.length) ∧ (convert 33 9 (.slice B l.length l.length)).run Try.prog w' = .ok (.string (Me.strOf l)) w' ∧ Hid (Lr w.heap.size (fun _ => False) w' D (s3 l)) ∧ Hid (Below w.heap.size w w')) := fun W D h hb => by
    refine (Bytes_s h).mono ?_
    rintro e w' ⟨rfl, g1, g2⟩
    refine ⟨_, rfl, ?_, h.out.below g2.out, hb.trans (g2.out.mono h.out.m)⟩
    have hrd := Me.rd_own g1.out (own_lt g1.out _ rfl) hr.1
    exact Me.conv_rd w' _ _ l _ hrd (fun e => by cases e)
  have HCv : Hid (∀ W, Below w.heap.size w W → (convert 33 9 (.slice A l.length cap)).run Try.prog W = .ok (.string (Me.strOf l)) W) := fun W hb => Me.conv_rd W _ A l cap (hr.below hb) hA
  have HFl : Hid (∀ W D (S : Ln), Hid (Lr w.heap.size (fun _ => False) W D S) → S.bs.length = l.length → k < l.length → Below w.heap.size w W → Calls Try.prog 19 #[.pointer (some ⟨D, 0, none⟩), .int .i64 (k : Int), .int .i64 3] W fun e w' => e = .returned (.int .i64 0) ∧ Hid (Lr w.heap.size (fun _ => False) w' D (flipL S k 3)) ∧ Hid (Below w.heap.size w w')) := fun W D S h hl hk hb => by
    refine (Flip_s h k 3 (by omega) (by decide)).mono ?_
    rintro e w' ⟨rfl, g1, g2⟩
    exact ⟨rfl, g1, hb.trans (but_out g2.out h.out.m)⟩
  have HDk : Hid (∀ W D, Hid (Lr w.heap.size (fun _ => False) W D (s3 l)) → Below w.heap.size w W → Calls Try.prog 18 #[.pointer (some ⟨D, 0, none⟩), .int .i64 (k : Int), .int .i64 (j : Int)] W fun e w' => e = .returned (.int .i64 0) ∧ Hid (Lr w.heap.size (fun _ => False) w' D (cutL (s3 l) k j)) ∧ Hid (Below w.heap.size w w')) := fun W D h hb => by
    refine (Drop_s h k j (by show k + j ≤ l.length; omega)).mono ?_
    rintro e w' ⟨rfl, g1, g2⟩
    exact ⟨rfl, g1, hb.trans (but_out g2.out h.out.m)⟩
  have HBk : Hid (∀ W D, Hid (Lr w.heap.size (fun _ => False) W D (cutL (s3 l) k j)) → Below w.heap.size w W → Calls Try.prog 11 #[.pointer (some ⟨D, 0, none⟩)] W fun e w' => ∃ B nb cb, e = .returned (.slice B nb cb) ∧ (convert 33 9 (.slice B nb cb)).run Try.prog w' = .ok (.string (Me.strOf (l.take k) ++ Me.strOf (l.drop (k + j)))) w' ∧ Hid (Below w.heap.size w w')) := fun W D h hb => by
    refine (Bytes_s h).mono ?_
    rintro e w' ⟨rfl, g1, g2⟩
    refine ⟨_, _, _, rfl, ?_, hb.trans (g2.out.mono h.out.m)⟩
    have hrd := Me.rd_own g1.out (own_lt g1.out _ rfl) h.out.ok.byte
    rw [strOf_app]
    exact Me.conv_rd w' _ _ (cutL (s3 l) k j).bs _ hrd (fun e => by cases e)
  have HCk : Hid (∀ W, Below w.heap.size w W → (convert 33 9 (.slice A k cap)).run Try.prog W = .ok (.string (Me.strOf (l.take k))) W) := fun W hb => by
    have := Me.conv_rd W _ A (l.take k) cap ((hr.below hb).take k) (fun e => by have := hA e; simp; omega)
    rw [List.length_take, Nat.min_eq_left hkm] at this
    exact this
  obtain ⟨A2, hA2, hr2, hn2⟩ := cut_any (f := k + j) hr (by omega) hlc hA
  have HCj : Hid (∀ W, Below w.heap.size w W → (convert 33 9 (.slice A2 (l.length - (k + j)) (cap - (k + j)))).run Try.prog W = .ok (.string (Me.strOf (l.drop (k + j)))) W) := fun W hb => by
    have := Me.conv_rd W _ A2 (l.drop (k + j)) (cap - (k + j)) (hr2.below hb) hn2
    rw [List.length_drop] at this
    exact this
  have HSz : Hid ((Me.strOf (l.take k)).size = k ∧ (Me.strOf (l.drop (k + j))).size = l.length - (k + j)) := ⟨by rw [strOf_size]; simp; omega, by rw [strOf_size]; simp⟩
  have HF2 : Hid (flipL (flipL (s3 l) k 3) k 3 = s3 l ∨ ¬ k < l.length) := by
    by_cases hk : k < l.length
    · exact .inl (flip_two (s3 l) k 3 hk)
    · exact .inr hk
  have HFl2 : Hid ((s3 l).bs.length = l.length ∧ (flipL (s3 l) k 3).bs.length = l.length) := ⟨rfl, by show (l.set k _).length = _; simp⟩
  obtain ⟨ST, hST⟩ : ∃ x, Me.strOf (l.take k) = x := ⟨_, rfl⟩
  obtain ⟨SU, hSU⟩ : ∃ x, Me.strOf (l.drop (k + j)) = x := ⟨_, rfl⟩
  rw [hST] at HBk HCk HSz
  rw [hSU] at HBk HCj HSz
  obtain ⟨m, hm⟩ : ∃ m, l.length = m := ⟨_, rfl⟩
  have HM : Hid (l.length = m) := hm
  rw [hm] at hlc hl3 hkm hwk hwj hjm HPut HBy HCv HLen HFl HCj HSz HF2 HFl2 ⊢
  obtain ⟨SL, hSL⟩ : ∃ x, Me.strOf l = x := ⟨_, rfl⟩
  have HSL : Hid (Me.strOf l = SL) := hSL
  rw [hSL] at HBy HCv
  have HR := Lib.hid hr
  have HAn := Lib.hid hA
  have HOK := Lib.hid ok3
  have hs3 := Lib.hid (rfl : s3 l = s3 l)
  obtain ⟨S1, hS1⟩ : ∃ x, s3 l = x := ⟨_, rfl⟩
  have HS1 : Hid (s3 l = S1) := hS1
  rw [hS1] at HPut HIns HLen HDr HBy HOK HDk HF2 HFl2
  obtain ⟨S2, hS2⟩ : ∃ x, insL S1 k 7 = x := ⟨_, rfl⟩
  rw [hS2] at HIns HLen HDr
  obtain ⟨S3, hS3⟩ : ∃ x, flipL S1 k 3 = x := ⟨_, rfl⟩
  have HS3 : Hid (flipL S1 k 3 = S3) := hS3
  rw [hS3] at HF2 HFl2
  have hcut : cutL (s3 l) k j = cutL S1 k j := by rw [hS1]
  rw [hcut] at HBk
  obtain ⟨S4, hS4⟩ : ∃ x, cutL S1 k j = x := ⟨_, rfl⟩
  rw [hS4] at HBk HDk
  clear hcut hS3 hS4 hST hSU hr2 hn2
  clear hr hA ok3 hSL hs3 hS1 hS2 hm hlong q
  have g1 : ¬ (3000 : Int) < (m : Int) := by omega
  have hkj : k + j ≤ m := by omega
  have u1 : (m : Int) ≤ 3000 := by omega
  have u2 : (k : Int) ≤ 3000 := by omega
  have u3 : (j : Int) ≤ 3000 := by omega
  have hmk : ((m - k : Nat) : Int) = (m : Int) - (k : Int) := by omega
  rw [hmk] at hwj
  clear hmk
  go_enter Try.func5, Try.ntmps5
  go_wp2_with (first
    | (go_at_call 7; refine HN.out.mono ?_; rintro e w1 ⟨rfl, HL1, HB1⟩)
    | (go_at_call 14; refine (HPut.out _ _ HL1 HB1.out).mono ?_; rintro e w2 ⟨rfl, HL2, HB2⟩))
  have HX1 : Hid (k ≤ cap ∧ (k : Int) ≤ (m : Int) ∧ 0 ≤ (k : Int)) := ⟨by omega, by omega, by omega⟩
  have HX2 : Hid (IntKind.i64.wrap ((k : Int) + (j : Int)) = ((k + j : Nat) : Int)) := by show _ = _; rw [Mi.fits' (Mi.small (by omega) (by omega))]; omega
  have HX3 : Hid ((if cap = k + j then A else Option.map (fun x => x.add (k + j)) A) = A2 ∧ ((k : Int) + (j : Int)).toNat = k + j ∧ 0 ≤ (k : Int) + (j : Int) ∧ (k : Int) + (j : Int) ≤ (m : Int)) := ⟨hA2, by omega, by omega, by omega⟩
  have HX4 : Hid (¬ 9223372036854775807 < ST.size + SU.size) := by show ¬ _; rw [HSz.out.1, HSz.out.2]; omega
  have hS0 : (convert 33 9 (.slice A m cap)).run Try.prog w2.drew = .ok (.string SL) w2.drew := HCv.out w2.drew HB2.out.drew
  have HW9 : Hid (IntKind.i64.wrap ((m : Int) + 1) = (m : Int) + 1) := Mi.fits' (Mi.small (by omega) (by omega))
  refine wp_region_held_drew (S := fun W => (convert 33 9 (.slice A m cap)).run Try.prog W = .ok (.string SL) W) (by kernel_rfl) hS0 (fun hHeld => ?_)
  refine wpAnyH_take (i := 0) (v := .pointer (some ⟨w.heap.size, 0, none⟩)) rfl (by kernel_rfl) (by kernel_rfl) (by kernel_rfl) (fun _ _ _ h => h) (Or.inl ⟨by rfl, ?_⟩) (by first | assumption | exact trivial) ?_
  · intro W hSW; go_simp; try (with_reducible rfl)
  simp only [Act.put, List.getElem_toArray, List.getElem_cons_succ, List.getElem_cons_zero, List.setIfInBounds_toArray, List.set_cons_zero, List.set_cons_succ]
  refine wpAnyH_take (i := 1) (v := .int .i64 (k : Int)) rfl (by kernel_rfl) (by kernel_rfl) (by kernel_rfl) (fun _ _ _ h => h) (Or.inl ⟨by rfl, ?_⟩) (by first | assumption | exact trivial) ?_
  · intro W hSW; go_simp; try (with_reducible rfl)
  simp only [Act.put, List.getElem_toArray, List.getElem_cons_succ, List.getElem_cons_zero, List.setIfInBounds_toArray, List.set_cons_zero, List.set_cons_succ]
  refine wpAnyH_ready (rs := [2]) (by kernel_rfl) (by simp) ?_
  refine AllReadyH.cons rfl (fun K hK => ?_) AllReadyH.nil
  go_simp
  have HL2d : Hid (Lr w.heap.size (fun _ => False) w2.drew w.heap.size S1) := HL2.out.below (Below.refl _ w2).drew
  go_wp2_with (go_at_call 17; refine (HIns.out _ _ HL2d HB2.out.drew).mono ?_; rintro e w3 ⟨rfl, HL3, HB3⟩)
  refine hK.out _ _ ((HCv.out _ HB3.out)) (fun hHeld => ?_)
  clear hK K
  refine wpAnyH_take (i := 3) (v := .bool false) rfl (by kernel_rfl) (by kernel_rfl) (by kernel_rfl) (fun _ _ _ h => h) (Or.inl ⟨by rfl, ?_⟩) (by first | assumption | exact trivial) ?_
  · intro W hSW; go_simp; try (with_reducible rfl)
  simp only [Act.put, List.getElem_toArray, List.getElem_cons_succ, List.getElem_cons_zero, List.setIfInBounds_toArray, List.set_cons_zero, List.set_cons_succ]
  refine wpAnyH_take (i := 4) (v := .bool false) rfl (by kernel_rfl) (by kernel_rfl) (by kernel_rfl) (fun _ _ _ h => h) (Or.inl ⟨by rfl, ?_⟩) (by first | assumption | exact trivial) ?_
  · intro W hSW; go_simp; try (with_reducible rfl)
  simp only [Act.put, List.getElem_toArray, List.getElem_cons_succ, List.getElem_cons_zero, List.setIfInBounds_toArray, List.set_cons_zero, List.set_cons_succ]
  refine wpAnyH_take (i := 5) (v := .pointer (some ⟨w.heap.size, 0, none⟩)) rfl (by kernel_rfl) (by kernel_rfl) (by kernel_rfl) (fun _ _ _ h => h) (Or.inl ⟨by rfl, ?_⟩) (by first | assumption | exact trivial) ?_
  · intro W hSW; go_simp; try (with_reducible rfl)
  simp only [Act.put, List.getElem_toArray, List.getElem_cons_succ, List.getElem_cons_zero, List.setIfInBounds_toArray, List.set_cons_zero, List.set_cons_succ]
  refine wpAnyH_take (i := 7) (v := .slice A m cap) rfl (by kernel_rfl) (by kernel_rfl) (by kernel_rfl) (fun _ _ _ h => h) (Or.inl ⟨by rfl, ?_⟩) (by first | assumption | exact trivial) ?_
  · intro W hSW; go_simp; try (with_reducible rfl)
  simp only [Act.put, List.getElem_toArray, List.getElem_cons_succ, List.getElem_cons_zero, List.setIfInBounds_toArray, List.set_cons_zero, List.set_cons_succ]
  refine wpAnyH_take (i := 8) (v := .int .i64 (m : Int)) rfl (by kernel_rfl) (by kernel_rfl) (by kernel_rfl) (fun _ _ _ h => h) (Or.inl ⟨by rfl, ?_⟩) (by first | assumption | exact trivial) ?_
  · intro W hSW; go_simp; try (with_reducible rfl)
  simp only [Act.put, List.getElem_toArray, List.getElem_cons_succ, List.getElem_cons_zero, List.setIfInBounds_toArray, List.set_cons_zero, List.set_cons_succ]
  refine wpAnyH_take (i := 9) (v := .int .i64 ((m : Int) + 1)) rfl (by kernel_rfl) (by kernel_rfl) (by kernel_rfl) (fun _ _ _ h => h) (Or.inl ⟨by rfl, ?_⟩) (by first | assumption | exact trivial) ?_
  · intro W hSW; have y := HW9.out; go_simp; try (with_reducible rfl)
  simp only [Act.put, List.getElem_toArray, List.getElem_cons_succ, List.getElem_cons_zero, List.setIfInBounds_toArray, List.set_cons_zero, List.set_cons_succ]
  refine wpAnyH_ready (rs := [6]) (by kernel_rfl) (by simp) ?_
  refine AllReadyH.cons rfl (fun K hK => ?_) AllReadyH.nil
  go_simp
  go_wp2_with (go_at_call 13; refine (HLen.out _ _ HL3).mono ?_; rintro e w3' ⟨rfl, rfl⟩)
  refine hK.out _ _ ((HCv.out _ HB3.out)) (fun hHeld => ?_)
  clear hK K
  refine wpAnyH_take (i := 10) (v := .bool false) rfl (by kernel_rfl) (by kernel_rfl) (by kernel_rfl) (fun _ _ _ h => h) (Or.inl ⟨by rfl, ?_⟩) (by first | assumption | exact trivial) ?_
  · intro W hSW; go_simp; try (with_reducible rfl)
  simp only [Act.put, List.getElem_toArray, List.getElem_cons_succ, List.getElem_cons_zero, List.setIfInBounds_toArray, List.set_cons_zero, List.set_cons_succ]
  refine wpAnyH_take (i := 11) (v := .bool false) rfl (by kernel_rfl) (by kernel_rfl) (by kernel_rfl) (fun _ _ _ h => h) (Or.inl ⟨by rfl, ?_⟩) (by first | assumption | exact trivial) ?_
  · intro W hSW; go_simp; try (with_reducible rfl)
  simp only [Act.put, List.getElem_toArray, List.getElem_cons_succ, List.getElem_cons_zero, List.setIfInBounds_toArray, List.set_cons_zero, List.set_cons_succ]
  refine wpAnyH_take (i := 12) (v := .bool false) rfl (by kernel_rfl) (by kernel_rfl) (by kernel_rfl) (fun _ _ _ h => h) (Or.inl ⟨by rfl, ?_⟩) (by first | assumption | exact trivial) ?_
  · intro W hSW; go_simp; try (with_reducible rfl)
  simp only [Act.put, List.getElem_toArray, List.getElem_cons_succ, List.getElem_cons_zero, List.setIfInBounds_toArray, List.set_cons_zero, List.set_cons_succ]
  refine wpAnyH_take (i := 13) (v := .pointer (some ⟨w.heap.size, 0, none⟩)) rfl (by kernel_rfl) (by kernel_rfl) (by kernel_rfl) (fun _ _ _ h => h) (Or.inl ⟨by rfl, ?_⟩) (by first | assumption | exact trivial) ?_
  · intro W hSW; go_simp; try (with_reducible rfl)
  simp only [Act.put, List.getElem_toArray, List.getElem_cons_succ, List.getElem_cons_zero, List.setIfInBounds_toArray, List.set_cons_zero, List.set_cons_succ]
  refine wpAnyH_take (i := 14) (v := .int .i64 (k : Int)) rfl (by kernel_rfl) (by kernel_rfl) (by kernel_rfl) (fun _ _ _ h => h) (Or.inl ⟨by rfl, ?_⟩) (by first | assumption | exact trivial) ?_
  · intro W hSW; go_simp; try (with_reducible rfl)
  simp only [Act.put, List.getElem_toArray, List.getElem_cons_succ, List.getElem_cons_zero, List.setIfInBounds_toArray, List.set_cons_zero, List.set_cons_succ]
  refine wpAnyH_ready (rs := [15]) (by kernel_rfl) (by simp) ?_
  refine AllReadyH.cons rfl (fun K hK => ?_) AllReadyH.nil
  go_simp
  go_wp2_with (go_at_call 18; refine (HDr.out _ _ HL3 HB3.out).mono ?_; rintro e w4 ⟨rfl, HL4, HB4⟩)
  refine hK.out _ _ ((HCv.out _ HB4.out)) (fun hHeld => ?_)
  clear hK K
  refine wpAnyH_take (i := 16) (v := .bool false) rfl (by kernel_rfl) (by kernel_rfl) (by kernel_rfl) (fun _ _ _ h => h) (Or.inl ⟨by rfl, ?_⟩) (by first | assumption | exact trivial) ?_
  · intro W hSW; go_simp; try (with_reducible rfl)
  simp only [Act.put, List.getElem_toArray, List.getElem_cons_succ, List.getElem_cons_zero, List.setIfInBounds_toArray, List.set_cons_zero, List.set_cons_succ]
  refine wpAnyH_take (i := 17) (v := .bool false) rfl (by kernel_rfl) (by kernel_rfl) (by kernel_rfl) (fun _ _ _ h => h) (Or.inl ⟨by rfl, ?_⟩) (by first | assumption | exact trivial) ?_
  · intro W hSW; go_simp; try (with_reducible rfl)
  simp only [Act.put, List.getElem_toArray, List.getElem_cons_succ, List.getElem_cons_zero, List.setIfInBounds_toArray, List.set_cons_zero, List.set_cons_succ]
  refine wpAnyH_take (i := 18) (v := .bool false) rfl (by kernel_rfl) (by kernel_rfl) (by kernel_rfl) (fun _ _ _ h => h) (Or.inl ⟨by rfl, ?_⟩) (by first | assumption | exact trivial) ?_
  · intro W hSW; go_simp; try (with_reducible rfl)
  simp only [Act.put, List.getElem_toArray, List.getElem_cons_succ, List.getElem_cons_zero, List.setIfInBounds_toArray, List.set_cons_zero, List.set_cons_succ]
  refine wpAnyH_take (i := 19) (v := .pointer (some ⟨w.heap.size, 0, none⟩)) rfl (by kernel_rfl) (by kernel_rfl) (by kernel_rfl) (fun _ _ _ h => h) (Or.inl ⟨by rfl, ?_⟩) (by first | assumption | exact trivial) ?_
  · intro W hSW; go_simp; try (with_reducible rfl)
  simp only [Act.put, List.getElem_toArray, List.getElem_cons_succ, List.getElem_cons_zero, List.setIfInBounds_toArray, List.set_cons_zero, List.set_cons_succ]
  refine wpAnyH_take (i := 22) (v := .slice A m cap) rfl (by kernel_rfl) (by kernel_rfl) (by kernel_rfl) (fun _ _ _ h => h) (Or.inl ⟨by rfl, ?_⟩) (by first | assumption | exact trivial) ?_
  · intro W hSW; go_simp; try (with_reducible rfl)
  simp only [Act.put, List.getElem_toArray, List.getElem_cons_succ, List.getElem_cons_zero, List.setIfInBounds_toArray, List.set_cons_zero, List.set_cons_succ]
  refine wpAnyH_take (i := 23) (v := .string SL) rfl (by kernel_rfl) (by kernel_rfl) (by kernel_rfl) (fun _ _ _ h => h) (Or.inl ⟨by rfl, ?_⟩) (by first | assumption | exact trivial) ?_
  · intro W hSW; have y := hSW; go_simp; try (with_reducible rfl)
  simp only [Act.put, List.getElem_toArray, List.getElem_cons_succ, List.getElem_cons_zero, List.setIfInBounds_toArray, List.set_cons_zero, List.set_cons_succ]
  refine wpAnyH_ready (rs := [20]) (by kernel_rfl) (by simp) ?_
  refine AllReadyH.cons rfl (fun K hK => ?_) AllReadyH.nil
  go_simp
  go_wp2_with (go_at_call 11; refine (HBy.out _ _ HL4 HB4.out).mono ?_; rintro e w5 ⟨B5, rfl, y5, HL5, HB5⟩)
  refine hK.out _ _ ((HCv.out _ HB5.out)) (fun hHeld => ?_)
  clear hK K
  refine wpAnyH_ready (rs := [21]) (by kernel_rfl) (by simp) ?_
  refine AllReadyH.cons rfl (fun K hK => ?_) AllReadyH.nil
  go_simp
  refine hK.out _ _ ((HCv.out _ HB5.out)) (fun hHeld => ?_)
  clear hK K
  refine wpAnyH_take (i := 24) (v := .bool false) rfl (by kernel_rfl) (by kernel_rfl) (by kernel_rfl) (fun _ _ _ h => h) (Or.inl ⟨by rfl, ?_⟩) (by first | assumption | exact trivial) ?_
  · intro W hSW; go_simp; try (with_reducible rfl)
  simp only [Act.put, List.getElem_toArray, List.getElem_cons_succ, List.getElem_cons_zero, List.setIfInBounds_toArray, List.set_cons_zero, List.set_cons_succ]
  refine wpAnyH_take (i := 25) (v := .bool false) rfl (by kernel_rfl) (by kernel_rfl) (by kernel_rfl) (fun _ _ _ h => h) (Or.inl ⟨by rfl, ?_⟩) (by first | assumption | exact trivial) ?_
  · intro W hSW; go_simp; try (with_reducible rfl)
  simp only [Act.put, List.getElem_toArray, List.getElem_cons_succ, List.getElem_cons_zero, List.setIfInBounds_toArray, List.set_cons_zero, List.set_cons_succ]
  refine wpAnyH_done (by kernel_rfl) ?_ _
  go_wp2
  obtain ⟨HL5d, HB5d⟩ : Hid (∀ q, Lr w.heap.size (fun _ => False) (w5.drewN q) w.heap.size S1) ∧ Hid (∀ q, Below w.heap.size w (w5.drewN q)) := ⟨fun q => HL5.out.below (Me.below_drewN (Below.refl _ w5) q), fun q => Me.below_drewN HB5.out q⟩
  by_cases hkl : k < m
  · have v1 : (k : Int) < (m : Int) := by omega
    have hS5 : (convert 33 9 (.slice A m cap)).run Try.prog w5.drew = .ok (.string SL) w5.drew := HCv.out w5.drew HB5.out.drew
    have HL5e : Hid (Lr w.heap.size (fun _ => False) w5.drew w.heap.size S1) := HL5.out.below (Below.refl _ w5).drew
    clear y5
    refine wp_region_held_drew (S := fun W => (convert 33 9 (.slice A m cap)).run Try.prog W = .ok (.string SL) W) (by kernel_rfl) hS5 (fun hHeld => ?_)
    refine wpAnyH_take (i := 0) (v := .int .i64 (k : Int)) rfl (by kernel_rfl) (by kernel_rfl) (by kernel_rfl) (fun _ _ _ h => h) (Or.inl ⟨by rfl, ?_⟩) (by first | assumption | exact trivial) ?_
    · intro W hSW; go_simp; try (with_reducible rfl)
    simp only [Act.put, List.getElem_toArray, List.getElem_cons_succ, List.getElem_cons_zero, List.setIfInBounds_toArray, List.set_cons_zero, List.set_cons_succ]
    refine wpAnyH_take (i := 1) (v := .slice A m cap) rfl (by kernel_rfl) (by kernel_rfl) (by kernel_rfl) (fun _ _ _ h => h) (Or.inl ⟨by rfl, ?_⟩) (by first | assumption | exact trivial) ?_
    · intro W hSW; go_simp; try (with_reducible rfl)
    simp only [Act.put, List.getElem_toArray, List.getElem_cons_succ, List.getElem_cons_zero, List.setIfInBounds_toArray, List.set_cons_zero, List.set_cons_succ]
    refine wpAnyH_take (i := 2) (v := .int .i64 (m : Int)) rfl (by kernel_rfl) (by kernel_rfl) (by kernel_rfl) (fun _ _ _ h => h) (Or.inl ⟨by rfl, ?_⟩) (by first | assumption | exact trivial) ?_
    · intro W hSW; go_simp; try (with_reducible rfl)
    simp only [Act.put, List.getElem_toArray, List.getElem_cons_succ, List.getElem_cons_zero, List.setIfInBounds_toArray, List.set_cons_zero, List.set_cons_succ]
    refine wpAnyH_take (i := 3) (v := .bool true) rfl (by kernel_rfl) (by kernel_rfl) (by kernel_rfl) (fun _ _ _ h => h) (Or.inl ⟨by rfl, ?_⟩) (by first | assumption | exact trivial) ?_
    · intro W hSW; go_simp; try (with_reducible rfl)
    simp only [Act.put, List.getElem_toArray, List.getElem_cons_succ, List.getElem_cons_zero, List.setIfInBounds_toArray, List.set_cons_zero, List.set_cons_succ]
    refine wpAnyH_take (i := 4) (v := .bool true) rfl (by kernel_rfl) (by kernel_rfl) (by kernel_rfl) (fun _ _ _ h => h) (Or.inl ⟨by rfl, ?_⟩) (by first | assumption | exact trivial) ?_
    · intro W hSW; go_simp; try (with_reducible rfl)
    simp only [Act.put, List.getElem_toArray, List.getElem_cons_succ, List.getElem_cons_zero, List.setIfInBounds_toArray, List.set_cons_zero, List.set_cons_succ]
    refine wpAnyH_take (i := 5) (v := .pointer (some ⟨w.heap.size, 0, none⟩)) rfl (by kernel_rfl) (by kernel_rfl) (by kernel_rfl) (fun _ _ _ h => h) (Or.inl ⟨by rfl, ?_⟩) (by first | assumption | exact trivial) ?_
    · intro W hSW; go_simp; try (with_reducible rfl)
    simp only [Act.put, List.getElem_toArray, List.getElem_cons_succ, List.getElem_cons_zero, List.setIfInBounds_toArray, List.set_cons_zero, List.set_cons_succ]
    refine wpAnyH_take (i := 6) (v := .int .i64 (k : Int)) rfl (by kernel_rfl) (by kernel_rfl) (by kernel_rfl) (fun _ _ _ h => h) (Or.inl ⟨by rfl, ?_⟩) (by first | assumption | exact trivial) ?_
    · intro W hSW; go_simp; try (with_reducible rfl)
    simp only [Act.put, List.getElem_toArray, List.getElem_cons_succ, List.getElem_cons_zero, List.setIfInBounds_toArray, List.set_cons_zero, List.set_cons_succ]
    refine wpAnyH_ready (rs := [7]) (by kernel_rfl) (by simp) ?_
    refine AllReadyH.cons rfl (fun K hK => ?_) AllReadyH.nil
    go_simp
    go_wp2_with (go_at_call 19; refine (HFl.out _ _ _ HL5e HFl2.out.1 hkl HB5.out.drew).mono ?_; rintro e w6 ⟨rfl, HL6, HB6⟩; rw [HS3.out] at HL6)
    refine hK.out _ _ ((HCv.out _ HB6.out)) (fun hHeld => ?_)
    clear hK K
    refine wpAnyH_take (i := 8) (v := .bool false) rfl (by kernel_rfl) (by kernel_rfl) (by kernel_rfl) (fun _ _ _ h => h) (Or.inl ⟨by rfl, ?_⟩) (by first | assumption | exact trivial) ?_
    · intro W hSW; go_simp; try (with_reducible rfl)
    simp only [Act.put, List.getElem_toArray, List.getElem_cons_succ, List.getElem_cons_zero, List.setIfInBounds_toArray, List.set_cons_zero, List.set_cons_succ]
    refine wpAnyH_take (i := 9) (v := .bool false) rfl (by kernel_rfl) (by kernel_rfl) (by kernel_rfl) (fun _ _ _ h => h) (Or.inl ⟨by rfl, ?_⟩) (by first | assumption | exact trivial) ?_
    · intro W hSW; go_simp; try (with_reducible rfl)
    simp only [Act.put, List.getElem_toArray, List.getElem_cons_succ, List.getElem_cons_zero, List.setIfInBounds_toArray, List.set_cons_zero, List.set_cons_succ]
    refine wpAnyH_take (i := 10) (v := .pointer (some ⟨w.heap.size, 0, none⟩)) rfl (by kernel_rfl) (by kernel_rfl) (by kernel_rfl) (fun _ _ _ h => h) (Or.inl ⟨by rfl, ?_⟩) (by first | assumption | exact trivial) ?_
    · intro W hSW; go_simp; try (with_reducible rfl)
    simp only [Act.put, List.getElem_toArray, List.getElem_cons_succ, List.getElem_cons_zero, List.setIfInBounds_toArray, List.set_cons_zero, List.set_cons_succ]
    refine wpAnyH_take (i := 11) (v := .int .i64 (k : Int)) rfl (by kernel_rfl) (by kernel_rfl) (by kernel_rfl) (fun _ _ _ h => h) (Or.inl ⟨by rfl, ?_⟩) (by first | assumption | exact trivial) ?_
    · intro W hSW; go_simp; try (with_reducible rfl)
    simp only [Act.put, List.getElem_toArray, List.getElem_cons_succ, List.getElem_cons_zero, List.setIfInBounds_toArray, List.set_cons_zero, List.set_cons_succ]
    refine wpAnyH_ready (rs := [12]) (by kernel_rfl) (by simp) ?_
    refine AllReadyH.cons rfl (fun K hK => ?_) AllReadyH.nil
    go_simp
    go_wp2_with (go_at_call 19; refine (HFl.out _ _ _ HL6 HFl2.out.2 hkl HB6.out).mono ?_; rintro e w7 ⟨rfl, HL7, HB7⟩; rw [HF2.out.resolve_right (fun h => h hkl)] at HL7)
    refine hK.out _ _ ((HCv.out _ HB7.out)) (fun hHeld => ?_)
    clear hK K
    refine wpAnyH_take (i := 13) (v := .bool false) rfl (by kernel_rfl) (by kernel_rfl) (by kernel_rfl) (fun _ _ _ h => h) (Or.inl ⟨by rfl, ?_⟩) (by first | assumption | exact trivial) ?_
    · intro W hSW; go_simp; try (with_reducible rfl)
    simp only [Act.put, List.getElem_toArray, List.getElem_cons_succ, List.getElem_cons_zero, List.setIfInBounds_toArray, List.set_cons_zero, List.set_cons_succ]
    refine wpAnyH_take (i := 14) (v := .bool false) rfl (by kernel_rfl) (by kernel_rfl) (by kernel_rfl) (fun _ _ _ h => h) (Or.inl ⟨by rfl, ?_⟩) (by first | assumption | exact trivial) ?_
    · intro W hSW; go_simp; try (with_reducible rfl)
    simp only [Act.put, List.getElem_toArray, List.getElem_cons_succ, List.getElem_cons_zero, List.setIfInBounds_toArray, List.set_cons_zero, List.set_cons_succ]
    refine wpAnyH_take (i := 15) (v := .bool false) rfl (by kernel_rfl) (by kernel_rfl) (by kernel_rfl) (fun _ _ _ h => h) (Or.inl ⟨by rfl, ?_⟩) (by first | assumption | exact trivial) ?_
    · intro W hSW; go_simp; try (with_reducible rfl)
    simp only [Act.put, List.getElem_toArray, List.getElem_cons_succ, List.getElem_cons_zero, List.setIfInBounds_toArray, List.set_cons_zero, List.set_cons_succ]
    refine wpAnyH_take (i := 16) (v := .pointer (some ⟨w.heap.size, 0, none⟩)) rfl (by kernel_rfl) (by kernel_rfl) (by kernel_rfl) (fun _ _ _ h => h) (Or.inl ⟨by rfl, ?_⟩) (by first | assumption | exact trivial) ?_
    · intro W hSW; go_simp; try (with_reducible rfl)
    simp only [Act.put, List.getElem_toArray, List.getElem_cons_succ, List.getElem_cons_zero, List.setIfInBounds_toArray, List.set_cons_zero, List.set_cons_succ]
    refine wpAnyH_take (i := 19) (v := .slice A m cap) rfl (by kernel_rfl) (by kernel_rfl) (by kernel_rfl) (fun _ _ _ h => h) (Or.inl ⟨by rfl, ?_⟩) (by first | assumption | exact trivial) ?_
    · intro W hSW; go_simp; try (with_reducible rfl)
    simp only [Act.put, List.getElem_toArray, List.getElem_cons_succ, List.getElem_cons_zero, List.setIfInBounds_toArray, List.set_cons_zero, List.set_cons_succ]
    refine wpAnyH_take (i := 20) (v := .string SL) rfl (by kernel_rfl) (by kernel_rfl) (by kernel_rfl) (fun _ _ _ h => h) (Or.inl ⟨by rfl, ?_⟩) (by first | assumption | exact trivial) ?_
    · intro W hSW; have y := hSW; go_simp; try (with_reducible rfl)
    simp only [Act.put, List.getElem_toArray, List.getElem_cons_succ, List.getElem_cons_zero, List.setIfInBounds_toArray, List.set_cons_zero, List.set_cons_succ]
    refine wpAnyH_ready (rs := [17]) (by kernel_rfl) (by simp) ?_
    refine AllReadyH.cons rfl (fun K hK => ?_) AllReadyH.nil
    go_simp
    go_wp2_with (go_at_call 11; refine (HBy.out _ _ HL7 HB7.out).mono ?_; rintro e w8 ⟨B8, rfl, y8, HL8, HB8⟩)
    refine hK.out _ _ ((HCv.out _ HB8.out)) (fun hHeld => ?_)
    clear hK K
    refine wpAnyH_ready (rs := [18]) (by kernel_rfl) (by simp) ?_
    refine AllReadyH.cons rfl (fun K hK => ?_) AllReadyH.nil
    go_simp
    refine hK.out _ _ ((HCv.out _ HB8.out)) (fun hHeld => ?_)
    clear hK K
    refine wpAnyH_take (i := 21) (v := .bool false) rfl (by kernel_rfl) (by kernel_rfl) (by kernel_rfl) (fun _ _ _ h => h) (Or.inl ⟨by rfl, ?_⟩) (by first | assumption | exact trivial) ?_
    · intro W hSW; go_simp; try (with_reducible rfl)
    simp only [Act.put, List.getElem_toArray, List.getElem_cons_succ, List.getElem_cons_zero, List.setIfInBounds_toArray, List.set_cons_zero, List.set_cons_succ]
    refine wpAnyH_take (i := 22) (v := .bool false) rfl (by kernel_rfl) (by kernel_rfl) (by kernel_rfl) (fun _ _ _ h => h) (Or.inl ⟨by rfl, ?_⟩) (by first | assumption | exact trivial) ?_
    · intro W hSW; go_simp; try (with_reducible rfl)
    simp only [Act.put, List.getElem_toArray, List.getElem_cons_succ, List.getElem_cons_zero, List.setIfInBounds_toArray, List.set_cons_zero, List.set_cons_succ]
    refine wpAnyH_take (i := 23) (v := .bool false) rfl (by kernel_rfl) (by kernel_rfl) (by kernel_rfl) (fun _ _ _ h => h) (Or.inl ⟨by rfl, ?_⟩) (by first | assumption | exact trivial) ?_
    · intro W hSW; go_simp; try (with_reducible rfl)
    simp only [Act.put, List.getElem_toArray, List.getElem_cons_succ, List.getElem_cons_zero, List.setIfInBounds_toArray, List.set_cons_zero, List.set_cons_succ]
    refine wpAnyH_done (by kernel_rfl) ?_ _
    go_wp2
    have HL8d : Hid (Lr w.heap.size (fun _ => False) w8.drew w.heap.size S1) := HL8.out.below (Below.refl _ w8).drew
    have hS8 : (convert 33 9 (.slice A k cap)).run Try.prog w8.drew = .ok (.string ST) w8.drew ∧ (convert 33 9 (.slice A2 (m - (k + j)) (cap - (k + j)))).run Try.prog w8.drew = .ok (.string SU) w8.drew := ⟨HCk.out _ HB8.out.drew, HCj.out _ HB8.out.drew⟩
    clear hS0
    refine wp_region_held_drew (S := fun W => (convert 33 9 (.slice A k cap)).run Try.prog W = .ok (.string ST) W ∧ (convert 33 9 (.slice A2 (m - (k + j)) (cap - (k + j)))).run Try.prog W = .ok (.string SU) W) (by kernel_rfl) hS8 (fun hHeld => ?_)
    refine wpAnyH_take (i := 0) (v := .pointer (some ⟨w.heap.size, 0, none⟩)) rfl (by kernel_rfl) (by kernel_rfl) (by kernel_rfl) (fun _ _ _ h => h) (Or.inl ⟨by rfl, ?_⟩) (by first | assumption | exact trivial) ?_
    · intro W hSW; go_simp; try (with_reducible rfl)
    simp only [Act.put, List.getElem_toArray, List.getElem_cons_succ, List.getElem_cons_zero, List.setIfInBounds_toArray, List.set_cons_zero, List.set_cons_succ]
    refine wpAnyH_take (i := 1) (v := .int .i64 (k : Int)) rfl (by kernel_rfl) (by kernel_rfl) (by kernel_rfl) (fun _ _ _ h => h) (Or.inl ⟨by rfl, ?_⟩) (by first | assumption | exact trivial) ?_
    · intro W hSW; go_simp; try (with_reducible rfl)
    simp only [Act.put, List.getElem_toArray, List.getElem_cons_succ, List.getElem_cons_zero, List.setIfInBounds_toArray, List.set_cons_zero, List.set_cons_succ]
    refine wpAnyH_take (i := 2) (v := .int .i64 (j : Int)) rfl (by kernel_rfl) (by kernel_rfl) (by kernel_rfl) (fun _ _ _ h => h) (Or.inl ⟨by rfl, ?_⟩) (by first | assumption | exact trivial) ?_
    · intro W hSW; go_simp; try (with_reducible rfl)
    simp only [Act.put, List.getElem_toArray, List.getElem_cons_succ, List.getElem_cons_zero, List.setIfInBounds_toArray, List.set_cons_zero, List.set_cons_succ]
    refine wpAnyH_ready (rs := [3]) (by kernel_rfl) (by simp) ?_
    refine AllReadyH.cons rfl (fun K hK => ?_) AllReadyH.nil
    go_simp
    go_wp2_with (go_at_call 18; refine (HDk.out _ _ HL8d HB8.out.drew).mono ?_; rintro e w9 ⟨rfl, HL9, HB9⟩)
    refine hK.out _ _ (⟨HCk.out _ HB9.out, HCj.out _ HB9.out⟩) (fun hHeld => ?_)
    clear hK K
    refine wpAnyH_take (i := 4) (v := .bool true) rfl (by kernel_rfl) (by kernel_rfl) (by kernel_rfl) (fun _ _ _ h => h) (Or.inl ⟨by rfl, ?_⟩) (by first | assumption | exact trivial) ?_
    · intro W hSW; go_simp; try (with_reducible rfl)
    simp only [Act.put, List.getElem_toArray, List.getElem_cons_succ, List.getElem_cons_zero, List.setIfInBounds_toArray, List.set_cons_zero, List.set_cons_succ]
    refine wpAnyH_take (i := 5) (v := .bool true) rfl (by kernel_rfl) (by kernel_rfl) (by kernel_rfl) (fun _ _ _ h => h) (Or.inl ⟨by rfl, ?_⟩) (by first | assumption | exact trivial) ?_
    · intro W hSW; go_simp; try (with_reducible rfl)
    simp only [Act.put, List.getElem_toArray, List.getElem_cons_succ, List.getElem_cons_zero, List.setIfInBounds_toArray, List.set_cons_zero, List.set_cons_succ]
    refine wpAnyH_take (i := 6) (v := .pointer (some ⟨w.heap.size, 0, none⟩)) rfl (by kernel_rfl) (by kernel_rfl) (by kernel_rfl) (fun _ _ _ h => h) (Or.inl ⟨by rfl, ?_⟩) (by first | assumption | exact trivial) ?_
    · intro W hSW; go_simp; try (with_reducible rfl)
    simp only [Act.put, List.getElem_toArray, List.getElem_cons_succ, List.getElem_cons_zero, List.setIfInBounds_toArray, List.set_cons_zero, List.set_cons_succ]
    refine wpAnyH_take (i := 9) (v := .slice A m cap) rfl (by kernel_rfl) (by kernel_rfl) (by kernel_rfl) (fun _ _ _ h => h) (Or.inl ⟨by rfl, ?_⟩) (by first | assumption | exact trivial) ?_
    · intro W hSW; go_simp; try (with_reducible rfl)
    simp only [Act.put, List.getElem_toArray, List.getElem_cons_succ, List.getElem_cons_zero, List.setIfInBounds_toArray, List.set_cons_zero, List.set_cons_succ]
    refine wpAnyH_take (i := 10) (v := .int .i64 (k : Int)) rfl (by kernel_rfl) (by kernel_rfl) (by kernel_rfl) (fun _ _ _ h => h) (Or.inl ⟨by rfl, ?_⟩) (by first | assumption | exact trivial) ?_
    · intro W hSW; go_simp; try (with_reducible rfl)
    simp only [Act.put, List.getElem_toArray, List.getElem_cons_succ, List.getElem_cons_zero, List.setIfInBounds_toArray, List.set_cons_zero, List.set_cons_succ]
    refine wpAnyH_take (i := 11) (v := .slice A k cap) rfl (by kernel_rfl) (by kernel_rfl) (by kernel_rfl) (fun _ _ _ h => h) (Or.inl ⟨by rfl, ?_⟩) (by first | assumption | exact trivial) ?_
    · intro W hSW; have y := HX1.out; go_simp; try (with_reducible rfl)
    simp only [Act.put, List.getElem_toArray, List.getElem_cons_succ, List.getElem_cons_zero, List.setIfInBounds_toArray, List.set_cons_zero, List.set_cons_succ]
    refine wpAnyH_take (i := 12) (v := .string ST) rfl (by kernel_rfl) (by kernel_rfl) (by kernel_rfl) (fun _ _ _ h => h) (Or.inl ⟨by rfl, ?_⟩) (by first | assumption | exact trivial) ?_
    · intro W hSW; have y := hSW.1; go_simp; try (with_reducible rfl)
    simp only [Act.put, List.getElem_toArray, List.getElem_cons_succ, List.getElem_cons_zero, List.setIfInBounds_toArray, List.set_cons_zero, List.set_cons_succ]
    refine wpAnyH_take (i := 13) (v := .slice A m cap) rfl (by kernel_rfl) (by kernel_rfl) (by kernel_rfl) (fun _ _ _ h => h) (Or.inl ⟨by rfl, ?_⟩) (by first | assumption | exact trivial) ?_
    · intro W hSW; go_simp; try (with_reducible rfl)
    simp only [Act.put, List.getElem_toArray, List.getElem_cons_succ, List.getElem_cons_zero, List.setIfInBounds_toArray, List.set_cons_zero, List.set_cons_succ]
    refine wpAnyH_take (i := 14) (v := .int .i64 (k : Int)) rfl (by kernel_rfl) (by kernel_rfl) (by kernel_rfl) (fun _ _ _ h => h) (Or.inl ⟨by rfl, ?_⟩) (by first | assumption | exact trivial) ?_
    · intro W hSW; go_simp; try (with_reducible rfl)
    simp only [Act.put, List.getElem_toArray, List.getElem_cons_succ, List.getElem_cons_zero, List.setIfInBounds_toArray, List.set_cons_zero, List.set_cons_succ]
    refine wpAnyH_take (i := 15) (v := .int .i64 (j : Int)) rfl (by kernel_rfl) (by kernel_rfl) (by kernel_rfl) (fun _ _ _ h => h) (Or.inl ⟨by rfl, ?_⟩) (by first | assumption | exact trivial) ?_
    · intro W hSW; go_simp; try (with_reducible rfl)
    simp only [Act.put, List.getElem_toArray, List.getElem_cons_succ, List.getElem_cons_zero, List.setIfInBounds_toArray, List.set_cons_zero, List.set_cons_succ]
    refine wpAnyH_take (i := 16) (v := .int .i64 ((k + j : Nat) : Int)) rfl (by kernel_rfl) (by kernel_rfl) (by kernel_rfl) (fun _ _ _ h => h) (Or.inl ⟨by rfl, ?_⟩) (by first | assumption | exact trivial) ?_
    · intro W hSW; have y := HX2.out; go_simp; try (with_reducible rfl)
    simp only [Act.put, List.getElem_toArray, List.getElem_cons_succ, List.getElem_cons_zero, List.setIfInBounds_toArray, List.set_cons_zero, List.set_cons_succ]
    refine wpAnyH_take (i := 17) (v := .slice A2 (m - (k + j)) (cap - (k + j))) rfl (by kernel_rfl) (by kernel_rfl) (by kernel_rfl) (fun _ _ _ h => h) (Or.inl ⟨by rfl, ?_⟩) (by first | assumption | exact trivial) ?_
    · intro W hSW; (obtain ⟨y0, y1, y2, y3⟩ := HX3.out); go_simp; try (with_reducible rfl)
    simp only [Act.put, List.getElem_toArray, List.getElem_cons_succ, List.getElem_cons_zero, List.setIfInBounds_toArray, List.set_cons_zero, List.set_cons_succ]
    refine wpAnyH_take (i := 18) (v := .string SU) rfl (by kernel_rfl) (by kernel_rfl) (by kernel_rfl) (fun _ _ _ h => h) (Or.inl ⟨by rfl, ?_⟩) (by first | assumption | exact trivial) ?_
    · intro W hSW; have y := hSW.2; go_simp; try (with_reducible rfl)
    simp only [Act.put, List.getElem_toArray, List.getElem_cons_succ, List.getElem_cons_zero, List.setIfInBounds_toArray, List.set_cons_zero, List.set_cons_succ]
    refine wpAnyH_take (i := 19) (v := .string (ST ++ SU)) rfl (by kernel_rfl) (by kernel_rfl) (by kernel_rfl) (fun _ _ _ h => h) (Or.inl ⟨by rfl, ?_⟩) (by first | assumption | exact trivial) ?_
    · intro W hSW; have y := HX4.out; go_simp; try (with_reducible rfl)
    simp only [Act.put, List.getElem_toArray, List.getElem_cons_succ, List.getElem_cons_zero, List.setIfInBounds_toArray, List.set_cons_zero, List.set_cons_succ]
    refine wpAnyH_ready (rs := [7]) (by kernel_rfl) (by simp) ?_
    refine AllReadyH.cons rfl (fun K hK => ?_) AllReadyH.nil
    go_simp
    go_wp2_with (go_at_call 11; refine (HBk.out _ _ HL9 HB9.out).mono ?_; rintro e w10 ⟨B10, n10, c10, rfl, y10, HB10⟩)
    refine hK.out _ _ (⟨HCk.out _ HB10.out, HCj.out _ HB10.out⟩) (fun hHeld => ?_)
    clear hK K
    refine wpAnyH_ready (rs := [8]) (by kernel_rfl) (by simp) ?_
    refine AllReadyH.cons rfl (fun K hK => ?_) AllReadyH.nil
    go_simp
    refine hK.out _ _ (⟨HCk.out _ HB10.out, HCj.out _ HB10.out⟩) (fun hHeld => ?_)
    clear hK K
    refine wpAnyH_take (i := 20) (v := .bool true) rfl (by kernel_rfl) (by kernel_rfl) (by kernel_rfl) (fun _ _ _ h => h) (Or.inl ⟨by rfl, ?_⟩) (by first | assumption | exact trivial) ?_
    · intro W hSW; go_simp; try (with_reducible rfl)
    simp only [Act.put, List.getElem_toArray, List.getElem_cons_succ, List.getElem_cons_zero, List.setIfInBounds_toArray, List.set_cons_zero, List.set_cons_succ]
    refine wpAnyH_take (i := 21) (v := .bool true) rfl (by kernel_rfl) (by kernel_rfl) (by kernel_rfl) (fun _ _ _ h => h) (Or.inl ⟨by rfl, ?_⟩) (by first | assumption | exact trivial) ?_
    · intro W hSW; go_simp; try (with_reducible rfl)
    simp only [Act.put, List.getElem_toArray, List.getElem_cons_succ, List.getElem_cons_zero, List.setIfInBounds_toArray, List.set_cons_zero, List.set_cons_succ]
    refine wpAnyH_take (i := 22) (v := .bool true) rfl (by kernel_rfl) (by kernel_rfl) (by kernel_rfl) (fun _ _ _ h => h) (Or.inl ⟨by rfl, ?_⟩) (by first | assumption | exact trivial) ?_
    · intro W hSW; go_simp; try (with_reducible rfl)
    simp only [Act.put, List.getElem_toArray, List.getElem_cons_succ, List.getElem_cons_zero, List.setIfInBounds_toArray, List.set_cons_zero, List.set_cons_succ]
    refine wpAnyH_ready (rs := [23]) (by kernel_rfl) (by simp) ?_
    refine AllReadyH.cons rfl (fun K hK => ?_) AllReadyH.nil
    go_simp
    go_wp2_with (go_at_call 9; refine (HA.out _).mono ?_; rintro e w11 ⟨rfl, HB11⟩)
    refine hK.out _ _ (⟨HCk.out _ (HB10.out.trans (HB11.out.mono HB10.out.size)), HCj.out _ (HB10.out.trans (HB11.out.mono HB10.out.size))⟩) (fun hHeld => ?_)
    clear hK K
    refine wpAnyH_take (i := 24) (v := .bool true) rfl (by kernel_rfl) (by kernel_rfl) (by kernel_rfl) (fun _ _ _ h => h) (Or.inl ⟨by rfl, ?_⟩) (by first | assumption | exact trivial) ?_
    · intro W hSW; go_simp; try (with_reducible rfl)
    simp only [Act.put, List.getElem_toArray, List.getElem_cons_succ, List.getElem_cons_zero, List.setIfInBounds_toArray, List.set_cons_zero, List.set_cons_succ]
    refine wpAnyH_take (i := 25) (v := .bool true) rfl (by kernel_rfl) (by kernel_rfl) (by kernel_rfl) (fun _ _ _ h => h) (Or.inl ⟨by rfl, ?_⟩) (by first | assumption | exact trivial) ?_
    · intro W hSW; go_simp; try (with_reducible rfl)
    simp only [Act.put, List.getElem_toArray, List.getElem_cons_succ, List.getElem_cons_zero, List.setIfInBounds_toArray, List.set_cons_zero, List.set_cons_succ]
    refine wpAnyH_done (by kernel_rfl) ?_ _
    go_wp2
    go_ret
    exact ⟨rfl, HB10.out.trans (HB11.out.mono HB10.out.size)⟩
  · have v1 : ¬ (k : Int) < (m : Int) := by omega
    have v2 : decide ((k : Int) < (m : Int)) = false := decide_eq_false v1
    clear y5
    go_quiet (fail)
    go_wp2
    obtain ⟨w8, hw8⟩ : ∃ W, w5.drewN nq = W := ⟨_, rfl⟩
    have HL8 := Lib.hid (HL5d.out nq)
    have HB8 := Lib.hid (HB5d.out nq)
    rw [hw8] at HL8 HB8 ⊢
    have HL8d : Hid (Lr w.heap.size (fun _ => False) w8.drew w.heap.size S1) := HL8.out.below (Below.refl _ w8).drew
    have hS8 : (convert 33 9 (.slice A k cap)).run Try.prog w8.drew = .ok (.string ST) w8.drew ∧ (convert 33 9 (.slice A2 (m - (k + j)) (cap - (k + j)))).run Try.prog w8.drew = .ok (.string SU) w8.drew := ⟨HCk.out _ HB8.out.drew, HCj.out _ HB8.out.drew⟩
    clear hS0
    refine wp_region_held_drew (S := fun W => (convert 33 9 (.slice A k cap)).run Try.prog W = .ok (.string ST) W ∧ (convert 33 9 (.slice A2 (m - (k + j)) (cap - (k + j)))).run Try.prog W = .ok (.string SU) W) (by kernel_rfl) hS8 (fun hHeld => ?_)
    refine wpAnyH_take (i := 0) (v := .pointer (some ⟨w.heap.size, 0, none⟩)) rfl (by kernel_rfl) (by kernel_rfl) (by kernel_rfl) (fun _ _ _ h => h) (Or.inl ⟨by rfl, ?_⟩) (by first | assumption | exact trivial) ?_
    · intro W hSW; go_simp; try (with_reducible rfl)
    simp only [Act.put, List.getElem_toArray, List.getElem_cons_succ, List.getElem_cons_zero, List.setIfInBounds_toArray, List.set_cons_zero, List.set_cons_succ]
    refine wpAnyH_take (i := 1) (v := .int .i64 (k : Int)) rfl (by kernel_rfl) (by kernel_rfl) (by kernel_rfl) (fun _ _ _ h => h) (Or.inl ⟨by rfl, ?_⟩) (by first | assumption | exact trivial) ?_
    · intro W hSW; go_simp; try (with_reducible rfl)
    simp only [Act.put, List.getElem_toArray, List.getElem_cons_succ, List.getElem_cons_zero, List.setIfInBounds_toArray, List.set_cons_zero, List.set_cons_succ]
    refine wpAnyH_take (i := 2) (v := .int .i64 (j : Int)) rfl (by kernel_rfl) (by kernel_rfl) (by kernel_rfl) (fun _ _ _ h => h) (Or.inl ⟨by rfl, ?_⟩) (by first | assumption | exact trivial) ?_
    · intro W hSW; go_simp; try (with_reducible rfl)
    simp only [Act.put, List.getElem_toArray, List.getElem_cons_succ, List.getElem_cons_zero, List.setIfInBounds_toArray, List.set_cons_zero, List.set_cons_succ]
    refine wpAnyH_ready (rs := [3]) (by kernel_rfl) (by simp) ?_
    refine AllReadyH.cons rfl (fun K hK => ?_) AllReadyH.nil
    go_simp
    go_wp2_with (go_at_call 18; refine (HDk.out _ _ HL8d HB8.out.drew).mono ?_; rintro e w9 ⟨rfl, HL9, HB9⟩)
    refine hK.out _ _ (⟨HCk.out _ HB9.out, HCj.out _ HB9.out⟩) (fun hHeld => ?_)
    clear hK K
    refine wpAnyH_take (i := 4) (v := .bool true) rfl (by kernel_rfl) (by kernel_rfl) (by kernel_rfl) (fun _ _ _ h => h) (Or.inl ⟨by rfl, ?_⟩) (by first | assumption | exact trivial) ?_
    · intro W hSW; go_simp; try (with_reducible rfl)
    simp only [Act.put, List.getElem_toArray, List.getElem_cons_succ, List.getElem_cons_zero, List.setIfInBounds_toArray, List.set_cons_zero, List.set_cons_succ]
    refine wpAnyH_take (i := 5) (v := .bool true) rfl (by kernel_rfl) (by kernel_rfl) (by kernel_rfl) (fun _ _ _ h => h) (Or.inl ⟨by rfl, ?_⟩) (by first | assumption | exact trivial) ?_
    · intro W hSW; go_simp; try (with_reducible rfl)
    simp only [Act.put, List.getElem_toArray, List.getElem_cons_succ, List.getElem_cons_zero, List.setIfInBounds_toArray, List.set_cons_zero, List.set_cons_succ]
    refine wpAnyH_take (i := 6) (v := .pointer (some ⟨w.heap.size, 0, none⟩)) rfl (by kernel_rfl) (by kernel_rfl) (by kernel_rfl) (fun _ _ _ h => h) (Or.inl ⟨by rfl, ?_⟩) (by first | assumption | exact trivial) ?_
    · intro W hSW; go_simp; try (with_reducible rfl)
    simp only [Act.put, List.getElem_toArray, List.getElem_cons_succ, List.getElem_cons_zero, List.setIfInBounds_toArray, List.set_cons_zero, List.set_cons_succ]
    refine wpAnyH_take (i := 9) (v := .slice A m cap) rfl (by kernel_rfl) (by kernel_rfl) (by kernel_rfl) (fun _ _ _ h => h) (Or.inl ⟨by rfl, ?_⟩) (by first | assumption | exact trivial) ?_
    · intro W hSW; go_simp; try (with_reducible rfl)
    simp only [Act.put, List.getElem_toArray, List.getElem_cons_succ, List.getElem_cons_zero, List.setIfInBounds_toArray, List.set_cons_zero, List.set_cons_succ]
    refine wpAnyH_take (i := 10) (v := .int .i64 (k : Int)) rfl (by kernel_rfl) (by kernel_rfl) (by kernel_rfl) (fun _ _ _ h => h) (Or.inl ⟨by rfl, ?_⟩) (by first | assumption | exact trivial) ?_
    · intro W hSW; go_simp; try (with_reducible rfl)
    simp only [Act.put, List.getElem_toArray, List.getElem_cons_succ, List.getElem_cons_zero, List.setIfInBounds_toArray, List.set_cons_zero, List.set_cons_succ]
    refine wpAnyH_take (i := 11) (v := .slice A k cap) rfl (by kernel_rfl) (by kernel_rfl) (by kernel_rfl) (fun _ _ _ h => h) (Or.inl ⟨by rfl, ?_⟩) (by first | assumption | exact trivial) ?_
    · intro W hSW; have y := HX1.out; go_simp; try (with_reducible rfl)
    simp only [Act.put, List.getElem_toArray, List.getElem_cons_succ, List.getElem_cons_zero, List.setIfInBounds_toArray, List.set_cons_zero, List.set_cons_succ]
    refine wpAnyH_take (i := 12) (v := .string ST) rfl (by kernel_rfl) (by kernel_rfl) (by kernel_rfl) (fun _ _ _ h => h) (Or.inl ⟨by rfl, ?_⟩) (by first | assumption | exact trivial) ?_
    · intro W hSW; have y := hSW.1; go_simp; try (with_reducible rfl)
    simp only [Act.put, List.getElem_toArray, List.getElem_cons_succ, List.getElem_cons_zero, List.setIfInBounds_toArray, List.set_cons_zero, List.set_cons_succ]
    refine wpAnyH_take (i := 13) (v := .slice A m cap) rfl (by kernel_rfl) (by kernel_rfl) (by kernel_rfl) (fun _ _ _ h => h) (Or.inl ⟨by rfl, ?_⟩) (by first | assumption | exact trivial) ?_
    · intro W hSW; go_simp; try (with_reducible rfl)
    simp only [Act.put, List.getElem_toArray, List.getElem_cons_succ, List.getElem_cons_zero, List.setIfInBounds_toArray, List.set_cons_zero, List.set_cons_succ]
    refine wpAnyH_take (i := 14) (v := .int .i64 (k : Int)) rfl (by kernel_rfl) (by kernel_rfl) (by kernel_rfl) (fun _ _ _ h => h) (Or.inl ⟨by rfl, ?_⟩) (by first | assumption | exact trivial) ?_
    · intro W hSW; go_simp; try (with_reducible rfl)
    simp only [Act.put, List.getElem_toArray, List.getElem_cons_succ, List.getElem_cons_zero, List.setIfInBounds_toArray, List.set_cons_zero, List.set_cons_succ]
    refine wpAnyH_take (i := 15) (v := .int .i64 (j : Int)) rfl (by kernel_rfl) (by kernel_rfl) (by kernel_rfl) (fun _ _ _ h => h) (Or.inl ⟨by rfl, ?_⟩) (by first | assumption | exact trivial) ?_
    · intro W hSW; go_simp; try (with_reducible rfl)
    simp only [Act.put, List.getElem_toArray, List.getElem_cons_succ, List.getElem_cons_zero, List.setIfInBounds_toArray, List.set_cons_zero, List.set_cons_succ]
    refine wpAnyH_take (i := 16) (v := .int .i64 ((k + j : Nat) : Int)) rfl (by kernel_rfl) (by kernel_rfl) (by kernel_rfl) (fun _ _ _ h => h) (Or.inl ⟨by rfl, ?_⟩) (by first | assumption | exact trivial) ?_
    · intro W hSW; have y := HX2.out; go_simp; try (with_reducible rfl)
    simp only [Act.put, List.getElem_toArray, List.getElem_cons_succ, List.getElem_cons_zero, List.setIfInBounds_toArray, List.set_cons_zero, List.set_cons_succ]
    refine wpAnyH_take (i := 17) (v := .slice A2 (m - (k + j)) (cap - (k + j))) rfl (by kernel_rfl) (by kernel_rfl) (by kernel_rfl) (fun _ _ _ h => h) (Or.inl ⟨by rfl, ?_⟩) (by first | assumption | exact trivial) ?_
    · intro W hSW; (obtain ⟨y0, y1, y2, y3⟩ := HX3.out); go_simp; try (with_reducible rfl)
    simp only [Act.put, List.getElem_toArray, List.getElem_cons_succ, List.getElem_cons_zero, List.setIfInBounds_toArray, List.set_cons_zero, List.set_cons_succ]
    refine wpAnyH_take (i := 18) (v := .string SU) rfl (by kernel_rfl) (by kernel_rfl) (by kernel_rfl) (fun _ _ _ h => h) (Or.inl ⟨by rfl, ?_⟩) (by first | assumption | exact trivial) ?_
    · intro W hSW; have y := hSW.2; go_simp; try (with_reducible rfl)
    simp only [Act.put, List.getElem_toArray, List.getElem_cons_succ, List.getElem_cons_zero, List.setIfInBounds_toArray, List.set_cons_zero, List.set_cons_succ]
    refine wpAnyH_take (i := 19) (v := .string (ST ++ SU)) rfl (by kernel_rfl) (by kernel_rfl) (by kernel_rfl) (fun _ _ _ h => h) (Or.inl ⟨by rfl, ?_⟩) (by first | assumption | exact trivial) ?_
    · intro W hSW; have y := HX4.out; go_simp; try (with_reducible rfl)
    simp only [Act.put, List.getElem_toArray, List.getElem_cons_succ, List.getElem_cons_zero, List.setIfInBounds_toArray, List.set_cons_zero, List.set_cons_succ]
    refine wpAnyH_ready (rs := [7]) (by kernel_rfl) (by simp) ?_
    refine AllReadyH.cons rfl (fun K hK => ?_) AllReadyH.nil
    go_simp
    go_wp2_with (go_at_call 11; refine (HBk.out _ _ HL9 HB9.out).mono ?_; rintro e w10 ⟨B10, n10, c10, rfl, y10, HB10⟩)
    refine hK.out _ _ (⟨HCk.out _ HB10.out, HCj.out _ HB10.out⟩) (fun hHeld => ?_)
    clear hK K
    refine wpAnyH_ready (rs := [8]) (by kernel_rfl) (by simp) ?_
    refine AllReadyH.cons rfl (fun K hK => ?_) AllReadyH.nil
    go_simp
    refine hK.out _ _ (⟨HCk.out _ HB10.out, HCj.out _ HB10.out⟩) (fun hHeld => ?_)
    clear hK K
    refine wpAnyH_take (i := 20) (v := .bool true) rfl (by kernel_rfl) (by kernel_rfl) (by kernel_rfl) (fun _ _ _ h => h) (Or.inl ⟨by rfl, ?_⟩) (by first | assumption | exact trivial) ?_
    · intro W hSW; go_simp; try (with_reducible rfl)
    simp only [Act.put, List.getElem_toArray, List.getElem_cons_succ, List.getElem_cons_zero, List.setIfInBounds_toArray, List.set_cons_zero, List.set_cons_succ]
    refine wpAnyH_take (i := 21) (v := .bool true) rfl (by kernel_rfl) (by kernel_rfl) (by kernel_rfl) (fun _ _ _ h => h) (Or.inl ⟨by rfl, ?_⟩) (by first | assumption | exact trivial) ?_
    · intro W hSW; go_simp; try (with_reducible rfl)
    simp only [Act.put, List.getElem_toArray, List.getElem_cons_succ, List.getElem_cons_zero, List.setIfInBounds_toArray, List.set_cons_zero, List.set_cons_succ]
    refine wpAnyH_take (i := 22) (v := .bool true) rfl (by kernel_rfl) (by kernel_rfl) (by kernel_rfl) (fun _ _ _ h => h) (Or.inl ⟨by rfl, ?_⟩) (by first | assumption | exact trivial) ?_
    · intro W hSW; go_simp; try (with_reducible rfl)
    simp only [Act.put, List.getElem_toArray, List.getElem_cons_succ, List.getElem_cons_zero, List.setIfInBounds_toArray, List.set_cons_zero, List.set_cons_succ]
    refine wpAnyH_ready (rs := [23]) (by kernel_rfl) (by simp) ?_
    refine AllReadyH.cons rfl (fun K hK => ?_) AllReadyH.nil
    go_simp
    go_wp2_with (go_at_call 9; refine (HA.out _).mono ?_; rintro e w11 ⟨rfl, HB11⟩)
    refine hK.out _ _ (⟨HCk.out _ (HB10.out.trans (HB11.out.mono HB10.out.size)), HCj.out _ (HB10.out.trans (HB11.out.mono HB10.out.size))⟩) (fun hHeld => ?_)
    clear hK K
    refine wpAnyH_take (i := 24) (v := .bool true) rfl (by kernel_rfl) (by kernel_rfl) (by kernel_rfl) (fun _ _ _ h => h) (Or.inl ⟨by rfl, ?_⟩) (by first | assumption | exact trivial) ?_
    · intro W hSW; go_simp; try (with_reducible rfl)
    simp only [Act.put, List.getElem_toArray, List.getElem_cons_succ, List.getElem_cons_zero, List.setIfInBounds_toArray, List.set_cons_zero, List.set_cons_succ]
    refine wpAnyH_take (i := 25) (v := .bool true) rfl (by kernel_rfl) (by kernel_rfl) (by kernel_rfl) (fun _ _ _ h => h) (Or.inl ⟨by rfl, ?_⟩) (by first | assumption | exact trivial) ?_
    · intro W hSW; go_simp; try (with_reducible rfl)
    simp only [Act.put, List.getElem_toArray, List.getElem_cons_succ, List.getElem_cons_zero, List.setIfInBounds_toArray, List.set_cons_zero, List.set_cons_succ]
    refine wpAnyH_done (by kernel_rfl) ?_ _
    go_wp2
    go_ret
    exact ⟨rfl, HB10.out.trans (HB11.out.mono HB10.out.size)⟩
end Go.Proofs.Ytcdpdijfgeeenaa.Li
