/- What stands against a call; how a file is found; how many bytes of it are safe. -/
import Derived.Test.YtdjgkoklkoahbaaDkSmall
namespace Go.Proofs.Ytdjgkoklkoahbaa.Dk
open Go.RowKit
open Go.Proofs.Ytdjgkoklkoahbaa.Me Go.Proofs.Ytdjgkoklkoahbaa.Hd
set_option linter.unusedVariables false
set_option linter.unusedSimpArgs false

/-- Block b holds these names. -/
def NmAt (w : World) (b : Nat) (ns : List Nm) : Prop := b < w.heap.size ∧ ∀ i, i < ns.length → w.cell? ⟨b, i, none⟩ = some (nmV (ns.getD i []))
theorem NmAt.row {w : World} {b : Nat} {ns : List Nm} {c : Array Value} {fr : Nat × Nat} (h : w.heap[b]? = some (.cells c 9 fr)) (hc : c = (ns.map nmV).toArray) : NmAt w b ns := by
  refine ⟨(Array.getElem?_eq_some_iff.1 h).1, fun i hi => ?_⟩
  rw [cell_of_row w b i _ _ fr h, hc]
  simp [hi]
theorem IndexFunc_any (w : World) (b c : Nat) (ns : List Nm) (h : Hid (NmAt w b ns)) (hl : ns.length ≤ 9223372036854775806) :
    Calls Try.prog 63 #[.slice (some ⟨b, 0, none⟩) ns.length c, .func (.func 51) #[] #[]] w fun e w' => ∃ r : Int, e = .returned (.int .i64 r) ∧ decide (0 ≤ r) = !ns.all nameOk ∧ Below w.heap.size w w' := by
  have HN := Lib.hid isNoName_any
  obtain ⟨L, hL⟩ : ∃ L, ns.length = L := ⟨_, rfl⟩
  have HL : Hid (ns.length = L) := hL
  rw [hL] at hl ⊢
  clear hL
  have eg : ∀ args w, (callFunc 51 args).run Try.prog w = .ok (.enter 51 args) w := enters_of Try.func51 (by kernel_rfl) rfl
  go_enter Try.func63, Try.ntmps63
  go_wp2
  go_loopw [8] (fun i wr => ∃ k : Nat, k ≤ L ∧ i = .int .i64 k ∧ Hid (∀ j, j < k → nameOk (ns.getD j []) = true) ∧ Below w.heap.size w wr) (fun i _ => L - (intOf i).toNat)
  case atStart => exact ⟨0, Nat.zero_le _, rfl, fun j hj => absurd hj (by omega), Below.refl _ _⟩
  case round =>
    obtain ⟨k, hk, rfl, hok, hbr⟩ := hrel
    have HBR := Lib.hid hbr
    clear hbr
    by_cases hlt : k < L
    · have hc1 := (HBR.out.cell (p := ⟨b, k, none⟩) h.out.1).trans (h.out.2 k (by rw [HL.out]; exact hlt))
      obtain ⟨n, hn⟩ : ∃ n, ns.getD k [] = n := ⟨_, rfl⟩
      rw [hn] at hc1
      cases hnk : nameOk n with
      | true =>
        have HOK : Hid (∀ j, j < k + 1 → nameOk (ns.getD j []) = true) := fun j hj => by
          by_cases e : j = k
          · subst e; rw [hn]; exact hnk
          · exact hok.out j (by omega)
        have HN1 := Lib.hid (fun W => HN.out n W)
        rw [hnk] at HN1
        clear hnk hok hn
        go_wp2_with (go_at_call 51; refine (HN1.out _).mono ?_; rintro e w2 ⟨rfl, hb2⟩)
        go_roundw
        case rel => exact ⟨k + 1, by omega, by go_num, HOK, HBR.out.trans (hb2.mono HBR.out.size)⟩
        case measure => simp [intOf]; omega
      | false =>
        have HA : Hid (ns.all nameOk = false) := by
          show _ = _
          cases ha : ns.all nameOk with
          | false => rfl
          | true =>
            have := List.all_eq_true.1 ha n (by
              have hlt' : k < ns.length := by rw [HL.out]; exact hlt
              rw [← hn]
              simp [hlt'])
            rw [hnk] at this; cases this
        have HN1 := Lib.hid (fun W => HN.out n W)
        rw [hnk] at HN1
        clear hnk hok hn
        go_wp2_with (go_at_call 51; refine (HN1.out _).mono ?_; rintro e w2 ⟨rfl, hb2⟩)
        go_ret
        refine ⟨_, rfl, ?_, HBR.out.trans (hb2.mono HBR.out.size)⟩
        rw [HA.out]
        simp
    · have HA : Hid (ns.all nameOk = true) := by
        show _ = _
        refine List.all_eq_true.2 fun n hn => ?_
        obtain ⟨j, hj, rfl⟩ := List.mem_iff_getElem.1 hn
        have := hok.out j (by have := HL.out; omega)
        simpa [hj] using this
      clear hok
      go_wp2
      go_ret
      exact ⟨_, rfl, by rw [HA.out]; rfl, HBR.out⟩
theorem ContainsFunc_any (w : World) (b c : Nat) (ns : List Nm) (h : Hid (NmAt w b ns)) (hl : ns.length ≤ 9223372036854775806) :
    Calls Try.prog 50 #[.slice (some ⟨b, 0, none⟩) ns.length c, .func (.func 51) #[] #[]] w fun e w' => e = .returned (.bool (!ns.all nameOk)) ∧ Below w.heap.size w w' := by
  have HI := Lib.hid (IndexFunc_any w b c ns h hl)
  obtain ⟨L, hL⟩ : ∃ L, ns.length = L := ⟨_, rfl⟩
  rw [hL] at HI ⊢
  clear hL hl h
  go_enter Try.func50, Try.ntmps50
  go_wp2_with (go_at_call 63; refine HI.out.mono ?_; rintro e w1 ⟨r, rfl, hr, hb1⟩; have HR := Lib.hid hr; clear hr)
  go_ret
  exact ⟨by rw [← HR.out]; rfl, hb1⟩
section
variable {G : Nat → Prop} (w : World) (D mb : Nat) (s : St)
theorem may_any (h : Hid (Dq G w D mb s)) (b c : Nat) (ns : List Nm) (hn : Hid (NmAt w b ns)) (hl : ns.length ≤ 9223372036854775806) :
    Calls Try.prog 34 #[.pointer (some ⟨D, 0, none⟩), .slice (some ⟨b, 0, none⟩) ns.length c] w fun e w' => e = .returned (.int .i64 (mayE s ns : Int)) ∧ Below w.heap.size w w' := by
  have c2 := h.out.c2
  have HC := Lib.hid (ContainsFunc_any w b c ns hn hl)
  obtain ⟨L, hL⟩ : ∃ L, ns.length = L := ⟨_, rfl⟩
  rw [hL] at HC ⊢
  clear hL hl
  cases hd : s.down with
  | true =>
    have HE : Hid (mayE s ns = 9) := by show _ = _; simp [mayE, hd]
    rw [HE.out]
    rw [hd] at c2
    clear hd
    go_enter Try.func34, Try.ntmps34
    go_wp2
    go_ret
    exact ⟨rfl, Below.refl _ _⟩
  | false =>
    cases ha : ns.all nameOk with
    | true =>
      have HE : Hid (mayE s ns = 0) := by show _ = _; unfold mayE; rw [hd, ha]; rfl
      rw [HE.out]
      rw [hd] at c2
      rw [ha] at HC
      clear hd ha
      go_enter Try.func34, Try.ntmps34
      go_wp2_with (go_at_call 50; refine HC.out.mono ?_; rintro e w1 ⟨rfl, hb1⟩)
      go_ret
      exact ⟨rfl, hb1⟩
    | false =>
      have HE : Hid (mayE s ns = 2) := by show _ = _; unfold mayE; rw [hd, ha]; rfl
      rw [HE.out]
      rw [hd] at c2
      rw [ha] at HC
      clear hd ha
      go_enter Try.func34, Try.ntmps34
      go_wp2_with (go_at_call 50; refine HC.out.mono ?_; rintro e w1 ⟨rfl, hb1⟩)
      go_ret
      exact ⟨rfl, hb1⟩
/-- One name, laid down for the call. -/
theorem may_one (h : Hid (Dq G w D mb s)) (n : Nm) : Calls Try.prog 34 #[.pointer (some ⟨D, 0, none⟩), .slice (some ⟨w.heap.size, 0, none⟩) 1 1] (w.alloc (.cells #[nmV n] 9)) fun e w' => e = .returned (.int .i64 (mayE s [n] : Int)) ∧ Below w.heap.size w w' := by
  have hb : Below w.heap.size w (w.alloc (.cells #[nmV n] 9)) := Me.below_alloc (Below.refl _ _)
  refine (may_any (w.alloc (.cells #[nmV n] 9)) D mb s (h.out.below hb) w.heap.size 1 [n] (NmAt.row (heap_alloc_new w _) rfl) (by simp)).mono ?_
  rintro e w' ⟨rfl, hb'⟩
  exact ⟨rfl, hb.trans (hb'.mono hb.size)⟩
theorem may_two (h : Hid (Dq G w D mb s)) (n m : Nm) : Calls Try.prog 34 #[.pointer (some ⟨D, 0, none⟩), .slice (some ⟨w.heap.size, 0, none⟩) 2 2] (w.alloc (.cells #[nmV n, nmV m] 9)) fun e w' => e = .returned (.int .i64 (mayE s [n, m] : Int)) ∧ Below w.heap.size w w' := by
  have hb : Below w.heap.size w (w.alloc (.cells #[nmV n, nmV m] 9)) := Me.below_alloc (Below.refl _ _)
  refine (may_any (w.alloc (.cells #[nmV n, nmV m] 9)) D mb s (h.out.below hb) w.heap.size 2 [n, m] (NmAt.row (heap_alloc_new w _) rfl) (by simp)).mono ?_
  rintro e w' ⟨rfl, hb'⟩
  exact ⟨rfl, hb.trans (hb'.mono hb.size)⟩
end
theorem nameOk_len {n : Nm} (h : nameOk n = true) : n.length ≤ 12 := by
  simp only [nameOk, Bool.and_eq_true, decide_eq_true_eq] at h
  omega
theorem mayE_one {s : St} {n : Nm} : mayE s [n] = if s.down then 9 else if nameOk n then 0 else 2 := by simp [mayE]
section
variable {G : Nat → Prop} (w : World) (D mb : Nat) (s : St)
/-- A name of no file. -/
theorem find_bad (h : Hid (Dq G w D mb s)) (n : Nm) (he : findE s n ≠ 0) : Calls Try.prog 49 #[.pointer (some ⟨D, 0, none⟩), nmV n] w fun e w' => e = .returned (.tuple #[.pointer none, .int .i64 (findE s n : Int)]) ∧ Below w.heap.size w w' := by
  have HM := Lib.hid (may_one w D mb s h n)
  have c0 := Lib.hid h.out.c0
  have HD := Lib.hid h.out.lt
  by_cases hm : mayE s [n] = 0
  · have hlook : look s.files n = none := by
      rw [mayE_one] at hm
      unfold findE at he
      split at hm
      · cases hm
      · rename_i hd
        rw [if_neg hd] at he
        split at hm
        · rename_i hok
          rw [if_pos hok] at he
          cases hl : look s.files n with
          | none => rfl
          | some f => rw [hl] at he; simp at he
        · cases hm
    have hlen : n.length ≤ maxLen := by
      rw [mayE_one] at hm
      split at hm
      · cases hm
      · split at hm
        · rename_i hok; have := nameOk_len hok; unfold maxLen; omega
        · cases hm
    have HE : Hid (findE s n = 4) := by
      show _ = _
      rw [mayE_one] at hm
      unfold findE
      split at hm
      · cases hm
      · rename_i hd
        rw [if_neg hd]
        split at hm
        · rename_i hok
          rw [if_pos hok, hlook]; rfl
        · cases hm
    rw [HE.out]
    rw [hm] at HM
    have HLK := Lib.hid (fun W hW => h.out.mf.no hlen hlook W hW)
    have Hmb := Lib.hid h.out.ltm
    clear hm hlook hlen he
    obtain ⟨ns, hns⟩ : ∃ ns, (⟨n.toArray⟩ : ByteArray) = ns := ⟨_, rfl⟩
    show Calls Try.prog 49 #[.pointer (some ⟨D, 0, none⟩), .string ⟨n.toArray⟩] w _
    simp only [nmV] at HM HLK
    rw [hns] at HM HLK ⊢
    clear hns
    go_enter Try.func49, Try.ntmps49
    go_wp2_with (go_at_call 34; refine HM.out.mono ?_; rintro e w1 ⟨rfl, hb1⟩; have HB1 := Lib.hid hb1; have k0 := (hb1.cell (p := ⟨D, 0, none⟩) HD.out).trans c0.out; have hl1 := HLK.out w1 (hb1.block mb Hmb.out); clear hb1)
    go_returns
    exact ⟨rfl, HB1.out⟩
  · have HE : Hid (findE s n = mayE s [n]) := by
      show _ = _
      rw [mayE_one] at hm ⊢
      unfold findE
      split at hm
      · rename_i hd; rw [if_pos hd, if_pos hd]
      · rename_i hd
        rw [if_neg hd, if_neg hd]
        split at hm
        · exact absurd rfl hm
        · rename_i hok
          rw [if_neg hok, if_neg hok]
    rw [HE.out]
    obtain ⟨q, hq⟩ : ∃ q, mayE s [n] = q := ⟨_, rfl⟩
    rw [hq] at HM hm ⊢
    clear hq he HE
    have hz : ((q : Int) == 0) = false := by
      have : ¬ (q : Int) = 0 := by omega
      simpa using this
    obtain ⟨ns, hns⟩ : ∃ ns, (⟨n.toArray⟩ : ByteArray) = ns := ⟨_, rfl⟩
    show Calls Try.prog 49 #[.pointer (some ⟨D, 0, none⟩), .string ⟨n.toArray⟩] w _
    simp only [nmV] at HM
    rw [hns] at HM ⊢
    clear hns
    go_enter Try.func49, Try.ntmps49
    go_wp2_with (go_at_call 34; refine HM.out.mono ?_; rintro e w1 ⟨rfl, hb1⟩; have HB1 := Lib.hid hb1; clear hb1)
    go_returns
    exact ⟨rfl, HB1.out⟩
/-- A file's name, and where the map says that its file lies. -/
theorem find_ok (h : Hid (Dq G w D mb s)) (n : Nm) (he : findE s n = 0) (p : Nat) (hp : Hid (∀ W : World, W.heap[mb]? = w.heap[mb]? → (Instr.lookup 62 (.map (some mb)) (nmV n) false).run Try.prog W = .ok (.pointer (some ⟨p, 0, none⟩)) W)) :
    Calls Try.prog 49 #[.pointer (some ⟨D, 0, none⟩), nmV n] w fun e w' => e = .returned (.tuple #[.pointer (some ⟨p, 0, none⟩), .int .i64 0]) ∧ Below w.heap.size w w' := by
  have HM := Lib.hid (may_one w D mb s h n)
  have c0 := Lib.hid h.out.c0
  have HD := Lib.hid h.out.lt
  have Hmb := Lib.hid h.out.ltm
  obtain ⟨hd, hok, hl⟩ := findE_ok he
  have hm : mayE s [n] = 0 := by rw [mayE_one, hd, hok]; rfl
  rw [hm] at HM
  clear hd hok hl hm he
  obtain ⟨ns, hns⟩ : ∃ ns, (⟨n.toArray⟩ : ByteArray) = ns := ⟨_, rfl⟩
  show Calls Try.prog 49 #[.pointer (some ⟨D, 0, none⟩), .string ⟨n.toArray⟩] w _
  simp only [nmV] at HM hp
  rw [hns] at HM hp ⊢
  clear hns
  go_enter Try.func49, Try.ntmps49
  go_wp2_with (go_at_call 34; refine HM.out.mono ?_; rintro e w1 ⟨rfl, hb1⟩; have HB1 := Lib.hid hb1; have k0 := (hb1.cell (p := ⟨D, 0, none⟩) HD.out).trans c0.out; have hl1 := hp.out w1 (hb1.block mb Hmb.out); clear hb1)
  go_returns
  exact ⟨rfl, HB1.out⟩
end
end Go.Proofs.Ytdjgkoklkoahbaa.Dk
