/- A row's records gone over: what record's inner iterator promises. -/
import Derived.Test.YtcdijhenfddmcaaRcPay
import Derived.Test.YtcdijhenfddmcaaRange2
import Derived.WalkLawsBesides
namespace Go.Proofs.Ytcdijhenfddmcaa.Rc
open Go.RowKit
open Go.Proofs.Ytcdijhenfddmcaa.Me Go.Proofs.Ytcdijhenfddmcaa.Ma Go.Proofs.Ytcdijhenfddmcaa.Hd Go.Proofs.Ytcdijhenfddmcaa.It
set_option linter.unusedVariables false
set_option linter.unusedSimpArgs false
attribute [local go_sem] Oper.semAt_some

/-- A box holds a slice that leads to the bytes zs. -/
def KeptB (b : Nat) (A : Option Addr) (c : Nat) (zs : List Nat) (X : World) : Prop := X.cell? ⟨b, 0, none⟩ = some (.slice A zs.length c) ∧ Rd X X.heap.size A zs
/-- The piece of the row that is payload k. -/
def pieceV (A : Option Addr) (c : Nat) (zs : List Nat) (k : Nat) : Value := .slice ((A.map fun x => x.add (offs (recs zs) k)).map fun x => x.add 8) (lsAt (recs zs) k).length (c - offs (recs zs) k - 8)
theorem records_any (A : Option Addr) (n c : Nat) (w : World) :
    Calls Try.prog 27 #[.slice A n c] w fun e w' => e = .returned (.func (.func 35) #[] #[.pointer (some ⟨w.heap.size, 0, none⟩)]) ∧ w' = w.alloc (.cells #[.slice A n c] 22) := by
  go_enter Try.func27, Try.ntmps27
  go_wp2
  go_ret
  exact ⟨rfl, rfl⟩
/-- A slice cut at its front. -/
theorem front_rd {X : World} {B c f : Nat} {A : Option Addr} {zs : List Nat} (h : Rd X B A zs) (hf : f ≤ zs.length) (hc : zs.length ≤ c) : ∃ A2, (if c = f then A else Option.map (fun x => x.add f) A) = A2 ∧ Rd X B A2 (zs.drop f) ∧ (f < zs.length → A2 = A.map fun x => x.add f) := by
  refine ⟨_, rfl, ?_, fun hlt => if_neg (by omega)⟩
  by_cases hcf : c = f
  · have : zs.drop f = [] := List.drop_eq_nil_of_le (by omega)
    rw [if_pos hcf, this]
    exact ⟨by simp, by simp⟩
  · rw [if_neg hcf]
    by_cases hlt : f < zs.length
    · obtain ⟨b, off, rfl, hb, hcs⟩ := h.2 (by omega)
      have := Rd.drop ⟨h.1, fun _ => ⟨b, off, rfl, hb, hcs⟩⟩ f
      rw [show Option.map (fun x : Addr => x.add f) (some ⟨b, off, none⟩) = some ⟨b, off + f, none⟩ by
        simp only [Option.map_some, Option.some.injEq]; unfold Addr.add; split <;> simp_all]
      exact this
    · have : zs.drop f = [] := List.drop_eq_nil_of_le (by omega)
      rw [this]
      exact ⟨by simp, by simp⟩
set_option maxHeartbeats 1000000 in
theorem records_iter (be : Nat) (A : Option Addr) (c : Nat) (zs : List Nat) (hlc : zs.length ≤ c) (hc : c ≤ 9223372036854775807) :
    Iter2 35 #[.pointer (some ⟨be, 0, none⟩)] 0 (recs zs).length (KeptB be A c zs) (fun _ => True) (fun _ k v u _ => v = .int .i64 (offs (recs zs) k : Int) ∧ u = pieceV A c zs k) := by
  intro l W J Jx hJ hJx hR hskip hY h0
  have HR := Lib.hid hR
  have HY := Lib.hid hY
  have HJ := Lib.hid hJ
  have hbox := (hR 0 W h0).1
  clear hR hskip hY hJ hJx
  refine callsIn_of_wp Try.func35 rfl trivial ?_ rfl
  simp only [Try.ntmps35, List.size_toArray, List.length_cons, List.length_nil, Nat.reduceAdd, Nat.reduceSub, Array.replicate_succ, Array.replicate_zero, List.push_toArray, List.append_toArray, List.nil_append, List.cons_append]
  gi_wp2
  gi_loopw [3] (fun i wr => ∃ k : Nat, k ≤ (recs zs).length ∧ i = .int .i64 (offs (recs zs) k : Int) ∧ J k wr ∧ W.heap.size ≤ wr.heap.size) (fun i _ => zs.length + 1 - (intOf i).toNat)
  case atStart => exact ⟨0, Nat.zero_le _, by rw [offs_zero]; rfl, h0, Nat.le_refl _⟩
  case round =>
    obtain ⟨k, hk, rfl, hj, hsz⟩ := hrel
    obtain ⟨hbox2, hrd⟩ := HR.out k wr hj
    have hfl := offs_le hk
    obtain ⟨A2, hA2, hr2, hA2f⟩ := front_rd hrd hfl hlc
    have hdl : (zs.drop (offs (recs zs) k)).length = zs.length - offs (recs zs) k := by simp
    have C := payload_any A2 (c - offs (recs zs) k) (zs.drop (offs (recs zs) k)) wr hr2 (by rw [hdl]; omega) (by omega)
    rw [hdl] at C
    by_cases hlt : k < (recs zs).length
    · obtain ⟨p1, p2⟩ := pay_at hlt
      have hok := ok_of_pay p2
      have hp := piece_at hlt
      rw [payV_ok hok, p1] at C
      have HC := Lib.hid C
      have HS := Lib.hid (offs_step hlt)
      have HYk := Lib.hid (fun X => HY.out k (.int .i64 (offs (recs zs) k : Int)) (pieceV A c zs k) wr X hlt trivial hj)
      have HPV : Hid (pieceV A c zs k = .slice (A2.map fun x => x.add 8) (lsAt (recs zs) k).length (c - offs (recs zs) k - 8)) := by
        show _ = _
        rw [hA2f (by omega)]; rfl
      have h1 := hp.2.2.1
      have h2 := hp.2.2.2
      have h3 := hp.1
      obtain ⟨f, hf⟩ : ∃ f, offs (recs zs) k = f := ⟨_, rfl⟩
      obtain ⟨m, hm⟩ : ∃ m, (lsAt (recs zs) k).length = m := ⟨_, rfl⟩
      obtain ⟨P1, hP1⟩ : ∃ P, (A2.map fun x => x.add 8) = P := ⟨_, rfl⟩
      rw [hf, hm, hP1] at HC HPV
      rw [hf, hm] at HS h3
      rw [hm] at h1 h2
      rw [HPV.out] at HYk
      rw [hf] at hA2f HYk hfl ⊢
      have hA2g : Option.map (fun x => x.add f) A = A2 := (hA2f (by omega)).symm
      clear hr2 C hdl p1 p2 hok hp hrd hm hP1 HPV hA2f hf hA2
      have q1 : ((m : Int) == 0) = false := by rw [beq_eq_false_iff_ne]; omega
      gi_wp2_with (refine ⟨trivial, rfl, ?_⟩; gi_at_call 24; (with_reducible refine (callsIn_wide.2 HC.out).mono ?_); rintro e w1 ⟨rfl, hb1⟩; obtain ⟨fn, tmps, assign, body, hy, hRd⟩ := HYk.out w1 hb1.out (by simp) (by omega); have HB1 := Lib.hid hb1.out.size; clear hb1)
      refine ⟨rfl, hRd.mono ?_⟩
      rintro e W3 ⟨bb, rfl, hk3, ht, hf⟩
      cases bb with
      | true =>
        have hj3 := ht rfl
        have hwr : IntKind.i64.wrap ((f : Int) + (8 + (m : Int))) = (f : Int) + (8 + (m : Int)) := IntWalk.i64_in _ (by omega)
        clear ht hf
        gi_wp2
        go_roundw
        case rel => exact ⟨k + 1, by omega, by rw [HS.out]; go_num, hj3, Nat.le_trans hsz (Nat.le_trans HB1.out hk3.size)⟩
        case measure => simp [intOf]; omega
      | false =>
        have hj3 := hf rfl
        clear ht hf
        gi_wp2
        refine bodyPost_ret (results_none rfl _ _ _) rfl ?_
        exact ⟨⟨_, rfl⟩, .inr hj3⟩
    · obtain rfl : k = (recs zs).length := by omega
      have hno : ¬ payOk (zs.drop (offs (recs zs) (recs zs).length)) := fun h => pay_ne h (pay_end zs)
      rw [payV_no hno] at C
      have HC := Lib.hid C
      obtain ⟨f, hf⟩ : ∃ f, offs (recs zs) (recs zs).length = f := ⟨_, rfl⟩
      rw [hf] at HC hA2 hfl ⊢
      clear hr2 C hdl hno hrd hf hA2f
      gi_wp2_with (refine ⟨trivial, rfl, ?_⟩; gi_at_call 24; (with_reducible refine (callsIn_wide.2 HC.out).mono ?_); rintro e w1 ⟨rfl, hb1⟩; have hj1 := (HJ.out (recs zs).length).below hj hb1.out; have HB1 := Lib.hid hb1; clear hb1)
      all_goals
        refine ⟨fun _ h => (by cases h), ?_⟩
        gi_wp2
        refine bodyPost_ret (results_none rfl _ _ _) rfl ?_
        exact ⟨⟨_, rfl⟩, .inl hj1⟩
end Go.Proofs.Ytcdijhenfddmcaa.Rc
