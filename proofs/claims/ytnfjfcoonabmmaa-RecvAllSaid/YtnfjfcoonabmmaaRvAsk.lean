/- The contract of a receiver's ask. -/
import Derived.Test.YtnfjfcoonabmmaaRvKept
namespace Go.Proofs.Ytnfjfcoonabmmaa.Rv
open Go.RowKit
open Go.Proofs.Ytnfjfcoonabmmaa.Me Go.Proofs.Ytnfjfcoonabmmaa.Hd Go.Proofs.Ytnfjfcoonabmmaa.Sn
set_option linter.unusedVariables false
set_option linter.unusedSimpArgs false

theorem askA_snoc (l : List Int) (x : Int) : ∀ a : Nat → Bool, askA a (l ++ [x]) = fun k => if k = x.toNat then true else askA a l k := by
  induction l with
  | nil => intro a; rfl
  | cons n l ih => intro a; exact ih _
theorem askL_snoc (l : List Int) (x : Int) : ∀ a : Nat → Bool, askL a (l ++ [x]) = askL a l ++ cond (askA a l x.toNat) [] [x] := by
  induction l with
  | nil =>
    intro a
    show (if a x.toNat = true then askL a [] else x :: askL _ []) = [] ++ cond (a x.toNat) [] [x]
    cases a x.toNat <;> rfl
  | cons n l ih =>
    intro a
    show (if a n.toNat = true then askL a (l ++ [x]) else n :: askL _ (l ++ [x])) = (if a n.toNat = true then askL a l else n :: askL _ l) ++ cond (askA (fun k => if k = n.toNat then true else a k) l x.toNat) [] [x]
    by_cases h : a n.toNat = true
    · have e : (fun k => if k = n.toNat then true else a k) = a := funext fun k => by
        by_cases e : k = n.toNat
        · rw [if_pos e, e, h]
        · rw [if_neg e]
      rw [if_pos h, if_pos h, ih, e]
    · rw [if_neg h, if_neg h, ih]; rfl
theorem askL_le (l : List Int) : ∀ a : Nat → Bool, (askL a l).length ≤ l.length := by
  induction l with
  | nil => intro a; exact Nat.le_refl _
  | cons n l ih =>
    intro a
    show (if a n.toNat = true then askL a l else n :: askL (fun k => if k = n.toNat then true else a k) l).length ≤ l.length + 1
    have h1 := ih a
    have h2 := ih (fun k => if k = n.toNat then true else a k)
    split
    · omega
    · simp only [List.length_cons]; omega
theorem pick_mem {p : Int → Bool} {base : Int} {m : Nat} {x : Int} (h : x ∈ Wn.pick p base m) : ∃ j : Nat, j < 128 ∧ x = (j : Int) := by
  have h1 := (List.mem_filter.1 h).1
  obtain ⟨i, _, rfl⟩ := List.mem_map.1 h1
  exact ⟨((base + (i : Nat)) % 128).toNat, by omega, by omega⟩
theorem missR_mem {r : Rcv} {x : Int} (h : x ∈ missR r) : ∃ j : Nat, j < 128 ∧ x = (j : Int) := by
  unfold missR at h
  split at h
  · cases h
  · exact pick_mem h
theorem missR_le (r : Rcv) : (missR r).length ≤ 128 := by
  unfold missR
  split
  · simp
  · exact Nat.le_trans (Wn.pick_le _ _ _) (by omega)
/-- Behind the asking. -/
def askR (r : Rcv) : Rcv := ⟨r.size, r.waits, r.kept, askA r.asked (missR r)⟩
/-- On the way. -/
structure Ask (E : Nat → Prop) (w w1 : World) (D mb : Nat) (r : Rcv) (l : List Int) (i : Nat) (v : Value) (wr : World) : Prop where
  le : i ≤ l.length
  rq : Rq E wr D mb ⟨r.size, r.waits, r.kept, askA r.asked (l.take i)⟩
  own : Mi.Own wr w1.heap.size v (askL r.asked (l.take i))
  but : But (fun k => k = D) w1 wr
theorem Ask.skip {E : Nat → Prop} {w w1 wr : World} {D mb : Nat} {r : Rcv} {l : List Int} {i j : Nat} {v : Value} (h : Ask E w w1 D mb r l i v wr) (hi : i < l.length) (hj : Mi.at_ l i = (j : Int)) (ha : askA r.asked (l.take i) j = true) : Ask E w w1 D mb r l (i + 1) v wr := by
  have ht : l.take (i + 1) = l.take i ++ [(j : Int)] := by rw [← hj, Mi.at_get hi]; exact (List.take_append_getElem hi).symm
  have e1 : askA r.asked (l.take (i + 1)) = askA r.asked (l.take i) := by
    rw [ht, askA_snoc]
    exact funext fun k => by
      by_cases e : k = (j : Int).toNat
      · rw [if_pos e, e, Int.toNat_natCast, ha]
      · rw [if_neg e]
  have e2 : askL r.asked (l.take (i + 1)) = askL r.asked (l.take i) := by
    rw [ht, askL_snoc, Int.toNat_natCast, ha, cond_true, List.append_nil]
  exact ⟨hi, by rw [e1]; exact h.rq, by rw [e2]; exact h.own, h.but⟩
theorem Ask.add {E : Nat → Prop} {w w1 wr w2 : World} {D mb : Nat} {r : Rcv} {l : List Int} {i j : Nat} {v v2 : Value} (h : Ask E w w1 D mb r l i v wr) (hE : ∀ k, E k → k < w1.heap.size) (hD : D < w1.heap.size) (hm : mb < w1.heap.size) (hi : i < l.length) (hj : Mi.at_ l i = (j : Int)) (hj2 : j < 128) (ha : askA r.asked (l.take i) j = false)
    (ho : Mi.Own w2 w1.heap.size v2 (askL r.asked (l.take i) ++ [(j : Int)])) (hb : Below w1.heap.size (wr.setCell ⟨D, 3 + j, none⟩ (.bool true)) w2) : Ask E w w1 D mb r l (i + 1) v2 w2 := by
  have ht : l.take (i + 1) = l.take i ++ [(j : Int)] := by rw [← hj, Mi.at_get hi]; exact (List.take_append_getElem hi).symm
  have q := h.rq.setA hj2 true
  have bq : But (fun k => k = D) w1 (wr.setCell ⟨D, 3 + j, none⟩ (.bool true)) := h.but.set (p := ⟨D, 3 + j, none⟩) (.inl rfl) _
  refine ⟨hi, ?_, ?_, ?_⟩
  · rw [ht, askA_snoc, Int.toNat_natCast]
    exact q.kept' (hb.block D hD) (hb.block mb hm) (fun k cs he hc => ⟨hb.block k (hE k he), he⟩) h.rq.nD h.rq.nm
  · rw [ht, askL_snoc, Int.toNat_natCast, ha]
    exact ho
  · exact ⟨hb.os.trans bq.os, hb.tape.trans bq.tape, hb.output.trans bq.output, Nat.le_trans bq.size hb.size, fun k hk hn => (hb.block k hk).trans (bq.same k hk hn)⟩
set_option maxHeartbeats 2000000 in
theorem ask_any {E : Nat → Prop} (w : World) (D mb : Nat) (r : Rcv) (h : Hid (Rq E w D mb r)) (hE : Hid (∀ k, E k → k < w.heap.size)) : Calls Try.prog 28 #[.pointer (some ⟨D, 0, none⟩)] w fun e w' =>
    ∃ v, e = .returned v ∧ Hid (Mi.Own w' w.heap.size v (askL r.asked (missR r))) ∧ Hid (Rq E w' D mb (askR r)) ∧ Hid (But (fun k => k = D) w w') := by
  have HM := Lib.hid (Missing_any w D mb r h)
  have HD := Lib.hid h.out.lt
  have HDm := Lib.hid h.out.ltm
  have HMM := Lib.hid (fun x (hx : x ∈ missR r) => missR_mem hx)
  have hle := missR_le r
  have HR : Hid (askR r = ⟨r.size, r.waits, r.kept, askA r.asked (missR r)⟩) := rfl
  obtain ⟨L, hL⟩ : ∃ L, missR r = L := ⟨_, rfl⟩
  rw [hL] at HM HMM hle HR ⊢
  clear hL
  obtain ⟨n, hn⟩ : ∃ n, L.length = n := ⟨_, rfl⟩
  have HN := Lib.hid hn
  rw [hn] at hle
  clear hn
  go_enter Try.func28, Try.ntmps28
  go_wp2_with (go_at_call 10; refine HM.out.mono ?_; rintro e w1 ⟨v1, rfl, ho1, hb1⟩; obtain ⟨A1, d1, rfl, _, _, hr1, _, hA1⟩ := Mi.Own.form ho1.out; have HR1 := Lib.hid hr1; have HA1 := Lib.hid hA1; rw [HN.out]; clear hr1 hA1)
  have st0 : Hid (Ask E w w1 D mb r L 0 (.slice none 0 0) w1) := ⟨Nat.zero_le _, h.out.below hb1.out, Mi.Own.nil _ _, But.refl _ _⟩
  have HS1 : Hid (w.heap.size ≤ w1.heap.size) := hb1.out.size
  have HE1 : Hid (∀ k, E k → k < w1.heap.size) := fun k hk => Nat.lt_of_lt_of_le (hE.out k hk) HS1.out
  go_loopw [3, 9] (fun v k wr => ∃ i : Nat, k = .int .i64 i ∧ Ask E w w1 D mb r L i v wr) (fun v k _ => n - (intOf k).toNat)
  case atStart => exact ⟨0, rfl, st0.out⟩
  case round =>
    obtain ⟨i, rfl, hI⟩ := hrel
    have hin := hI.le
    rw [HN.out] at hin
    by_cases hlt : i < n
    · have hil : i < L.length := by rw [HN.out]; exact hlt
      obtain ⟨b, off, rfl, hbB, hcs⟩ := HR1.out (by omega)
      have hbD : w.heap.size ≤ b := (HA1.out _ rfl).1
      have hcell : wr.cell? ⟨b, off + i, none⟩ = some (.int .i64 (Mi.at_ L i)) := (World.cell?_of_block (w := w1) (a := ⟨b, off + i, none⟩) (hI.but.same b hbB (fun e => by have := HD.out; omega))).trans (hcs i hil)
      obtain ⟨j, hj, hjx⟩ := HMM.out (Mi.at_ L i) (by rw [Mi.at_get hil]; exact List.getElem_mem _)
      rw [hjx] at hcell
      have ca := hI.rq.ca hj
      have fa := hI.rq.frozen (3 + j)
      have hj3 : (j : Int) < 128 := by omega
      have HI := Lib.hid hI
      have HJX := Lib.hid hjx
      have HJ := Lib.hid hj
      have HIL := Lib.hid hil
      clear hI hcs hjx hj hil hbB hbD st0
      cases ha : askA r.asked (L.take i) j with
      | true =>
        simp only [ha] at ca
        go_wp2
        go_roundw
        case rel => exact ⟨i + 1, by go_num, HI.out.skip HIL.out HJX.out ha⟩
        case measure => simp [intOf]; omega
      | false =>
        simp only [ha] at ca
        have HA := Lib.hid ha
        have HQ : Hid (((askL r.asked (L.take i)).length + 1) * 8 ≤ 140737488355328) := by
          have := askL_le (L.take i) r.asked
          have h2 : (L.take i).length ≤ i := by simp; omega
          show _ ≤ _; omega
        have HO : Hid (Mi.Own (wr.setCell ⟨D, 3 + j, none⟩ (.bool true)) w1.heap.size u3 (askL r.asked (L.take i))) := HI.out.own.same fun k hk _ => Below.heap_setCell wr ⟨D, 3 + j, none⟩ _ k fun e => (by have e' : k = D := e; have := (World.ownsRow.lt HI.out.own k hk).1; have := HD.out; have := HS1.out; omega)
        have HBW : Hid (w1.heap.size ≤ (wr.setCell ⟨D, 3 + j, none⟩ (.bool true)).heap.size) := by have := HI.out.but.size; show _ ≤ _; simpa using this
        clear ha
        go_wp2_with (refine Mi.app1 (w0 := wr.setCell ⟨D, 3 + j, none⟩ (.bool true)) (wl := wr.setCell ⟨D, 3 + j, none⟩ (.bool true)) rfl (.tmp 25) (.tmp 27) rfl w1.heap.size u3 (askL r.asked (L.take i)) (j : Int) rfl rfl HO.out (Below.refl _ _) HBW.out _ (by simp) rfl HQ.out ?_; intro v2 w2 ho2 hb2 _; have I2 := Lib.hid (HI.out.add HE1.out (Nat.lt_of_lt_of_le HD.out HS1.out) (Nat.lt_of_lt_of_le HDm.out HS1.out) HIL.out HJX.out HJ.out HA.out ho2 hb2); clear ho2 hb2)
        go_roundw
        case rel => exact ⟨i + 1, by go_num, I2.out⟩
        case measure => simp [intOf]; omega
    · obtain rfl : i = n := by omega
      have ht : L.take i = L := by rw [← HN.out, List.take_length]
      have h1 := hI.rq
      have h2 := hI.own
      rw [ht] at h1 h2
      rw [← HR.out] at h1
      have H1 := Lib.hid h1
      have H2 : Hid (Mi.Own wr w.heap.size u3 (askL r.asked L)) := h2.base fun k e => Nat.le_trans HS1.out (World.ownsRow.lt h2 k e).1
      have H3 : Hid (But (fun k => k = D) w wr) := (But.of_below hb1.out).trans hI.but fun _ _ h => h
      clear h1 h2 hI ht st0
      go_wp2
      go_ret
      exact ⟨_, rfl, H2, H1, H3⟩
end Go.Proofs.Ytnfjfcoonabmmaa.Rv
