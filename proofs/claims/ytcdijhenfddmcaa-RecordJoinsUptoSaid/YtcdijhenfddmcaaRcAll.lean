/- The contract of the reference of record: All. -/
import Derived.Test.YtcdijhenfddmcaaRcPuts
import Derived.Test.YtcdijhenfddmcaaWnt
namespace Go.Proofs.Ytcdijhenfddmcaa.Rc
open Go.RowKit
open Go.Proofs.Ytcdijhenfddmcaa.Me Go.Proofs.Ytcdijhenfddmcaa.Ma Go.Proofs.Ytcdijhenfddmcaa.Hd
set_option linter.unusedVariables false
set_option linter.unusedSimpArgs false

/-- Those payloads that may be. -/
def fitL (ls : List (List Nat)) : List (List Nat) := ls.filter fitR
theorem fit_step {ls : List (List Nat)} {k : Nat} (h : k < ls.length) : fitL (ls.take (k + 1)) = fitL (ls.take k) ++ (if fitR (lsAt ls k) = true then [lsAt ls k] else []) := by
  have e : lsAt ls k = ls[k] := by simp [lsAt, h]
  rw [List.take_succ_eq_append_getElem h, fitL, List.filter_append, e]
  congr 1
  by_cases hf : fitR ls[k] = true <;> simp [hf]
theorem fitL_fine {ls : List (List Nat)} (h : ∀ l ∈ ls, ∀ z ∈ l, z < 256) : Fine (fitL ls) := fun p hp => by
  have := List.mem_filter.mp hp
  exact ⟨this.2, h p this.1⟩
theorem fitL_len (ls : List (List Nat)) : (fitL ls).length ≤ ls.length := List.length_filter_le _ _
theorem fitL_siz : ∀ ls : List (List Nat), siz (fitL ls) ≤ 8 * ls.length + ls.flatten.length
  | [] => by simp [fitL, siz]
  | p :: ls => by
    have ih := fitL_siz ls
    by_cases hf : fitR p = true
    · have : fitL (p :: ls) = p :: fitL ls := by simp [fitL, hf]
      rw [this, siz_cons, List.flatten_cons, List.length_append, List.length_cons]; omega
    · have : fitL (p :: ls) = fitL ls := by simp [fitL, hf]
      rw [this, List.flatten_cons, List.length_append, List.length_cons]; omega
theorem fit_bytes {ls : List (List Nat)} (h : ∀ l ∈ ls, ∀ z ∈ l, z < 256) : ∀ l ∈ fitL ls, ∀ z ∈ l, z < 256 := fun l hl => (fitL_fine h l hl).2
theorem siz_take (ps : List (List Nat)) (k : Nat) : siz (fitL (ps.take k)) ≤ siz (fitL ps) := by
  conv => rhs; rw [← List.take_append_drop k ps, fitL, List.filter_append, siz_append]
  unfold fitL; omega
set_option maxHeartbeats 2000000 in
theorem All_any (a : Option Addr) (cap : Nat) (ls : List (List Nat)) (w : World) (hl : Hid (Me.Lst w w.heap.size a ls)) (hn : Hid (Me.Nils w a ls)) (hc : ls.length ≤ 9223372036854775807) (ht : ls.flatten.length + ls.length ≤ 1048576) :
    Calls Try.prog 18 #[.slice a ls.length cap] w fun e w' => ∃ v u, e = .returned (.tuple #[v, u]) ∧ Hid (Me.Own w' w.heap.size v (flatR (fitL ls))) ∧ Hid (Wnt w w' u (fitL ls)) ∧ Hid (Below w.heap.size w w') := by
  have HB := Lib.hid (Me.Lst.bytes hl.out)
  have HT := Lib.hid ht
  have HSZ : Hid (siz (fitL ls) ≤ 16777216) := by have := fitL_siz ls; show _ ≤ _; omega
  clear ht
  go_enter Try.func18, Try.ntmps18
  go_wp2
  have hout0 : Hid (Me.Own ((w.alloc (.cells #[] 5)).alloc (.cells #[] 22)) w.heap.size (.slice (some ⟨w.heap.size, 0, none⟩) 0 0) []) := (Own.lit (Below.refl _ _)).alloc _
  have hwnt0 : Hid (Wnt w ((w.alloc (.cells #[] 5)).alloc (.cells #[] 22)) (.slice (some ⟨w.heap.size + 1, 0, none⟩) 0 0) []) := by
    have := Wnt.lit (w0 := w) (w := w.alloc (.cells #[] 5)) (below_alloc (Below.refl _ _))
    rwa [World.size_alloc] at this
  have hbel0 : Hid (Below w.heap.size w ((w.alloc (.cells #[] 5)).alloc (.cells #[] 22))) := below_alloc (below_alloc (Below.refl _ _))
  go_loopw [4, 5, 6] (fun v u i wr => ∃ k : Nat, k ≤ ls.length ∧ i = .int .i64 k ∧ Me.Own wr w.heap.size v (flatR (fitL (ls.take k))) ∧ Wnt w wr u (fitL (ls.take k)) ∧ Below w.heap.size w wr) (fun _ _ i _ => ls.length - (intOf i).toNat)
  case atStart => exact ⟨0, Nat.zero_le _, rfl, hout0.out, hwnt0.out, hbel0.out⟩
  case round =>
    obtain ⟨k, hk, rfl, hown, hwnt, hbel⟩ := hrel
    have HO := Lib.hid hown
    have HW := Lib.hid hwnt
    have HBE := Lib.hid hbel
    clear hown hwnt hbel
    by_cases hlt : k < ls.length
    · obtain ⟨b, off, rfl, hbB, hcs⟩ := (hl.out.below HBE.out (Nat.le_refl _)) (by omega)
      obtain ⟨b0, off0, e0, hb0, hcs0⟩ := hl.out (by omega)
      obtain ⟨rfl, rfl⟩ : b = b0 ∧ off = off0 := by simpa using e0
      obtain ⟨A, c, hcell0, hlc, hc2, hr0⟩ := hcs0 k hlt
      have hcell := (HBE.out.cell (p := ⟨b, off + k, none⟩) hb0).trans hcell0
      have hA : A = none → (lsAt ls k).length = 0 ∧ c = 0 := by
        rintro rfl
        exact hn.out b off rfl k hlt _ _ hcell0
      have HS := Lib.hid (fit_step hlt)
      have hszk : siz (fitL (ls.take (k + 1))) ≤ siz (fitL ls) := siz_take ls (k + 1)
      have hbl := hr0.1
      have D := RPut_any A c (lsAt ls k) wr ((hr0.below HBE.out).more HBE.out.size) hA
      have hlen : (fitL (ls.take k)).length ≤ 1048576 := by
        have h1 := fitL_len (ls.take k)
        have h2 := HT.out
        simp only [List.length_take] at h1
        omega
      by_cases hf : fitR (lsAt ls k) = true
      · rw [if_pos hf] at HS
        obtain ⟨p1, p2⟩ := put_fit hf
        have HD : Hid (Calls Try.prog 10 #[.slice A (lsAt ls k).length c] wr fun e w1 => ∃ A3 k3, e = .returned (.tuple #[.slice A3 (recL (lsAt ls k)).length k3, .int .i64 0]) ∧ Hid (Rd w1 w1.heap.size A3 (recL (lsAt ls k))) ∧ Hid (A3 = none → (recL (lsAt ls k)).length = 0 ∧ k3 = 0) ∧ w1.cell? ⟨b, off + k, none⟩ = some (.slice A (lsAt ls k).length c) ∧ Hid (Below wr.heap.size wr w1)) := by
          refine D.mono ?_
          rintro e w1 ⟨A3, k3, he, hO, hB⟩
          rw [p1, p2] at he
          rw [p1] at hO
          obtain ⟨r1, r2, _, _⟩ := own_rd hO.out (rec_bytes hbl)
          exact ⟨A3, k3, he, r1, r2, (hB.out.cell (p := ⟨b, off + k, none⟩) hbB).trans hcell, hB⟩
        have HLN : Hid ((flatR (fitL (ls.take k))).length + (recL (lsAt ls k)).length ≤ 140737488355328) := by
          rw [HS.out, siz_append, siz_cons, siz_nil] at hszk
          have := HSZ.out
          show _ + _ ≤ _
          rw [flat_length, rec_len]; omega
        have HF : Hid (flatR (fitL (ls.take k)) ++ recL (lsAt ls k) = flatR (fitL (ls.take (k + 1)))) := by
          show _ = _
          rw [HS.out, flat_append]; simp [flatR]
        have h24 : ((fitL (ls.take k)).length + 1) * 24 ≤ 140737488355328 := by omega
        have HR0 := Lib.hid hr0
        have HA0 := Lib.hid hA
        obtain ⟨r, hrd⟩ : ∃ r, lsAt ls k = r := ⟨_, rfl⟩
        obtain ⟨rl, hrl⟩ : ∃ rl, recL r = rl := ⟨_, rfl⟩
        obtain ⟨ps, hps⟩ : ∃ ps, fitL (ls.take k) = ps := ⟨_, rfl⟩
        rw [hrd] at hcell hlc HD HS HLN HF HR0 HA0
        rw [hrl] at HD HLN HF
        rw [hps] at HO HW HS HLN HF h24
        clear D hf p1 p2 hcs hcs0 hcell0 hr0 hA e0 hbl hszk hlen hrd hrl hps
        go_wp2_with (first
          | (go_at_call 10; refine HD.out.mono ?_; rintro e w1 ⟨A3, k3, rfl, HR1, HN1, hcell1, HB1⟩; have BW1 : Hid (Below w.heap.size w w1) := HBE.out.trans (HB1.out.mono HBE.out.size))
          | (at_builtin; refine app8 (w0 := w) rfl (.tmp 27) (.tmp 28) rfl w.heap.size w1.heap.size _ (flatR ps) rl rfl (own_same HO.out fun j _ hj => HB1.out.block j hj) BW1.out BW1.out.size A3 k3 rfl HR1.out HN1.out HLN.out ?_; intro v2 w2 ho2 hb2 hg2; rw [HF.out] at ho2; have HO2 := Lib.hid ho2; have HB2 := Lib.hid hb2; have hcell2 : w2.cell? ⟨b, off + k, none⟩ = some (.slice A r.length c) := (by rw [← hcell1]; exact World.cell?_of_block (w := w1) (a := ⟨b, off + k, none⟩) (hg2.block b (Nat.lt_of_lt_of_le hbB HB1.out.size) (fun e => by have := (HO.out.lt b e.symm).1; omega))); have HW2 : Hid (Wnt w w2 u5 ps) := (HW.out.same fun j _ hj => HB1.out.block j hj).same (fun j hj hjl => hg2.block j hjl (fun e => rows_ne (HW.out.same fun j _ hj => HB1.out.block j hj) (own_same HO.out fun j _ hj => HB1.out.block j hj) hj e)); clear ho2 hb2 hg2)
          | (at_builtin; refine appW (w0 := w) rfl (.tmp 30) (.tmp 35) rfl u5 ps r A r.length c rfl rfl rfl HW2.out HB2.out hlc hc2 HR0.out HA0.out _ rfl rfl h24 ?_; intro v3 w3 q1 q2 q3; rw [← HS.out] at q1; have Q1 := Lib.hid q1; have HO3 : Hid (Me.Own w3 w.heap.size v2 (flatR (fitL (ls.take (k + 1))))) := HO2.out.kept q2 (line_ne HW2.out HO2.out); have HB3 : Hid (Below w.heap.size w w3) := HB2.out.grown q2 HB2.out.size q3; clear q1 q2 q3))
        go_roundw
        case rel => exact ⟨k + 1, by omega, by go_num, HO3.out, Q1.out, HB3.out⟩
        case measure => simp [intOf]; omega
      · rw [if_neg hf, List.append_nil] at HS
        obtain ⟨p1, p2⟩ := put_nofit hf
        have HD : Hid (Calls Try.prog 10 #[.slice A (lsAt ls k).length c] wr fun e w1 => ∃ A3 k3, e = .returned (.tuple #[.slice A3 0 k3, .int .i64 (putE (lsAt ls k))]) ∧ Hid (Below wr.heap.size wr w1)) := by
          refine D.mono ?_
          rintro e w1 ⟨A3, k3, he, hO, hB⟩
          rw [p1] at he
          exact ⟨A3, k3, he, hB⟩
        have q1 : (putE (lsAt ls k) == 0) = false := by simpa using p2
        obtain ⟨ee, hee⟩ : ∃ ee, putE (lsAt ls k) = ee := ⟨_, rfl⟩
        obtain ⟨m, hm⟩ : ∃ m, (lsAt ls k).length = m := ⟨_, rfl⟩
        rw [hee] at HD q1
        rw [hm] at HD hcell hlc
        clear D hf p1 p2 hcs hcs0 hcell0 hr0 hA e0 hbl hszk hlen hee hm
        go_wp2_with (go_at_call 10; refine HD.out.mono ?_; rintro e w1 ⟨A3, k3, rfl, HB1⟩)
        go_roundw
        case rel => exact ⟨k + 1, by omega, by go_num, by rw [HS.out]; exact own_same HO.out fun j _ hj => HB1.out.block j hj, by rw [HS.out]; exact HW.out.same fun j _ hj => HB1.out.block j hj, HBE.out.trans (HB1.out.mono HBE.out.size)⟩
        case measure => simp [intOf]; omega
    · have HE : Hid (ls.take k = ls) := by show _ = _; rw [List.take_of_length_le (by omega)]
      rw [HE.out] at HO HW
      go_wp2
      go_ret2
      exact ⟨_, _, rfl, HO, HW, HBE⟩
end Go.Proofs.Ytcdijhenfddmcaa.Rc
