/- The reference's numbers of a text. -/
import Derived.Test.YtljndfkmppmbkaaDoorMgRText
namespace Go.Proofs.YtljndfkmppmbkaaDoor.Mg
open Go.RowKit
open Go.Proofs.YtljndfkmppmbkaaDoor.Me Go.Proofs.YtljndfkmppmbkaaDoor.Ba Go.Proofs.YtljndfkmppmbkaaDoor.Ma Go.Proofs.YtljndfkmppmbkaaDoor.Hd
set_option linter.unusedVariables false
set_option linter.unusedSimpArgs false

def iL (l : List Nat) : List Int := l.map fun (n : Nat) => (n : Int)
theorem iL_len (l : List Nat) : (iL l).length = l.length := by simp [iL]
theorem iL_snoc (l : List Nat) (n : Nat) : iL l ++ [(n : Int)] = iL (l ++ [n]) := by simp [iL]
theorem drop_cons {s : List UInt8} {k : Nat} (h : k < s.length) : s.drop k = s[k] :: s.drop (k + 1) := List.drop_eq_getElem_cons h
set_option maxRecDepth 100000 in
set_option maxHeartbeats 8000000 in
theorem RNums_any (s : List UInt8) (hs : s.length ≤ 1048576) (w : World) : Calls Tryd.prog 49 #[.string (sB s)] w fun e w' => ∃ v, e = .returned v ∧ Hid (Mi.Own w' w.heap.size v (iL (nm 0 s))) ∧ Hid (Below w.heap.size w w') := by
  obtain ⟨N, hN⟩ : ∃ N, nm 0 s = N := ⟨_, rfl⟩
  have HN := Lib.hid hN
  rw [hN]
  clear hN
  have HI : Hid (∀ k (h : k < s.length), ∀ W, (Instr.index 9 (.string (sB s)) (.int .i64 (k : Int))).run Tryd.prog W = .ok (.int .u8 ((s[k].toNat : Nat) : Int)) W) := fun k h W => index_sB s h W
  have HSz : Hid ((sB s).size = s.length) := sB_size s
  have HO := Lib.hid (Mi.Own.lit (Below.refl w.heap.size w))
  have HB := Lib.hid (Me.below_alloc (o := .cells #[] 3) (Below.refl w.heap.size w))
  obtain ⟨S, hS⟩ : ∃ S, sB s = S := ⟨_, rfl⟩
  rw [hS] at HI HSz ⊢
  clear hS
  go_enter Tryd.func49, Tryd.ntmps49
  go_wp2
  go_loopw [3, 4, 5] (fun v3 v4 v5 wr => ∃ (k n : Nat) (l : List Nat), v5 = .int .i64 (k : Int) ∧ v4 = .int .i64 (n : Int) ∧ k ≤ s.length + 1 ∧ n ≤ 65536 ∧ Hid (if k ≤ s.length then l ++ nm n (s.drop k) = N else l = N) ∧ Hid (l.length ≤ k) ∧ Hid (Mi.Own wr w.heap.size v3 (iL l)) ∧ Hid (Below w.heap.size w wr)) (fun _ _ v5 _ => s.length + 1 - (intOf v5).toNat)
  case atStart => exact ⟨0, 0, [], rfl, rfl, by omega, by omega, by show (if _ then _ else _); rw [if_pos (by omega)]; exact HN.out, Nat.le_refl _, HO.out, HB.out⟩
  case round =>
    obtain ⟨k, n, l, rfl, rfl, hk, hn, hl, hlk, HOr, HBr⟩ := hrel
    clear HO HB HN
    by_cases h1 : k ≤ s.length
    · have hl2 := hl.out
      rw [if_pos h1] at hl2
      have g1 : (k : Int) ≤ (S.size : Int) := by have := HSz.out; omega
      by_cases h2 : k < s.length
      · have g2 : (k : Int) < (S.size : Int) := by have := HSz.out; omega
        have q2 := HI.out k h2
        rw [drop_cons h2] at hl2
        obtain ⟨c, hc⟩ : ∃ c, s[k] = c := ⟨_, rfl⟩
        rw [hc] at q2 hl2
        obtain ⟨x, hx⟩ : ∃ x, c.toNat = x := ⟨_, rfl⟩
        rw [hx] at q2
        have hx256 : x < 256 := by rw [← hx]; exact c.toNat_lt
        by_cases a1 : 48 ≤ x
        · by_cases a2 : x ≤ 57
          · have b1 : (48 : Int) ≤ (x : Int) := by omega
            have b2 : (x : Int) ≤ 57 := by omega
            have HL : Hid (if k + 1 ≤ s.length then l ++ nm (min (10 * n + (x - 48)) 65536) (s.drop (k + 1)) = N else l = N) := by
              show (if _ then _ else _)
              rw [if_pos (by omega)]
              rw [nm, if_pos (by unfold isD; rw [hx]; simp; omega)] at hl2
              unfold dv at hl2
              rw [hx] at hl2
              exact hl2
            clear hl hl2 hx hc HI
            have e5 : min (10 * (n : Int) + (x : Int) - 48) 65536 = ((min (10 * n + (x - 48)) 65536 : Nat) : Int) := by omega
            go_wp2_with (rw [q2])
            go_roundw
            case rel => exact ⟨k + 1, min (10 * n + (x - 48)) 65536, l, by go_num, rfl, by omega, by omega, HL.out, Nat.le_trans hlk.out (by omega), HOr.out, HBr.out⟩
            case measure => simp [intOf]; omega
          · have b1 : (48 : Int) ≤ (x : Int) := by omega
            have b2 : ¬ (x : Int) ≤ 57 := by omega
            have HLN : Hid (((iL l).length + 1) * 8 ≤ 140737488355328) := by show _ ≤ _; rw [iL_len]; have := hlk.out; omega
            have HL : Hid (if k + 1 ≤ s.length then (l ++ [n]) ++ nm 0 (s.drop (k + 1)) = N else (l ++ [n]) = N) := by
              show (if _ then _ else _)
              rw [if_pos (by omega)]
              rw [nm, if_neg (by unfold isD; rw [hx]; simp; omega)] at hl2
              rw [List.append_assoc]
              exact hl2
            clear hl hl2 hx hc HI
            go_wp2_with (first
              | (rw [q2])
              | (at_builtin; refine Mi.app1 (w0 := w) (wl := wr) rfl (.tmp 38) (.tmp 40) rfl w.heap.size _ (iL l) (n : Int) rfl rfl HOr.out HBr.out HBr.out.size _ rfl rfl HLN.out ?_; intro v2 w2 ho2 hb2 _; rw [iL_snoc] at ho2; have HO2 := Lib.hid ho2; have HB2 := Lib.hid hb2; clear ho2 hb2))
            go_roundw
            case rel => exact ⟨k + 1, 0, l ++ [n], by go_num, rfl, by omega, by omega, HL.out, by show _ ≤ _; rw [List.length_append]; have := hlk.out; simp; omega, HO2.out, HB2.out⟩
            case measure => simp [intOf]; omega
        · have b1 : ¬ (48 : Int) ≤ (x : Int) := by omega
          have HLN : Hid (((iL l).length + 1) * 8 ≤ 140737488355328) := by show _ ≤ _; rw [iL_len]; have := hlk.out; omega
          have HL : Hid (if k + 1 ≤ s.length then (l ++ [n]) ++ nm 0 (s.drop (k + 1)) = N else (l ++ [n]) = N) := by
            show (if _ then _ else _)
            rw [if_pos (by omega)]
            rw [nm, if_neg (by unfold isD; rw [hx]; simp; omega)] at hl2
            rw [List.append_assoc]
            exact hl2
          clear hl hl2 hx hc HI
          go_wp2_with (first
            | (rw [q2])
            | (at_builtin; refine Mi.app1 (w0 := w) (wl := wr) rfl (.tmp 38) (.tmp 40) rfl w.heap.size _ (iL l) (n : Int) rfl rfl HOr.out HBr.out HBr.out.size _ rfl rfl HLN.out ?_; intro v2 w2 ho2 hb2 _; rw [iL_snoc] at ho2; have HO2 := Lib.hid ho2; have HB2 := Lib.hid hb2; clear ho2 hb2))
          go_roundw
          case rel => exact ⟨k + 1, 0, l ++ [n], by go_num, rfl, by omega, by omega, HL.out, by show _ ≤ _; rw [List.length_append]; have := hlk.out; simp; omega, HO2.out, HB2.out⟩
          case measure => simp [intOf]; omega
      · have g2 : ¬ (k : Int) < (S.size : Int) := by have := HSz.out; omega
        have HL : Hid (if k + 1 ≤ s.length then (l ++ [n]) ++ nm 0 (s.drop (k + 1)) = N else (l ++ [n]) = N) := by
          show (if _ then _ else _)
          rw [if_neg (by omega)]
          rw [List.drop_eq_nil_of_le (by omega)] at hl2
          exact hl2
        have HLN : Hid (((iL l).length + 1) * 8 ≤ 140737488355328) := by show _ ≤ _; rw [iL_len]; have := hlk.out; omega
        clear hl hl2 HI
        go_wp2_with (first
          | (at_builtin; refine Mi.app1 (w0 := w) (wl := wr) rfl (.tmp 38) (.tmp 40) rfl w.heap.size _ (iL l) (n : Int) rfl rfl HOr.out HBr.out HBr.out.size _ rfl rfl HLN.out ?_; intro v2 w2 ho2 hb2 _; rw [iL_snoc] at ho2; have HO2 := Lib.hid ho2; have HB2 := Lib.hid hb2; clear ho2 hb2))
        go_roundw
        case rel => exact ⟨k + 1, 0, l ++ [n], by go_num, rfl, by omega, by omega, HL.out, by show _ ≤ _; rw [List.length_append]; have := hlk.out; simp; omega, HO2.out, HB2.out⟩
        case measure => simp [intOf]; omega
    · have g1 : ¬ (k : Int) ≤ (S.size : Int) := by have := HSz.out; omega
      have hl2 := hl.out
      rw [if_neg h1] at hl2
      subst hl2
      clear hl HI
      go_wp2
      go_ret
      exact ⟨_, rfl, HOr.out, HBr.out⟩
end Go.Proofs.YtljndfkmppmbkaaDoor.Mg
