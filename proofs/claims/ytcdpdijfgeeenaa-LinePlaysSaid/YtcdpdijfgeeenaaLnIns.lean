/- One element put into a slice of one's own by slices.Insert, anywhere: bytes and numbers. -/
import Derived.Test.YtcdpdijfgeeenaaLnInsB
import Derived.Test.YtcdpdijfgeeenaaLnInsI
import Derived.Test.YtcdpdijfgeeenaaLnTake
namespace Go.Proofs.Ytcdpdijfgeeenaa.Li
open Go.RowKit
open Go.Proofs.Ytcdpdijfgeeenaa.Sb
set_option linter.unusedVariables false
set_option linter.unusedSimpArgs false

theorem grownBy_of_below {w w' : World} (h : Below w.heap.size w w') (r : Option Nat) : w.grownBy w' r := ⟨h.os, h.tape, h.output, h.size, fun k hk _ => h.block k hk⟩
theorem InsEnd_b (w : World) (A : Option Addr) (c : Nat) (l : List Nat) (gx b : Nat) (h : Hid (Me.Own w 0 (.slice A l.length c) l)) (hb : b < 256) (hx : w.heap[gx]? = some (.cells #[.int .u8 (b : Int)] 5 (0, 0))) (hl : l.length ≤ 65536) :
    Calls Try.prog 30 #[.slice A l.length c, .int .i64 (l.length : Int), .slice (some ⟨gx, 0, none⟩) 1 1] w fun e w' => ∃ v', e = .returned v' ∧ Hid (Me.Own w' 0 v' (l ++ [b])) ∧ Hid (w.grownBy w' (Value.slice A l.length c).ownBlock) ∧ Hid (∀ q, v'.ownBlock = some q → (Value.slice A l.length c).ownBlock = some q ∨ w.heap.size ≤ q) := by
  have HR : Hid (Me.Rd w w.heap.size (some ⟨gx, 0, none⟩) [b]) := by
    refine ⟨by simpa using hb, fun _ => ⟨gx, 0, rfl, (Array.getElem?_eq_some_iff.1 hx).1, fun i hi => ?_⟩⟩
    have : i = 0 := by simpa using hi
    subst this
    rw [cell_of_row w gx _ _ _ (0, 0) hx]; rfl
  have HLen : Hid (l.length + [b].length ≤ 140737488355328) := by show _ ≤ _; simp; omega
  obtain ⟨n, hn⟩ : ∃ n, l.length = n := ⟨_, rfl⟩
  have HN : Hid (l.length = n) := hn
  rcases h.out.2 with ⟨h1, h2⟩ | ⟨g, cap, cur, h1, q1, q2, q3, q4, q5, q6⟩
  · rw [h1] at h ⊢
    obtain rfl := List.eq_nil_of_length_eq_zero h2
    clear h1
    go_enter Try.func30, Try.ntmps30
    go_wp2_with (at_builtin; refine Hd.app8q rfl (.tmp 23) (.tmp 24) rfl w.heap.size (.slice none 0 0) [] [b] rfl (Me.Own.nil _ _) (some ⟨gx, 0, none⟩) 1 rfl HR.out (fun e => by cases e) HLen.out ?_; intro v1 w1 ho1 hg1 hk1; have HO1 := Lib.hid ho1; have HG1 := Lib.hid hg1; have HK1 := Lib.hid hk1; clear ho1 hg1 hk1)
    go_ret
    exact ⟨_, rfl, HO1, HG1, HK1⟩
  · injection h1 with e1 e2 e3
    subst e1 e3
    obtain ⟨A2, hA2⟩ := cutA g c n
    rw [hn] at h q3 ⊢
    have q7 : c ≤ 9223372036854775807 := by unfold maxLen at q4; omega
    clear q1 q2 q4 q5 q6
    go_enter Try.func30, Try.ntmps30
    go_wp2_with (at_builtin; refine Hd.app8q rfl (.tmp 23) (.tmp 24) rfl w.heap.size (.slice (some ⟨g, 0, none⟩) n c) l [b] rfl h.out (some ⟨gx, 0, none⟩) 1 rfl HR.out (fun e => by cases e) HLen.out ?_; intro v1 w1 ho1 hg1 hk1; have HO1 := Lib.hid ho1; have HG1 := Lib.hid hg1; have HK1 := Lib.hid hk1; clear ho1 hg1 hk1)
    go_ret
    exact ⟨_, rfl, HO1, HG1, HK1⟩
theorem InsEnd_i (w : World) (A : Option Addr) (c : Nat) (l : List Int) (gx : Nat) (b : Int) (h : Hid (Mi.Own w 0 (.slice A l.length c) l)) (hx : w.heap[gx]? = some (.cells #[.int .i64 b] 3 (0, 0))) (hl : l.length ≤ 65536) :
    Calls Try.prog 31 #[.slice A l.length c, .int .i64 (l.length : Int), .slice (some ⟨gx, 0, none⟩) 1 1] w fun e w' => ∃ v', e = .returned v' ∧ Hid (Mi.Own w' 0 v' (l ++ [b])) ∧ Hid (w.grownBy w' (Value.slice A l.length c).ownBlock) ∧ Hid (∀ q, v'.ownBlock = some q → (Value.slice A l.length c).ownBlock = some q ∨ w.heap.size ≤ q) := by
  have HR : Hid (w.cell? ⟨gx, 0, none⟩ = some (.int .i64 b)) := by show _ = _; rw [cell_of_row w gx _ _ _ (0, 0) hx]; rfl
  have HLen : Hid ((l.length + 1) * 8 ≤ 140737488355328) := by show _ ≤ _; omega
  obtain ⟨n, hn⟩ : ∃ n, l.length = n := ⟨_, rfl⟩
  have HN : Hid (l.length = n) := hn
  rcases h.out.2 with ⟨h1, h2⟩ | ⟨g, cap, cur, h1, q1, q2, q3, q4, q5, q6⟩
  · rw [h1] at h ⊢
    obtain rfl := List.eq_nil_of_length_eq_zero h2
    clear h1
    go_enter Try.func31, Try.ntmps31
    go_wp2_with (at_builtin; refine wpList_plain rfl fun K2 hK2 => app1w (.tmp 23) (.tmp 24) rfl (.slice none 0 0) [] b rfl (Mi.Own.nil _ _) gx HR.out rfl HLen.out ?_; intro v1 w1 ho1 hg1 hk1; have HO1 := Lib.hid ho1; have HG1 := Lib.hid hg1; have HK1 := Lib.hid hk1; clear ho1 hg1 hk1; refine hK2 _ _ ?_; clear hK2 K2)
    go_ret
    exact ⟨_, rfl, HO1, HG1, HK1⟩
  · injection h1 with e1 e2 e3
    subst e1 e3
    obtain ⟨A2, hA2⟩ := cutA g c n
    rw [hn] at h q3 ⊢
    have q7 : c ≤ 9223372036854775807 := by unfold maxLen at q4; omega
    clear q1 q2 q4 q5 q6
    go_enter Try.func31, Try.ntmps31
    go_wp2_with (at_builtin; refine wpList_plain rfl fun K2 hK2 => app1w (.tmp 23) (.tmp 24) rfl (.slice (some ⟨g, 0, none⟩) n c) l b rfl h.out gx HR.out rfl HLen.out ?_; intro v1 w1 ho1 hg1 hk1; have HO1 := Lib.hid ho1; have HG1 := Lib.hid hg1; have HK1 := Lib.hid hk1; clear ho1 hg1 hk1; refine hK2 _ _ ?_; clear hK2 K2)
    go_ret
    exact ⟨_, rfl, HO1, HG1, HK1⟩
/-- slices.Insert at bytes of one's own. -/
theorem Ins_b (w : World) (v : Value) (l : List Nat) (gx b k : Nat) (h : Me.Own w 0 v l) (hb : b < 256) (hx : w.heap[gx]? = some (.cells #[.int .u8 (b : Int)] 5 (0, 0))) (hne : v.ownBlock ≠ some gx) (hl : l.length ≤ 65536) (hk : k ≤ l.length) :
    Calls Try.prog 30 #[v, .int .i64 (k : Int), .slice (some ⟨gx, 0, none⟩) 1 1] w fun e w' => ∃ v', e = .returned v' ∧ Hid (Me.Own w' 0 v' (l.take k ++ b :: l.drop k)) ∧ Hid (w.grownBy w' v.ownBlock) ∧ Hid (∀ q, v'.ownBlock = some q → v.ownBlock = some q ∨ w.heap.size ≤ q) := by
  by_cases he : k = l.length
  · subst he
    obtain ⟨A, n, c, rfl⟩ := own_form h
    have hn : n = l.length := by
      rcases h.2 with ⟨h1, h2⟩ | ⟨g, cap, cur, h1, _⟩
      · injection h1 with _ h1 _; rw [h1, h2]
      · injection h1
    subst hn
    refine (InsEnd_b w A c l gx b h hb hx hl).mono ?_
    rintro e w' ⟨v', rfl, h1, h2, h3⟩
    refine ⟨v', rfl, ?_, h2, h3⟩
    rw [List.take_length, List.drop_length]
    exact h1
  · obtain ⟨r, hr⟩ : ∃ r, l.length = k + r := ⟨l.length - k, by omega⟩
    have hlm : (l.map Me.byV).length = k + r := by rw [List.length_map, hr]
    have hout : (l.map Me.byV).take k ++ Me.byV b :: (l.map Me.byV).drop k = (l.take k ++ b :: l.drop k).map Me.byV := by simp
    have hlen : (l.take k ++ b :: l.drop k).length = k + r + 1 := by simp; omega
    rcases h.2 with ⟨rfl, h2⟩ | ⟨g, cap, cur, rfl, q1, q2, q3, q4, q5, q6⟩
    · exact absurd h2 (by omega)
    · have hg2 : w.heap[g]? = some (.cells cur.toList.toArray 5 (0, 0)) := by rw [Array.toArray_toList]; exact q2
      rw [hr] at q3 q6 ⊢
      by_cases hc : cap = k + r
      · subst hc
        refine (InsMidB g gx k r (l.map Me.byV) (Me.byV b) w hlm (by omega) (h.cells rfl) (Array.getElem?_eq_some_iff.1 q2).1 (Me.one_cells l) rfl (by show _ = _; rw [cell_of_row w gx _ _ _ (0, 0) hx]; rfl) (by omega)).mono ?_
        rintro e w' ⟨v', rfl, h1, h2⟩
        refine ⟨v', rfl, ?_, grownBy_of_below h2.out _, fun q e => .inr (h1.out.lt q e).1⟩
        have := own_base h1.out (B' := 0) fun _ _ => Nat.zero_le _
        rw [hout] at this
        unfold Me.Own
        rw [hlen]
        exact this
      · refine (InsRoomB g gx k r cap (l.map Me.byV) cur.toList (Me.byV b) w hlm (by omega) (by omega) hg2 (by show _ = _; rw [Array.length_toList, q5, Nat.mul_one]) (by show _ = _; rw [← q6, Nat.mul_one]) (Me.one_cells l) rfl hx (fun e => hne (by rw [e]; rfl)) (by unfold maxLen at q4; omega) (by omega)).mono ?_
        rintro e w' ⟨rfl, ⟨cur', c1, c2, c3⟩, h2⟩
        refine ⟨_, rfl, ?_, h2, fun q e => .inl e⟩
        rw [hout] at c3
        refine ⟨by rw [List.length_map, Nat.mul_one], .inr ⟨g, cap, cur'.toArray, by rw [hlen], Nat.zero_le _, c1, by rw [hlen]; omega, q4, by simp [c2], ?_⟩⟩
        rw [hlen, Nat.mul_one]
        exact c3
/-- .. at numbers. -/
theorem Ins_i (w : World) (v : Value) (l : List Int) (gx : Nat) (b : Int) (k : Nat) (h : Mi.Own w 0 v l) (hx : w.heap[gx]? = some (.cells #[.int .i64 b] 3 (0, 0))) (hne : v.ownBlock ≠ some gx) (hl : l.length ≤ 65536) (hk : k ≤ l.length) :
    Calls Try.prog 31 #[v, .int .i64 (k : Int), .slice (some ⟨gx, 0, none⟩) 1 1] w fun e w' => ∃ v', e = .returned v' ∧ Hid (Mi.Own w' 0 v' (l.take k ++ b :: l.drop k)) ∧ Hid (w.grownBy w' v.ownBlock) ∧ Hid (∀ q, v'.ownBlock = some q → v.ownBlock = some q ∨ w.heap.size ≤ q) := by
  by_cases he : k = l.length
  · subst he
    obtain ⟨A, n, c, rfl⟩ := own_form h
    have hn : n = l.length := by
      rcases h.2 with ⟨h1, h2⟩ | ⟨g, cap, cur, h1, _⟩
      · injection h1 with _ h1 _; rw [h1, h2]
      · injection h1
    subst hn
    refine (InsEnd_i w A c l gx b h hx hl).mono ?_
    rintro e w' ⟨v', rfl, h1, h2, h3⟩
    refine ⟨v', rfl, ?_, h2, h3⟩
    rw [List.take_length, List.drop_length]
    exact h1
  · obtain ⟨r, hr⟩ : ∃ r, l.length = k + r := ⟨l.length - k, by omega⟩
    have hlm : (l.map Mi.iV).length = k + r := by rw [List.length_map, hr]
    have hout : (l.map Mi.iV).take k ++ Mi.iV b :: (l.map Mi.iV).drop k = (l.take k ++ b :: l.drop k).map Mi.iV := by simp
    have hlen : (l.take k ++ b :: l.drop k).length = k + r + 1 := by simp; omega
    rcases h.2 with ⟨rfl, h2⟩ | ⟨g, cap, cur, rfl, q1, q2, q3, q4, q5, q6⟩
    · exact absurd h2 (by omega)
    · have hg2 : w.heap[g]? = some (.cells cur.toList.toArray 3 (0, 0)) := by rw [Array.toArray_toList]; exact q2
      rw [hr] at q3 q6 ⊢
      by_cases hc : cap = k + r
      · subst hc
        refine (InsMidI g gx k r (l.map Mi.iV) (Mi.iV b) w hlm (by omega) (h.cells rfl) (Array.getElem?_eq_some_iff.1 q2).1 (Mi.one_cells l) rfl (by show _ = _; rw [cell_of_row w gx _ _ _ (0, 0) hx]; rfl) (by omega)).mono ?_
        rintro e w' ⟨v', rfl, h1, h2⟩
        refine ⟨v', rfl, ?_, grownBy_of_below h2.out _, fun q e => .inr (h1.out.lt q e).1⟩
        have := own_base h1.out (B' := 0) fun _ _ => Nat.zero_le _
        rw [hout] at this
        unfold Mi.Own
        rw [hlen]
        exact this
      · refine (InsRoomI g gx k r cap (l.map Mi.iV) cur.toList (Mi.iV b) w hlm (by omega) (by omega) hg2 (by show _ = _; rw [Array.length_toList, q5, Nat.mul_one]) (by show _ = _; rw [← q6, Nat.mul_one]) (Mi.one_cells l) rfl hx (fun e => hne (by rw [e]; rfl)) (by unfold maxLen at q4; omega) (by omega)).mono ?_
        rintro e w' ⟨rfl, ⟨cur', c1, c2, c3⟩, h2⟩
        refine ⟨_, rfl, ?_, h2, fun q e => .inl e⟩
        rw [hout] at c3
        refine ⟨by rw [List.length_map, Nat.mul_one], .inr ⟨g, cap, cur'.toArray, by rw [hlen], Nat.zero_le _, c1, by rw [hlen]; omega, q4, by simp [c2], ?_⟩⟩
        rw [hlen, Nat.mul_one]
        exact c3
end Go.Proofs.Ytcdpdijfgeeenaa.Li
