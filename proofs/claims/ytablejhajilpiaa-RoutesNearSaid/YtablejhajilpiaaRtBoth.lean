/- Both tables side by side: each kind of call in one contract. -/
import Derived.Test.YtablejhajilpiaaRtPure
namespace Go.Proofs.Ytablejhajilpiaa.Rt
open Go.RowKit Go.Maps
open Go.Proofs.Ytablejhajilpiaa.Sb
set_option linter.unusedVariables false
set_option linter.unusedSimpArgs false

def setT (t : Tb) (d via : Int) : Tb := if setE t d via = 0 then ⟨t.self, t.nbs, t.age, upd t.set d.toNat via, t.heard⟩ else t
def hearT (t : Tb) (n : Int) (l : List Int) : Tb := if hearE t n l = 0 then ⟨t.self, t.nbs, t.age, t.set, putK t.heard n.toNat (nwOf l)⟩ else t
def tickT (t : Tb) : Tb := t.with (tickK t.age t.heard)
theorem setE_nat {t : Tb} {d via : Int} (h : setE t d via = 0) : ∃ m : Nat, d = (m : Int) ∧ m < 64 := by
  unfold setE at h
  cases hn : isN d with
  | false => rw [if_pos hn] at h; cases h
  | true => exact isN_of hn
theorem hearE_nat {t : Tb} {n : Int} {l : List Int} (ok : t.Ok) (h : hearE t n l = 0) : ∃ m : Nat, n = (m : Int) ∧ m < 64 := by
  obtain ⟨h1, _⟩ := hearE_ok h
  obtain ⟨m, e, h2, _⟩ := ok.nbs n h1
  exact ⟨m, e, h2⟩
theorem setT_ok {t : Tb} (ok : t.Ok) (d via : Int) : (setT t d via).Ok := by
  unfold setT
  split
  · rename_i h
    obtain ⟨m, rfl, hm⟩ := setE_nat h
    rw [show ((m : Int)).toNat = m by omega]
    exact Ok.set ok h
  · exact ok
theorem hearT_ok {t : Tb} (ok : t.Ok) (n : Int) (l : List Int) : (hearT t n l).Ok := by
  unfold hearT
  split
  · rename_i h
    obtain ⟨m, rfl, hm⟩ := hearE_nat ok h
    rw [show ((m : Int)).toNat = m by omega]
    exact Ok.hear ok hm h
  · exact ok
theorem setT_nbs (t : Tb) (d via : Int) : (setT t d via).nbs = t.nbs := by unfold setT; split <;> rfl
theorem hearT_nbs (t : Tb) (n : Int) (l : List Int) : (hearT t n l).nbs = t.nbs := by unfold hearT; split <;> rfl
section
variable {s : Nat} {w w' : World} {D mb : Nat} {v : Value} {t t' : Tb}
theorem Tn.tq' (h : Tn s w D mb v t) (ht : Tq w' D mb v t') (ok : t'.Ok) (hn : t'.nbs = t.nbs) : Tn s w' D mb v t' := ⟨ht, ok, by rw [hn]; exact h.nl, h.gD, h.gm, h.gv⟩
theorem Tn.below (h : Tn s w D mb v t) (hb : Below w.heap.size w w') : Tn s w' D mb v t := h.tq' (h.tq.below hb) h.ok rfl
theorem Tn.but {S : Nat → Prop} (h : Tn s w D mb v t) (hb : But S w w') (h1 : ¬ S D) (h2 : ¬ S mb) (h3 : ∀ k, v.ownBlock = some k → ¬ S k) : Tn s w' D mb v t := h.tq' (h.tq.but hb h1 h2 h3) h.ok rfl
/-- A table's own blocks that turn. -/
abbrev DM (D mb : Nat) : Nat → Prop := fun k => k = D ∨ k = mb
theorem Set_any (h : Hid (Tn s w D mb v t)) (d via : Int) : Calls Try.prog 30 #[.pointer (some ⟨D, 0, none⟩), .int .i64 d, .int .i64 via] w fun e w' => e = .returned (.int .i64 (setE t d via : Int)) ∧ Hid (Tn s w' D mb v (setT t d via)) ∧ Hid (But (DM D mb) w w') := by
  by_cases hE : setE t d via = 0
  · obtain ⟨m, rfl, hm⟩ := setE_nat hE
    refine (Set_ok w D mb v t h.out.tq h.out.nl m hm via hE).mono ?_
    rintro e w' ⟨rfl, ht, hb⟩
    refine ⟨by rw [hE]; rfl, h.out.tq' ?_ (setT_ok h.out.ok _ _) (setT_nbs _ _ _), hb.out.mono fun k _ e => .inl e⟩
    unfold setT
    rw [if_pos hE, show ((m : Int)).toNat = m by omega]
    exact ht.out
  · refine (Set_no w D mb v t h.out.tq h.out.nl d via hE).mono ?_
    rintro e w' ⟨rfl, rfl⟩
    refine ⟨rfl, ?_, But.refl _ _⟩
    unfold setT
    rw [if_neg hE]
    exact h
theorem Hear_any (h : Hid (Tn s w D mb v t)) (n : Int) (A : Option Addr) (c B : Nat) (l : List Int) (hr : Hid (Mi.Rd w B A l)) (hB : B ≤ w.heap.size) (hc : l.length ≤ 9223372036854775806) : Calls Try.prog 23 #[.pointer (some ⟨D, 0, none⟩), .int .i64 n, .slice A l.length c] w fun e w' => e = .returned (.int .i64 (hearE t n l : Int)) ∧ Hid (Tn s w' D mb v (hearT t n l)) ∧ Hid (But (DM D mb) w w') := by
  by_cases hE : hearE t n l = 0
  · obtain ⟨m, rfl, hm⟩ := hearE_nat h.out.ok hE
    refine (Hear_ok w D mb v t h.out.tq h.out.nl m hm A c l B hr hB hE).mono ?_
    rintro e w' ⟨rfl, ht, hb⟩
    refine ⟨by rw [hE]; rfl, h.out.tq' ?_ (hearT_ok h.out.ok _ _) (hearT_nbs _ _ _), hb.out.mono fun k _ e => .inr e⟩
    unfold hearT
    rw [if_pos hE, show ((m : Int)).toNat = m by omega]
    exact ht.out
  · refine (Hear_no w D mb v t h.out.tq h.out.nl n A c l B hr hc hE).mono ?_
    rintro e w' ⟨rfl, rfl⟩
    refine ⟨rfl, ?_, But.refl _ _⟩
    unfold hearT
    rw [if_neg hE]
    exact h
theorem Tick_f (h : Hid (Tn s w D mb v t)) : Calls Try.prog 24 #[.pointer (some ⟨D, 0, none⟩)] w fun e w' => e = .returned (.int .i64 0) ∧ Hid (Tn s w' D mb v (tickT t)) ∧ Hid (But (DM D mb) w w') := by
  refine (Tick_any w D mb v t h.out.tq h.out.ok).mono ?_
  rintro e w' ⟨rfl, ht, hb⟩
  exact ⟨rfl, h.out.tq' ht.out (Ok.tick h.out.ok) rfl, hb.out.mono fun k _ e => .inr e⟩
end
/-- The reference's table beside the table t; its lists have at most c elements. -/
structure Rq (M : Nat → Prop) (w : World) (t : Tb) (q : RQ) (p : Pl) (c : Nat) : Prop where
  rf : Rf M w q p
  rel : Rel t q
  sl : q.set.length ≤ c
  ll : q.l.length ≤ c
section
variable {M M' : Nat → Prop} {w w' : World} {t : Tb} {q : RQ} {p : Pl} {c : Nat}
theorem Rq.below (h : Rq M w t q p c) (hb : Below w.heap.size w w') : Rq M w' t q p c := ⟨h.rf.below hb, h.rel, h.sl, h.ll⟩
theorem Rq.but {S : Nat → Prop} (h : Rq M w t q p c) (hb : But S w w') (hS : ∀ b, M b → ¬ S b) : Rq M w' t q p c := ⟨h.rf.but hb hS, h.rel, h.sl, h.ll⟩
theorem Rf.mono (h : Rf M w q p) (hM : ∀ b, b < w.heap.size → M b → M' b) : Rf M' w q p := ⟨h.nbs.mono hM, h.set.mono hM, h.l.mono hM, fun e he => ⟨(h.c e he).1.mono hM, (h.c e he).2⟩⟩
theorem Rq.mono (h : Rq M w t q p c) (hM : ∀ b, b < w.heap.size → M b → M' b) : Rq M' w t q p c := ⟨h.rf.mono hM, h.rel, h.sl, h.ll⟩
theorem Rq.asked (h : Rq M w t q p c) (ok : t.Ok) (hn : t.nbs.length ≤ 64) (hc : c ≤ 1000) : Asked M w q p := ⟨h.rf, h.rel.cok ok, by rw [h.rel.nbs]; exact hn, by have := h.sl; omega, by have := h.ll; omega⟩
theorem RSet_f (h : Hid (Rq M w t q p c)) (hn : t.nbs.length ≤ 64) (hc : c ≤ 999) (hM : ∀ b, w.heap.size ≤ b → M b) (d via : Int) : Calls Try.prog 36 #[.agg (rqV q p), .int .i64 d, .int .i64 via] w fun e w' => ∃ q' p', e = .returned (.tuple #[.agg (rqV q' p'), .int .i64 (setE t d via : Int)]) ∧ Hid (Rq M w' (setT t d via) q' p' (c + 1)) ∧ Hid (Below w.heap.size w w') := by
  have hnq : q.nbs.length ≤ 64 := by rw [h.out.rel.nbs]; exact hn
  have e1 := h.out.rel.setEq d via
  by_cases hE : setE t d via = 0
  · obtain ⟨m, rfl, hm⟩ := setE_nat hE
    refine (RSet_ok q p (m : Int) via w h.out.rf hnq (by have := h.out.sl; omega) hM (by rw [e1]; exact hE)).mono ?_
    rintro e w' ⟨p', rfl, hr, hb⟩
    refine ⟨_, p', by rw [hE]; rfl, ⟨hr.out, ?_, ?_, Nat.le_succ_of_le h.out.ll⟩, hb⟩
    · unfold setT
      rw [if_pos hE, show ((m : Int)).toNat = m by omega]
      exact h.out.rel.set m via
    · show (setL q.set (m : Int) via).length ≤ c + 1
      have h1 := filtL_len q.set (m : Int)
      have h2 := h.out.sl
      unfold setL
      split
      · omega
      · rw [List.length_append, List.length_singleton]; omega
  · refine (RSet_no q p d via w h.out.rf hnq (by rw [e1]; exact hE)).mono ?_
    rintro e w' ⟨rfl, hb⟩
    refine ⟨q, p, by rw [e1], ?_, hb⟩
    unfold setT
    rw [if_neg hE]
    exact ⟨h.out.rf.below hb.out, h.out.rel, Nat.le_succ_of_le h.out.sl, Nat.le_succ_of_le h.out.ll⟩
theorem RHear_f (h : Hid (Rq M w t q p c)) (ok : t.Ok) (hn : t.nbs.length ≤ 64) (hc : c ≤ 999) (hM : ∀ b, w.heap.size ≤ b → M b) (n : Int) (A : Option Addr) (cc B : Nat) (l : List Int) (hr : Hid (Mi.Rd w B A l)) (hB : B ≤ w.heap.size) (hlc : l.length ≤ 9223372036854775806) : Calls Try.prog 37 #[.agg (rqV q p), .int .i64 n, .slice A l.length cc] w fun e w' => ∃ q' p', e = .returned (.tuple #[.agg (rqV q' p'), .int .i64 (hearE t n l : Int)]) ∧ Hid (Rq M w' (hearT t n l) q' p' (c + 1)) ∧ Hid (Below w.heap.size w w') := by
  have hnq : q.nbs.length ≤ 64 := by rw [h.out.rel.nbs]; exact hn
  have e1 := h.out.rel.hearEq n l
  by_cases hE : hearE t n l = 0
  · obtain ⟨m, rfl, hm⟩ := hearE_nat ok hE
    refine (RHear_ok q p (m : Int) A cc B l w h.out.rf hnq (by have := h.out.ll; omega) hM hr hB hlc (by rw [e1]; exact hE)).mono ?_
    rintro e w' ⟨R, cr, p', rfl, hr', hb⟩
    refine ⟨_, p', by rw [hE]; rfl, ⟨hr'.out, ?_, Nat.le_succ_of_le h.out.sl, ?_⟩, hb⟩
    · unfold hearT
      rw [if_pos hE, show ((m : Int)).toNat = m by omega]
      exact h.out.rel.hear ok hm R cr hE
    · show (hearL q.l _).length ≤ c + 1
      have h1 := hearL_len q.l ⟨(m : Int), l, q.age, R, cr⟩
      have h2 := h.out.ll
      omega
  · refine (RHear_no q p n A cc B l w h.out.rf hnq hr hB hlc (by rw [e1]; exact hE)).mono ?_
    rintro e w' ⟨rfl, hb⟩
    refine ⟨q, p, by rw [e1], ?_, hb⟩
    unfold hearT
    rw [if_neg hE]
    exact ⟨h.out.rf.below hb.out, h.out.rel, Nat.le_succ_of_le h.out.sl, Nat.le_succ_of_le h.out.ll⟩
theorem RTick_f (h : Hid (Rq M w t q p c)) (ok : t.Ok) (hc : c ≤ 999) (hM : ∀ b, w.heap.size ≤ b → M b) : Calls Try.prog 38 #[.agg (rqV q p)] w fun e w' => ∃ q' p', e = .returned (.agg (rqV q' p')) ∧ Hid (Rq M w' (tickT t) q' p' (c + 1)) ∧ Hid (Below w.heap.size w w') := by
  refine (RTick_any q p w h.out.rf (by have := h.out.ll; omega) hM (h.out.rel.left ok)).mono ?_
  rintro e w' ⟨p', rfl, hr, hb⟩
  exact ⟨_, p', rfl, ⟨hr.out, h.out.rel.tick, Nat.le_succ_of_le h.out.sl, Nat.le_trans (tickL_len _) (Nat.le_succ_of_le h.out.ll)⟩, hb⟩
end
end Go.Proofs.Ytablejhajilpiaa.Rt
