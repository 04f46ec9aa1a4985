/- The table's calls, each in one contract. -/
import Derived.Test.YtkanebolfmpnfaaRtSpec
namespace Go.Proofs.Ytkanebolfmpnfaa.Rt
open Go.RowKit Go.Maps
open Go.Proofs.Ytkanebolfmpnfaa.Sb
set_option linter.unusedVariables false
set_option linter.unusedSimpArgs false

def setT (t : Tb) (d via : Int) : Tb := if setE t d via = 0 then ⟨t.self, t.nbs, t.age, upd t.set d.toNat via, t.heard⟩ else t
def hearT (t : Tb) (n : Int) (l : List Int) : Tb := if hearE t n l = 0 then ⟨t.self, t.nbs, t.age, t.set, putK t.heard n.toNat (nwOf l)⟩ else t
def tickT (t : Tb) : Tb := t.with (tickK t.age t.heard)
theorem setE_nat {t : Tb} {d via : Int} (h : setE t d via = 0) : ∃ m : Nat, d = (m : Int) ∧ m < 64 := by
  unfold setE at h
  cases hn : isN d with
  | false => rw [if_pos hn] at h; cases h
  | true => exact isN_of hn
theorem hearE_nat {t : Tb} {n : Int} {l : List Int} (ok : t.Ok) (h : hearE t n l = 0) : ∃ m : Nat, n = (m : Int) ∧ m < 64 := by
  obtain ⟨h1, _⟩ := hearE_ok h
  obtain ⟨m, e, h2, _⟩ := ok.nbs n h1
  exact ⟨m, e, h2⟩
theorem setT_ok {t : Tb} (ok : t.Ok) (d via : Int) : (setT t d via).Ok := by
  unfold setT
  split
  · rename_i h
    obtain ⟨m, rfl, hm⟩ := setE_nat h
    rw [show ((m : Int)).toNat = m by omega]
    exact Ok.set ok h
  · exact ok
theorem hearT_ok {t : Tb} (ok : t.Ok) (n : Int) (l : List Int) : (hearT t n l).Ok := by
  unfold hearT
  split
  · rename_i h
    obtain ⟨m, rfl, hm⟩ := hearE_nat ok h
    rw [show ((m : Int)).toNat = m by omega]
    exact Ok.hear ok hm h
  · exact ok
theorem setT_nbs (t : Tb) (d via : Int) : (setT t d via).nbs = t.nbs := by unfold setT; split <;> rfl
theorem hearT_nbs (t : Tb) (n : Int) (l : List Int) : (hearT t n l).nbs = t.nbs := by unfold hearT; split <;> rfl
section
variable {s : Nat} {w w' : World} {D mb : Nat} {v : Value} {t t' : Tb}
theorem Tn.tq' (h : Tn s w D mb v t) (ht : Tq w' D mb v t') (ok : t'.Ok) (hn : t'.nbs = t.nbs) : Tn s w' D mb v t' := ⟨ht, ok, by rw [hn]; exact h.nl, h.gD, h.gm, h.gv⟩
theorem Tn.below (h : Tn s w D mb v t) (hb : Below w.heap.size w w') : Tn s w' D mb v t := h.tq' (h.tq.below hb) h.ok rfl
theorem Tn.but {S : Nat → Prop} (h : Tn s w D mb v t) (hb : But S w w') (h1 : ¬ S D) (h2 : ¬ S mb) (h3 : ∀ k, v.ownBlock = some k → ¬ S k) : Tn s w' D mb v t := h.tq' (h.tq.but hb h1 h2 h3) h.ok rfl
/-- A table's own blocks that turn. -/
abbrev DM (D mb : Nat) : Nat → Prop := fun k => k = D ∨ k = mb
theorem Set_any (h : Hid (Tn s w D mb v t)) (d via : Int) : Calls Try.prog 30 #[.pointer (some ⟨D, 0, none⟩), .int .i64 d, .int .i64 via] w fun e w' => e = .returned (.int .i64 (setE t d via : Int)) ∧ Hid (Tn s w' D mb v (setT t d via)) ∧ Hid (But (DM D mb) w w') := by
  by_cases hE : setE t d via = 0
  · obtain ⟨m, rfl, hm⟩ := setE_nat hE
    refine (Set_ok w D mb v t h.out.tq h.out.nl m hm via hE).mono ?_
    rintro e w' ⟨rfl, ht, hb⟩
    refine ⟨by rw [hE]; rfl, h.out.tq' ?_ (setT_ok h.out.ok _ _) (setT_nbs _ _ _), hb.out.mono fun k _ e => .inl e⟩
    unfold setT
    rw [if_pos hE, show ((m : Int)).toNat = m by omega]
    exact ht.out
  · refine (Set_no w D mb v t h.out.tq h.out.nl d via hE).mono ?_
    rintro e w' ⟨rfl, rfl⟩
    refine ⟨rfl, ?_, But.refl _ _⟩
    unfold setT
    rw [if_neg hE]
    exact h
theorem Hear_any (h : Hid (Tn s w D mb v t)) (n : Int) (A : Option Addr) (c B : Nat) (l : List Int) (hr : Hid (Mi.Rd w B A l)) (hB : B ≤ w.heap.size) (hc : l.length ≤ 9223372036854775806) : Calls Try.prog 23 #[.pointer (some ⟨D, 0, none⟩), .int .i64 n, .slice A l.length c] w fun e w' => e = .returned (.int .i64 (hearE t n l : Int)) ∧ Hid (Tn s w' D mb v (hearT t n l)) ∧ Hid (But (DM D mb) w w') := by
  by_cases hE : hearE t n l = 0
  · obtain ⟨m, rfl, hm⟩ := hearE_nat h.out.ok hE
    refine (Hear_ok w D mb v t h.out.tq h.out.nl m hm A c l B hr hB hE).mono ?_
    rintro e w' ⟨rfl, ht, hb⟩
    refine ⟨by rw [hE]; rfl, h.out.tq' ?_ (hearT_ok h.out.ok _ _) (hearT_nbs _ _ _), hb.out.mono fun k _ e => .inr e⟩
    unfold hearT
    rw [if_pos hE, show ((m : Int)).toNat = m by omega]
    exact ht.out
  · refine (Hear_no w D mb v t h.out.tq h.out.nl n A c l B hr hc hE).mono ?_
    rintro e w' ⟨rfl, rfl⟩
    refine ⟨rfl, ?_, But.refl _ _⟩
    unfold hearT
    rw [if_neg hE]
    exact h
theorem Tick_f (h : Hid (Tn s w D mb v t)) : Calls Try.prog 24 #[.pointer (some ⟨D, 0, none⟩)] w fun e w' => e = .returned (.int .i64 0) ∧ Hid (Tn s w' D mb v (tickT t)) ∧ Hid (But (DM D mb) w w') := by
  refine (Tick_any w D mb v t h.out.tq h.out.ok).mono ?_
  rintro e w' ⟨rfl, ht, hb⟩
  exact ⟨rfl, h.out.tq' ht.out (Ok.tick h.out.ok) rfl, hb.out.mono fun k _ e => .inr e⟩
end
end Go.Proofs.Ytkanebolfmpnfaa.Rt
