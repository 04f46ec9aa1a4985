/- The table and the reference's say the same. -/
import Derived.Test.YtablejhajilpiaaRtRVec
import Derived.Test.YtablejhajilpiaaRtRHear
import Derived.Test.YtablejhajilpiaaRtWoke
namespace Go.Proofs.Ytablejhajilpiaa.Rt
open Go.RowKit
set_option linter.unusedVariables false
set_option linter.unusedSimpArgs false

/-! ### The least way -/
/-- What the arrays say of one destination behind the neighbours L. -/
def Spec (kept : Nat → Option Nw) (L : List Nat) (d : Nat) (C H : Int) : Prop := C ≤ 16 ∧ (∀ f ∈ L, C ≤ costsOf kept f d + 1) ∧ ((C = 16 ∧ H = -1) ∨ (C < 16 ∧ ∃ f ∈ L, H = (f : Int) ∧ C = costsOf kept f d + 1 ∧ ∀ f' ∈ L, f' < f → C < costsOf kept f' d + 1))
theorem Spec.step {kept : Nat → Option Nw} {L : List Nat} {d f : Nat} {P : Two} (h : Spec kept L d (P.1 d) (P.2 d)) (hf : ∀ x ∈ L, x < f) : Spec kept (L ++ [f]) d ((stF kept P f).1 d) ((stF kept P f).2 d) := by
  obtain ⟨h1, h2, h3⟩ := h
  show Spec kept (L ++ [f]) d (if costsOf kept f d + 1 < P.1 d then costsOf kept f d + 1 else P.1 d) (if costsOf kept f d + 1 < P.1 d then (f : Int) else P.2 d)
  by_cases hc : costsOf kept f d + 1 < P.1 d
  · rw [if_pos hc, if_pos hc]
    refine ⟨by omega, fun x hx => ?_, .inr ⟨by omega, f, by simp, rfl, rfl, fun x hx hlt => ?_⟩⟩
    · rcases List.mem_append.1 hx with hx | hx
      · have := h2 x hx; omega
      · rw [List.mem_singleton.1 hx]; exact Int.le_refl _
    · rcases List.mem_append.1 hx with hx | hx
      · have := h2 x hx; omega
      · rw [List.mem_singleton.1 hx] at hlt; omega
  · rw [if_neg hc, if_neg hc]
    refine ⟨h1, fun x hx => ?_, ?_⟩
    · rcases List.mem_append.1 hx with hx | hx
      · exact h2 x hx
      · rw [List.mem_singleton.1 hx]; omega
    · rcases h3 with h3 | ⟨h3, g, hg, e1, e2, e3⟩
      · exact .inl h3
      · refine .inr ⟨h3, g, by simp [hg], e1, e2, fun x hx hlt => ?_⟩
        rcases List.mem_append.1 hx with hx | hx
        · exact e3 x hx hlt
        · rw [List.mem_singleton.1 hx] at hlt
          have := hf g hg
          omega
theorem Spec.fold {kept : Nat → Option Nw} {d : Nat} : ∀ (L2 L1 : List Nat) (P : Two), (L1 ++ L2).Pairwise (· < ·) → Spec kept L1 d (P.1 d) (P.2 d) → Spec kept (L1 ++ L2) d ((L2.foldl (stF kept) P).1 d) ((L2.foldl (stF kept) P).2 d)
  | [], L1, P, _, h => by simpa using h
  | f :: L2, L1, P, hp, h => by
    have h1 : Spec kept (L1 ++ [f]) d ((stF kept P f).1 d) ((stF kept P f).2 d) := h.step fun x hx => (List.pairwise_append.1 hp).2.2 x hx f (by simp)
    have h2 := Spec.fold L2 (L1 ++ [f]) (stF kept P f) (by simpa using hp) h1
    simpa using h2
theorem ways_spec (kept : Nat → Option Nw) (d : Nat) : Spec kept (froms kept) d ((ways0 kept (froms kept)).1 d) ((ways0 kept (froms kept)).2 d) := by
  have := Spec.fold (kept := kept) (d := d) (froms kept) [] (fun _ => 16, fun _ => -1) (by simpa using froms_lt kept) ⟨Int.le_refl _, by simp, .inl ⟨rfl, rfl⟩⟩
  rw [List.nil_append] at this
  exact this
theorem least_spec (l : List He) (d : Nat) : ∀ (nbs : List Int) (a : Int), (nbs.foldl (fun m x => min m (byQ l d x)) a ≤ a) ∧ (∀ x ∈ nbs, nbs.foldl (fun m x => min m (byQ l d x)) a ≤ byQ l d x) ∧ (nbs.foldl (fun m x => min m (byQ l d x)) a = a ∨ ∃ x ∈ nbs, nbs.foldl (fun m x => min m (byQ l d x)) a = byQ l d x)
  | [], a => ⟨Int.le_refl _, by simp, .inl rfl⟩
  | x :: nbs, a => by
    obtain ⟨h1, h2, h3⟩ := least_spec l d nbs (min a (byQ l d x))
    rw [List.foldl_cons]
    refine ⟨by omega, fun y hy => ?_, ?_⟩
    · rcases List.mem_cons.1 hy with rfl | hy
      · omega
      · exact h2 y hy
    · rcases h3 with h3 | ⟨y, hy, h3⟩
      · by_cases hx : a ≤ byQ l d x
        · left; omega
        · right; exact ⟨x, by simp, by omega⟩
      · right; exact ⟨y, by simp [hy], h3⟩
/-! ### The relation -/
structure Rel (t : Tb) (q : RQ) : Prop where
  self : q.self = (t.self : Int)
  age : q.age = (t.age : Int)
  nbs : q.nbs = t.nbs
  via : ∀ d : Nat, d < 64 → viaL q.set (d : Int) = t.set d
  ris : q.l.Pairwise fun a b => a.f < b.f
  mem : ∀ e ∈ q.l, ∃ (n : Nat) (p : Nw), n < 64 ∧ e.f = (n : Int) ∧ t.heard n = some p ∧ (∀ d, d < 64 → Mi.at_ e.c d = p.c d) ∧ e.c.length = 64 ∧ e.left = (t.age : Int) - p.s
  all : ∀ n p, n < 64 → t.heard n = some p → ∃ e ∈ q.l, e.f = (n : Int)
theorem Rel.cok {t : Tb} {q : RQ} (h : Rel t q) (ok : t.Ok) : CokL q.l := fun e he d hd => by
  obtain ⟨n, p, hn, _, hp, hc, _⟩ := h.mem e he
  rw [hc d hd]
  exact (ok.heard n p hn hp).2.1 d hd
theorem Rel.left {t : Tb} {q : RQ} (h : Rel t q) (ok : t.Ok) : ∀ e ∈ q.l, 1 ≤ e.left ∧ e.left ≤ 64 := fun e he => by
  obtain ⟨n, p, hn, _, hp, _, _, hl⟩ := h.mem e he
  have := (ok.heard n p hn hp).2.2
  have := ok.age
  omega
theorem Rel.by_ {t : Tb} {q : RQ} (h : Rel t q) {n d : Nat} (hn : n < 64) (hd : d < 64) : byQ q.l d (n : Int) = byN t.heard n d := by
  unfold byQ byN
  cases hk : t.heard n with
  | none =>
    have : q.l.find? (fun e => e.f == (n : Int)) = none := List.find?_eq_none.2 fun e he hf => by
      obtain ⟨m, p, _, hm, hp, _⟩ := h.mem e he
      have e1 : m = n := by
        have := beq_iff_eq.1 hf
        omega
      subst e1
      rw [hk] at hp
      cases hp
    rw [this]
  | some p =>
    obtain ⟨e, he, hf⟩ := h.all n p hn hk
    cases hx : q.l.find? (fun e => e.f == (n : Int)) with
    | none =>
      have := List.find?_eq_none.1 hx e he
      simp [hf] at this
    | some e' =>
      have h1 := List.find?_some hx
      have h2 := List.mem_of_find?_eq_some hx
      obtain ⟨m, p', _, hm, hp, hc, _⟩ := h.mem e' h2
      have e1 : m = n := by
        have := beq_iff_eq.1 h1
        omega
      subst e1
      rw [hk] at hp
      cases hp
      simp only
      rw [hc d hd, Int.min_comm]
theorem costsOf_some {kept : Nat → Option Nw} {n : Nat} {p : Nw} (h : kept n = some p) : costsOf kept n = p.c := by unfold costsOf; rw [h]
theorem Rel.least {t : Tb} {q : RQ} (h : Rel t q) (ok : t.Ok) {d : Nat} (hd : d < 64) : leastQ q.l d q.nbs = (ways0 t.heard (froms t.heard)).1 d := by
  obtain ⟨s1, s2, s3⟩ := ways_spec t.heard d
  obtain ⟨m1, m2, m3⟩ := least_spec q.l d q.nbs 16
  have e : leastQ q.l d q.nbs = q.nbs.foldl (fun m x => min m (byQ q.l d x)) 16 := rfl
  rw [← e] at m1 m2 m3
  apply Int.le_antisymm
  · rcases s3 with ⟨h16, _⟩ | ⟨_, f, hf, _, hC, _⟩
    · omega
    · obtain ⟨hf1, hf2⟩ := mem_froms.1 hf
      obtain ⟨p, hp⟩ := Option.isSome_iff_exists.1 hf2
      have hn := (ok.heard f p hf1 hp).1
      have := m2 (f : Int) (by rw [h.nbs]; exact hn)
      rw [h.by_ hf1 hd] at this
      unfold byN at this
      rw [hp] at this
      simp only at this
      rw [hC, costsOf_some hp]
      omega
  · rcases m3 with m3 | ⟨x, hx, m3⟩
    · omega
    · rw [h.nbs] at hx
      obtain ⟨n, rfl, hn, _⟩ := ok.nbs x hx
      rw [m3, h.by_ hn hd]
      unfold byN
      cases hk : t.heard n with
      | none => simpa using s1
      | some p =>
        have := s2 n (mem_froms.2 ⟨hn, by rw [hk]; rfl⟩)
        rw [costsOf_some hk] at this
        simp only
        omega
theorem wC_self (t : Tb) : waysC t t.self = 0 := by simp [waysC, upd]
theorem wH_self (t : Tb) : waysH t t.self = -1 := by simp [waysH, upd]
theorem wC_set {t : Tb} {d : Nat} (hd : d < 64) (hs : d ≠ t.self) (h : t.set d ≠ -1) : waysC t d = byN t.heard (t.set d).toNat d := by
  unfold waysC upd
  rw [if_neg hs]
  show (if d < 64 ∧ t.set d ≠ -1 then _ else _) = _
  rw [if_pos ⟨hd, h⟩]
theorem wH_set {t : Tb} {d : Nat} (hd : d < 64) (hs : d ≠ t.self) (h : t.set d ≠ -1) : waysH t d = t.set d := by
  unfold waysH upd
  rw [if_neg hs]
  show (if d < 64 ∧ t.set d ≠ -1 then _ else _) = _
  rw [if_pos ⟨hd, h⟩]
theorem wC_way {t : Tb} {d : Nat} (hs : d ≠ t.self) (h : t.set d = -1) : waysC t d = (ways0 t.heard (froms t.heard)).1 d := by
  unfold waysC upd
  rw [if_neg hs]
  show (if d < 64 ∧ t.set d ≠ -1 then _ else _) = _
  rw [if_neg (fun e => e.2 h)]
theorem wH_way {t : Tb} {d : Nat} (hs : d ≠ t.self) (h : t.set d = -1) : waysH t d = (ways0 t.heard (froms t.heard)).2 d := by
  unfold waysH upd
  rw [if_neg hs]
  show (if d < 64 ∧ t.set d ≠ -1 then _ else _) = _
  rw [if_neg (fun e => e.2 h)]
theorem Rel.cost {t : Tb} {q : RQ} (h : Rel t q) (ok : t.Ok) (n : Int) : costQ q n = costN t n := by
  unfold costQ costN
  cases hn : isN n with
  | false => rfl
  | true =>
    obtain ⟨d, rfl, hd⟩ := isN_of hn
    rw [if_neg (by decide), if_pos rfl, show ((d : Int)).toNat = d by omega, h.self]
    by_cases hs : d = t.self
    · subst hs
      rw [if_pos rfl, wC_self]
    · rw [if_neg (by omega), h.via d hd]
      rcases ok.set d hd with he | he
      · rw [he, if_neg (by decide), h.least ok hd, wC_way hs he]
      · obtain ⟨m, hm, hm64, _⟩ := ok.nbs _ he
        rw [if_pos (by omega), wC_set hd hs (by omega), hm, h.by_ hm64 hd]
        rfl
theorem Rel.next {t : Tb} {q : RQ} (h : Rel t q) (ok : t.Ok) (n : Int) : nextQ q n = nextN t n := by
  unfold nextQ nextN
  cases hn : isN n with
  | false => rw [if_pos (Or.inl rfl), if_neg (fun e => by cases e.1)]
  | true =>
    obtain ⟨d, rfl, hd⟩ := isN_of hn
    rw [show ((d : Int)).toNat = d by omega]
    by_cases hs : d = t.self
    · subst hs
      rw [if_pos (Or.inr h.self.symm), wH_self, if_neg (fun e => e.2 rfl)]
    · rw [if_neg (by rw [h.self]; simp; omega), h.via d hd]
      rcases ok.set d hd with he | he
      · rw [he, if_neg (by decide), h.cost ok, wH_way hs he]
        have hc : costN t (d : Int) = (ways0 t.heard (froms t.heard)).1 d := by
          unfold costN
          rw [if_pos hn, show ((d : Int)).toNat = d by omega, wC_way hs he]
        rw [hc]
        obtain ⟨s1, s2, s3⟩ := ways_spec t.heard d
        obtain ⟨C, hC⟩ : ∃ C, (ways0 t.heard (froms t.heard)).1 d = C := ⟨_, rfl⟩
        obtain ⟨H, hH⟩ : ∃ H, (ways0 t.heard (froms t.heard)).2 d = H := ⟨_, rfl⟩
        rw [hC, hH] at s3
        rw [hC] at s1 s2 ⊢
        rw [hH]
        rcases s3 with ⟨h16, hm1⟩ | ⟨h16, f, hf, hHf, hCf, hfst⟩
        · rw [if_neg (fun e => e.2 hm1)]
          unfold hopQ
          have : q.nbs.find? (isHop q.l d C) = none := List.find?_eq_none.2 fun x _ hx => by
            simp only [isHop, Bool.and_eq_true, decide_eq_true_eq, beq_iff_eq] at hx
            omega
          rw [this]
        · obtain ⟨hf1, hf2⟩ := mem_froms.1 hf
          obtain ⟨p, hp⟩ := Option.isSome_iff_exists.1 hf2
          have hmem := (ok.heard f p hf1 hp).1
          rw [← h.nbs] at hmem
          obtain ⟨k, hk⟩ := List.mem_iff_getElem?.1 hmem
          have hby : byQ q.l d (f : Int) = C := by
            rw [h.by_ hf1 hd, hCf, costsOf_some hp]
            unfold byN
            rw [hp]
            simp only
            rw [costsOf_some hp] at hCf
            omega
          rw [if_pos ⟨rfl, by omega⟩, hHf]
          unfold hopQ
          rw [find_first hk (by simp [isHop, hby, h16]) fun j hj s hjs => ?_]
          have hlt : s < (f : Int) := by
            have hr := ok.ris
            rw [← h.nbs] at hr
            obtain ⟨hj1, e1⟩ := List.getElem?_eq_some_iff.1 hjs
            obtain ⟨hk1, e2⟩ := List.getElem?_eq_some_iff.1 hk
            have := List.pairwise_iff_getElem.1 hr j k hj1 hk1 hj
            rw [e1, e2] at this
            exact this
          have hsm := List.mem_of_getElem? hjs
          rw [h.nbs] at hsm
          obtain ⟨m, rfl, hm64, _⟩ := ok.nbs s hsm
          cases hb : isHop q.l d C (m : Int) with
          | false => rfl
          | true =>
            simp only [isHop, Bool.and_eq_true, decide_eq_true_eq, beq_iff_eq] at hb
            rw [h.by_ hm64 hd] at hb
            unfold byN at hb
            cases hkm : t.heard m with
            | none => rw [hkm] at hb; simp at hb
            | some p' =>
              rw [hkm] at hb
              simp only at hb
              have := hfst m (mem_froms.2 ⟨hm64, by rw [hkm]; rfl⟩) (by omega)
              rw [costsOf_some hkm] at this
              omega
      · obtain ⟨m, hm, hm64, _⟩ := ok.nbs _ he
        rw [if_pos (by omega), wH_set hd hs (by omega), if_pos ⟨rfl, by omega⟩]
theorem Rel.froms {t : Tb} {q : RQ} (h : Rel t q) : fromsQ q.l = fromsI t.heard := by
  have hp : (fromsQ q.l).Pairwise (· < ·) := List.pairwise_map.2 h.ris
  refine List.Perm.eq_of_pairwise (le := fun a b : Int => a ≤ b) (fun a b _ _ h1 h2 => Int.le_antisymm h1 h2) (hp.imp fun h => by omega) ((fromsI_lt t.heard).imp fun h => by omega) ?_
  refine (List.perm_ext_iff_of_nodup (hp.imp fun h => by omega) ((fromsI_lt t.heard).imp fun h => by omega)).2 fun x => ⟨fun hx => ?_, fun hx => ?_⟩
  · obtain ⟨e, he, rfl⟩ := List.mem_map.1 hx
    obtain ⟨n, p, hn, hf, hk, _⟩ := h.mem e he
    exact List.mem_map.2 ⟨n, mem_froms.2 ⟨hn, by rw [hk]; rfl⟩, hf.symm⟩
  · obtain ⟨n, hn, rfl⟩ := List.mem_map.1 hx
    obtain ⟨hn1, hn2⟩ := mem_froms.1 hn
    obtain ⟨p, hk⟩ := Option.isSome_iff_exists.1 hn2
    obtain ⟨e, he, hf⟩ := h.all n p hn1 hk
    exact List.mem_map.2 ⟨e, he, hf⟩
theorem Rel.vec {t : Tb} {q : RQ} (h : Rel t q) (ok : t.Ok) (to : Int) (hto : t.nbs.contains to = true) : vecQ q to 64 = listOf (vecF t to) := by
  unfold vecQ listOf
  refine List.map_congr_left fun d hd => ?_
  have hd : d < 64 := by simpa using hd
  unfold vecOf vecF
  rw [h.next ok, h.cost ok]
  have hn := isN_nat hd
  have hto2 : to ≠ -1 := fun e => by
    rw [List.contains_iff_mem] at hto
    obtain ⟨m, hm, _⟩ := ok.nbs to hto
    omega
  have hcs : costN t (d : Int) = waysC t d := by unfold costN; rw [if_pos hn, show ((d : Int)).toNat = d by omega]
  have hn2 : nextN t (d : Int) = if waysH t d = -1 then (0, false) else (waysH t d, true) := by
    unfold nextN
    rw [show ((d : Int)).toNat = d by omega]
    by_cases h1 : waysH t d = -1
    · rw [if_neg (fun e => e.2 h1), if_pos h1]
    · rw [if_pos ⟨hn, h1⟩, if_neg h1]
  rw [hcs, hn2]
  by_cases h1 : waysH t d = -1
  · rw [if_pos h1]
    simp only [Bool.false_eq_true, false_and, if_false]
    rw [if_neg (fun e => hto2 (by rw [← e, h1]))]
  · rw [if_neg h1]
    simp only [true_and]
/-! ### The calls keep it -/
theorem Rel.new {self age : Nat} {l : List Int} : Rel (newT self age l) (newQ (self : Int) (age : Int) l) :=
  ⟨rfl, rfl, rfl, fun _ _ => rfl, List.Pairwise.nil, (fun e he => by cases he), fun n p _ hk => by cases hk⟩
theorem Rel.setEq {t : Tb} {q : RQ} (h : Rel t q) (d via : Int) : setQE q d via = setE t d via := by unfold setQE setE; rw [h.self, h.nbs]
theorem Rel.hearEq {t : Tb} {q : RQ} (h : Rel t q) (n : Int) (l : List Int) : hearQE q n l = hearE t n l := by
  unfold hearQE hearE rightB
  rw [h.nbs]
  by_cases h1 : l.length = 64
  · cases h2 : l.any badC <;> simp [h1]
  · simp [h1]
theorem via_filt (set : List (Int × Int)) (d x : Int) : viaL (filtL set d) x = if x = d then -1 else viaL set x := by
  induction set with
  | nil => simp [filtL, viaL]
  | cons r s ih =>
    unfold filtL viaL at ih ⊢
    by_cases hr : r.1 = d
    · have : (r.1 == d) = true := beq_iff_eq.2 hr
      rw [List.filter_cons, this]
      simp only [Bool.not_true, Bool.false_eq_true, if_false]
      rw [ih]
      by_cases hx : x = d
      · rw [if_pos hx, if_pos hx]
      · rw [if_neg hx, if_neg hx, List.find?_cons, beq_eq_false_iff_ne.2 (fun e => hx (by rw [← e, hr]))]
    · have : (r.1 == d) = false := beq_eq_false_iff_ne.2 hr
      rw [List.filter_cons, this]
      simp only [Bool.not_false, if_true]
      rw [List.find?_cons, List.find?_cons]
      cases hrx : (r.1 == x) with
      | true =>
        have : x ≠ d := fun e => hr (by rw [beq_iff_eq.1 hrx, e])
        simp only
        rw [if_neg this]
      | false => simp only; exact ih
theorem via_app (s : List (Int × Int)) (d v x : Int) (h : x ≠ d) : viaL (s ++ [(d, v)]) x = viaL s x := by
  unfold viaL
  rw [List.find?_append]
  cases s.find? fun r => r.1 == x with
  | some r => rfl
  | none =>
    have : ((d, v).1 == x) = false := beq_eq_false_iff_ne.2 (fun e => h e.symm)
    simp [List.find?_cons, this]
theorem via_app_same {s : List (Int × Int)} {d v : Int} (h : viaL s d = -1) (hn : s.find? (fun r => r.1 == d) = none) : viaL (s ++ [(d, v)]) d = v := by
  unfold viaL
  rw [List.find?_append, hn]
  simp
theorem filt_none (set : List (Int × Int)) (d : Int) : (filtL set d).find? (fun r => r.1 == d) = none := by
  refine List.find?_eq_none.2 fun r hr h => ?_
  have := (List.mem_filter.1 hr).2
  rw [h] at this
  cases this
theorem Rel.set {t : Tb} {q : RQ} (h : Rel t q) (m : Nat) (via : Int) : Rel ⟨t.self, t.nbs, t.age, upd t.set m via, t.heard⟩ (setQ q (m : Int) via) := by
  refine ⟨h.self, h.age, h.nbs, fun d hd => ?_, h.ris, h.mem, h.all⟩
  show viaL (setL q.set (m : Int) via) (d : Int) = upd t.set m via d
  unfold setL upd
  by_cases hv : via = -1
  · rw [if_pos hv, via_filt]
    by_cases e : d = m
    · subst e; rw [if_pos rfl, if_pos rfl, hv]
    · rw [if_neg (by omega), if_neg e, h.via d hd]
  · rw [if_neg hv]
    by_cases e : d = m
    · subst e
      rw [if_pos rfl, via_app_same (by rw [via_filt, if_pos rfl]) (filt_none _ _)]
    · rw [if_neg e, via_app _ _ _ _ (by omega), via_filt, if_neg (by omega), h.via d hd]
theorem Ok.set {t : Tb} (ok : t.Ok) {m : Nat} {via : Int} (hE : setE t (m : Int) via = 0) : Tb.Ok ⟨t.self, t.nbs, t.age, upd t.set m via, t.heard⟩ := by
  have hm : (m : Int) ≠ (t.self : Int) ∧ ¬ (via ≠ -1 ∧ t.nbs.contains via = false) := by
    unfold setE at hE
    split at hE
    · cases hE
    · split at hE
      · cases hE
      · rename_i h2
        split at hE
        · cases hE
        · rename_i h3
          exact ⟨h2, h3⟩
  refine ⟨ok.self, ok.age, ok.nbs, ok.ris, fun d hd => ?_, ?_, ok.heard⟩
  · show upd t.set m via d = -1 ∨ upd t.set m via d ∈ t.nbs
    unfold upd
    split
    · by_cases hv : via = -1
      · exact .inl hv
      · right
        cases hc : t.nbs.contains via with
        | true => exact List.contains_iff_mem.1 hc
        | false => exact absurd ⟨hv, hc⟩ hm.2
    · exact ok.set d hd
  · show upd t.set m via t.self = -1
    unfold upd
    rw [if_neg (by have := hm.1; omega)]
    exact ok.sself
theorem hearE_ok {t : Tb} {n : Int} {l : List Int} (h : hearE t n l = 0) : n ∈ t.nbs ∧ l.length = 64 ∧ ∀ d, d < 64 → 0 ≤ Mi.at_ l d ∧ Mi.at_ l d ≤ 16 := by
  unfold Rt.hearE at h
  split at h
  · cases h
  · rename_i h1
    split at h
    · cases h
    · rename_i h2
      have hl : l.length = 64 := by
        apply Classical.byContradiction
        intro hc
        exact h2 (.inl hc)
      refine ⟨List.contains_iff_mem.1 (by simpa using h1), hl, fun d hd => ?_⟩
      have hb : l.any badC = false := by
        cases hb : l.any badC with
        | false => rfl
        | true => exact absurd (.inr hb) h2
      have := List.any_eq_false.1 hb (Mi.at_ l d) (by rw [Mi.at_get (by omega)]; exact List.getElem_mem _)
      simp only [badC, Bool.or_eq_true, decide_eq_true_eq, not_or] at this
      omega
theorem Ok.hear {t : Tb} (ok : t.Ok) {n : Nat} {l : List Int} (hn : n < 64) (hE : hearE t (n : Int) l = 0) : Tb.Ok ⟨t.self, t.nbs, t.age, t.set, putK t.heard n (nwOf l)⟩ := by
  obtain ⟨h1, h2, h3⟩ := hearE_ok hE
  refine ⟨ok.self, ok.age, ok.nbs, ok.ris, ok.set, ok.sself, fun m p hm hk => ?_⟩
  simp only [putK] at hk
  split at hk
  · rename_i e
    subst e
    cases hk
    exact ⟨h1, fun d hd => h3 d hd, by have := ok.age; exact this.1⟩
  · exact ok.heard m p hm hk
theorem Ok.tick {t : Tb} (ok : t.Ok) : (t.with (tickK t.age t.heard)).Ok := by
  refine ⟨ok.self, ok.age, ok.nbs, ok.ris, ok.set, ok.sself, fun m p hm hk => ?_⟩
  have hk' : tickK t.age t.heard m = some p := hk
  unfold tickK at hk'
  cases hh : t.heard m with
  | none => rw [hh] at hk'; cases hk'
  | some r =>
    rw [hh] at hk'
    simp only at hk'
    split at hk'
    · rename_i hlt
      cases hk'
      obtain ⟨a, b, _⟩ := ok.heard m r hm hh
      exact ⟨a, b, hlt⟩
    · cases hk'
/-- What an insertion makes of a rising list. -/
def fin (s : List He × Bool) (h : He) : List He := if s.2 = true then s.1 else s.1 ++ [h]
theorem fold_true (h : He) : ∀ (l out : List He), l.foldl (hStep h) (out, true) = (out ++ l.filter (fun e => !(e.f == h.f)), true)
  | [], out => by simp
  | e :: l, out => by
    rw [List.foldl_cons]
    cases he : (e.f == h.f) with
    | true =>
      have : hStep h (out, true) e = (out, true) := by unfold hStep; rw [if_pos he]
      rw [this, fold_true h l out, List.filter_cons, he]
      simp
    | false =>
      have : hStep h (out, true) e = (out ++ [e], true) := by
        unfold hStep
        rw [if_neg (by simp [he]), if_neg (fun hh => by cases hh.1)]
      rw [this, fold_true h l _, List.filter_cons, he]
      simp
theorem fold_false (h : He) : ∀ (l out : List He), l.Pairwise (fun a b => a.f < b.f) → fin (l.foldl (hStep h) (out, false)) h = out ++ l.filter (fun e => decide (e.f < h.f)) ++ [h] ++ l.filter (fun e => decide (h.f < e.f))
  | [], out, _ => by simp [fin]
  | e :: l, out, hp => by
    rw [List.pairwise_cons] at hp
    rw [List.foldl_cons]
    cases he : (e.f == h.f) with
    | true =>
      have he' := beq_iff_eq.1 he
      have : hStep h (out, false) e = (out, false) := by unfold hStep; rw [if_pos he]
      rw [this, fold_false h l out hp.2, List.filter_cons, List.filter_cons, decide_eq_false (by omega), decide_eq_false (by omega)]
      simp
    | false =>
      have he' := beq_eq_false_iff_ne.1 he
      by_cases hlt : h.f < e.f
      · have : hStep h (out, false) e = (out ++ [h] ++ [e], true) := by
          unfold hStep
          rw [if_neg (by simp [he]), if_pos ⟨rfl, hlt⟩]
        rw [this, fold_true]
        have e1 : l.filter (fun x => decide (x.f < h.f)) = [] := List.filter_eq_nil_iff.2 fun x hx => by have := hp.1 x hx; simp; omega
        have e2 : l.filter (fun x => !(x.f == h.f)) = l.filter (fun x => decide (h.f < x.f)) := List.filter_congr fun x hx => by
          have := hp.1 x hx
          rw [decide_eq_true (by omega), beq_eq_false_iff_ne.2 (by omega)]
          rfl
        rw [List.filter_cons, List.filter_cons, decide_eq_false (by omega), decide_eq_true hlt, e1, e2]
        simp [fin]
      · have : hStep h (out, false) e = (out ++ [e], false) := by
          unfold hStep
          rw [if_neg (by simp [he]), if_neg (fun hh => hlt hh.2)]
        rw [this, fold_false h l _ hp.2, List.filter_cons, List.filter_cons, decide_eq_true (by omega), decide_eq_false hlt]
        simp
theorem hearL_eq {l : List He} (h : He) (hp : l.Pairwise fun a b => a.f < b.f) : hearL l h = l.filter (fun e => decide (e.f < h.f)) ++ [h] ++ l.filter (fun e => decide (h.f < e.f)) := by
  have := fold_false h l [] hp
  rw [List.nil_append] at this
  exact this
theorem Rel.hear {t : Tb} {q : RQ} (h : Rel t q) (ok : t.Ok) {n : Nat} (hn : n < 64) {l : List Int} (R : Option Addr) (cr : Nat) (hE : Rt.hearE t (n : Int) l = 0) : Rel ⟨t.self, t.nbs, t.age, t.set, putK t.heard n (nwOf l)⟩ (hearQ q (n : Int) l R cr) := by
  obtain ⟨h1, h2, h3⟩ := hearE_ok hE
  have he := hearL_eq (⟨(n : Int), l, q.age, R, cr⟩ : He) h.ris
  have hm : ∀ x, x ∈ hearL q.l ⟨(n : Int), l, q.age, R, cr⟩ ↔ (x ∈ q.l ∧ x.f ≠ (n : Int)) ∨ x = ⟨(n : Int), l, q.age, R, cr⟩ := fun x => by
    rw [he]
    simp only [List.mem_append, List.mem_filter, List.mem_singleton, decide_eq_true_eq]
    constructor
    · rintro ((⟨a, b⟩ | a) | ⟨a, b⟩)
      · exact .inl ⟨a, by omega⟩
      · exact .inr a
      · exact .inl ⟨a, by omega⟩
    · rintro (⟨a, b⟩ | a)
      · by_cases hlt : x.f < (n : Int)
        · exact .inl (.inl ⟨a, hlt⟩)
        · exact .inr ⟨a, by omega⟩
      · exact .inl (.inr a)
  refine ⟨h.self, h.age, h.nbs, h.via, ?_, fun e hx => ?_, fun m p hm64 hk => ?_⟩
  · show (hearL q.l ⟨(n : Int), l, q.age, R, cr⟩).Pairwise _
    rw [he, List.pairwise_append, List.pairwise_append]
    refine ⟨⟨h.ris.filter _, by simp, fun a ha b hb => ?_⟩, h.ris.filter _, fun a ha b hb => ?_⟩
    · rw [List.mem_singleton] at hb
      subst hb
      simpa using (List.mem_filter.1 ha).2
    · have hb2 : (n : Int) < b.f := by simpa using (List.mem_filter.1 hb).2
      rcases List.mem_append.1 ha with ha | ha
      · have ha2 : a.f < (n : Int) := by simpa using (List.mem_filter.1 ha).2
        omega
      · rw [List.mem_singleton] at ha
        subst ha
        exact hb2
  · rcases (hm e).1 hx with ⟨hx1, hx2⟩ | rfl
    · obtain ⟨m, p, a1, a2, a3, a4⟩ := h.mem e hx1
      refine ⟨m, p, a1, a2, ?_, a4⟩
      show putK t.heard n (nwOf l) m = some p
      unfold putK
      rw [if_neg (by intro e; subst e; exact hx2 a2)]
      exact a3
    · refine ⟨n, nwOf l, hn, rfl, ?_, fun d hd => rfl, h2, ?_⟩
      · show putK t.heard n (nwOf l) n = _
        simp [putK]
      · show q.age = (t.age : Int) - ((0 : Nat) : Int)
        rw [h.age]; simp
  · have hk' : putK t.heard n (nwOf l) m = some p := hk
    unfold putK at hk'
    by_cases e : m = n
    · subst e
      exact ⟨_, (hm _).2 (.inr rfl), rfl⟩
    · rw [if_neg e] at hk'
      obtain ⟨x, hx, hf⟩ := h.all m p hm64 hk'
      exact ⟨x, (hm x).2 (.inl ⟨hx, by omega⟩), hf⟩
theorem Rel.tick {t : Tb} {q : RQ} (h : Rel t q) : Rel (t.with (tickK t.age t.heard)) (tickQ q) := by
  refine ⟨h.self, h.age, h.nbs, h.via, ?_, fun e hx => ?_, fun m p hm64 hk => ?_⟩
  · show (tickL q.l).Pairwise _
    unfold tickL
    exact List.pairwise_map.2 (h.ris.filter _)
  · obtain ⟨r, hr, hl, rfl⟩ := tickL_mem hx
    obtain ⟨m, p, a1, a2, a3, a4, a5, a6⟩ := h.mem r hr
    refine ⟨m, ⟨p.c, p.s + 1⟩, a1, a2, ?_, a4, a5, ?_⟩
    · show tickK t.age t.heard m = _
      unfold tickK
      rw [a3]
      simp only
      rw [if_pos (by omega)]
    · show r.left - 1 = (t.age : Int) - ((p.s + 1 : Nat) : Int)
      omega
  · have hk' : tickK t.age t.heard m = some p := hk
    unfold tickK at hk'
    cases hh : t.heard m with
    | none => rw [hh] at hk'; cases hk'
    | some r =>
      rw [hh] at hk'
      simp only at hk'
      split at hk'
      · rename_i hlt
        obtain ⟨x, hx, hf⟩ := h.all m r hm64 hh
        obtain ⟨m', p', a1, a2, a3, a4, a5, a6⟩ := h.mem x hx
        have e : m' = m := by omega
        subst e
        rw [hh] at a3
        cases a3
        exact ⟨less x, List.mem_map.2 ⟨x, List.mem_filter.2 ⟨hx, by rw [decide_eq_true_eq]; omega⟩, rfl⟩, hf⟩
      · cases hk'
end Go.Proofs.Ytablejhajilpiaa.Rt
