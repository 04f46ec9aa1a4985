/- What is there behind a crash: plain facts on a log's segments. -/
import Derived.Test.YtbacgljeadalbaaGreatDoorZ4
import Derived.Test.YtbacgljeadalbaaGreatDoorZ6
import Derived.Test.YtbacgljeadalbaaGreatDoorZ9
import Derived.Test.YtbacgljeadalbaaGreatDoorZ10
import Derived.Test.YtbacgljeadalbaaGreatDoorZ8
import Derived.Deep.RegionHeld
import Derived.BigCall
namespace Go.Proofs.YtbacgljeadalbaaGreatDoor.Wl
open Go.Proofs.YtbacgljeadalbaaGreatDoor.Me Go.Proofs.YtbacgljeadalbaaGreatDoor.Dk Go.Proofs.YtbacgljeadalbaaGreatDoor.Rc
set_option linter.unusedVariables false

/-! ### A segment's file -/
section
variable {s : St} {k : Nat} {n : Nm} {f : Fl}
theorem fileOf_some (h : Dk.look s.files n = some f) : fileOf s n = f := by unfold fileOf; rw [h]; rfl
theorem fileOf_none (h : Dk.look s.files n = none) : fileOf s n = ⟨[], 0⟩ := by unfold fileOf; rw [h]; rfl
theorem findE_up (hd : s.down = false) (h : Dk.look s.files (nameW k) = some f) : findE s (nameW k) = 0 := by
  unfold findE
  rw [if_neg (by simp [hd]), if_pos (nameW_ok k), if_pos (by simp [h])]
theorem findE_gone (hd : s.down = false) (h : Dk.look s.files (nameW k) = none) : findE s (nameW k) = 4 := by
  unfold findE
  rw [if_neg (by simp [hd]), if_pos (nameW_ok k), if_neg (by simp [h])]
theorem lenS_some (hd : s.down = false) (h : Dk.look s.files (nameW k) = some f) : lenS s k = f.bytes.length := by
  unfold lenS readP
  rw [if_pos (findE_up hd h), fileOf_some h]
theorem lenS_none (h : Dk.look s.files (nameW k) = none) : lenS s k = 0 := by
  unfold lenS readP
  split
  · rw [fileOf_none h]; rfl
  · rfl
end
theorem flat_one (p : List Nat) : flatR [p] = recL p := by rw [flat_cons]; simp [flatR]
theorem flat_snoc (ps : List (List Nat)) (p : List Nat) : flatR (ps ++ [p]) = flatR ps ++ recL p := by rw [flat_append, flat_one]
theorem take_le_siz : ∀ (ps : List (List Nat)) (a b : Nat), a ≤ b → siz (ps.take a) ≤ siz (ps.take b)
  | [], a, b, _ => by simp
  | p :: ps, 0, b, _ => by rw [List.take_zero]; exact Nat.zero_le _
  | p :: ps, a + 1, 0, h => absurd h (by omega)
  | p :: ps, a + 1, b + 1, h => by
    rw [List.take_succ_cons, List.take_succ_cons, siz_cons, siz_cons]
    have := take_le_siz ps a b (by omega)
    omega
theorem take_step_siz {ps : List (List Nat)} {m : Nat} (h : m < ps.length) : siz (ps.take (m + 1)) = siz (ps.take m) + 8 + (lsAt ps m).length := by
  have e : ps.take (m + 1) = ps.take m ++ [lsAt ps m] := by
    rw [List.take_succ_eq_append_getElem h]
    simp [lsAt, h]
  rw [e, siz_append, siz_cons]
  have : siz ([] : List (List Nat)) = 0 := siz_nil
  omega

/-! ### The log's segments -/
/-- The files: all segments ahead of the last one have the records cl, all safe; the last one has those of cur, sf bytes safe. -/
structure Jn (L : Fs) (last : Nat) (cl : List (List (List Nat))) (cur : List (List Nat)) (sf : Nat) : Prop where
  lst : last = cl.length + 1
  num : last ≤ 99999
  old : ∀ i, i < cl.length → Dk.look L (nameW (i + 1)) = some ⟨flatR (cl.getD i []), (flatR (cl.getD i [])).length⟩
  now : Dk.look L (nameW last) = if cur = [] then none else some ⟨flatR cur, sf⟩
  up : ∀ k, last < k → k ≤ 99999 → Dk.look L (nameW k) = none
  fine : Fine (cl.flatten ++ cur)
/-- So many records are safe. -/
def Sf (cl : List (List (List Nat))) (cur : List (List Nat)) (sf safe : Nat) : Prop := ∃ t, t ≤ cur.length ∧ siz (cur.take t) ≤ sf ∧ safe ≤ cl.flatten.length + t
def Kp (s : St) (g : Lg) (put : List (List Nat)) (safe : Nat) : Prop := s.Ok ∧ ∃ cl cur sf, Jn s.files g.last cl cur sf ∧ put = cl.flatten ++ cur ∧ Sf cl cur sf safe
/-- All is safe. -/
def Ka (s : St) (g : Lg) (put : List (List Nat)) : Prop := s.Ok ∧ ∃ cl cur, Jn s.files g.last cl cur (flatR cur).length ∧ put = cl.flatten ++ cur
theorem Ka.kp {s : St} {g : Lg} {put : List (List Nat)} (h : Ka s g put) {safe : Nat} (hs : safe ≤ put.length) : Kp s g put safe := by
  obtain ⟨ok, cl, cur, hj, rfl⟩ := h
  refine ⟨ok, cl, cur, _, hj, rfl, cur.length, Nat.le_refl _, ?_, ?_⟩
  · rw [List.take_length, flat_length]; exact Nat.le_refl _
  · rw [List.length_append] at hs; exact hs
theorem Kp.safe {s : St} {g : Lg} {put : List (List Nat)} {safe : Nat} (h : Kp s g put safe) : safe ≤ put.length := by
  obtain ⟨ok, cl, cur, sf, hj, rfl, t, h1, h2, h3⟩ := h
  rw [List.length_append]
  omega
theorem Kp.fine {s : St} {g : Lg} {put : List (List Nat)} {safe : Nat} (h : Kp s g put safe) : Fine put := by
  obtain ⟨ok, cl, cur, sf, hj, rfl, _⟩ := h
  exact hj.fine
theorem Kp.same {s s' : St} {g g' : Lg} {put : List (List Nat)} {safe : Nat} (h : Kp s g put safe) (hf : s'.files = s.files) (hg : g'.last = g.last) (ok : s'.Ok) : Kp s' g' put safe := by
  obtain ⟨_, cl, cur, sf, hj, e, hs⟩ := h
  refine ⟨ok, cl, cur, sf, ?_, e, hs⟩
  rw [hf, hg]
  exact hj
theorem Jn.sf {L : Fs} {last : Nat} {cl : List (List (List Nat))} {sf sf' : Nat} (h : Jn L last cl [] sf) : Jn L last cl [] sf' :=
  ⟨h.lst, h.num, h.old, by rw [h.now]; rfl, h.up, h.fine⟩
/-- The last segment's file turned. -/
theorem Jn.put {L : Fs} {last : Nat} {cl : List (List (List Nat))} {cur cur' : List (List Nat)} {sf sf' : Nat} (h : Jn L last cl cur sf) (hc : cur' ≠ []) (hf : Fine (cl.flatten ++ cur')) : Jn (Dk.put L (nameW last) ⟨flatR cur', sf'⟩) last cl cur' sf' := by
  have hl := h.lst
  have hn := h.num
  refine ⟨h.lst, h.num, fun i hi => ?_, ?_, fun k hk hk2 => ?_, hf⟩
  · rw [look_put, if_neg (fun e => by have := nameW_inj (by omega) (by omega) e; omega)]
    exact h.old i hi
  · rw [look_put, if_pos rfl, if_neg hc]
  · rw [look_put, if_neg (fun e => by have := nameW_inj hk2 hn e; omega)]
    exact h.up k hk hk2
theorem sync_K {s : St} {g : Lg} {put : List (List Nat)} {safe : Nat} (h : Kp s g put safe) : ((syncR s g).e = 0 → Ka (syncR s g).s (syncR s g).g put) ∧ Kp (syncR s g).s (syncR s g).g put safe := by
  have hsafe := h.safe
  have h0 := h
  obtain ⟨ok, cl, cur, sf, hj, rfl, hs⟩ := h
  unfold syncR
  split
  · exact ⟨fun e => (by cases e), h0⟩
  · split
    · exact ⟨fun e => (by cases e), h0.same rfl rfl ok⟩
    · rename_i hd
      have hd : s.down = false := by simpa using hd
      have hnow := hj.now
      split
      · rename_i he
        refine ⟨fun _ => ⟨ok, cl, cur, ?_, rfl⟩, h0⟩
        by_cases hc : cur = []
        · subst hc
          exact hj.sf
        · rw [if_neg hc] at hnow
          rw [lenS_some hd hnow, fileOf_some hnow] at he
          simp only at he
          rw [he]
          exact hj
      · rename_i he
        have hc : cur ≠ [] := fun hc => he (by
          rw [if_pos hc] at hnow
          rw [lenS_none hnow, fileOf_none hnow])
        rw [if_neg hc] at hnow
        have hfe := findE_up hd hnow
        have e1 : syncS s (nameW g.last) = chg s (Dk.put s.files (nameW g.last) ⟨flatR cur, (flatR cur).length⟩) := by
          unfold syncS
          rw [if_pos hfe, fileOf_some hnow]
        have hk : Ka (syncS s (nameW g.last)) (note (syncS s (nameW g.last)) g (findE s (nameW g.last))).g (cl.flatten ++ cur) := by
          refine ⟨ok.sync _, cl, cur, ?_, rfl⟩
          rw [e1]
          exact hj.put hc hj.fine
        exact ⟨fun _ => hk, hk.kp hsafe⟩
theorem getD_app_lt {α : Type} (l r : List α) (d : α) {i : Nat} (h : i < l.length) : (l ++ r).getD i d = l.getD i d := by
  simp [List.getD, List.getElem?_append_left h]
theorem getD_app_eq {α : Type} (l : List α) (x d : α) : (l ++ [x]).getD l.length d = x := by
  simp [List.getD]
theorem begin_K {s : St} {g : Lg} {put : List (List Nat)} {safe : Nat} (h : Kp s g put safe) : ((beginR s g).e = 0 → Ka (beginR s g).s (beginR s g).g put) ∧ Kp (beginR s g).s (beginR s g).g put safe := by
  have hsafe := h.safe
  obtain ⟨hA, hK⟩ := sync_K h
  unfold beginR
  split
  · rename_i he
    exact ⟨fun e => absurd e he, hK⟩
  · rename_i he
    have hA := hA (by omega)
    split
    · exact ⟨fun _ => hA, hK⟩
    · rename_i hl
      split
      · exact ⟨fun e => (by cases e), hK⟩
      · rename_i h9
        have hk : Ka (syncR s g).s ⟨(syncR s g).g.last + 1, (syncR s g).g.failed⟩ put := by
          obtain ⟨ok, cl, cur, hj, rfl⟩ := hA
          have hlast := hj.lst
          have hnum := hj.num
          have hc : cur ≠ [] := fun hc => hl (by
            have hnow := hj.now
            rw [if_pos hc] at hnow
            unfold safeS
            rw [fileOf_none hnow])
          refine ⟨ok, cl ++ [cur], [], ⟨?_, ?_, fun i hi => ?_, ?_, fun k hk hk2 => ?_, ?_⟩, ?_⟩
          · rw [List.length_append]; show (syncR s g).g.last + 1 = _; rw [hlast]; rfl
          · show (syncR s g).g.last + 1 ≤ 99999; omega
          · rw [List.length_append] at hi
            by_cases e : i < cl.length
            · rw [getD_app_lt _ _ _ e]; exact hj.old i e
            · have e1 : i = cl.length := by simp only [List.length_cons, List.length_nil] at hi; omega
              subst e1
              have hnow := hj.now
              rw [if_neg hc, hlast] at hnow
              rw [getD_app_eq]; exact hnow
          · rw [if_pos rfl]
            exact hj.up _ (Nat.lt_succ_self _) (by show (syncR s g).g.last + 1 ≤ 99999; omega)
          · exact hj.up k (by have : (syncR s g).g.last + 1 < k := hk; omega) hk2
          · rw [List.flatten_append]; simpa using hj.fine
          · rw [List.flatten_append]; simp
        exact ⟨fun _ => hk, hk.kp hsafe⟩
theorem appE_down {s : St} {n : Nm} {p : List Nat} (h : appE s n p = 0) : s.down = false := by
  unfold appE mayE at h
  cases hd : s.down with
  | false => rfl
  | true => simp [hd] at h
theorem put_K {s : St} {g : Lg} {put : List (List Nat)} {safe : Nat} (h : Kp s g put safe) {p : List Nat} (hf : fitR p = true) (hb : ∀ z ∈ p, z < 256) :
    Kp (putR s g p).s (putR s g p).g (if (putR s g p).e = 0 then put ++ [p] else put) safe := by
  have h0 := h
  obtain ⟨ok, cl, cur, sf, hj, rfl, t, t1, t2, t3⟩ := h
  show Kp (appS s (nameW g.last) (recL p)) _ (if appE s (nameW g.last) (recL p) = 0 then _ else _) safe
  by_cases he : appE s (nameW g.last) (recL p) = 0
  · rw [if_pos he]
    have e1 : appS s (nameW g.last) (recL p) = chg s (Dk.put s.files (nameW g.last) (appF (Dk.look s.files (nameW g.last)) (recL p))) := by unfold appS; rw [if_pos he]
    have hnow := hj.now
    have hfine : Fine (cl.flatten ++ (cur ++ [p])) := by
      intro q hq
      rw [← List.append_assoc] at hq
      rcases List.mem_append.1 hq with hq | hq
      · exact hj.fine q hq
      · simp only [List.mem_cons, List.not_mem_nil, or_false] at hq
        subst hq
        exact ⟨hf, hb⟩
    have ok2 := ok.app (nameW g.last) (p := recL p) (rec_bytes hb)
    rw [e1] at ok2 ⊢
    by_cases hc : cur = []
    · subst hc
      rw [if_pos rfl] at hnow
      rw [hnow] at ok2 ⊢
      refine ⟨ok2, cl, [p], 0, ?_, by simp, 0, Nat.zero_le _, by rw [List.take_zero, siz_nil]; exact Nat.le_refl _, ?_⟩
      · have := hj.put (sf' := 0) (cur' := [p]) (by simp) (by simpa using hfine)
        rw [flat_one] at this
        exact this
      · have : t = 0 := by simpa using t1
        omega
    · rw [if_neg hc] at hnow
      rw [hnow] at ok2 ⊢
      refine ⟨ok2, cl, cur ++ [p], sf, ?_, by simp, t, by rw [List.length_append]; omega, by rw [List.take_append_of_le_length t1]; exact t2, t3⟩
      have := hj.put (sf' := sf) (cur' := cur ++ [p]) (by simp) hfine
      rw [flat_snoc] at this
      exact this
  · rw [if_neg he]
    have e1 : appS s (nameW g.last) (recL p) = s := by unfold appS; rw [if_neg he]
    rw [e1]
    exact h0.same rfl rfl ok
theorem app_K {s : St} {g : Lg} {put : List (List Nat)} {safe : Nat} (h : Kp s g put safe) {p : List Nat} (hb : ∀ z ∈ p, z < 256) (size pe : Nat) (hpe : pe = 0 → fitR p = true) :
    Kp (appR s g p size pe).s (appR s g p size pe).g (if (appR s g p size pe).e = 0 then put ++ [p] else put) safe := by
  unfold appR
  split
  · exact h
  · split
    · rename_i hp
      first | exact h | (rw [if_neg hp]; exact h)
    · rename_i hp
      have hf := hpe (by omega)
      split
      · split
        · rename_i he
          first | exact (begin_K h).2 | (rw [if_neg he]; exact (begin_K h).2)
        · exact put_K (begin_K h).2 hf hb
      · exact put_K h hf hb

/-! ### Behind a crash -/
theorem look_crash (n : Nm) : ∀ (L : Fs) (ks : List Int), (∀ f, Dk.look L n = some f → ∃ k, Dk.look (crashL L ks) n = some (crashF f k)) ∧ (Dk.look L n = none → Dk.look (crashL L ks) n = none)
  | [], ks => ⟨fun f h => (by cases h), fun _ => rfl⟩
  | (m, f) :: r, ks => by
    obtain ⟨h1, h2⟩ := look_crash n r ks.tail
    by_cases e : m = n
    · subst e
      simp only [Dk.look, if_true, crashL]
      exact ⟨fun g hg => ⟨ks.headD 0, by injection hg with hg; rw [hg]⟩, fun hn => by cases hn⟩
    · simp only [Dk.look, if_neg e, crashL]
      exact ⟨h1, h2⟩
theorem crashF_safe {b : List Nat} {k : Int} : (crashF ⟨b, b.length⟩ k).bytes = b := by
  simp only [crashF, Nat.sub_self, Nat.min_zero, Nat.add_zero, List.take_length]
theorem fine_at {cl : List (List (List Nat))} {cur : List (List Nat)} (h : Fine (cl.flatten ++ cur)) {i : Nat} (hi : i < cl.length) : Fine (cl.getD i []) := fun q hq => by
  refine h q (List.mem_append.2 (.inl (List.mem_flatten.2 ⟨cl[i], List.getElem_mem hi, ?_⟩)))
  have e : cl.getD i [] = cl[i] := by simp [List.getD, hi]
  rw [← e]; exact hq
theorem take_flat {cl : List (List (List Nat))} {i : Nat} (hi : i < cl.length) : (cl.take (i + 1)).flatten = (cl.take i).flatten ++ cl.getD i [] := by
  have e : cl.getD i [] = cl[i] := by simp [List.getD, hi]
  rw [List.take_succ_eq_append_getElem hi, List.flatten_append, e]
  simp
/-- What Open tells behind a crash: all that was safe, then a beginning of the rest. -/
theorem opens_K {s s' : St} {g : Lg} {put : List (List Nat)} {safe : Nat} (h : Kp s g put safe) {ks : List Int} {last : Nat} {ps : List (List Nat)} (ho : Opens (crashS s ks) s' last ps) : ∃ n, safe ≤ n ∧ n ≤ put.length ∧ ps = put.take n := by
  obtain ⟨ok, cl, cur, sf, hj, rfl, t, t1, t2, t3⟩ := h
  have hlast := hj.lst
  have hnum := hj.num
  have hfine := hj.fine
  -- the segments ahead of the last one
  have hold : ∀ i, i < cl.length → there (crashS s ks) (i + 1) ∧ bytesOf (crashS s ks) (i + 1) = flatR (cl.getD i []) := fun i hi => by
    obtain ⟨k, hk⟩ := (look_crash (nameW (i + 1)) s.files ks).1 _ (hj.old i hi)
    have hk : Dk.look (crashS s ks).files (nameW (i + 1)) = _ := hk
    refine ⟨⟨⟨by omega, by omega⟩, by rw [hk]; rfl⟩, ?_⟩
    unfold bytesOf
    rw [fileOf_some hk, crashF_safe]
  have hwhole : ∀ i, i < cl.length → whole (crashS s ks) (i + 1) := fun i hi => by
    unfold whole
    rw [(hold i hi).2, recs_flat (fine_at hfine hi), flat_length]
  have hpays : ∀ j, j ≤ cl.length → pays (crashS s ks) j = (cl.take j).flatten := by
    intro j
    induction j with
    | zero => intro _; simp [pays]
    | succ j ih =>
      intro hj2
      rw [pays, ih (by omega), (hold j (by omega)).2, recs_flat (fine_at hfine (by omega)), take_flat (by omega)]
  -- the last one
  have hup : ¬ there (crashS s ks) (cl.length + 2) := by
    rintro ⟨⟨_, h9⟩, hl⟩
    have e : Dk.look (crashS s ks).files (nameW (cl.length + 2)) = none := (look_crash (nameW (cl.length + 2)) s.files ks).2 (hj.up _ (by omega) h9)
    rw [e] at hl
    cases hl
  have hcur : (cur = [] ∧ ¬ there (crashS s ks) (cl.length + 1)) ∨ (there (crashS s ks) (cl.length + 1) ∧ ∃ m, t ≤ m ∧ m ≤ cur.length ∧ recs (bytesOf (crashS s ks) (cl.length + 1)) = cur.take m) := by
    have hnow := hj.now
    rw [hlast] at hnow
    by_cases hc : cur = []
    · left
      refine ⟨hc, ?_⟩
      rw [if_pos hc] at hnow
      rintro ⟨_, hl⟩
      have e : Dk.look (crashS s ks).files (nameW (cl.length + 1)) = none := (look_crash _ s.files ks).2 hnow
      rw [e] at hl
      cases hl
    · right
      rw [if_neg hc] at hnow
      obtain ⟨k, hk⟩ := (look_crash (nameW (cl.length + 1)) s.files ks).1 _ hnow
      have hk : Dk.look (crashS s ks).files (nameW (cl.length + 1)) = _ := hk
      refine ⟨⟨⟨by omega, by omega⟩, by rw [hk]; rfl⟩, ?_⟩
      unfold bytesOf
      rw [fileOf_some hk]
      simp only [crashF]
      obtain ⟨m, q1, q2, q3, q4⟩ := cuts cur (sf + min k.toNat ((flatR cur).length - sf)) fun q hq => hfine q (List.mem_append.2 (.inr hq))
      refine ⟨m, ?_, q1, q2⟩
      apply Classical.byContradiction
      intro hn
      have hm : m < cur.length := by omega
      have a := q4 hm
      have b := take_step_siz hm
      have c := take_le_siz cur (m + 1) t (by omega)
      omega
  obtain ⟨s1, ⟨m, hfull, hcase⟩, _⟩ := ho
  have hm : cl.length ≤ m ∨ (there (crashS s ks) (m + 1) ∧ whole (crashS s ks) (m + 1)) := by
    by_cases e : cl.length ≤ m
    · exact .inl e
    · exact .inr ⟨(hold m (by omega)).1, hwhole m (by omega)⟩
  have hm2 : m ≤ cl.length + 1 := by
    apply Classical.byContradiction
    intro hn
    exact hup (hfull (cl.length + 2) (by omega) (by omega)).1
  have hall : pays (crashS s ks) cl.length = cl.flatten := by rw [hpays _ (Nat.le_refl _), List.take_length]
  have hend : there (crashS s ks) (cl.length + 1) → ∃ n, safe ≤ n ∧ n ≤ (cl.flatten ++ cur).length ∧ pays (crashS s ks) (cl.length + 1) = (cl.flatten ++ cur).take n := fun ht => by
    rcases hcur with ⟨_, h1⟩ | ⟨_, m, m1, m2, m3⟩
    · exact absurd ht h1
    · refine ⟨cl.flatten.length + m, by omega, by rw [List.length_append]; omega, ?_⟩
      have e9 : cl.flatten.take (cl.flatten.length + m) = cl.flatten := List.take_of_length_le (Nat.le_add_right _ _)
      rw [pays, hall, m3, List.take_append, e9, Nat.add_sub_cancel_left]
  rcases hcase with ⟨c1, _, rfl, _⟩ | ⟨c1, c2, _, rfl, _⟩
  · rcases hm with hm | ⟨h1, _⟩
    · by_cases e : m = cl.length
      · subst e
        rcases hcur with ⟨hc, _⟩ | ⟨h1, _⟩
        · subst hc
          refine ⟨cl.flatten.length, ?_, by simp, ?_⟩
          · have : t = 0 := by simpa using t1
            omega
          · rw [hall, List.append_nil, List.take_length]
        · exact absurd h1 c1
      · have e1 : m = cl.length + 1 := by omega
        subst e1
        exact hend (hfull _ (by omega) (Nat.le_refl _)).1
    · exact absurd h1 c1
  · rcases hm with hm | ⟨_, h2⟩
    · by_cases e : m = cl.length
      · subst e
        exact hend c1
      · have e1 : m = cl.length + 1 := by omega
        subst e1
        exact absurd c1 hup
    · exact absurd h2 c2
theorem Kp.new {s : St} {g : Lg} (ok : s.Ok) (hf : s.files = []) (hg : g.last = 1) : Kp s g [] 0 := by
  refine ⟨ok, [], [], 0, ⟨hg, by omega, (fun i hi => by simp at hi), ?_, fun k _ _ => ?_, fun q hq => by simp at hq⟩, rfl, 0, Nat.le_refl _, Nat.le_refl _, Nat.zero_le _⟩
  · rw [hf]; rfl
  · rw [hf]; rfl
/-- What Open finds where there are no files. -/
theorem opens_none {s s' : St} {last : Nat} {ps : List (List Nat)} (hf : s.files = []) (ho : Opens s s' last ps) : s' = s ∧ last = 1 ∧ ps = [] := by
  have hno : ∀ k, ¬ there s k := fun k h => by
    have := h.2
    rw [hf] at this
    cases this
  obtain ⟨s1, ⟨m, hfull, hcase⟩, rfl⟩ := ho
  have hm : m = 0 := by
    apply Classical.byContradiction
    intro hn
    exact hno 1 (hfull 1 (Nat.le_refl _) (by omega)).1
  subst hm
  rcases hcase with ⟨_, rfl, rfl, rfl⟩ | ⟨c1, _⟩
  · refine ⟨?_, rfl, rfl⟩
    cases s1
    simp only at hf
    subst hf
    rfl
  · exact absurd c1 (hno _)
end Go.Proofs.YtbacgljeadalbaaGreatDoor.Wl
/- Open behind Open: the same, and nothing changes; what the removing of segments leaves. -/
namespace Go.Proofs.YtbacgljeadalbaaGreatDoor.Wl
open Go.Proofs.YtbacgljeadalbaaGreatDoor.Me Go.Proofs.YtbacgljeadalbaaGreatDoor.Dk Go.Proofs.YtbacgljeadalbaaGreatDoor.Rc
set_option linter.unusedVariables false

/-! ### A row up to its records' end -/
theorem flat_recs : ∀ (n : Nat) (row : List Nat), row.length ≤ n → (∀ z ∈ row, z < 256) → flatR (recs row) = row.take (siz (recs row))
  | n, row, hn, hb => by
    by_cases h : payL row = []
    · rw [recs_none h, siz_nil]; rfl
    · obtain ⟨h1, h2, _⟩ := rec_pay hb (ok_of_pay h)
      cases n with
      | zero => omega
      | succ n =>
        have ih := flat_recs n (row.drop (8 + (payL row).length)) (by rw [List.length_drop]; omega) fun z hz => hb z (List.mem_of_mem_drop hz)
        rw [recs_some h, flat_cons, siz_cons, h1, ih]
        exact List.take_add.symm
theorem siz_le {row : List Nat} (hb : ∀ z ∈ row, z < 256) : siz (recs row) ≤ row.length := by
  have h := congrArg List.length (flat_recs _ row (Nat.le_refl _) hb)
  rw [flat_length, List.length_take] at h
  omega
theorem fine_recs {row : List Nat} (hb : ∀ z ∈ row, z < 256) : Fine (recs row) := fun p hp => ⟨recs_fit p hp, recs_bytes hb p hp⟩
theorem recs_take {row : List Nat} (hb : ∀ z ∈ row, z < 256) : recs (row.take (siz (recs row))) = recs row := by
  rw [← flat_recs _ row (Nat.le_refl _) hb, recs_flat (fine_recs hb)]

/-! ### Only the files up to a segment -/
theorem look_filter (q : Nm → Bool) (n : Nm) : ∀ L : Fs, Dk.look (L.filter fun p => q p.1) n = if q n = true then Dk.look L n else none
  | [] => by simp [Dk.look]
  | (m, f) :: r => by
    have ih := look_filter q n r
    by_cases hm : q m = true
    · rw [List.filter_cons_of_pos (by exact hm)]
      by_cases e : m = n
      · subst e; simp [Dk.look, hm]
      · simp only [Dk.look, if_neg e]; exact ih
    · rw [List.filter_cons_of_neg (by exact hm), ih]
      by_cases e : m = n
      · subst e; simp [hm]
      · simp only [Dk.look, if_neg e]
theorem look_trim {s : St} {last k : Nat} (hk : k ≤ 99999) : Dk.look (trim s last).files (nameW k) = if k ≤ last then Dk.look s.files (nameW k) else none := by
  have := look_filter (fun n => decide (numOf n ≤ last)) (nameW k) s.files
  rw [show (trim s last).files = s.files.filter fun p => decide (numOf p.1 ≤ last) from rfl, this, numOf_nameW hk]
  simp
theorem there_trim {s : St} {last k : Nat} : there (trim s last) k ↔ k ≤ last ∧ there s k := by
  unfold there
  constructor
  · rintro ⟨h1, h2⟩
    rw [look_trim h1.2] at h2
    split at h2
    · rename_i h; exact ⟨h, h1, h2⟩
    · cases h2
  · rintro ⟨h0, h1, h2⟩
    refine ⟨h1, ?_⟩
    rw [look_trim h1.2, if_pos h0]; exact h2
theorem bytes_trim {s : St} {last k : Nat} (hk : k ≤ 99999) (h : k ≤ last) : bytesOf (trim s last) k = bytesOf s k := by
  unfold bytesOf fileOf
  rw [look_trim hk, if_pos h]
theorem trim_trim (s : St) (last : Nat) : trim (trim s last) last = trim s last := by
  unfold trim
  simp
theorem pays_eq {s s' : St} : ∀ m, (∀ i, 1 ≤ i → i ≤ m → recs (bytesOf s' i) = recs (bytesOf s i)) → pays s' m = pays s m
  | 0, _ => rfl
  | m + 1, h => by rw [pays, pays, pays_eq m fun i h1 h2 => h i h1 (by omega), h (m + 1) (by omega) (Nat.le_refl _)]
theorem full_uniq {s : St} {m m' : Nat} (h : full s m) (hn : ¬ (there s (m + 1) ∧ whole s (m + 1))) (h' : full s m') (hn' : ¬ (there s (m' + 1) ∧ whole s (m' + 1))) : m = m' := by
  apply Classical.byContradiction
  intro hne
  rcases Nat.lt_or_ge m m' with hl | hl
  · exact hn (h' (m + 1) (by omega) (by omega))
  · exact hn' (h (m' + 1) (by omega) (by omega))
theorem full_num {s : St} {m : Nat} (h : full s m) : m ≤ 99999 := by
  by_cases e : m = 0
  · omega
  · exact (h m (by omega) (Nat.le_refl _)).1.1.2
theorem bytes_lt {s : St} (ok : s.Ok) (k : Nat) : ∀ z ∈ bytesOf s k, z < 256 := (ok.fileOf (nameW k)).2.2
/-- The cut of a segment that is not whole. -/
theorem cut_is {s : St} (ok : s.Ok) (hc : Calm s) {k : Nat} (ht : there s k) :
    cutE s (nameW k) (siz (recs (bytesOf s k)) : Int) = 0 ∧ cutS s (nameW k) (siz (recs (bytesOf s k)) : Int) = ⟨s.limit, Dk.put s.files (nameW k) ⟨(bytesOf s k).take (siz (recs (bytesOf s k))), siz (recs (bytesOf s k))⟩, 0, false⟩ := by
  obtain ⟨f, hf⟩ := Option.isSome_iff_exists.1 ht.2
  have hfe := findE_up hc.1 hf
  have hle : siz (recs (bytesOf s k)) ≤ (fileOf s (nameW k)).bytes.length := siz_le (bytes_lt ok k)
  have e1 : cutE s (nameW k) (siz (recs (bytesOf s k)) : Int) = 0 := by
    unfold cutE
    rw [if_neg (by rw [hfe]; simp), if_neg (by omega)]
  refine ⟨e1, ?_⟩
  unfold cutS
  rw [if_pos e1]
  unfold chg
  rw [hc.2]
  simp [bytesOf]
theorem opens_again {s s1 s2 : St} {l1 l2 : Nat} {ps1 ps2 : List (List Nat)} (ok : s.Ok) (hc : Calm s) (h1 : Opens s s1 l1 ps1) (h2 : Opens s1 s2 l2 ps2) : s2 = s1 ∧ l2 = l1 ∧ ps2 = ps1 := by
  obtain ⟨s', ⟨m, hfull, hcase⟩, rfl⟩ := h1
  obtain ⟨s'', ⟨m', hfull', hcase'⟩, rfl⟩ := h2
  have hm9 := full_num hfull
  have hn' : ¬ (there (trim s' l1) (m' + 1) ∧ whole (trim s' l1) (m' + 1)) := by
    rcases hcase' with ⟨c, _⟩ | ⟨_, c, _⟩
    · exact fun h => c h.1
    · exact fun h => c h.2
  rcases hcase with ⟨c1, hl1, rfl, rfl⟩ | ⟨c1, c2, hl1, rfl, rfl⟩
  · have hb : ∀ i, 1 ≤ i → i ≤ m → bytesOf (trim s' l1) i = bytesOf s' i := fun i h1 h2 => bytes_trim (by omega) (by omega)
    have hf : full (trim s' l1) m := fun i h1 h2 => ⟨there_trim.2 ⟨by omega, (hfull i h1 h2).1⟩, by
      unfold whole
      rw [hb i h1 h2]
      exact (hfull i h1 h2).2⟩
    have hno : ¬ there (trim s' l1) (m + 1) := fun h => c1 (there_trim.1 h).2
    have hmm := full_uniq hf (fun h => hno h.1) hfull' hn'
    subst hmm
    rcases hcase' with ⟨_, hl2, rfl, rfl⟩ | ⟨c, _⟩
    · have e : l2 = l1 := by omega
      subst e
      exact ⟨trim_trim _ _, rfl, pays_eq m fun i h1 h2 => by rw [hb i h1 h2]⟩
    · exact absurd c hno
  · obtain ⟨e1, e2⟩ := cut_is ok hc c1
    have hm1 := c1.1.2
    subst hl1
    rw [e2] at hfull' hcase' hn' ⊢
    have hlook : ∀ i, i ≤ 99999 → Dk.look (⟨s.limit, Dk.put s.files (nameW (m + 1)) ⟨(bytesOf s (m + 1)).take (siz (recs (bytesOf s (m + 1)))), siz (recs (bytesOf s (m + 1)))⟩, 0, false⟩ : St).files (nameW i) = if i = m + 1 then some ⟨(bytesOf s (m + 1)).take (siz (recs (bytesOf s (m + 1)))), siz (recs (bytesOf s (m + 1)))⟩ else Dk.look s.files (nameW i) := fun i hi => by
      show Dk.look (Dk.put s.files (nameW (m + 1)) _) (nameW i) = _
      rw [look_put]
      by_cases e : i = m + 1
      · rw [if_pos e, if_pos (by rw [e])]
      · rw [if_neg e, if_neg (fun h => e (nameW_inj hi hm1 h))]
    generalize hT : (⟨s.limit, Dk.put s.files (nameW (m + 1)) ⟨(bytesOf s (m + 1)).take (siz (recs (bytesOf s (m + 1)))), siz (recs (bytesOf s (m + 1)))⟩, 0, false⟩ : St) = T at hfull' hcase' hn' hlook ⊢
    have hb : ∀ i, 1 ≤ i → i ≤ m → bytesOf (trim T (m + 1)) i = bytesOf s i := fun i h1 h2 => by
      rw [bytes_trim (by omega) (by omega)]
      unfold bytesOf fileOf
      rw [hlook i (by omega), if_neg (by omega)]
    have hbm : bytesOf (trim T (m + 1)) (m + 1) = (bytesOf s (m + 1)).take (siz (recs (bytesOf s (m + 1)))) := by
      rw [bytes_trim hm1 (Nat.le_refl _)]
      show (fileOf T (nameW (m + 1))).bytes = _
      unfold fileOf
      rw [hlook (m + 1) hm1, if_pos rfl]
      rfl
    have hrm : recs (bytesOf (trim T (m + 1)) (m + 1)) = recs (bytesOf s (m + 1)) := by
      rw [hbm]; exact recs_take (bytes_lt ok _)
    have hf : full (trim T (m + 1)) (m + 1) := fun i h1 h2 => by
      by_cases e : i = m + 1
      · subst e
        refine ⟨there_trim.2 ⟨Nat.le_refl _, c1.1, by rw [hlook _ hm1, if_pos rfl]; rfl⟩, ?_⟩
        unfold whole
        rw [hrm, hbm, List.length_take]
        have := siz_le (bytes_lt ok (m + 1))
        omega
      · have hi := hfull i h1 (by omega)
        refine ⟨there_trim.2 ⟨by omega, hi.1.1, by rw [hlook i (by omega), if_neg e]; exact hi.1.2⟩, ?_⟩
        unfold whole
        rw [hb i h1 (by omega)]
        exact hi.2
    have hno : ¬ there (trim T (m + 1)) (m + 1 + 1) := fun h => by
      have := (there_trim.1 h).1
      omega
    have hmm := full_uniq hf (fun h => hno h.1) hfull' hn'
    subst hmm
    rcases hcase' with ⟨_, hl2, rfl, rfl⟩ | ⟨c, _⟩
    · have e : l2 = m + 1 := by omega
      subst e
      refine ⟨trim_trim _ _, rfl, ?_⟩
      have e9 : pays (trim T (m + 1)) m = pays s m := pays_eq m fun i h1 h2 => by rw [hb i h1 h2]
      rw [pays, pays, hrm, e9]
    · exact absurd c hno

/-! ### What Open keeps -/
theorem used_filter (q : Nm × Fl → Bool) : ∀ L : Fs, used (L.filter q) ≤ used L
  | [] => Nat.le_refl _
  | p :: r => by
    have ih := used_filter q r
    unfold used at ih ⊢
    by_cases h : q p = true
    · rw [List.filter_cons_of_pos h]; simp only [List.map_cons, List.sum_cons]; omega
    · rw [List.filter_cons_of_neg h]; simp only [List.map_cons, List.sum_cons]; omega
theorem ok_filter {s : St} (ok : s.Ok) (q : Nm × Fl → Bool) : (⟨s.limit, s.files.filter q, s.left, s.down⟩ : St).Ok :=
  ⟨ok.srt.filter _, ok.lim, Nat.le_trans (used_filter q _) ok.use, Nat.le_trans (List.length_filter_le _ _) ok.cnt, fun p hp => ok.safe p (List.mem_filter.1 hp).1, fun p hp => ok.byte p (List.mem_filter.1 hp).1, fun p hp => ok.nm p (List.mem_filter.1 hp).1, ok.left, ok.dn⟩
theorem opens_keeps {s s1 : St} {l : Nat} {ps : List (List Nat)} (ok : s.Ok) (hc : Calm s) (hs : Seg s.files) (h : Opens s s1 l ps) : s1.Ok ∧ Calm s1 ∧ Seg s1.files ∧ isN l := by
  obtain ⟨s', ⟨m, hfull, hcase⟩, rfl⟩ := h
  have key : s'.Ok ∧ Calm s' ∧ Seg s'.files ∧ isN l := by
    rcases hcase with ⟨c1, hl1, rfl, rfl⟩ | ⟨c1, c2, hl1, rfl, rfl⟩
    · refine ⟨ok, hc, hs, ?_⟩
      have := full_num hfull
      unfold isN
      omega
    · refine ⟨ok.cut _ _, ?_, hs.cut c1.1 _, by rw [hl1]; exact c1.1⟩
      rw [(cut_is ok hc c1).2]
      exact ⟨rfl, rfl⟩
  obtain ⟨k1, k2, k3, k4⟩ := key
  exact ⟨ok_filter k1 _, k2, fun p hp => k3 p (List.mem_filter.1 hp).1, k4⟩

/-! ### Segments that are removed -/
/-- The numbers of the segments that have files and are wanted. -/
def segs (L : Fs) (P : Nat → Bool) : List Nat := (L.map fun p => numOf p.1).filter P
/-- Files are removed, one by one, till one can't be. -/
def remL : St → List Nat → St × Nat
  | s, [] => (s, 0)
  | s, k :: ks => if findE s (nameW k) = 0 then remL (remS s (nameW k)) ks else (s, findE s (nameW k))
theorem remL_ok : ∀ (ks : List Nat) {s : St}, s.Ok → (remL s ks).1.Ok
  | [], s, h => h
  | k :: ks, s, h => by
    unfold remL
    split
    · exact remL_ok ks (h.rem _)
    · exact h
theorem remL_all : ∀ (ks : List Nat) {s : St}, Calm s → Srt s.files → (∀ k ∈ ks, there s k) → ks.Nodup → remL s ks = (⟨s.limit, s.files.filter fun p => !(ks.map nameW).contains p.1, 0, false⟩, 0)
  | [], s, hc, hs, h, hn => by
    unfold remL
    congr 1
    obtain ⟨a, b, c, d⟩ := s
    obtain ⟨h1, h2⟩ := hc
    simp only at h1 h2
    subst h1 h2
    simp
    exact (List.filter_eq_self.2 fun _ _ => rfl).symm
  | k :: ks, s, hc, hs, h, hn => by
    have hk := h k List.mem_cons_self
    obtain ⟨f, hf⟩ := Option.isSome_iff_exists.1 hk.2
    have hfe := findE_up hc.1 hf
    have hr : remS s (nameW k) = ⟨s.limit, del s.files (nameW k), 0, false⟩ := by
      unfold remS
      rw [if_pos hfe]
      unfold chg
      rw [hc.2]
      simp
    obtain ⟨n1, n2⟩ := List.nodup_cons.1 hn
    unfold remL
    rw [if_pos hfe, hr, remL_all ks (s := ⟨s.limit, del s.files (nameW k), 0, false⟩) ⟨rfl, rfl⟩ (hs.del _) (fun j hj => ?_) n2]
    · congr 2
      unfold del
      rw [List.filter_filter]
      congr 1
      funext p
      simp only [List.map_cons, List.contains_cons, Bool.not_or]
      rw [Bool.and_comm]
      congr 1
      by_cases e : p.1 = nameW k <;> simp [e]
    · have hj2 := h j (List.mem_cons_of_mem _ hj)
      refine ⟨hj2.1, ?_⟩
      show (Dk.look (del s.files (nameW k)) (nameW j)).isSome = true
      rw [look_del, if_neg (fun e => n1 (by rw [← nameW_inj hj2.1.2 hk.1.2 e]; exact hj))]
      exact hj2.2
theorem segs_there {s : St} (hs : Seg s.files) (ok : s.Ok) (P : Nat → Bool) : ∀ k ∈ segs s.files P, there s k := fun k hk => by
  obtain ⟨hk, _⟩ := List.mem_filter.1 hk
  obtain ⟨p, hp, rfl⟩ := List.mem_map.1 hk
  obtain ⟨h1, h2⟩ := hs.num hp
  refine ⟨h1, ?_⟩
  rw [← h2, look_of_mem ok.srt (n := p.1) (f := p.2) hp]
  rfl
theorem segs_nodup {s : St} (hs : Seg s.files) (ok : s.Ok) (P : Nat → Bool) : (segs s.files P).Nodup := by
  unfold segs List.Nodup
  refine List.Pairwise.filter _ ?_
  rw [List.pairwise_map]
  refine List.Pairwise.imp_of_mem (fun {p q} hp hq h => ?_) ok.srt
  intro e
  have a := (hs.num hp).2
  have b := (hs.num hq).2
  rw [e] at a
  exact nm_ne h (a.trans b.symm)
/-- All segments above the last one are removed. -/
theorem rem_above {s : St} (hs : Seg s.files) (ok : s.Ok) (hc : Calm s) (last : Nat) : remL s (segs s.files fun k => decide (last < k)).reverse = (trim s last, 0) := by
  rw [remL_all _ hc ok.srt (fun k hk => segs_there hs ok _ k (List.mem_reverse.1 hk)) (List.pairwise_reverse.2 (List.Pairwise.imp (fun h => Ne.symm h) (segs_nodup hs ok _)))]
  unfold trim
  rw [hc.1, hc.2]
  congr 2
  refine List.filter_congr fun p hp => ?_
  obtain ⟨h1, h2⟩ := hs.num hp
  rw [Bool.eq_iff_iff, decide_eq_true_eq, Bool.not_eq_true', ← Bool.not_eq_true, List.contains_iff_mem]
  constructor
  · intro h
    apply Classical.byContradiction
    intro hn
    refine h (List.mem_map.2 ⟨numOf p.1, List.mem_reverse.2 (List.mem_filter.2 ⟨List.mem_map.2 ⟨p, hp, rfl⟩, by simpa using hn⟩), h2.symm⟩)
  · intro h hm
    obtain ⟨k, hk, e⟩ := List.mem_map.1 hm
    obtain ⟨hk, hkl⟩ := List.mem_filter.1 (List.mem_reverse.1 hk)
    obtain ⟨q, hq, rfl⟩ := List.mem_map.1 hk
    have := nameW_inj (hs.num hq).1.2 h1.2 (e.trans h2)
    simp only [decide_eq_true_eq] at hkl
    omega
/-- None is below the first one. -/
theorem segs_none {s : St} (hs : Seg s.files) : segs s.files (fun k => decide (k < 1)) = [] := by
  refine List.filter_eq_nil_iff.2 fun k hk => ?_
  obtain ⟨p, hp, rfl⟩ := List.mem_map.1 hk
  have := (hs.num hp).1.1
  simp only [decide_eq_true_eq]
  omega
/-- How many bytes all segments have together. -/
def sizeS (s : St) (last : Nat) : Nat := if s.down then 0 else ((segs s.files fun k => decide (1 ≤ k) && decide (k ≤ last)).map (lenS s)).sum
end Go.Proofs.YtbacgljeadalbaaGreatDoor.Wl
/- A log in memory: its block, its disk; what the disk answered is noted. -/
namespace Go.Proofs.YtbacgljeadalbaaGreatDoor.Wl
open Go.RowKit
open Go.Proofs.YtbacgljeadalbaaGreatDoor.Me Go.Proofs.YtbacgljeadalbaaGreatDoor.Hd Go.Proofs.YtbacgljeadalbaaGreatDoor.Dk
set_option linter.unusedVariables false
set_option linter.unusedSimpArgs false

def lcs (D : Nat) (g : Lg) (size : Nat) : Array Value := #[.pointer (some ⟨D, 0, none⟩), .int .i64 1, .int .i64 (g.last : Int), .int .i64 (size : Int), .bool g.failed]
/-- G's blocks but one. -/
def Bx (G : Nat → Prop) (X k : Nat) : Prop := G k ∧ k ≠ X
/-- G's blocks below n. -/
def Lo (G : Nat → Prop) (n k : Nat) : Prop := G k ∧ k < n
/-- Block X is a log of the disk D; all of it in blocks that bear G. -/
structure Lq (G : Nat → Prop) (w : World) (X D mb : Nat) (s : St) (g : Lg) (size : Nat) : Prop where
  blk : w.heap[X]? = some (.cells (lcs D g size) 59 (0, 0))
  dq : Dq (Bx G X) w D mb s
  gX : G X
  good : Good s g
  cap : size ≤ 1048576
section
variable {G G' S : Nat → Prop} {w w' : World} {X D mb size : Nat} {s : St} {g : Lg}
theorem Lq.lt (h : Lq G w X D mb s g size) : X < w.heap.size := (Array.getElem?_eq_some_iff.1 h.blk).1
theorem Lq.c0 (h : Lq G w X D mb s g size) : w.cell? ⟨X, 0, none⟩ = some (.pointer (some ⟨D, 0, none⟩)) := cell_of_row w X 0 _ _ (0, 0) h.blk
theorem Lq.c1 (h : Lq G w X D mb s g size) : w.cell? ⟨X, 1, none⟩ = some (.int .i64 1) := cell_of_row w X 1 _ _ (0, 0) h.blk
theorem Lq.c2 (h : Lq G w X D mb s g size) : w.cell? ⟨X, 2, none⟩ = some (.int .i64 (g.last : Int)) := cell_of_row w X 2 _ _ (0, 0) h.blk
theorem Lq.c3 (h : Lq G w X D mb s g size) : w.cell? ⟨X, 3, none⟩ = some (.int .i64 (size : Int)) := cell_of_row w X 3 _ _ (0, 0) h.blk
theorem Lq.c4 (h : Lq G w X D mb s g size) : w.cell? ⟨X, 4, none⟩ = some (.bool g.failed) := cell_of_row w X 4 _ _ (0, 0) h.blk
theorem Lq.frozen (h : Lq G w X D mb s g size) (i : Nat) : w.frozen? ⟨X, i, none⟩ = false := frozen_of_row w X i _ _ h.blk
theorem Lq.but (h : Lq G w X D mb s g size) (hb : But S w w') (hS : ∀ k, G k → ¬ S k) : Lq G w' X D mb s g size :=
  ⟨(hb.same X h.lt (hS X h.gX)).trans h.blk, h.dq.but hb fun k hk => hS k hk.1, h.gX, h.good, h.cap⟩
theorem Lq.below (h : Lq G w X D mb s g size) (hb : Below w.heap.size w w') : Lq G w' X D mb s g size := h.but (S := fun _ => False) (But.of_below hb) fun _ _ => id
theorem Lq.mono (h : Lq G w X D mb s g size) (hG : ∀ k, k < w.heap.size → G k → G' k) : Lq G' w X D mb s g size :=
  ⟨h.blk, h.dq.mono fun k hk e => ⟨hG k hk e.1, e.2⟩, hG X h.lt h.gX, h.good, h.cap⟩
theorem Lq.loosen {n m : Nat} (h : Lq (Gn (Gn G n) m) w X D mb s g size) (hn : n ≤ m) : Lq (Gn G n) w X D mb s g size := h.mono fun k _ hk => by
  rcases hk with (hk | hk) | hk
  · exact .inl hk
  · exact .inr hk
  · exact .inr (Nat.le_trans hn hk)
theorem Lq.set2 (h : Lq G w X D mb s g size) (n : Nat) (hn : isN n) : Lq G (w.setCell ⟨X, 2, none⟩ (.int .i64 (n : Int))) X D mb s ⟨n, g.failed⟩ size :=
  ⟨heap_setCell_same w X 2 _ _ _ h.blk, h.dq.but ((But.refl (fun k => k = X) w).set (p := ⟨X, 2, none⟩) (.inl rfl) _) fun k hk e => hk.2 e, h.gX, ⟨h.good.ok, h.good.seg, hn⟩, h.cap⟩
theorem Lq.set4 (h : Lq G w X D mb s g size) (b : Bool) : Lq G (w.setCell ⟨X, 4, none⟩ (.bool b)) X D mb s ⟨g.last, b⟩ size :=
  ⟨heap_setCell_same w X 4 _ _ _ h.blk, h.dq.but ((But.refl (fun k => k = X) w).set (p := ⟨X, 4, none⟩) (.inl rfl) _) fun k hk e => hk.2 e, h.gX, ⟨h.good.ok, h.good.seg, h.good.num⟩, h.cap⟩
theorem Lq.but_set (h : Lq G w X D mb s g size) (i : Nat) (v : Value) : But G w (w.setCell ⟨X, i, none⟩ v) := (But.refl G w).set (.inl h.gX) v
/-- Behind a call of its disk's. -/
theorem Lq.disk {s' : St} (h : Lq G w X D mb s g size) (hd : Dq (Gn (Bx G X) w.heap.size) w' D mb s') (hb : But (Bx G X) w w') (hg : Good s' g) : Lq (Gn G w.heap.size) w' X D mb s' g size ∧ But G w w' :=
  ⟨⟨(hb.same X h.lt fun e => e.2 rfl).trans h.blk, hd.mono fun k _ hk => (by
    rcases hk with hk | hk
    · exact ⟨.inl hk.1, hk.2⟩
    · exact ⟨.inr hk, fun e => by have := h.lt; omega⟩), .inl h.gX, hg, h.cap⟩, hb.mono fun k _ hk => hk.1⟩
theorem Lq.wide (h : Lq G w X D mb s g size) (n : Nat) : Lq (Gn G n) w X D mb s g size := h.mono fun k _ hk => .inl hk
end
/-- What a call of a log answers, and leaves. -/
def WlP (G : Nat → Prop) (w : World) (X D mb size : Nat) (r : Rs) (e : Ending) (w' : World) : Prop := e = .returned (.int .i64 (r.e : Int)) ∧ Hid (Lq (Gn G w.heap.size) w' X D mb r.s r.g size) ∧ Hid (But G w w')
section
variable {G : Nat → Prop} (w : World) (X D mb : Nat) (s : St) (g : Lg) (size : Nat)
theorem noted_any (h : Hid (Lq G w X D mb s g size)) (c : Nat) : Calls Tryz.prog 32 #[.pointer (some ⟨X, 0, none⟩), .int .i64 (c : Int)] w fun e w' => e = .returned (.int .i64 (c : Int)) ∧ Hid (Lq G w' X D mb s (note s g c).g size) ∧ Hid (But G w w') := by
  by_cases hc : c = 9
  · subst hc
    have f4 := h.out.frozen 4
    have c4 := h.out.c4
    have H4 : Hid (Lq G (w.setCell ⟨X, 4, none⟩ (.bool true)) X D mb s (note s g 9).g size) := by
      have := h.out.set4 true
      have e : (note s g 9).g = ⟨g.last, true⟩ := by simp [note]
      rw [e]
      exact this
    have B4 : Hid (But G w (w.setCell ⟨X, 4, none⟩ (.bool true))) := h.out.but_set 4 _
    show Calls Tryz.prog 32 #[.pointer (some ⟨X, 0, none⟩), .int .i64 9] w fun e w' => e = .returned (.int .i64 9) ∧ _
    go_enter Tryz.func32, Tryz.ntmps32
    go_wp2
    go_ret
    exact ⟨rfl, H4, B4⟩
  · have e1 : ((c : Int) == 9) = false := by
      have : ¬ (c : Int) = 9 := by omega
      simpa using this
    have H4 : Hid (Lq G w X D mb s (note s g c).g size) := by
      have e : (note s g c).g = g := by simp [note, hc]
      show Lq G w X D mb s (note s g c).g size
      rw [e]
      exact h.out
    clear hc
    go_enter Tryz.func32, Tryz.ntmps32
    go_wp2
    go_ret
    exact ⟨rfl, H4, But.refl _ _⟩
/-- What every call of a log needs where the log is only read. -/
abbrev Sx (w : World) (X D : Nat) (last : Nat) (W : World) : Prop := W.cell? ⟨X, 0, none⟩ = some (.pointer (some ⟨D, 0, none⟩)) ∧ W.cell? ⟨X, 2, none⟩ = some (.int .i64 (last : Int)) ∧ Below w.heap.size w W
theorem Lq.sx {G : Nat → Prop} {w : World} {X D mb size : Nat} {s : St} {g : Lg} (h : Lq G w X D mb s g size) {W : World} (hb : Below w.heap.size w W) : Sx w X D g.last W := ⟨(h.below hb).c0, (h.below hb).c2, hb⟩
theorem length_any (h : Hid (Lq G w X D mb s g size)) {k : Nat} (hk : isN k) : Calls Tryz.prog 31 #[.pointer (some ⟨X, 0, none⟩), .int .i64 (k : Int)] w fun e w' => e = .returned (.int .i64 (lenS s k : Int)) ∧ Hid (Below w.heap.size w w') := by
  have d0 := h.out.sx (Below.refl _ w).drew
  have HN : Hid (∀ W, Sx w X D g.last W → Calls Tryz.prog 7 #[.int .i64 (k : Int)] W fun e W' => e = .returned (.string ⟨(nameW k).toArray⟩) ∧ Sx w X D g.last W') := fun W hW => (Name_seg hk W).mono fun e W' ⟨h1, h2⟩ => ⟨h1, h.out.sx (hW.2.2.trans (h2.out.mono hW.2.2.size))⟩
  have HR : Hid (∀ W, Sx w X D g.last W → Calls Tryz.prog 25 #[.pointer (some ⟨D, 0, none⟩), .string ⟨(nameW k).toArray⟩] W fun e W' => ∃ A, e = .returned (.tuple #[.slice A (lenS s k) (lenS s k), .int .i64 (findE s (nameW k) : Int)]) ∧ Sx w X D g.last W') := fun W hW =>
    (Read_any W D mb s (h.out.dq.below hW.2.2) h.out.good.ok (nameW k)).mono fun e W' ⟨A, h1, _, _, _, h2⟩ => ⟨A, h1, h.out.sx (hW.2.2.trans (h2.out.mono hW.2.2.size))⟩
  obtain ⟨n, hn⟩ : ∃ n, lenS s k = n := ⟨_, rfl⟩
  obtain ⟨c, hc⟩ : ∃ c, findE s (nameW k) = c := ⟨_, rfl⟩
  obtain ⟨S, hS⟩ : ∃ S, (⟨(nameW k).toArray⟩ : ByteArray) = S := ⟨_, rfl⟩
  obtain ⟨l, hl⟩ : ∃ l, g.last = l := ⟨_, rfl⟩
  rw [hS] at HN HR
  rw [hn, hc] at HR
  rw [hl] at HN HR d0
  rw [hn]
  clear hn hc hS hk hl h
  go_enter Tryz.func31, Tryz.ntmps31
  go_wp2
  refine wp_region_held_drew (S := Sx w X D l) (by kernel_rfl) d0 (fun hHeld => ?_)
  refine wpAnyH_take (i := 0) (v := ?vz1) rfl (by kernel_rfl) (by kernel_rfl) (by kernel_rfl) (fun _ _ _ h => h) (Or.inl ⟨by rfl, ?hyz1⟩) (by first | assumption | exact trivial) ?restz1
  case hyz1 => intro W hSW; go_simp; try (with_reducible rfl)
  simp only [Act.put, List.getElem_toArray, List.getElem_cons_succ, List.getElem_cons_zero, List.setIfInBounds_toArray, List.set_cons_zero, List.set_cons_succ]
  refine wpAnyH_take (i := 1) (v := ?vz2) rfl (by kernel_rfl) (by kernel_rfl) (by kernel_rfl) (fun _ _ _ h => h) (Or.inl ⟨by rfl, ?hyz2⟩) (by first | assumption | exact trivial) ?restz2
  case hyz2 => intro W hSW; go_simp; try (with_reducible rfl)
  simp only [Act.put, List.getElem_toArray, List.getElem_cons_succ, List.getElem_cons_zero, List.setIfInBounds_toArray, List.set_cons_zero, List.set_cons_succ]
  refine wpAnyH_take (i := 2) (v := ?vz3) rfl (by kernel_rfl) (by kernel_rfl) (by kernel_rfl) (fun _ _ _ h => h) (Or.inl ⟨by rfl, ?hyz3⟩) (by first | assumption | exact trivial) ?restz3
  case hyz3 => intro W hSW; go_simp; try (with_reducible rfl)
  simp only [Act.put, List.getElem_toArray, List.getElem_cons_succ, List.getElem_cons_zero, List.setIfInBounds_toArray, List.set_cons_zero, List.set_cons_succ]
  refine wpAnyH_take (i := 3) (v := ?vz4) rfl (by kernel_rfl) (by kernel_rfl) (by kernel_rfl) (fun _ _ _ h => h) (Or.inl ⟨by rfl, ?hyz4⟩) (by first | assumption | exact trivial) ?restz4
  case hyz4 => intro W hSW; have q3 := hSW.1; go_simp; try (with_reducible rfl)
  simp only [Act.put, List.getElem_toArray, List.getElem_cons_succ, List.getElem_cons_zero, List.setIfInBounds_toArray, List.set_cons_zero, List.set_cons_succ]
  refine wpAnyH_take (i := 4) (v := ?vz5) rfl (by kernel_rfl) (by kernel_rfl) (by kernel_rfl) (fun _ _ _ h => h) (Or.inl ⟨by rfl, ?hyz5⟩) (by first | assumption | exact trivial) ?restz5
  case hyz5 => intro W hSW; go_simp; try (with_reducible rfl)
  simp only [Act.put, List.getElem_toArray, List.getElem_cons_succ, List.getElem_cons_zero, List.setIfInBounds_toArray, List.set_cons_zero, List.set_cons_succ]
  refine wpAnyH_ready (rs := [5]) (by kernel_rfl) (by simp) ?_
  refine AllReadyH.cons rfl (fun K hK => ?_) AllReadyH.nil
  go_simp
  go_wp2_with (go_at_call 7; refine (HN.out _ d0).mono ?_; rintro e w2 ⟨rfl, hb2⟩)
  refine hK.out _ _ (hb2) (fun hHeld => ?_)
  clear hK K
  refine wpAnyH_ready (rs := [6]) (by kernel_rfl) (by simp) ?_
  refine AllReadyH.cons rfl (fun K hK => ?_) AllReadyH.nil
  go_simp
  go_wp2_with (go_at_call 25; refine (HR.out _ hb2).mono ?_; rintro e w3 ⟨A, rfl, hb3⟩)
  refine hK.out _ _ (hb3) (fun hHeld => ?_)
  clear hK K
  refine wpAnyH_take (i := 7) (v := ?vz6) rfl (by kernel_rfl) (by kernel_rfl) (by kernel_rfl) (fun _ _ _ h => h) (Or.inl ⟨by rfl, ?hyz6⟩) (by first | assumption | exact trivial) ?restz6
  case hyz6 => intro W hSW; go_simp; try (with_reducible rfl)
  simp only [Act.put, List.getElem_toArray, List.getElem_cons_succ, List.getElem_cons_zero, List.setIfInBounds_toArray, List.set_cons_zero, List.set_cons_succ]
  refine wpAnyH_take (i := 8) (v := ?vz7) rfl (by kernel_rfl) (by kernel_rfl) (by kernel_rfl) (fun _ _ _ h => h) (Or.inl ⟨by rfl, ?hyz7⟩) (by first | assumption | exact trivial) ?restz7
  case hyz7 => intro W hSW; go_simp; try (with_reducible rfl)
  simp only [Act.put, List.getElem_toArray, List.getElem_cons_succ, List.getElem_cons_zero, List.setIfInBounds_toArray, List.set_cons_zero, List.set_cons_succ]
  refine wpAnyH_take (i := 9) (v := ?vz8) rfl (by kernel_rfl) (by kernel_rfl) (by kernel_rfl) (fun _ _ _ h => h) (Or.inl ⟨by rfl, ?hyz8⟩) (by first | assumption | exact trivial) ?restz8
  case hyz8 => intro W hSW; go_simp; try (with_reducible rfl)
  simp only [Act.put, List.getElem_toArray, List.getElem_cons_succ, List.getElem_cons_zero, List.setIfInBounds_toArray, List.set_cons_zero, List.set_cons_succ]
  refine wpAnyH_take (i := 10) (v := ?vz9) rfl (by kernel_rfl) (by kernel_rfl) (by kernel_rfl) (fun _ _ _ h => h) (Or.inl ⟨by rfl, ?hyz9⟩) (by first | assumption | exact trivial) ?restz9
  case hyz9 => intro W hSW; go_simp; try (with_reducible rfl)
  simp only [Act.put, List.getElem_toArray, List.getElem_cons_succ, List.getElem_cons_zero, List.setIfInBounds_toArray, List.set_cons_zero, List.set_cons_succ]
  refine wpAnyH_take (i := 11) (v := ?vz10) rfl (by kernel_rfl) (by kernel_rfl) (by kernel_rfl) (fun _ _ _ h => h) (Or.inl ⟨by rfl, ?hyz10⟩) (by first | assumption | exact trivial) ?restz10
  case hyz10 => intro W hSW; go_simp; try (with_reducible rfl)
  simp only [Act.put, List.getElem_toArray, List.getElem_cons_succ, List.getElem_cons_zero, List.setIfInBounds_toArray, List.set_cons_zero, List.set_cons_succ]
  refine wpAnyH_done (by kernel_rfl) ?_ _
  have HB := Lib.hid hb3.2.2
  clear d0 hb2 hb3
  go_wp2
  go_ret
  exact ⟨rfl, HB⟩
theorem Last_any (h : Hid (Lq G w X D mb s g size)) : Calls Tryz.prog 22 #[.pointer (some ⟨X, 0, none⟩)] w fun e w' => e = .returned (.int .i64 (g.last : Int)) ∧ w = w' := by
  have c2 := h.out.c2
  go_enter Tryz.func22, Tryz.ntmps22
  go_wp2
  go_ret
  exact ⟨rfl, rfl⟩
end
end Go.Proofs.YtbacgljeadalbaaGreatDoor.Wl
/- The segments that have files and are wanted; files that are removed one by one. -/
namespace Go.Proofs.YtbacgljeadalbaaGreatDoor.Wl
open Go.RowKit
open Go.Proofs.YtbacgljeadalbaaGreatDoor.Me Go.Proofs.YtbacgljeadalbaaGreatDoor.Hd Go.Proofs.YtbacgljeadalbaaGreatDoor.Dk
set_option linter.unusedVariables false
set_option linter.unusedSimpArgs false

theorem segs_take {L : Fs} {P : Nat → Bool} {k : Nat} (h : k < L.length) : segs (L.take (k + 1)) P = if P (numOf L[k].1) = true then segs (L.take k) P ++ [numOf L[k].1] else segs (L.take k) P := by
  unfold segs
  rw [List.take_succ_eq_append_getElem h, List.map_append, List.filter_append]
  simp only [List.map_cons, List.map_nil, List.filter_cons, List.filter_nil]
  split
  · rfl
  · simp
theorem segs_len (L : Fs) (P : Nat → Bool) : (segs L P).length ≤ L.length := by
  unfold segs
  exact Nat.le_trans (List.length_filter_le _ _) (by simp)
/-- Numbers as Go has them. -/
def intsL (l : List Nat) : List Int := l.map fun (k : Nat) => (k : Int)
theorem ints_len (l : List Nat) : (intsL l).length = l.length := by simp [intsL]
theorem ints_snoc (l : List Nat) (k : Nat) : intsL l ++ [(k : Int)] = intsL (l ++ [k]) := by simp [intsL]
theorem ints_rev (l : List Nat) : (intsL l).reverse = intsL l.reverse := by simp [intsL]
/-- A call of a function value that answers P, and changes nothing that lay. -/
def Ask (w : World) (gf : Nat) (lb : Array Value) (P : Nat → Bool) : Prop :=
  ∀ (k : Nat) (W : World), isN k → Below w.heap.size w W → Calls Tryz.prog gf (#[.int .i64 (k : Int)] ++ lb) W fun e W' => e = .returned (.bool (P k)) ∧ Hid (Below W.heap.size W W')
section
variable {G : Nat → Prop} (w : World) (D mb : Nat) (s : St)
set_option maxHeartbeats 2000000 in
theorem segments_any (h : Hid (Dq G w D mb s)) (ok : Hid s.Ok) (hs : Hid (Seg s.files)) (gf : Nat) (lb : Array Value) (eg : ∀ args w, (callFunc gf args).run Tryz.prog w = .ok (.enter gf args) w) (P : Nat → Bool) (hP : Hid (Ask w gf lb P)) :
    Calls Tryz.prog 38 #[.pointer (some ⟨D, 0, none⟩), .func (.func gf) #[] lb] w fun e w' => ∃ v, e = .returned v ∧ Hid (Mi.Own w' w.heap.size v (intsL (segs s.files P))) ∧ Hid (Below w.heap.size w w') := by
  have HN := Lib.hid (Names_any w D mb s h ok)
  have HCNT : Hid (s.files.length ≤ 64) := ok.out.cnt
  have HNum : Hid (∀ (k : Nat) (W : World), isN k → Calls Tryz.prog 57 #[.string ⟨(nameW k).toArray⟩] W fun e W' => e = .returned (.int .i64 (k : Int)) ∧ Hid (Below W.heap.size W W')) := fun k W hk => number_any hk W
  go_enter Tryz.func38, Tryz.ntmps38
  go_wp2_with (go_at_call 24; refine HN.out.mono ?_; rintro e w1 ⟨v, rfl, hS, b1⟩; obtain ⟨A, c, rfl, hl, hm, hcells⟩ := hS.out.form; rw [show (namesL s.files).length = s.files.length from List.length_map ..] at hl hcells ⊢; have HC := Lib.hid hcells; clear hcells hS)
  obtain ⟨F, hF⟩ : ∃ F, s.files.length = F := ⟨_, rfl⟩
  have HF := Lib.hid hF
  rw [hF] at hl HC HCNT ⊢
  clear hF HN
  go_loopw [5, 7, 8, 12] (fun v _ _ u wr => ∃ k : Nat, k ≤ F ∧ u = .int .i64 k ∧ Hid (Mi.Own wr w1.heap.size v (intsL (segs (s.files.take k) P))) ∧ Hid (Below w1.heap.size w1 wr)) (fun _ _ _ u _ => F - (intOf u).toNat)
  case atStart => exact ⟨0, Nat.zero_le _, rfl, Mi.Own.nil _ _, Below.refl _ _⟩
  case round =>
    obtain ⟨k, hk, rfl, HO, HB⟩ := hrel
    obtain ⟨l, hlq⟩ : ∃ l, segs (s.files.take k) P = l := ⟨_, rfl⟩
    have HLQ := Lib.hid hlq
    have HLL : Hid ((intsL l).length ≤ 64) := by
      show _ ≤ _
      rw [ints_len, ← hlq]
      exact Nat.le_trans (segs_len _ _) (Nat.le_trans (List.length_take_le _ _) (by have := HCNT.out; omega))
    rw [hlq] at HO
    clear hlq
    by_cases hlt : k < F
    · have hkF : k < s.files.length := by rw [HF.out]; exact hlt
      obtain ⟨g, rfl, hg1, hg2, hgc⟩ := HC.out (by omega)
      obtain ⟨nm, hnm⟩ : ∃ nm, s.files[k].1 = nm := ⟨_, rfl⟩
      obtain ⟨hq1, hq2⟩ := hs.out.num (List.getElem_mem hkF)
      have hst := segs_take (P := P) hkF
      rw [hnm] at hq1 hq2 hst
      obtain ⟨q, hq⟩ : ∃ q, numOf nm = q := ⟨_, rfl⟩
      rw [hq] at hq1 hq2 hst
      rw [HLQ.out] at hst
      have x1 := hgc k hlt
      rw [show (namesL s.files).getD k [] = nm by simp [namesL, hkF, hnm], hq2] at x1
      have y1 : wr.cell? ⟨g, k, none⟩ = some (.string ⟨(nameW q).toArray⟩) := by rw [HB.out.cell (p := ⟨g, k, none⟩) hg2]; exact x1
      have hz : ((q : Int) == 0) = false := nz (by have := hq1.1; omega)
      have hz2 : ((q : Int) != 0) = true := by simp [bne, hz]
      have N1 := Lib.hid (fun W => HNum.out q W hq1)
      have P1 := Lib.hid (fun W hW => hP.out q W hq1 hW)
      have HBL : Hid (∀ W, Below w1.heap.size w1 W → Below w.heap.size w W) := fun W hW => b1.out.trans (hW.mono b1.out.size)
      have HST := Lib.hid hst
      obtain ⟨S, hS⟩ : ∃ S, (⟨(nameW q).toArray⟩ : ByteArray) = S := ⟨_, rfl⟩
      rw [hS] at y1 N1
      clear hS hst x1 hgc hq hq1 hq2 hnm hkF HC
      cases hpq : P q with
      | true =>
        rw [hpq] at P1 HST
        rw [if_pos rfl] at HST
        go_wp2_with (first
          | (go_at_call 57; refine (N1.out _).mono ?_; rintro e w2 ⟨rfl, b2⟩; have B2 : Hid (Below w1.heap.size w1 w2) := HB.out.trans (b2.out.mono HB.out.size))
          | (go_at_fn gf; refine (P1.out _ (HBL.out _ B2.out)).mono ?_; rintro e w3 ⟨rfl, b3⟩; have B3 : Hid (Below w1.heap.size w1 w3) := B2.out.trans (b3.out.mono B2.out.size); have HO3 := Lib.hid (HO.out.below (b2.out.trans (b3.out.mono b2.out.size))))
          | (at_builtin; refine Mi.app1 (w0 := w1) (wl := w3) rfl (.tmp 25) (.tmp 27) rfl w1.heap.size _ (intsL l) (q : Int) rfl rfl HO3.out B3.out B3.out.size _ rfl rfl (by have := HLL.out; omega) ?_; intro v2 w4 ho4 hb4 _; have HO4 := Lib.hid ho4; have HB4 := Lib.hid hb4; clear ho4 hb4))
        go_roundw
        case rel => exact ⟨k + 1, by omega, by go_num, by rw [HST.out, ← ints_snoc]; exact HO4, HB4⟩
        case measure => simp [intOf]; omega
      | false =>
        rw [hpq] at P1 HST
        rw [if_neg (by decide)] at HST
        go_wp2_with (first
          | (go_at_call 57; refine (N1.out _).mono ?_; rintro e w2 ⟨rfl, b2⟩; have B2 : Hid (Below w1.heap.size w1 w2) := HB.out.trans (b2.out.mono HB.out.size))
          | (go_at_fn gf; refine (P1.out _ (HBL.out _ B2.out)).mono ?_; rintro e w3 ⟨rfl, b3⟩; have B3 : Hid (Below w1.heap.size w1 w3) := B2.out.trans (b3.out.mono B2.out.size); have HO3 := Lib.hid (HO.out.below (b2.out.trans (b3.out.mono b2.out.size)))))
        go_roundw
        case rel => exact ⟨k + 1, by omega, by go_num, by rw [HST.out]; exact HO3, B3⟩
        case measure => simp [intOf]; omega
    · obtain rfl : k = F := by omega
      have HE : Hid (segs s.files P = l) := by
        have := HLQ.out
        rwa [List.take_of_length_le (by rw [HF.out]; exact Nat.le_refl _)] at this
      go_wp2
      go_ret
      exact ⟨_, rfl, by rw [HE.out]; exact HO.out.base fun b hb => Nat.le_trans b1.out.size (World.ownsRow.lt HO.out b hb).1, b1.out.trans (HB.out.mono b1.out.size)⟩
end

/-! ### Files are removed -/
theorem remL_snoc : ∀ (ks : List Nat) (s : St) (k : Nat), (remL s ks).2 = 0 → remL s (ks ++ [k]) = if findE (remL s ks).1 (nameW k) = 0 then (remS (remL s ks).1 (nameW k), 0) else ((remL s ks).1, findE (remL s ks).1 (nameW k))
  | [], s, k, h => by
    simp only [List.nil_append, remL]
    rfl
  | j :: ks, s, k, h => by
    simp only [List.cons_append]
    unfold remL at h ⊢
    split
    · rename_i he
      rw [if_pos he] at h
      exact remL_snoc ks _ k h
    · rename_i he
      rw [if_neg he] at h
      exact absurd h he
theorem remL_stop : ∀ (ks js : List Nat) (s : St), (remL s ks).2 ≠ 0 → remL s (ks ++ js) = remL s ks
  | [], js, s, h => absurd rfl h
  | j :: ks, js, s, h => by
    simp only [List.cons_append]
    unfold remL at h ⊢
    split
    · rename_i he
      rw [if_pos he] at h
      exact remL_stop ks js _ h
    · rfl
section
variable {G : Nat → Prop} (w : World) (D mb : Nat) (s : St)
set_option maxHeartbeats 2000000 in
theorem remove_any (h : Hid (Dq G w D mb s)) (ok : Hid s.Ok) (A : Option Addr) (c : Nat) (ks : List Nat) (hr : Hid (Mi.Rd w w.heap.size A (intsL ks))) (hA : Hid (∀ a, A = some a → ¬ G a.block)) (hN : Hid (∀ k ∈ ks, isN k)) (hl : ks.length ≤ 9223372036854775806) :
    Calls Tryz.prog 40 #[.pointer (some ⟨D, 0, none⟩), .slice A ks.length c] w (OpP G w D mb (remL s ks).1 (remL s ks).2) := by
  obtain ⟨F, hF⟩ : ∃ F, ks.length = F := ⟨_, rfl⟩
  have HF := Lib.hid hF
  have HI : Hid (∀ k, k < F → ∃ b off, A = some ⟨b, off, none⟩ ∧ b < w.heap.size ∧ w.cell? ⟨b, off + k, none⟩ = some (.int .i64 ((ks.getD k 0 : Nat) : Int)) ∧ isN (ks.getD k 0) ∧ ks.take (k + 1) = ks.take k ++ [ks.getD k 0]) := fun k hk => by
    have hk' : k < ks.length := by rw [hF]; exact hk
    obtain ⟨b, off, e, hb, hc⟩ := hr.out (by rw [ints_len]; omega)
    have e2 : ks.getD k 0 = ks[k] := by simp [List.getD, hk']
    refine ⟨b, off, e, hb, ?_, by rw [e2]; exact hN.out _ (List.getElem_mem hk'), by rw [e2]; exact List.take_succ_eq_append_getElem hk'⟩
    have := hc k (by rw [ints_len]; exact hk')
    rw [this]
    congr 2
    simp [Mi.at_, intsL, List.getD, hk']
  rw [hF] at hl ⊢
  clear hF hN hr
  go_enter Tryz.func40, Tryz.ntmps40
  go_wp2
  go_loopw [6, 7, 10] (fun _ _ u wr => ∃ k : Nat, k ≤ F ∧ u = .int .i64 k ∧ Hid ((remL s (ks.take k)).2 = 0) ∧ Hid (Dq (Gn G w.heap.size) wr D mb (remL s (ks.take k)).1) ∧ Hid (But G w wr)) (fun _ _ u _ => F - (intOf u).toNat)
  case atStart => exact ⟨0, Nat.zero_le _, rfl, rfl, h.out.mono fun _ _ hk => .inl hk, But.refl _ _⟩
  case round =>
    obtain ⟨k, hk, rfl, H0, HD, HB⟩ := hrel
    by_cases hlt : k < F
    · obtain ⟨b, off, rfl, hb, hc, hq, htk⟩ := HI.out k hlt
      obtain ⟨q, hqq⟩ : ∃ q, ks.getD k 0 = q := ⟨_, rfl⟩
      rw [hqq] at hc hq htk
      have hsn := remL_snoc (ks.take k) s q H0.out
      rw [← htk] at hsn
      have okr : (remL s (ks.take k)).1.Ok := remL_ok _ ok.out
      obtain ⟨t, ht⟩ : ∃ t, (remL s (ks.take k)).1 = t := ⟨_, rfl⟩
      rw [ht] at HD hsn okr
      have y1 : wr.cell? ⟨b, off + k, none⟩ = some (.int .i64 (q : Int)) := by
        rw [World.cell?_of_block (a := ⟨b, off + k, none⟩) (HB.out.same b hb (hA.out _ rfl))]; exact hc
      have N1 := Lib.hid (fun W => Name_seg hq W)
      have R1 : Hid (∀ W, Below wr.heap.size wr W → Calls Tryz.prog 20 #[.pointer (some ⟨D, 0, none⟩), .string ⟨(nameW q).toArray⟩] W fun e W' => e = .returned (.int .i64 (findE t (nameW q) : Int)) ∧ Hid (Dq (Gn G w.heap.size) W' D mb (remS t (nameW q))) ∧ Hid (But G w W')) := fun W hW =>
        (Dk.Remove_any W D mb t (HD.out.below hW) okr (nameW q)).mono fun e W' ⟨h1, h2, h3⟩ => ⟨h1, h2.out.loosen (Nat.le_trans HB.out.size hW.size), But.loosen (HB.out.trans (But.of_below (S := fun _ => False) hW) fun _ _ e => e.elim) h3.out rfl⟩
      obtain ⟨S, hS⟩ : ∃ S, (⟨(nameW q).toArray⟩ : ByteArray) = S := ⟨_, rfl⟩
      rw [hS] at N1 R1
      by_cases he : findE t (nameW q) = 0
      · rw [if_pos he] at hsn
        have HSN := Lib.hid hsn
        rw [he, show ((0 : Nat) : Int) = 0 from rfl] at R1
        clear hS hsn okr ht htk hc hq hqq he
        go_wp2_with (first
          | (go_at_call 7; refine (N1.out _).mono ?_; rintro e w2 ⟨rfl, b2⟩)
          | (go_at_call 20; refine (R1.out _ b2.out).mono ?_; rintro e w3 ⟨rfl, d3, b3⟩))
        go_roundw
        case rel => exact ⟨k + 1, by omega, by go_num, by rw [HSN.out]; rfl, by rw [HSN.out]; exact d3, b3⟩
        case measure => simp [intOf]; omega
      · rw [if_neg he] at hsn
        have hz := nz he
        have HQ : Hid (∀ W', Dq (Gn G w.heap.size) W' D mb (remS t (nameW q)) → But G w W' → OpP G w D mb (remL s ks).1 (remL s ks).2 (.returned (.int .i64 (findE t (nameW q) : Int))) W') := fun W' h1 h2 => by
          have e1 : remL s ks = remL s (ks.take (k + 1)) := by
            conv => lhs; rw [← List.take_append_drop (k + 1) ks]
            exact remL_stop _ _ s (by rw [hsn]; exact he)
          have e2 : remS t (nameW q) = t := by unfold remS; rw [if_neg he]
          rw [e2] at h1
          rw [e1, hsn]
          exact ⟨rfl, h1, h2⟩
        obtain ⟨fe, hfe⟩ : ∃ fe, findE t (nameW q) = fe := ⟨_, rfl⟩
        rw [hfe] at R1 HQ hz
        clear hS hsn okr ht htk hc hq hqq he hfe
        go_wp2_with (first
          | (go_at_call 7; refine (N1.out _).mono ?_; rintro e w2 ⟨rfl, b2⟩)
          | (go_at_call 20; refine (R1.out _ b2.out).mono ?_; rintro e w3 ⟨rfl, d3, b3⟩))
        go_ret
        exact HQ.out _ d3.out b3.out
    · obtain rfl : k = F := by omega
      have HE : Hid (ks.take k = ks) := List.take_of_length_le (by rw [HF.out]; exact Nat.le_refl _)
      rw [HE.out] at H0 HD
      go_wp2
      go_ret
      exact ⟨by rw [H0.out]; rfl, HD, HB⟩
end
end Go.Proofs.YtbacgljeadalbaaGreatDoor.Wl
