/- Behind so many rounds of a crash: the first files are cut, the others are as they were. -/
import Derived.Test.YtdjgkoklkoahbaaDkOk
namespace Go.Proofs.Ytdjgkoklkoahbaa.Dk
set_option linter.unusedVariables false

theorem srt_names {L : Fs} : Srt L ↔ (L.map (·.1)).Pairwise (· < ·) := List.pairwise_map.symm
theorem look_set {L : Fs} (hs : Srt L) {i : Nat} (h : i < L.length) (f : Fl) (n : Nm) : look (L.set i (L[i].1, f)) n = if n = L[i].1 then some f else look L n := by
  induction L generalizing i with
  | nil => simp at h
  | cons p r ih =>
    obtain ⟨m, g⟩ := p
    have hc := List.pairwise_cons.1 hs
    cases i with
    | zero =>
      simp only [List.set_cons_zero, List.getElem_cons_zero, look]
      by_cases e : m = n
      · simp [e]
      · have e' : ¬ n = m := fun h => e h.symm
        simp [e, e']
    | succ i =>
      have hi : i < r.length := by simpa using h
      have := ih hc.2 hi
      simp only [List.set_cons_succ, List.getElem_cons_succ, look]
      rw [this]
      by_cases e : m = n
      · have h1 : m < r[i].1 := hc.1 r[i] (List.getElem_mem hi)
        have e' : ¬ n = r[i].1 := fun h => nm_ne h1 (e.trans h)
        simp [e, e']
      · simp [e]
theorem srt_set {L : Fs} (hs : Srt L) {i : Nat} (h : i < L.length) (f : Fl) : Srt (L.set i (L[i].1, f)) := by
  rw [srt_names] at hs ⊢
  rw [List.map_set]
  have : (L.map (·.1)).set i L[i].1 = L.map (·.1) := by
    apply List.ext_getElem (by simp)
    intro j h1 h2
    rw [List.getElem_set]
    split
    · rename_i e; subst e; simp
    · rfl
  rw [this]; exact hs
theorem put_set {L : Fs} (hs : Srt L) {i : Nat} (h : i < L.length) (f : Fl) : put L L[i].1 f = L.set i (L[i].1, f) :=
  fs_ext (hs.put _ _) (srt_set hs h f) fun n => by rw [look_put, look_set hs h]
/-- The files behind k rounds. -/
def crashK (L : Fs) (ks : List Int) (k : Nat) : Fs := (crashL L ks).take k ++ L.drop k
theorem crashK_names (L : Fs) (ks : List Int) (k : Nat) : (crashK L ks k).map (·.1) = L.map (·.1) := by
  unfold crashK
  rw [List.map_append, List.map_take, crash_names, List.map_drop, List.take_append_drop]
theorem crashK_len (L : Fs) (ks : List Int) (k : Nat) : (crashK L ks k).length = L.length := by
  have := congrArg List.length (crashK_names L ks k)
  simpa using this
theorem crashK_srt {L : Fs} (h : Srt L) (ks : List Int) (k : Nat) : Srt (crashK L ks k) := by
  rw [srt_names] at h ⊢
  rw [crashK_names]; exact h
theorem crashK_zero (L : Fs) (ks : List Int) : crashK L ks 0 = L := by simp [crashK]
theorem crashK_all (L : Fs) (ks : List Int) : crashK L ks L.length = crashL L ks := by
  unfold crashK
  rw [List.drop_length, List.append_nil]
  exact List.take_of_length_le (by rw [crash_len]; exact Nat.le_refl _)
theorem crashK_at (L : Fs) (ks : List Int) {k : Nat} (h : k < L.length) : (crashK L ks k)[k]'(by rw [crashK_len]; exact h) = L[k] := by
  have hl : ((crashL L ks).take k).length = k := by rw [List.length_take, crash_len]; omega
  simp only [crashK]
  rw [List.getElem_append_right (by omega)]
  simp [hl]
theorem crashK_step {L : Fs} (hs : Srt L) (ks : List Int) {k : Nat} (h : k < L.length) : put (crashK L ks k) L[k].1 (crashF L[k].2 (ks.getD k 0)) = crashK L ks (k + 1) := by
  have hk : k < (crashK L ks k).length := by rw [crashK_len]; exact h
  have e := put_set (crashK_srt hs ks k) hk (crashF L[k].2 (ks.getD k 0))
  rw [crashK_at L ks h] at e
  rw [e]
  have hc : k < (crashL L ks).length := by rw [crash_len]; exact h
  apply List.ext_getElem
  · rw [List.length_set, crashK_len, crashK_len]
  intro j h1 h2
  rw [List.getElem_set]
  split
  · rename_i e; subst e
    have hl : ((crashL L ks).take (k + 1)).length = k + 1 := by rw [List.length_take, crash_len]; omega
    simp only [crashK]
    rw [List.getElem_append_left (by omega), List.getElem_take]
    exact (crash_at L ks h).symm
  · rename_i e
    simp only [crashK]
    have hl : ((crashL L ks).take k).length = k := by rw [List.length_take, crash_len]; omega
    have hl' : ((crashL L ks).take (k + 1)).length = k + 1 := by rw [List.length_take, crash_len]; omega
    by_cases hj : j < k
    · rw [List.getElem_append_left (by omega), List.getElem_append_left (by omega), List.getElem_take, List.getElem_take]
    · rw [List.getElem_append_right (by omega), List.getElem_append_right (by omega)]
      simp only [hl, hl', List.getElem_drop]
      congr 1
      omega
theorem crashK_look {L : Fs} (hs : Srt L) (ks : List Int) {k : Nat} (h : k < L.length) : look (crashK L ks k) L[k].1 = some L[k].2 := by
  have hk : k < (crashK L ks k).length := by rw [crashK_len]; exact h
  have := look_at (crashK_srt hs ks k) hk
  rwa [crashK_at L ks h] at this
end Go.Proofs.Ytdjgkoklkoahbaa.Dk
