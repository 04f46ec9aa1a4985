/- What each call of a disk keeps; the codes of what it answers. -/
import Derived.Test.YtdjgkoklkoahbaaDkDef
namespace Go.Proofs.Ytdjgkoklkoahbaa.Dk
set_option linter.unusedVariables false

theorem St.Ok.new {n : Nat} (h : n ≤ 1048576) : (newS n).Ok :=
  ⟨List.Pairwise.nil, h, Nat.zero_le _, Nat.zero_le _, (fun p hp => by cases hp), (fun p hp => by cases hp), (fun p hp => by cases hp), Nat.zero_le _, (fun h => by cases h)⟩
theorem St.Ok.file {s : St} (h : s.Ok) {n : Nm} {f : Fl} (hf : look s.files n = some f) : f.safe ≤ f.bytes.length ∧ f.bytes.length ≤ used s.files ∧ (∀ z ∈ f.bytes, z < 256) ∧ nameOk n = true := by
  have hm := look_mem hf
  exact ⟨h.safe _ hm, used_mem hm, h.byte _ hm, h.nm _ hm⟩
theorem St.Ok.fileOf {s : St} (h : s.Ok) (n : Nm) : (fileOf s n).safe ≤ (fileOf s n).bytes.length ∧ (fileOf s n).bytes.length ≤ used s.files ∧ ∀ z ∈ (fileOf s n).bytes, z < 256 := by
  unfold Dk.fileOf
  cases hf : look s.files n with
  | none => simp
  | some f => have := h.file hf; exact ⟨this.1, this.2.1, this.2.2.1⟩
theorem St.Ok.chg {s : St} (h : s.Ok) {L : Fs} (h1 : Srt L) (h2 : used L ≤ 1048576) (h3 : L.length ≤ 64) (h4 : ∀ p ∈ L, p.2.safe ≤ p.2.bytes.length) (h5 : ∀ p ∈ L, ∀ z ∈ p.2.bytes, z < 256) (h6 : ∀ p ∈ L, nameOk p.1 = true) : (chg s L).Ok :=
  ⟨h1, h.lim, h2, h3, h4, h5, h6, by have := h.left; show s.left - 1 ≤ _; omega, fun e => by
    have : s.left = 1 := of_decide_eq_true e
    show s.left - 1 = 0
    omega⟩
theorem St.Ok.put {s : St} (h : s.Ok) {n : Nm} {f : Fl} (h1 : used (put s.files n f) ≤ 1048576) (h2 : (put s.files n f).length ≤ 64) (h3 : f.safe ≤ f.bytes.length) (h4 : ∀ z ∈ f.bytes, z < 256) (h5 : nameOk n = true) : (Dk.chg s (put s.files n f)).Ok :=
  h.chg (h.srt.put n f) h1 h2 (fun p hp => by
    rcases mem_put.1 hp with rfl | hp
    · exact h3
    · exact h.safe p hp.1) (fun p hp => by
    rcases mem_put.1 hp with rfl | hp
    · exact h4
    · exact h.byte p hp.1) (fun p hp => by
    rcases mem_put.1 hp with rfl | hp
    · exact h5
    · exact h.nm p hp.1)
theorem St.Ok.del {s : St} (h : s.Ok) (n : Nm) : used (del s.files n) ≤ used s.files ∧ (del s.files n).length ≤ s.files.length := by
  cases hf : look s.files n with
  | none => rw [del_none hf]; exact ⟨Nat.le_refl _, Nat.le_refl _⟩
  | some f => have := del_some h.srt hf; omega
theorem findE_ok {s : St} {n : Nm} (h : findE s n = 0) : s.down = false ∧ nameOk n = true ∧ look s.files n = some (fileOf s n) := by
  unfold findE at h
  split at h
  · cases h
  · rename_i hd
    split at h
    · rename_i hn
      split at h
      · rename_i hl
        refine ⟨by simpa using hd, hn, ?_⟩
        unfold fileOf
        cases e : look s.files n with
        | none => rw [e] at hl; cases hl
        | some f => rfl
      · cases h
    · cases h
theorem St.Ok.app {s : St} (h : s.Ok) (n : Nm) {p : List Nat} (hp : ∀ z ∈ p, z < 256) : (appS s n p).Ok := by
  unfold appS
  split
  · rename_i he
    unfold appE at he
    split at he
    · rename_i h0; exact absurd he h0
    · rename_i h0
      split at he
      · cases he
      · rename_i h1
        have hn : nameOk n = true := by
          unfold mayE at h0
          apply Classical.byContradiction
          intro hn
          simp [hn] at h0
          split at h0 <;> cases h0
        simp only [not_or, Nat.not_lt, not_and] at h1
        have hl := h.lim
        cases hf : look s.files n with
        | none =>
          have h2 := h1.2 (by simp [hf])
          have h3 := put_none hf (appF none p)
          have h4 := h.cnt
          exact h.put (by rw [h3.2]; show used s.files + p.length ≤ _; omega) (by omega) (Nat.zero_le _) hp hn
        | some f =>
          have h3 := put_some h.srt hf (appF (some f) p)
          have h4 := h.cnt
          have h5 := h.file hf
          have e : (appF (some f) p).bytes.length = f.bytes.length + p.length := by simp [appF]
          refine h.put (by omega) (by omega) (by rw [e]; show f.safe ≤ _; omega) ?_ hn
          intro z hz
          rcases List.mem_append.1 hz with hz | hz
          · exact h5.2.2.1 z hz
          · exact hp z hz
  · exact h
theorem St.Ok.same {s : St} (h : s.Ok) {n : Nm} {f g : Fl} (hf : look s.files n = some g) (h1 : f.bytes.length ≤ g.bytes.length) (h2 : f.safe ≤ f.bytes.length) (h3 : ∀ z ∈ f.bytes, z < 256) : (Dk.chg s (Dk.put s.files n f)).Ok := by
  have h4 := put_some h.srt hf f
  have h5 := h.use
  have h6 := h.cnt
  exact h.put (by omega) (by omega) h2 h3 (h.file hf).2.2.2
theorem St.Ok.sync {s : St} (h : s.Ok) (n : Nm) : (syncS s n).Ok := by
  unfold syncS
  split
  · rename_i he
    obtain ⟨_, _, hf⟩ := findE_ok he
    exact h.same hf (Nat.le_refl _) (Nat.le_refl _) (h.file hf).2.2.1
  · exact h
theorem cutE_ok {s : St} {n : Nm} {k : Int} (h : cutE s n k = 0) : findE s n = 0 ∧ 0 ≤ k ∧ k ≤ (fileOf s n).bytes.length := by
  unfold cutE at h
  split at h
  · rename_i h0; exact absurd h h0
  · rename_i h0
    split at h
    · cases h
    · rename_i h1; exact ⟨by omega, by omega, by omega⟩
theorem St.Ok.cut {s : St} (h : s.Ok) (n : Nm) (k : Int) : (cutS s n k).Ok := by
  unfold cutS
  split
  · rename_i he
    obtain ⟨h1, h2, h3⟩ := cutE_ok he
    obtain ⟨_, _, hf⟩ := findE_ok h1
    refine h.same hf (by simp; omega) (by simp; omega) fun z hz => (h.file hf).2.2.1 z (List.mem_of_mem_take hz)
  · exact h
theorem renE_ok {s : St} {a b : Nm} (h : renE s a b = 0) : s.down = false ∧ nameOk b = true ∧ look s.files a = some (fileOf s a) ∧ (fileOf s a).bytes.length ≤ (fileOf s a).safe := by
  unfold renE at h
  split at h
  · rename_i h0; exact absurd h h0
  · rename_i h0
    split at h
    · cases h
    · rename_i h1
      split at h
      · cases h
      · rename_i h2
        have h0' : mayE s [a, b] = 0 := by omega
        unfold mayE at h0'
        split at h0'
        · cases h0'
        · rename_i hd
          split at h0'
          · rename_i hn
            refine ⟨by simpa using hd, by simp at hn; exact hn.2, ?_, by omega⟩
            unfold fileOf
            cases e : look s.files a with
            | none => rw [e] at h1; simp at h1
            | some f => rfl
          · cases h0'
theorem St.Ok.ren {s : St} (h : s.Ok) (a b : Nm) : (renS s a b).Ok := by
  unfold renS
  split
  · rename_i he
    obtain ⟨_, hb, hf, _⟩ := renE_ok he
    have hd := del_some h.srt hf
    have hs := h.srt.del a
    have h5 := h.use
    have h6 := h.cnt
    have h7 := h.file hf
    have hu : used (Dk.put (Dk.del s.files a) b (Dk.fileOf s a)) ≤ used s.files ∧ (Dk.put (Dk.del s.files a) b (Dk.fileOf s a)).length ≤ s.files.length := by
      cases hg : look (Dk.del s.files a) b with
      | none => have := put_none hg (Dk.fileOf s a); omega
      | some g => have := put_some hs hg (Dk.fileOf s a); omega
    refine h.chg (hs.put _ _) (by omega) (by omega) (fun p hp => ?_) (fun p hp => ?_) fun p hp => ?_
    · rcases mem_put.1 hp with rfl | hp
      · exact h7.1
      · exact h.safe p (mem_del.1 hp.1).1
    · rcases mem_put.1 hp with rfl | hp
      · exact h7.2.2.1
      · exact h.byte p (mem_del.1 hp.1).1
    · rcases mem_put.1 hp with rfl | hp
      · exact hb
      · exact h.nm p (mem_del.1 hp.1).1
  · exact h
theorem St.Ok.rem {s : St} (h : s.Ok) (n : Nm) : (remS s n).Ok := by
  unfold remS
  split
  · have h1 := h.del n
    have h5 := h.use
    have h6 := h.cnt
    exact h.chg (h.srt.del n) (by omega) (by omega) (fun p hp => h.safe p (mem_del.1 hp).1) (fun p hp => h.byte p (mem_del.1 hp).1) fun p hp => h.nm p (mem_del.1 hp).1
  · exact h
theorem St.Ok.lim' {s : St} (h : s.Ok) (k : Int) : (limS s k).Ok := by
  unfold limS
  split
  · rename_i he
    unfold limE at he
    split at he
    · cases he
    · rename_i h1
      exact ⟨h.srt, by show k.toNat ≤ _; omega, h.use, h.cnt, h.safe, h.byte, h.nm, h.left, h.dn⟩
  · exact h
theorem St.Ok.arm {s : St} (h : s.Ok) {k : Int} (hk : k ≤ 9223372036854775807) : (armS s k).Ok := by
  unfold armS
  split
  · exact h
  · exact ⟨h.srt, h.lim, h.use, h.cnt, h.safe, h.byte, h.nm, by show k.toNat ≤ _; omega, fun e => by
      have : k = 0 := of_decide_eq_true e
      show k.toNat = 0
      omega⟩
theorem St.Ok.crash {s : St} (h : s.Ok) (ks : List Int) : (crashS s ks).Ok := by
  have h5 := h.use
  have h6 := crash_used h.safe ks
  refine ⟨crash_srt h.srt ks, h.lim, by show used (crashL s.files ks) ≤ _; omega, by show (crashL s.files ks).length ≤ _; rw [crash_len]; exact h.cnt, fun p hp => ?_, fun p hp => ?_, fun p hp => ?_, Nat.zero_le _, fun e => by cases e⟩
  · obtain ⟨f, k, hm, e⟩ := crash_mem hp
    rw [e]
    exact Nat.le_of_eq (crashF_len (h.safe _ hm) k).1
  · obtain ⟨f, k, hm, e⟩ := crash_mem hp
    rw [e]
    exact fun z hz => h.byte _ hm z (List.mem_of_mem_take hz)
  · obtain ⟨f, k, hm, e⟩ := crash_mem hp
    exact h.nm (p.1, f) hm
end Go.Proofs.Ytdjgkoklkoahbaa.Dk
