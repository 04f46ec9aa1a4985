/- Disks as plain data: files by rising names, what each call answers and leaves. -/
import Derived.Test.YtdjgkoklkoahbaaKit
namespace Go.Proofs.Ytdjgkoklkoahbaa.Dk
set_option linter.unusedVariables false

abbrev Nm := List UInt8
/-- A file: its bytes, how many of them are safe. -/
structure Fl where
  bytes : List Nat
  safe : Nat
abbrev Fs := List (Nm × Fl)
def look : Fs → Nm → Option Fl
  | [], _ => none
  | (m, f) :: r, n => if m = n then some f else look r n
def del (L : Fs) (n : Nm) : Fs := L.filter fun p => decide (p.1 ≠ n)
def ins : Fs → Nm → Fl → Fs
  | [], n, f => [(n, f)]
  | (m, g) :: r, n, f => if n < m then (n, f) :: (m, g) :: r else (m, g) :: ins r n f
def put (L : Fs) (n : Nm) (f : Fl) : Fs := ins (del L n) n f
def used (L : Fs) : Nat := (L.map fun p => p.2.bytes.length).sum
def Srt (L : Fs) : Prop := L.Pairwise fun p q => p.1 < q.1

/-! ### Names in order -/
theorem nm_irrefl (a : Nm) : ¬ a < a := List.lt_irrefl a
theorem nm_trans {a b c : Nm} (h : a < b) (k : b < c) : a < c := List.lt_trans h k
theorem nm_ne {a b : Nm} (h : a < b) : a ≠ b := fun e => nm_irrefl b (e ▸ h)
theorem nm_conn {a b : Nm} (h : ¬ a < b) (k : a ≠ b) : b < a := by
  have h1 : b ≤ a := List.not_lt.1 h
  apply Classical.byContradiction
  intro h2
  exact k (List.le_antisymm (List.not_lt.1 h2) h1)

/-! ### Files by names -/
theorem look_none {L : Fs} {n : Nm} : look L n = none ↔ ∀ p ∈ L, p.1 ≠ n := by
  induction L with
  | nil => simp [look]
  | cons p r ih =>
    obtain ⟨m, f⟩ := p
    by_cases h : m = n
    · simp [look, h]
    · simp [look, h, ih]
theorem look_mem {L : Fs} {n : Nm} {f : Fl} (h : look L n = some f) : (n, f) ∈ L := by
  induction L with
  | nil => cases h
  | cons p r ih =>
    obtain ⟨m, g⟩ := p
    by_cases e : m = n
    · simp only [look, e, if_true, Option.some.injEq] at h
      simp [h, e]
    · simp only [look, if_neg e] at h
      exact List.mem_cons_of_mem _ (ih h)
theorem look_of_mem {L : Fs} (hs : Srt L) {n : Nm} {f : Fl} (h : (n, f) ∈ L) : look L n = some f := by
  induction L with
  | nil => cases h
  | cons p r ih =>
    obtain ⟨m, g⟩ := p
    rcases List.mem_cons.1 h with h | h
    · cases h; simp [look]
    · have := (List.pairwise_cons.1 hs).1 _ h
      simp only [look, if_neg (nm_ne this)]
      exact ih (List.pairwise_cons.1 hs).2 h
theorem look_at {L : Fs} (hs : Srt L) {i : Nat} (h : i < L.length) : look L L[i].1 = some L[i].2 := look_of_mem hs (List.getElem_mem h)
theorem look_del (L : Fs) (n m : Nm) : look (del L n) m = if m = n then none else look L m := by
  induction L with
  | nil => simp [del, look]
  | cons p r ih =>
    obtain ⟨k, f⟩ := p
    have ih' : look (List.filter (fun p => decide (p.1 ≠ n)) r) m = if m = n then none else look r m := ih
    by_cases hk : k = n
    · subst hk
      simp only [del, List.filter_cons, ne_eq, not_true_eq_false, decide_false, Bool.false_eq_true, if_false, look]
      rw [ih']
      by_cases hm : m = k
      · simp [hm]
      · have hk : k ≠ m := fun h => hm h.symm
        simp [hm, hk]
    · simp only [del, List.filter_cons, ne_eq, hk, not_false_eq_true, decide_true, if_true, look]
      rw [ih']
      by_cases e : k = m
      · subst e; simp [hk]
      · simp [e]
theorem look_ins {L : Fs} {n : Nm} (h : look L n = none) (f : Fl) (m : Nm) : look (ins L n f) m = if m = n then some f else look L m := by
  induction L with
  | nil => simp [ins, look, eq_comm]
  | cons p r ih =>
    obtain ⟨k, g⟩ := p
    have hk : k ≠ n := fun e => by simp [look, e] at h
    have hr : look r n = none := by simpa [look, hk] using h
    unfold ins
    split
    · simp [look, eq_comm]
    · simp only [look, ih hr]
      by_cases e : k = m
      · subst e; simp [hk]
      · simp [e]
theorem look_put (L : Fs) (n : Nm) (f : Fl) (m : Nm) : look (put L n f) m = if m = n then some f else look L m := by
  unfold put
  rw [look_ins (by rw [look_del]; simp), look_del]
  by_cases e : m = n
  · simp [e]
  · simp [e]
theorem mem_ins {L : Fs} {n : Nm} {f : Fl} {p : Nm × Fl} : p ∈ ins L n f ↔ p = (n, f) ∨ p ∈ L := by
  induction L with
  | nil => simp [ins]
  | cons q r ih =>
    obtain ⟨k, g⟩ := q
    unfold ins
    split
    · simp
    · simp only [List.mem_cons, ih]
      constructor
      · rintro (h | h | h)
        · exact .inr (.inl h)
        · exact .inl h
        · exact .inr (.inr h)
      · rintro (h | h | h)
        · exact .inr (.inl h)
        · exact .inl h
        · exact .inr (.inr h)
theorem mem_del {L : Fs} {n : Nm} {p : Nm × Fl} : p ∈ del L n ↔ p ∈ L ∧ p.1 ≠ n := by simp [del]
theorem mem_put {L : Fs} {n : Nm} {f : Fl} {p : Nm × Fl} : p ∈ put L n f ↔ p = (n, f) ∨ (p ∈ L ∧ p.1 ≠ n) := by unfold put; rw [mem_ins, mem_del]
theorem Srt.del {L : Fs} (h : Srt L) (n : Nm) : Srt (del L n) := List.Pairwise.filter _ h
theorem Srt.ins {L : Fs} (h : Srt L) {n : Nm} (hn : look L n = none) (f : Fl) : Srt (ins L n f) := by
  induction L with
  | nil => simp [Dk.ins, Srt]
  | cons p r ih =>
    obtain ⟨k, g⟩ := p
    have hk : k ≠ n := fun e => by simp [look, e] at hn
    have hr : look r n = none := by simpa [look, hk] using hn
    have hc := List.pairwise_cons.1 h
    unfold Dk.ins
    split
    · rename_i hlt
      refine List.pairwise_cons.2 ⟨fun q hq => ?_, h⟩
      rcases List.mem_cons.1 hq with rfl | hq
      · exact hlt
      · exact nm_trans hlt (hc.1 q hq)
    · rename_i hlt
      refine List.pairwise_cons.2 ⟨fun q hq => ?_, ih hc.2 hr⟩
      rcases mem_ins.1 hq with rfl | hq
      · exact nm_conn hlt (fun e => hk e.symm)
      · exact hc.1 q hq
theorem Srt.put {L : Fs} (h : Srt L) (n : Nm) (f : Fl) : Srt (put L n f) := (h.del n).ins (by rw [look_del]; simp) f
theorem length_ins (L : Fs) (n : Nm) (f : Fl) : (ins L n f).length = L.length + 1 := by
  induction L with
  | nil => rfl
  | cons p r ih =>
    obtain ⟨k, g⟩ := p
    unfold ins
    split
    · simp
    · simp [ih]
theorem used_ins (L : Fs) (n : Nm) (f : Fl) : used (ins L n f) = used L + f.bytes.length := by
  induction L with
  | nil => simp [used, ins]
  | cons p r ih =>
    obtain ⟨k, g⟩ := p
    have ih' : ((ins r n f).map fun p => p.2.bytes.length).sum = (r.map fun p => p.2.bytes.length).sum + f.bytes.length := ih
    unfold ins
    split
    · simp [used]; omega
    · simp [used, ih']; omega
theorem del_none {L : Fs} {n : Nm} (h : look L n = none) : del L n = L := by
  refine List.filter_eq_self.2 fun p hp => ?_
  simpa using look_none.1 h p hp
theorem del_some {L : Fs} (hs : Srt L) {n : Nm} {f : Fl} (h : look L n = some f) : (del L n).length + 1 = L.length ∧ used (del L n) + f.bytes.length = used L := by
  induction L with
  | nil => cases h
  | cons p r ih =>
    obtain ⟨k, g⟩ := p
    have hc := List.pairwise_cons.1 hs
    by_cases e : k = n
    · subst e
      simp only [look, if_true, Option.some.injEq] at h
      subst h
      have hr : look r k = none := look_none.2 fun q hq => (nm_ne (hc.1 q hq)).symm
      have e1 : del ((k, g) :: r) k = r := by
        have := del_none hr
        unfold del at this ⊢
        simpa using this
      rw [e1]
      simp [used]; omega
    · simp only [look, if_neg e] at h
      obtain ⟨h1, h2⟩ := ih hc.2 h
      have e1 : del ((k, g) :: r) n = (k, g) :: del r n := by
        unfold del
        simp [e]
      rw [e1]
      have h2' : ((del r n).map fun p => p.2.bytes.length).sum + f.bytes.length = (r.map fun p => p.2.bytes.length).sum := h2
      simp [used]; omega
theorem put_none {L : Fs} {n : Nm} (h : look L n = none) (f : Fl) : (put L n f).length = L.length + 1 ∧ used (put L n f) = used L + f.bytes.length := by
  unfold put
  rw [length_ins, used_ins, del_none h]
  exact ⟨rfl, rfl⟩
theorem put_some {L : Fs} (hs : Srt L) {n : Nm} {g : Fl} (h : look L n = some g) (f : Fl) : (put L n f).length = L.length ∧ used (put L n f) + g.bytes.length = used L + f.bytes.length := by
  unfold put
  rw [length_ins, used_ins]
  have := del_some hs h
  omega
theorem used_mem {L : Fs} {p : Nm × Fl} (h : p ∈ L) : p.2.bytes.length ≤ used L := by
  induction L with
  | nil => cases h
  | cons q r ih =>
    rcases List.mem_cons.1 h with rfl | h
    · simp [used]
    · have := ih h
      simp [used] at this ⊢
      omega
theorem fs_ext {L R : Fs} (h1 : Srt L) (h2 : Srt R) (h : ∀ n, look L n = look R n) : L = R := by
  have mem : ∀ {A B : Fs}, Srt A → Srt B → (∀ n, look A n = look B n) → ∀ p, p ∈ A → p ∈ B := fun {A B} hA hB he p hp => by
    have := look_of_mem hA (n := p.1) (f := p.2) hp
    rw [he] at this
    exact look_mem this
  induction L generalizing R with
  | nil =>
    cases R with
    | nil => rfl
    | cons q r => have := h q.1; simp [look] at this
  | cons p r ih =>
    cases R with
    | nil => have := h p.1; simp [look] at this
    | cons q t =>
      have c1 := List.pairwise_cons.1 h1
      have c2 := List.pairwise_cons.1 h2
      have hpq : p.1 = q.1 := by
        apply Classical.byContradiction
        intro hn
        have a := mem h1 h2 h p (by simp)
        have b := mem h2 h1 (fun n => (h n).symm) q (by simp)
        rcases List.mem_cons.1 a with rfl | a
        · exact hn rfl
        · rcases List.mem_cons.1 b with rfl | b
          · exact hn rfl
          · exact nm_irrefl _ (nm_trans (c1.1 q b) (c2.1 p a))
      have e : p = q := by
        have := h p.1
        obtain ⟨a, b⟩ := p
        obtain ⟨c, d⟩ := q
        simp only at hpq
        subst hpq
        simpa [look] using this
      subst e
      congr 1
      refine ih c1.2 c2.2 fun n => ?_
      have := h n
      obtain ⟨a, b⟩ := p
      by_cases e : a = n
      · subst e
        rw [look_none.2 fun q hq => (nm_ne (c1.1 q hq)).symm, look_none.2 fun q hq => (nm_ne (c2.1 q hq)).symm]
      · simpa [look, e] using this

/-! ### A disk -/
structure St where
  limit : Nat
  files : Fs
  left : Nat
  down : Bool
def chOk (b : UInt8) : Bool := (decide (97 ≤ b.toNat) && decide (b.toNat ≤ 122)) || (decide (48 ≤ b.toNat) && decide (b.toNat ≤ 57)) || decide (b.toNat = 46)
def nameOk (n : Nm) : Bool := decide (1 ≤ n.length) && decide (n.length ≤ 12) && n.all chOk
structure St.Ok (s : St) : Prop where
  srt : Srt s.files
  lim : s.limit ≤ 1048576
  use : used s.files ≤ 1048576
  cnt : s.files.length ≤ 64
  safe : ∀ p ∈ s.files, p.2.safe ≤ p.2.bytes.length
  byte : ∀ p ∈ s.files, ∀ z ∈ p.2.bytes, z < 256
  nm : ∀ p ∈ s.files, nameOk p.1 = true
  left : s.left ≤ 9223372036854775807
  dn : s.down = true → s.left = 0
def newS (limit : Nat) : St := ⟨limit, [], 0, false⟩
/-- What stands against a call about these names. -/
def mayE (s : St) (ns : List Nm) : Nat := if s.down then 9 else if ns.all nameOk then 0 else 2
def findE (s : St) (n : Nm) : Nat := if s.down then 9 else if nameOk n then (if (look s.files n).isSome then 0 else 4) else 2
/-- Behind a change. -/
def chg (s : St) (L : Fs) : St := ⟨s.limit, L, s.left - 1, decide (s.left = 1)⟩
def appE (s : St) (n : Nm) (p : List Nat) : Nat :=
  if mayE s [n] ≠ 0 then mayE s [n] else if (s.limit < used s.files + p.length) ∨ ((look s.files n).isNone = true ∧ s.files.length = 64) then 6 else 0
def appF : Option Fl → List Nat → Fl
  | none, p => ⟨p, 0⟩
  | some f, p => ⟨f.bytes ++ p, f.safe⟩
def appS (s : St) (n : Nm) (p : List Nat) : St := if appE s n p = 0 then chg s (put s.files n (appF (look s.files n) p)) else s
def fileOf (s : St) (n : Nm) : Fl := (look s.files n).getD ⟨[], 0⟩
def syncS (s : St) (n : Nm) : St := if findE s n = 0 then chg s (put s.files n ⟨(fileOf s n).bytes, (fileOf s n).bytes.length⟩) else s
def cutE (s : St) (n : Nm) (k : Int) : Nat := if findE s n ≠ 0 then findE s n else if k < 0 ∨ (fileOf s n).bytes.length < k then 1 else 0
def cutS (s : St) (n : Nm) (k : Int) : St := if cutE s n k = 0 then chg s (put s.files n ⟨(fileOf s n).bytes.take k.toNat, k.toNat⟩) else s
def renE (s : St) (a b : Nm) : Nat :=
  if mayE s [a, b] ≠ 0 then mayE s [a, b] else if (look s.files a).isNone then 4 else if (fileOf s a).safe < (fileOf s a).bytes.length then 7 else 0
def renS (s : St) (a b : Nm) : St := if renE s a b = 0 then chg s (put (del s.files a) b (fileOf s a)) else s
def remS (s : St) (n : Nm) : St := if findE s n = 0 then chg s (del s.files n) else s
def readP (s : St) (n : Nm) : List Nat := if findE s n = 0 then (fileOf s n).bytes else []
def limE (k : Int) : Nat := if k < 0 ∨ 1048576 < k then 1 else 0
def limS (s : St) (k : Int) : St := if limE k = 0 then { s with limit := k.toNat } else s
def armE (s : St) : Nat := if s.down then 9 else 0
def armS (s : St) (k : Int) : St := if s.down then s else { s with left := k.toNat, down := decide (k = 0) }
def crashF (f : Fl) (k : Int) : Fl := ⟨f.bytes.take (f.safe + min k.toNat (f.bytes.length - f.safe)), f.safe + min k.toNat (f.bytes.length - f.safe)⟩
def crashL : Fs → List Int → Fs
  | [], _ => []
  | (n, f) :: r, ks => (n, crashF f (ks.headD 0)) :: crashL r ks.tail
def crashS (s : St) (ks : List Int) : St := ⟨s.limit, crashL s.files ks, 0, false⟩

/-! ### What each call keeps -/
theorem crashF_len {f : Fl} (h : f.safe ≤ f.bytes.length) (k : Int) : (crashF f k).safe = (crashF f k).bytes.length ∧ (crashF f k).bytes.length ≤ f.bytes.length := by
  simp only [crashF, List.length_take]
  omega
theorem crash_names (L : Fs) (ks : List Int) : (crashL L ks).map (·.1) = L.map (·.1) := by
  induction L generalizing ks with
  | nil => rfl
  | cons p r ih => obtain ⟨n, f⟩ := p; simp [crashL, ih]
theorem crash_len (L : Fs) (ks : List Int) : (crashL L ks).length = L.length := by
  have := congrArg List.length (crash_names L ks)
  simpa using this
theorem crash_at (L : Fs) (ks : List Int) {i : Nat} (h : i < L.length) : (crashL L ks)[i]'(by rw [crash_len]; exact h) = (L[i].1, crashF L[i].2 (ks.getD i 0)) := by
  induction L generalizing ks i with
  | nil => simp at h
  | cons p r ih =>
    obtain ⟨n, f⟩ := p
    cases i with
    | zero => cases ks <;> simp [crashL]
    | succ i =>
      have := ih ks.tail (i := i) (by simpa using h)
      simp only [crashL, List.getElem_cons_succ]
      rw [this]
      cases ks <;> simp
theorem crash_srt {L : Fs} (h : Srt L) (ks : List Int) : Srt (crashL L ks) := by
  unfold Srt at h ⊢
  have e := crash_names L ks
  have h1 : (L.map (·.1)).Pairwise (· < ·) := List.pairwise_map.2 h
  rw [← e] at h1
  exact List.pairwise_map.1 h1
theorem crash_used {L : Fs} (h : ∀ p ∈ L, p.2.safe ≤ p.2.bytes.length) (ks : List Int) : used (crashL L ks) ≤ used L := by
  induction L generalizing ks with
  | nil => exact Nat.le_refl _
  | cons p r ih =>
    obtain ⟨n, f⟩ := p
    have h1 := ih (fun q hq => h q (List.mem_cons_of_mem _ hq)) ks.tail
    have h2 : (crashF f (ks.headD 0)).bytes.length ≤ f.bytes.length := (crashF_len (h (n, f) (by simp)) (ks.headD 0)).2
    unfold used at h1 ⊢
    simp only [crashL, List.map_cons, List.sum_cons]
    omega
theorem crash_mem {L : Fs} {ks : List Int} {p : Nm × Fl} (h : p ∈ crashL L ks) : ∃ f k, (p.1, f) ∈ L ∧ p.2 = crashF f k := by
  obtain ⟨i, hi, rfl⟩ := List.mem_iff_getElem.1 h
  have hi' : i < L.length := by rwa [crash_len] at hi
  rw [crash_at L ks hi']
  exact ⟨L[i].2, _, List.getElem_mem hi', rfl⟩
end Go.Proofs.Ytdjgkoklkoahbaa.Dk
