/- Frames on a line, as lists: a decoder, what it tells of bytes. The frame's sum stands as two functions with their laws. -/
import Derived.Test.YtoaffkmjobmhaaaStMath
namespace Go.Proofs.Ytoaffkmjobmhaaa.Hd
open Go.RowKit
open Go.Proofs.Ytoaffkmjobmhaaa.Me Go.Proofs.Ytoaffkmjobmhaaa.St
set_option linter.unusedVariables false

/-- What the frame's sum gives: 'ad c' are the bytes c with their sum, 'rt q' says whether q are some with theirs. -/
structure Sums (rt : List Nat → Bool) (ad : List Nat → List Nat) : Prop where
  take : ∀ c, (ad c).take c.length = c
  len : ∀ c, (ad c).length = c.length + 2
  lt : ∀ c, (∀ z ∈ c, z < 256) → ∀ z ∈ ad c, z < 256
  right : ∀ c, (∀ z ∈ c, z < 256) → rt (ad c) = true
  back : ∀ q, (∀ z ∈ q, z < 256) → 2 ≤ q.length → rt q = true → ad (q.take (q.length - 2)) = q
/-- What a decoder has met. -/
structure Met where
  good : Nat
  bad : Nat
  short : Nat
  long : Nat
  broken : Nat
/-- A decoder: does it look for a flag; what it gathered behind the last one; what it met. -/
structure Dec where
  hunts : Bool
  inn : List Nat
  met : Met
def met0 : Met := ⟨0, 0, 0, 0, 0⟩
def newD : Dec := ⟨true, [], met0⟩
section
variable (rt : List Nat → Bool) (ad : List Nat → List Nat)
/-- What gathered bytes are (0 good, 1 broken, 2 short, 3 bad, 4 long), and the content. -/
def kindL (p : List Nat) : Nat × List Nat :=
  match unstuffL p with
  | none => (1, [])
  | some q => if q.length < 3 then (2, []) else if rt q = false then (3, []) else if 128 < q.length - 2 then (4, []) else (0, q.take (q.length - 2))
def metMore (m : Met) (k : Nat) : Met :=
  match k with
  | 0 => { m with good := m.good + 1 }
  | 1 => { m with broken := m.broken + 1 }
  | 2 => { m with short := m.short + 1 }
  | 3 => { m with bad := m.bad + 1 }
  | 4 => { m with long := m.long + 1 }
  | _ => m
/-- A byte comes: what is told (nothing: no bytes). -/
def byteD (d : Dec) (b : Nat) : Dec × List Nat :=
  if b = 126 then
    if d.hunts = true ∨ d.inn = [] then (⟨false, [], d.met⟩, [])
    else (⟨false, [], metMore d.met (kindL rt d.inn).1⟩, (kindL rt d.inn).2)
  else if d.hunts = true then (d, [])
  else if 260 ≤ d.inn.length then (⟨true, [], metMore d.met 4⟩, [])
  else (⟨false, d.inn ++ [b], d.met⟩, [])
/-- What comes to what was told. -/
def told (c : List Nat) : List (List Nat) := if c = [] then [] else [c]
def feedD (d : Dec) : List Nat → Dec × List (List Nat)
  | [] => (d, [])
  | b :: p => ((feedD (byteD rt d b).1 p).1, told (byteD rt d b).2 ++ (feedD (byteD rt d b).1 p).2)
theorem feed_append (d : Dec) (p q : List Nat) : feedD rt d (p ++ q) = ((feedD rt (feedD rt d p).1 q).1, (feedD rt d p).2 ++ (feedD rt (feedD rt d p).1 q).2) := by
  induction p generalizing d with
  | nil => simp [feedD]
  | cons b p ih => simp only [List.cons_append, feedD, ih, List.append_assoc]
theorem feed_one (d : Dec) (b : Nat) : feedD rt d [b] = ((byteD rt d b).1, told (byteD rt d b).2) := by simp [feedD]
theorem feed_take_succ (d : Dec) {p : List Nat} {k : Nat} (h : k < p.length) : feedD rt d (p.take (k + 1)) = ((byteD rt (feedD rt d (p.take k)).1 (by_ p k)).1, (feedD rt d (p.take k)).2 ++ told (byteD rt (feedD rt d (p.take k)).1 (by_ p k)).2) := by
  rw [List.take_succ_eq_append_getElem h, feed_append, feed_one, by_get h]
/-- A frame's bytes. -/
def frameL (c : List Nat) : List Nat := [126] ++ stuffL (ad c) ++ [126]
theorem kind_good {rt ad} (hs : Sums rt ad) {c : List Nat} (hb : ∀ z ∈ c, z < 256) (h1 : 0 < c.length) (h2 : c.length ≤ 128) : kindL rt (stuffL (ad c)) = (0, c) := by
  have hl := hs.len c
  unfold kindL
  rw [unstuff_stuff (hs.lt c hb)]
  simp only
  rw [if_neg (by omega), if_neg (by rw [hs.right c hb]; decide), if_neg (by omega), hl, Nat.add_sub_cancel, hs.take]
/-- Bytes without a flag are gathered. -/
theorem feed_gather (p : List Nat) (hp : 126 ∉ p) : ∀ (i : List Nat) (m : Met), i.length + p.length ≤ 260 → feedD rt ⟨false, i, m⟩ p = (⟨false, i ++ p, m⟩, []) := by
  induction p with
  | nil => intro i m _; simp [feedD]
  | cons b p ih =>
    intro i m hl
    have hb : b ≠ 126 := fun e => hp (by simp [e])
    simp only [List.length_cons] at hl
    have e : byteD rt ⟨false, i, m⟩ b = (⟨false, i ++ [b], m⟩, []) := by
      unfold byteD
      rw [if_neg hb, if_neg (by simp), if_neg (by show ¬ 260 ≤ i.length; omega)]
    simp only [feedD, e]
    rw [ih (fun h => hp (by simp [h])) _ _ (by simp; omega)]
    simp [told]
theorem stuffed_len {rt ad} (hs : Sums rt ad) {c : List Nat} (h2 : c.length ≤ 128) : (stuffL (ad c)).length ≤ 260 := by
  have := stuff_two (ad c)
  have := hs.len c
  omega
theorem stuffed_pos {rt ad} (hs : Sums rt ad) (c : List Nat) : stuffL (ad c) ≠ [] := by
  intro e
  have h1 := stuff_more (ad c)
  have h2 := hs.len c
  rw [e] at h1
  simp only [List.length_nil] at h1
  omega
theorem told_some {c : List Nat} (h : 0 < c.length) : told c = [c] := if_neg (by intro e; simp [e] at h)
/-- Behind a flag: the rest of a frame is told. -/
theorem feed_rest {rt ad} (hs : Sums rt ad) {c : List Nat} (hb : ∀ z ∈ c, z < 256) (h1 : 0 < c.length) (h2 : c.length ≤ 128) (m : Met) :
    feedD rt ⟨false, [], m⟩ (stuffL (ad c) ++ [126]) = (⟨false, [], metMore m 0⟩, [c]) := by
  rw [feed_append, feed_gather rt _ (stuff_clean (hs.lt c hb)) [] m (by have := stuffed_len hs h2; simpa using this), feed_one]
  have e : byteD rt ⟨false, stuffL (ad c), m⟩ 126 = (⟨false, [], metMore m 0⟩, c) := by
    unfold byteD
    rw [if_pos rfl, if_neg (by simp [stuffed_pos hs c])]
    simp only [kind_good hs hb h1 h2]
  simp only [List.nil_append, e, told_some h1]
/-- What a flag does. -/
def flagD (d : Dec) : Dec × List (List Nat) := ((byteD rt d 126).1, told (byteD rt d 126).2)
theorem flag_inside (d : Dec) : ∃ m, (byteD rt d 126).1 = ⟨false, [], m⟩ := by
  unfold byteD
  rw [if_pos rfl]
  split
  · exact ⟨_, rfl⟩
  · exact ⟨_, rfl⟩
theorem kind_told (p : List Nat) : ((kindL rt p).1 = 0 ∧ 0 < (kindL rt p).2.length) ∨ ((kindL rt p).1 ≠ 0 ∧ (kindL rt p).2 = []) := by
  unfold kindL
  cases unstuffL p with
  | none => exact .inr ⟨by simp, rfl⟩
  | some q =>
    simp only
    by_cases h1 : q.length < 3
    · rw [if_pos h1]; exact .inr ⟨by simp, rfl⟩
    · rw [if_neg h1]
      by_cases h2 : rt q = false
      · rw [if_pos h2]; exact .inr ⟨by simp, rfl⟩
      · rw [if_neg h2]
        by_cases h3 : 128 < q.length - 2
        · rw [if_pos h3]; exact .inr ⟨by simp, rfl⟩
        · rw [if_neg h3]; exact .inl ⟨rfl, by simp; omega⟩
theorem kind_le (p : List Nat) : (kindL rt p).1 ≤ 4 := by
  unfold kindL
  split
  · simp
  · split
    · simp
    · split
      · simp
      · split <;> simp
/-- What is told is counted as good, and nothing else. -/
theorem byte_good (d : Dec) (b : Nat) : (byteD rt d b).1.met.good = d.met.good + (told (byteD rt d b).2).length := by
  unfold byteD
  split
  · split
    · simp [told]
    · rcases kind_told rt d.inn with ⟨h1, h2⟩ | ⟨h1, h2⟩
      · simp only [h1, metMore, told_some h2, List.length_singleton]
      · have h4 := kind_le rt d.inn
        simp only [h2, told]
        obtain ⟨k, hk⟩ : ∃ k, (kindL rt d.inn).1 = k := ⟨_, rfl⟩
        rw [hk] at h1 h4 ⊢
        match k, h1, h4 with
        | 1, _, _ => rfl
        | 2, _, _ => rfl
        | 3, _, _ => rfl
        | 4, _, _ => rfl
  · split
    · simp [told]
    · split
      · simp [told, metMore]
      · simp [told]
theorem feed_good (p : List Nat) : ∀ d : Dec, (feedD rt d p).1.met.good = d.met.good + (feedD rt d p).2.length := by
  induction p with
  | nil => intro d; simp [feedD]
  | cons b p ih =>
    intro d
    simp only [feedD, ih, byte_good, List.length_append]
    omega
theorem told_len (c : List Nat) : (told c).length ≤ 1 := by unfold told; split <;> simp
/-- P4.3: a frame is told as the last one, whatever was fed ahead of it. -/
theorem frame_found {rt ad} (hs : Sums rt ad) {c : List Nat} (hb : ∀ z ∈ c, z < 256) (h1 : 0 < c.length) (h2 : c.length ≤ 128) (d : Dec) :
    ∃ m t, feedD rt d (frameL ad c) = (⟨false, [], m⟩, t ++ [c]) ∧ t.length ≤ 1 := by
  obtain ⟨m, hm⟩ := flag_inside rt d
  refine ⟨metMore m 0, told (byteD rt d 126).2, ?_, told_len _⟩
  unfold frameL
  rw [List.append_assoc, feed_append, feed_one, hm, feed_rest hs hb h1 h2]
/-! ### P4.5: frames one behind the other -/
theorem byte_flag_empty (h : Bool) (m : Met) : byteD rt ⟨h, [], m⟩ 126 = (⟨false, [], m⟩, []) := by
  unfold byteD
  rw [if_pos rfl, if_pos (.inr rfl)]
theorem feed_flags (h : Bool) (m : Met) : ∀ k, feedD rt ⟨h, [], m⟩ (List.replicate k 126) = (⟨if k = 0 then h else false, [], m⟩, [])
  | 0 => rfl
  | k + 1 => by
    rw [List.replicate_succ]
    simp only [feedD, byte_flag_empty]
    rw [feed_flags false m k]
    simp [told]
/-- A whole frame behind nothing that was gathered. -/
theorem feed_frame {rt ad} (hs : Sums rt ad) {c : List Nat} (hb : ∀ z ∈ c, z < 256) (h1 : 0 < c.length) (h2 : c.length ≤ 128) (h : Bool) (m : Met) :
    feedD rt ⟨h, [], m⟩ (frameL ad c) = (⟨false, [], metMore m 0⟩, [c]) := by
  unfold frameL
  rw [List.append_assoc, feed_append, feed_one, byte_flag_empty, feed_rest hs hb h1 h2]
  simp [told]
/-- May a content be in a frame? -/
def fits (c : List Nat) : Bool := decide (0 < c.length) && decide (c.length ≤ 128)
/-- The line behind one list more: k further flags, and the frame, without its first flag where one serves both. -/
def lineMore (line : List Nat) (one : Bool) (k : Nat) (c : List Nat) : List Nat :=
  if fits c then line ++ List.replicate k 126 ++ (if one && decide (line ≠ []) then (frameL ad c).drop 1 else frameL ad c) else line
def metN (n : Nat) : Met := ⟨n, 0, 0, 0, 0⟩
/-- What stands behind a line of n frames that are told. -/
def Rows (line : List Nat) (want : List (List Nat)) : Prop := feedD rt newD line = (⟨decide (line = []), [], metN want.length⟩, want)
theorem rows_nil : Rows rt [] [] := rfl
theorem rows_more {rt ad} (hs : Sums rt ad) {line : List Nat} {want : List (List Nat)} (h : Rows rt line want) (one : Bool) (k : Nat) (ho : one = true → k = 0) {c : List Nat} (hb : ∀ z ∈ c, z < 256) :
    Rows rt (lineMore ad line one k c) (if fits c then want ++ [c] else want) := by
  unfold lineMore
  by_cases hf : fits c = true
  · rw [if_pos hf, if_pos hf]
    simp only [fits, Bool.and_eq_true, decide_eq_true_eq] at hf
    have hne : ∀ r : List Nat, frameL ad c ≠ [] := fun _ e => by simp [frameL] at e
    have hm : metMore (metN want.length) 0 = metN (want ++ [c]).length := by simp [metMore, metN]
    unfold Rows at h ⊢
    by_cases hone : (one && decide (line ≠ [])) = true
    · rw [if_pos hone]
      simp only [Bool.and_eq_true, decide_eq_true_eq] at hone
      obtain rfl := ho hone.1
      have hd : (frameL ad c).drop 1 = stuffL (ad c) ++ [126] := by simp [frameL]
      rw [hd, List.replicate_zero, List.append_nil, feed_append, h]
      simp only [hone.2, decide_false]
      rw [feed_rest hs hb hf.1 hf.2, hm]
      simp
    · rw [if_neg hone, List.append_assoc, feed_append, h, feed_append, feed_flags]
      simp only
      rw [feed_frame hs hb hf.1 hf.2, hm]
      simp [frameL]
  · rw [if_neg hf, if_neg hf]; exact h
/-! ### P4.5: what is told stands in the bytes -/
def Stands (p : List Nat) (c : List Nat) : Prop := fits c = true ∧ ∃ pre post, p = pre ++ frameL ad c ++ post
theorem Stands.more {ad} {p c : List Nat} (h : Stands ad p c) (q : List Nat) : Stands ad (p ++ q) c := by
  obtain ⟨h1, pre, post, rfl⟩ := h
  exact ⟨h1, pre, post ++ q, by simp⟩
theorem kind_back {rt ad} (hs : Sums rt ad) {i : List Nat} (hb : ∀ z ∈ i, z < 256) (h : 0 < (kindL rt i).2.length) : fits (kindL rt i).2 = true ∧ stuffL (ad (kindL rt i).2) = i := by
  unfold kindL at h ⊢
  cases hu : unstuffL i with
  | none => rw [hu] at h; simp at h
  | some q =>
    rw [hu] at h
    obtain ⟨s1, s2, s3⟩ := stuff_unstuff hb hu
    simp only at h ⊢
    by_cases h1 : q.length < 3
    · rw [if_pos h1] at h; simp at h
    · rw [if_neg h1] at h ⊢
      by_cases h2 : rt q = false
      · rw [if_pos h2] at h; simp at h
      · rw [if_neg h2] at h ⊢
        by_cases h3 : 128 < q.length - 2
        · rw [if_pos h3] at h; simp at h
        · rw [if_neg h3] at h ⊢
          refine ⟨?_, ?_⟩
          · simp [fits]; omega
          · simp only
            rw [hs.back q s2 (by omega) (by simpa using h2), s1]
theorem all_stand {rt ad} (hs : Sums rt ad) : ∀ p : List Nat, (∀ z ∈ p, z < 256) → (∀ c ∈ (feedD rt newD p).2, Stands ad p c) ∧ ((feedD rt newD p).1.hunts = false → ∃ pre, p = pre ++ [126] ++ (feedD rt newD p).1.inn) := by
  intro p
  generalize hr : p.reverse = r
  induction r generalizing p with
  | nil =>
    obtain rfl : p = [] := by simpa using hr
    intro _
    exact ⟨by simp [feedD], by simp [feedD, newD]⟩
  | cons b r ih =>
    obtain ⟨p', rfl⟩ : ∃ p', p = p' ++ [b] := ⟨r.reverse, by rw [← List.reverse_reverse p, hr]; simp⟩
    intro hb
    obtain ⟨i1, i2⟩ := ih p' (by simpa using hr) (fun z hz => hb z (by simp [hz]))
    rw [feed_append, feed_one]
    obtain ⟨d, hd⟩ : ∃ d, (feedD rt newD p').1 = d := ⟨_, rfl⟩
    rw [hd] at i2 ⊢
    have hold : ∀ c ∈ (feedD rt newD p').2, Stands ad (p' ++ [b]) c := fun c hc => (i1 c hc).more [b]
    simp only
    by_cases h126 : b = 126
    · subst h126
      by_cases he : d.hunts = true ∨ d.inn = []
      · have e : byteD rt d 126 = (⟨false, [], d.met⟩, []) := by unfold byteD; rw [if_pos rfl, if_pos he]
        rw [e]
        refine ⟨fun c hc => hold c (by simpa [told] using hc), fun _ => ⟨p', by simp⟩⟩
      · have e : byteD rt d 126 = (⟨false, [], metMore d.met (kindL rt d.inn).1⟩, (kindL rt d.inn).2) := by unfold byteD; rw [if_pos rfl, if_neg he]
        rw [e]
        have hh : d.hunts = false := by cases hx : d.hunts <;> simp_all
        obtain ⟨pre, hp⟩ := i2 hh
        refine ⟨fun c hc => ?_, fun _ => ⟨p', by simp⟩⟩
        rcases List.mem_append.mp hc with hc | hc
        · exact hold c hc
        · unfold told at hc
          by_cases hz : (kindL rt d.inn).2 = []
          · rw [if_pos hz] at hc; cases hc
          · rw [if_neg hz] at hc
            simp at hc
            subst hc
            have hin : ∀ z ∈ d.inn, z < 256 := fun z hz' => hb z (by rw [hp]; simp [hz'])
            obtain ⟨k1, k2⟩ := kind_back hs hin (List.length_pos_iff.mpr hz)
            exact ⟨k1, pre, [], by unfold frameL; rw [k2, hp]; simp only [List.append_assoc, List.append_nil]⟩
    · by_cases hh : d.hunts = true
      · have e : byteD rt d b = (d, []) := by unfold byteD; rw [if_neg h126, if_pos hh]
        rw [e]
        exact ⟨fun c hc => hold c (by simpa [told] using hc), fun h => by rw [hh] at h; cases h⟩
      · by_cases hl : 260 ≤ d.inn.length
        · have e : byteD rt d b = (⟨true, [], metMore d.met 4⟩, []) := by unfold byteD; rw [if_neg h126, if_neg hh, if_pos hl]
          rw [e]
          exact ⟨fun c hc => hold c (by simpa [told] using hc), fun h => by cases h⟩
        · have e : byteD rt d b = (⟨false, d.inn ++ [b], d.met⟩, []) := by unfold byteD; rw [if_neg h126, if_neg hh, if_neg hl]
          rw [e]
          obtain ⟨pre, hp⟩ := i2 (by simpa using hh)
          refine ⟨fun c hc => hold c (by simpa [told] using hc), fun _ => ⟨pre, ?_⟩⟩
          conv => lhs; rw [hp]
          simp
/-! ### P4.4: how bytes are parted says nothing -/
theorem feed_part {p : List Nat} {f t : Nat} (hf : f ≤ t) : feedD rt newD (p.take t) = ((feedD rt (feedD rt newD (p.take f)).1 ((p.take t).drop f)).1, (feedD rt newD (p.take f)).2 ++ (feedD rt (feedD rt newD (p.take f)).1 ((p.take t).drop f)).2) := by
  have e : p.take t = p.take f ++ (p.take t).drop f := by
    have : p.take f = (p.take t).take f := by rw [List.take_take]; congr 1; omega
    rw [this, List.take_append_drop]
  conv => lhs; rw [e]
  rw [feed_append]
/-- Inside is never more than what may be gathered. -/
theorem inside_le (p : List Nat) : ∀ d : Dec, d.inn.length ≤ 260 → (d.hunts = true → d.inn = []) → (feedD rt d p).1.inn.length ≤ 260 ∧ ((feedD rt d p).1.hunts = true → (feedD rt d p).1.inn = []) := by
  induction p with
  | nil => intro d h1 h2; exact ⟨h1, h2⟩
  | cons b p ih =>
    intro d h1 h2
    simp only [feedD]
    refine ih _ ?_ ?_
    · unfold byteD
      split
      · split <;> simp
      · split
        · exact h1
        · split
          · simp
          · simp; omega
    · unfold byteD
      split
      · split <;> simp
      · split
        · exact h2
        · split
          · simp
          · simp
end
end Go.Proofs.Ytoaffkmjobmhaaa.Hd
