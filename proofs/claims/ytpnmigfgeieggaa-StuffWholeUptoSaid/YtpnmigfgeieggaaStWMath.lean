/- Parts with flags between them are the bytes; the parts of stuffed bytes with flags behind them. -/
import Derived.Test.YtpnmigfgeieggaaStIter
import Derived.Test.YtpnmigfgeieggaaRows2
namespace Go.Proofs.Ytpnmigfgeieggaa.St
open Go.RowKit
open Go.Proofs.Ytpnmigfgeieggaa.Me Go.Proofs.Ytpnmigfgeieggaa.It
set_option linter.unusedVariables false

theorem frm_flag (zs : List Nat) : ∀ k, k ≤ zs.length → 0 < frm zs k → by_ zs (frm zs k - 1) = 126 ∧ frm zs k - 1 < zs.length
  | 0, _, h => by simp [frm] at h
  | k + 1, hk, h => by
    by_cases hc : isCut zs k = true
    · rw [frm_cut hc]
      simp only [isCut, Bool.or_eq_true, decide_eq_true_eq] at hc
      exact ⟨by simpa using (by omega : by_ zs k = 126), by omega⟩
    · rw [frm_skip hc] at h ⊢
      exact frm_flag zs k (by omega) h
/-- All parts that end ahead of k, with flags between them. -/
def allTo (zs : List Nat) (k : Nat) : List Nat := zs.take (frm zs k - 1)
theorem all_skip {zs : List Nat} {k : Nat} (h : ¬ isCut zs k = true) : allTo zs (k + 1) = allTo zs k := by unfold allTo; rw [frm_skip h]
theorem all_first {zs : List Nat} {k : Nat} (h : isCut zs k = true) (h0 : frm zs k = 0) : allTo zs (k + 1) = allTo zs k ++ seg zs k := by
  unfold allTo seg
  rw [frm_cut h, h0]
  simp
theorem all_more {zs : List Nat} {k : Nat} (hk : k ≤ zs.length) (h : isCut zs k = true) (h0 : 0 < frm zs k) : allTo zs (k + 1) = allTo zs k ++ [126] ++ seg zs k := by
  obtain ⟨h1, h2⟩ := frm_flag zs k hk h0
  have hle := frm_le zs k
  unfold allTo seg
  rw [frm_cut h]
  obtain ⟨f, hf⟩ : ∃ f, frm zs k = f + 1 := ⟨frm zs k - 1, by omega⟩
  rw [hf] at h1 h2 hle ⊢
  simp only [Nat.add_sub_cancel] at h1 h2 ⊢
  have e : zs.take f ++ [126] = zs.take (f + 1) := by
    rw [List.take_succ_eq_append_getElem h2, ← by_get h2, h1]
  rw [e]
  have e2 : zs.take (f + 1) = (zs.take k).take (f + 1) := by rw [List.take_take]; congr 1; omega
  rw [e2, List.take_append_drop]
theorem all_end (zs : List Nat) : allTo zs (zs.length + 1) = zs := by
  unfold allTo
  rw [frm_cut (cut_end zs)]
  simp
theorem frm_pos (zs : List Nat) : ∀ k, (0 < frm zs k ↔ 0 < (done zs k).length)
  | 0 => by simp [frm, done]
  | k + 1 => by
    by_cases hc : isCut zs k = true
    · rw [frm_cut hc, done_cut hc]; simp
    · rw [frm_skip hc, done_skip hc]; exact frm_pos zs k
theorem done_pos (zs : List Nat) : 0 < (done zs (zs.length + 1)).length := by rw [done_cut (cut_end zs)]; simp
theorem all_len (zs : List Nat) (k : Nat) : (allTo zs k).length ≤ zs.length := by unfold allTo; simp; omega
/-- Lists stuffed, with a flag behind each. -/
def lineL (ls : List (List Nat)) : List Nat := ls.flatMap fun r => stuffL r ++ [126]
theorem line_append (a b : List (List Nat)) : lineL (a ++ b) = lineL a ++ lineL b := by simp [lineL]
theorem line_one (r : List Nat) : lineL [r] = stuffL r ++ [126] := by simp [lineL]
theorem line_step {ls : List (List Nat)} {j : Nat} (h : j < ls.length) : lineL (ls.take (j + 1)) = lineL (ls.take j) ++ stuffL (lsAt ls j) ++ [126] := by
  have e : lsAt ls j = ls[j] := by simp [lsAt, h]
  rw [List.take_succ_eq_append_getElem h, line_append, line_one, e, List.append_assoc]
theorem line_len (ls : List (List Nat)) : (lineL ls).length ≤ 2 * ls.flatten.length + ls.length := by
  induction ls with
  | nil => simp [lineL]
  | cons r ls ih =>
    have e : lineL (r :: ls) = (stuffL r ++ [126]) ++ lineL ls := rfl
    rw [e]
    have := stuff_two r
    simp only [List.length_append, List.flatten_cons, List.length_cons, List.length_nil]
    omega
theorem line_lt {ls : List (List Nat)} (h : ∀ r ∈ ls, ∀ z ∈ r, z < 256) : ∀ z ∈ lineL ls, z < 256 := by
  intro z hz
  obtain ⟨r, hr, hz⟩ := List.mem_flatMap.mp hz
  rcases List.mem_append.mp hz with hz | hz
  · exact stuff_lt (h r hr) z hz
  · simp at hz; omega
theorem not_cut_run {zs : List Nat} {p : Nat} : ∀ m, p + m ≤ zs.length → (∀ i, i < m → by_ zs (p + i) ≠ 126) → frm zs (p + m) = frm zs p ∧ done zs (p + m) = done zs p
  | 0, _, _ => ⟨rfl, rfl⟩
  | m + 1, hm, h => by
    obtain ⟨h1, h2⟩ := not_cut_run m (by omega) (fun i hi => h i (by omega))
    have hc := cut_not (zs := zs) (k := p + m) (by omega) (h m (by omega))
    exact ⟨by rw [← Nat.add_assoc, frm_skip hc, h1], by rw [← Nat.add_assoc, done_skip hc, h2]⟩
theorem by_append_mid (a b c : List Nat) {i : Nat} (h : i < b.length) : by_ (a ++ b ++ c) (a.length + i) = by_ b i := by
  simp [by_, List.getElem?_append, h]
  rw [if_neg (by omega)]; rfl
theorem line_done (ls : List (List Nat)) (hb : ∀ r ∈ ls, ∀ z ∈ r, z < 256) : ∀ j, j ≤ ls.length → frm (lineL ls) (lineL (ls.take j)).length = (lineL (ls.take j)).length ∧ done (lineL ls) (lineL (ls.take j)).length = (ls.take j).map stuffL
  | 0, _ => by simp [lineL, frm, done]
  | j + 1, hj => by
    obtain ⟨h1, h2⟩ := line_done ls hb j (by omega)
    have hlt : j < ls.length := by omega
    have hs := line_step hlt
    have hmem : lsAt ls j ∈ ls := by simp [lsAt, hlt]
    obtain ⟨p, hp⟩ : ∃ p, lineL (ls.take j) = p := ⟨_, rfl⟩
    obtain ⟨s, hs'⟩ : ∃ s, stuffL (lsAt ls j) = s := ⟨_, rfl⟩
    have hclean : 126 ∉ s := by rw [← hs']; exact stuff_clean (hb _ hmem)
    have hL : lineL ls = p ++ s ++ ([126] ++ lineL (ls.drop (j + 1))) := by
      conv => lhs; rw [← List.take_append_drop (j + 1) ls, line_append, hs, hp, hs']
      simp
    rw [hp] at h1 h2 hs
    rw [hs'] at hs
    obtain ⟨L, hLd⟩ : ∃ L, lineL ls = L := ⟨_, rfl⟩
    rw [hLd] at hL h1 h2 ⊢
    have hlen : p.length + s.length < L.length := by rw [hL]; simp
    obtain ⟨g1, g2⟩ := not_cut_run (zs := L) (p := p.length) s.length (by omega) (fun i hi e => by
      rw [hL, by_append_mid p s _ hi, by_get hi] at e
      exact hclean (e ▸ List.getElem_mem hi))
    have hc : isCut L (p.length + s.length) = true := cut_flag (by
      rw [hL]
      simp [by_])
    have hseg : seg L (p.length + s.length) = s := by
      unfold seg
      rw [g1, h1, hL, ← List.length_append, List.append_assoc p s, List.take_append, ]
      simp
    rw [hs]
    simp only [List.length_append, List.length_singleton]
    refine ⟨frm_cut hc, ?_⟩
    rw [done_cut hc, g2, h2, hseg, ← hs', List.take_succ_eq_append_getElem hlt, List.map_append]
    simp [lsAt, hlt]
theorem line_parts (ls : List (List Nat)) (hb : ∀ r ∈ ls, ∀ z ∈ r, z < 256) : done (lineL ls) ((lineL ls).length + 1) = ls.map stuffL ++ [[]] := by
  obtain ⟨h1, h2⟩ := line_done ls hb ls.length (Nat.le_refl _)
  rw [List.take_length] at h1 h2
  rw [done_cut (cut_end _), h2]
  congr 1
  unfold seg
  rw [h1]
  simp
end Go.Proofs.Ytpnmigfgeieggaa.St
