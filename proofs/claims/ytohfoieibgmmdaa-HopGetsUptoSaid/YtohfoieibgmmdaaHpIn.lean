/- A word that came in by value. -/
import Derived.Test.YtohfoieibgmmdaaZ9
import Derived.Test.YtohfoieibgmmdaaZ3
import Derived.Deep.Strs
import Derived.WideShapes
namespace Go.Proofs.Ytohfoieibgmmdaa.Hp
open Go.RowKit Go.Deep Go.Shelf
open Go.ChangeShapes Go.WideShapes Go.Joins
open Go.Proofs.Ytohfoieibgmmdaa.Me Go.Proofs.Ytohfoieibgmmdaa.Sb
set_option linter.unusedVariables false
set_option linter.unusedSimpArgs false

/-- Costs that came in: a slice's address leads to them, and their memory is bounded. -/
def CoIn (w : World) (B : Option Addr) (cs : List Int) (cc : Nat) : Prop := Mi.BySlice w B cs.length cc cs ∧ cc * 8 ≤ 140737488351232
theorem eight_h : Try.prog.cellsOf 29 = 8 := by kernel_rfl
theorem one_sli : Try.prog.cellsOf 27 = 1 := by kernel_rfl
theorem bytes_in : Try.prog.bytesOf 3 = 8 := by kernel_rfl
set_option maxRecDepth 100000 in
theorem ints_in {H : Type} {enc : TypeId × Value → H} {w : World} {base n : Nat} {held : Bool} {v : Value} {d : DataW H} {pl : List MemPlace} (h : DataW.trod enc Try.prog w base (fun _ => true) held n 27 [v] = some (d, pl)) (hw : ∀ x ∈ d.weights Try.prog 27, x ≤ reachBytes) :
    ∃ (B : Option Addr) (cs : List Int) (cc : Nat), v = .slice B cs.length cc ∧ CoIn w B cs cc := by
  rcases open_ints Try.underlying27 Try.underlying3 (by kernel_rfl) h with ⟨hcs, _⟩ | ⟨x, k, c, zs, hcs, _, hl, hm, hz, hy, hcell, hwz⟩
  · simp at hcs
    exact ⟨none, [], 0, hcs, Mi.bySlice_none w, Nat.zero_le _⟩
  · simp at hcs
    obtain ⟨l, hb⟩ := Mi.bySlice_some hl hm (by simpa using hz) hcell hwz
    obtain rfl := hb.1
    refine ⟨some x, l, c, hcs, hb, ?_⟩
    have hmem : c * 8 ≤ reachBytes := by
      refine hw _ ?_
      simp only [Prod.mk.injEq] at hy
      rw [hy.1]
      simp only [DataW.weights, Try.underlying27]
      refine List.mem_cons.2 (.inl ?_)
      rw [bytes_in]
      have hz' : zs.length = c := by simpa using hz
      simp only [lits, List.length_map, List.length_take, List.length_drop]
      omega
    unfold reachBytes at hmem
    exact hmem
set_option maxRecDepth 100000 in
theorem hop_val {H : Type} {enc : TypeId × Value → H} {w : World} {base : Nat} {held : Bool} {v : Value} {D : DataW H} {Pl : List MemPlace} {r : Reach} {b0 : Nat} (hv : Value.okWide Try.prog w r b0 29 v) (h : DataW.Trod enc Try.prog w base (fun _ => true) held 29 v D Pl) (hw : ∀ x ∈ D.weights Try.prog 29, x ≤ reachBytes) :
    ∃ (k n : Int) (i : Mg.Id4) (A : Option Addr) (l : List Nat) (dc : Nat) (B : Option Addr) (cs : List Int) (cc : Nat), v = .agg (hopC k n i A l.length dc B cs.length cc) ∧ (Mg.MsIn w A l.length dc l ∧ CoIn w B cs cc) := by
  obtain ⟨cs, rfl, hsz⟩ := okWide_struct Try.underlying29 hv
  obtain ⟨fuel, hf⟩ := h
  obtain ⟨y0, y1, y2, y3, m, hx, hlen, h0, h1, h2, h3⟩ := Go.Joins.trod_struct4 Try.underlying29 hf
  rw [eight_h] at hlen
  have e0 : (Value.agg cs).cells = cs := rfl
  rw [e0] at hlen h0 h1 h2 h3
  obtain ⟨l, hl⟩ : ∃ l, cs.toList = l := ⟨_, rfl⟩
  rw [hl] at hlen h0 h1 h2 h3
  match l, hlen with
  | [v0, v1, v2, v3, v4, v5, v6, v7], _ =>
    simp only [Mg.one_int, Mg.five_msg, one_sli] at h0 h1 h2 h3
    simp at h0 h1 h2 h3
    simp only [Prod.mk.injEq] at hx
    obtain ⟨k, hk, _, _⟩ := DataW.trod_int Try.underlying3 h0
    obtain ⟨n, hn, _, _⟩ := DataW.trod_int Try.underlying3 h1
    obtain ⟨i, A, kl, c, p, e, hi⟩ := Mg.msg_in h2 fun x hxx => hw x (by
      rw [hx.1]
      simp only [DataW.weights, Try.underlying29]
      simp only [Array.toList, List.map_cons, List.map_nil, DataW.weightsEach, List.mem_append]
      exact .inr (.inr (.inl hxx)))
    obtain ⟨B, qs, cc, eq, hq⟩ := ints_in h3 fun x hxx => hw x (by
      rw [hx.1]
      simp only [DataW.weights, Try.underlying29]
      simp only [Array.toList, List.map_cons, List.map_nil, DataW.weightsEach, List.mem_append]
      exact .inr (.inr (.inr (.inl hxx))))
    simp only [Mg.msgC, List.cons.injEq, and_true] at e
    obtain ⟨e1, e2, e3, e4, e5⟩ := e
    simp only [List.cons.injEq, and_true] at hk hn
    obtain rfl := hi.1.1
    refine ⟨k, n, i, A, p, c, B, qs, cc, ?_, hi, hq⟩
    have : cs = hopC k n i A p.length c B qs.length cc := by
      rw [← Array.toList_inj, hl, hk, hn, e1, e2, e3, e4, e5, eq]
      rfl
    rw [this]
end Go.Proofs.Ytohfoieibgmmdaa.Hp
