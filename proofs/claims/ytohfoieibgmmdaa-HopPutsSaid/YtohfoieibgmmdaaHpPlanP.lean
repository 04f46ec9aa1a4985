/- Plan: what it answers; messages that are held. -/
import Derived.Test.YtohfoieibgmmdaaHpOfs
namespace Go.Proofs.Ytohfoieibgmmdaa.Hp
open Go.RowKit Go.Maps
open Go.Proofs.Ytohfoieibgmmdaa.Me Go.Proofs.Ytohfoieibgmmdaa.Sb
set_option linter.unusedVariables false
set_option linter.unusedSimpArgs false

/-- A message. -/
structure Ms where
  i : Mg.Id4
  p : List Nat
/-- An offer. -/
structure Ofr where
  t : Int
  n : Nat
  i : Mg.Id4
  p : List Nat
def Fo.o (q : Fo) : Ofr := ⟨q.t, q.n, q.i, q.p⟩
/-- Is a message offered now? -/
def goB (d : Dk) (via up : List Int) (x : Ms) : Bool := isN x.i.d && (amB via up x.i.d.toNat && !(d.kept x.i).isSome)
def planStep (via up : List Int) (s : Dk × List Ofr) (x : Ms) : Dk × List Ofr :=
  if goB s.1 via up x = true then (offK s.1 x.i (Mi.at_ via x.i.d.toNat), s.2 ++ [⟨Mi.at_ via x.i.d.toNat, s.1.next, x.i, x.p⟩]) else s
def planF (d : Dk) (via up : List Int) (ls : List Ms) : Dk × List Ofr := ls.foldl (planStep via up) (d, [])
theorem planF_snoc (d : Dk) (via up : List Int) (ls : List Ms) (x : Ms) : planF d via up (ls ++ [x]) = planStep via up (planF d via up ls) x := by simp [planF]
theorem planF_inv (d : Dk) (via up : List Int) (hx : d.next < 65536) (ls : List Ms) : ∀ j, j ≤ ls.length → (planF d via up (ls.take j)).1.wait = d.wait ∧ (planF d via up (ls.take j)).1.passed = d.passed ∧ (planF d via up (ls.take j)).1.next < 65536 ∧ (planF d via up (ls.take j)).2.length ≤ j
  | 0, _ => ⟨rfl, rfl, hx, Nat.le_refl _⟩
  | j + 1, hj => by
    obtain ⟨h1, h2, h3, h4⟩ := planF_inv d via up hx ls j (by omega)
    rw [List.take_add_one, List.getElem?_eq_getElem (by omega)]
    show (planF d via up (ls.take j ++ [ls[j]])).1.wait = _ ∧ _
    simp only [Option.toList_some]
    rw [planF_snoc]
    unfold planStep
    split
    · refine ⟨h1, h2, Nat.mod_lt _ (by decide), ?_⟩
      simp only [List.length_append, List.length_cons, List.length_nil]
      omega
    · exact ⟨h1, h2, h3, by omega⟩
def msAt (ls : List Ms) (j : Nat) : Ms := ls.getD j ⟨⟨0, 0, 0, 0⟩, []⟩
theorem msAt_get {ls : List Ms} {j : Nat} (h : j < ls.length) : msAt ls j = ls[j] := by simp [msAt, h]
/-- A slice's address leads to these messages. -/
def Hl (w : World) (a : Option Addr) (ls : List Ms) : Prop :=
  ∀ j, j < ls.length → ∃ b off R cr, a = some ⟨b, off, none⟩ ∧ b < w.heap.size ∧ w.cell? ⟨b, off + j * 5, none⟩ = some (.int .i64 (msAt ls j).i.o) ∧ w.cell? ⟨b, off + j * 5 + 1, none⟩ = some (.int .i64 (msAt ls j).i.d) ∧ w.cell? ⟨b, off + j * 5 + 2, none⟩ = some (.int .i64 (msAt ls j).i.e) ∧ w.cell? ⟨b, off + j * 5 + 3, none⟩ = some (.int .i64 (msAt ls j).i.c) ∧
    w.cell? ⟨b, off + j * 5 + 4, none⟩ = some (.slice R (msAt ls j).p.length cr) ∧ Mg.MsIn w R (msAt ls j).p.length cr (msAt ls j).p ∧ Fit (msAt ls j).i
theorem desk_neS {w : World} {D mb m : Nat} {dk : Dk} (h : Dq w D mb m dk) {b off : Nat} {R : Option Addr} {n c : Nat} (hc : w.cell? ⟨b, off, none⟩ = some (.slice R n c)) : b ≠ mb ∧ b ≠ D := by
  constructor
  · rintro rfl
    obtain ⟨es, c, hm⟩ := h.map.isMap
    simp [World.cell?, hm] at hc
  · rintro rfl
    rw [cell_of_row w b off _ _ (0, 0) h.box] at hc
    unfold dkC at hc
    match off, hc with
    | 0, hc => simp at hc
    | 1, hc => simp at hc
    | 2, hc => simp at hc
    | 3, hc => simp at hc
    | n + 4, hc => simp at hc
theorem ms_desk {w W : World} {D mb m : Nat} {dk : Dk} {A : Option Addr} {n c : Nat} {l : List Nat} (h : Dq w D mb m dk) (hi : Mg.MsIn w A n c l) (hb : But (fun k => k = mb ∨ k = D) w W) : Mg.MsIn W A n c l :=
  ⟨⟨hi.1.1, hi.1.2.1, hi.1.2.2.1, (rd_desk h hi.1.2.2.2.1 (Nat.le_refl _) hb).more hb.size, hi.1.2.2.2.2⟩, hi.2⟩
theorem Hl.desk {w W : World} {D mb m : Nat} {dk : Dk} {a : Option Addr} {ls : List Ms} (h : Dq w D mb m dk) (hl : Hl w a ls) (hb : But (fun k => k = mb ∨ k = D) w W) : Hl W a ls := fun j hj => by
  obtain ⟨b, off, R, cr, e, h1, c0, c1, c2, c3, c4, hm, hf⟩ := hl j hj
  have hne := desk_neS h c4
  have hs := hb.same b h1 (fun e => e.elim hne.1 hne.2)
  have cc := fun k => World.cell?_of_block (w := w) (w' := W) (a := ⟨b, k, none⟩) hs
  exact ⟨b, off, R, cr, e, Nat.lt_of_lt_of_le h1 hb.size, (cc _).trans c0, (cc _).trans c1, (cc _).trans c2, (cc _).trans c3, (cc _).trans c4, ms_desk h hm hb, hf⟩
theorem rdi_desk {w W : World} {D mb m : Nat} {dk : Dk} {A : Option Addr} {l : List Int} (h : Mi.Rd w w.heap.size A l) (hn : ∀ b off, A = some ⟨b, off, none⟩ → 0 < l.length → b ≠ mb ∧ b ≠ D) (hb : But (fun k => k = mb ∨ k = D) w W) : Mi.Rd W W.heap.size A l := fun hl => by
  obtain ⟨b, off, e, h1, h2⟩ := h hl
  have hne := hn b off e hl
  exact ⟨b, off, e, Nat.lt_of_lt_of_le h1 hb.size, fun i hi => (World.cell?_of_block (w := w) (w' := W) (a := ⟨b, off + i, none⟩) (hb.same b h1 (fun e => e.elim hne.1 hne.2))).trans (h2 i hi)⟩
end Go.Proofs.Ytohfoieibgmmdaa.Hp
