/- A store among a law's own things: its blocks lie from M on, none of O. -/
import Derived.Test.YtpofdimagfldnaaSoApp
import Derived.Test.YtpofdimagfldnaaSoAsk
namespace Go.Proofs.Ytpofdimagfldnaa.So
open Go.RowKit
open Go.Proofs.Ytpofdimagfldnaa.Me Go.Proofs.Ytpofdimagfldnaa.Sb
set_option linter.unusedVariables false
set_option linter.unusedSimpArgs false

/-- What is the store's: from M on, none of O. -/
def Out (M : Nat) (O : Nat → Prop) (k : Nat) : Prop := M ≤ k ∧ ¬ O k
def Lv (M : Nat) (O : Nat → Prop) (w : World) (m D : Nat) (s : Sto) : Prop := ∃ hb sd sb m' v, m' ≤ m ∧ Sq (Out M O) w D hb sd sb m' v s ∧ ∀ k, Chg D hb sd sb v k → Out M O k
section
variable {M : Nat} {O O' S : Nat → Prop} {w w' : World} {m D : Nat} {s : Sto}
theorem Lv.lt (h : Lv M O w m D s) : D < w.heap.size ∧ M ≤ D ∧ ¬ O D := by
  obtain ⟨hb, sd, sb, m', v, _, h1, h2⟩ := h
  exact ⟨h1.box.lt, h2 D (.inl rfl)⟩
theorem Lv.ok (h : Lv M O w m D s) : Ok s := by
  obtain ⟨hb, sd, sb, m', v, _, h1, h2⟩ := h
  exact h1.ok
/-- It lies on, whatever is turned of O, of what is older than M, of new blocks, if none of these is one of ints. -/
theorem Lv.but (h : Lv M O w m D s) (hb' : But S w w') (hS : ∀ k, S k → O k ∨ k < M ∨ w.heap.size ≤ k) (hI : ∀ (k : Nat) (cs : Array Value), S k → w.heap[k]? ≠ some (.cells cs 3 (0, 0))) : Lv M O w' m D s := by
  obtain ⟨hb, sd, sb, m', v, hm, h1, h2⟩ := h
  refine ⟨hb, sd, sb, m', v, hm, h1.but hb' (fun k hk hs => ?_) hI (fun k cs hs he hk => ?_), h2⟩
  · have h3 := h2 k hk
    have h4 := h1.lt k hk
    rcases hS k hs with h5 | h5 | h5
    · exact h3.2 h5
    · have := h3.1; omega
    · omega
  · have h4 := (Array.getElem?_eq_some_iff.1 hk).1
    rcases hS k hs with h5 | h5 | h5
    · exact he.2 h5
    · have := he.1; omega
    · omega
theorem Lv.below (h : Lv M O w m D s) (hb' : Below w.heap.size w w') : Lv M O w' m D s := h.but (S := fun _ => False) (But.of_below hb') (fun _ h => h.elim) fun _ _ h => h.elim
theorem Lv.other (h : Lv M O w m D s) (hO : ∀ k, k < w.heap.size → O' k → O k) : Lv M O' w m D s := by
  obtain ⟨hb, sd, sb, m', v, hm, h1, h2⟩ := h
  exact ⟨hb, sd, sb, m', v, hm, h1.keep (fun _ _ => rfl) (fun _ _ _ => rfl) (fun _ _ _ _ => rfl) fun k hk he => ⟨he.1, fun h => he.2 (hO k hk h)⟩, fun k hk => ⟨(h2 k hk).1, fun h => (h2 k hk).2 (hO k (h1.lt k hk) h)⟩⟩
theorem Lv.mono (h : Lv M O w m D s) {n : Nat} (hn : m ≤ n) : Lv M O w n D s := by
  obtain ⟨hb, sd, sb, m', v, hm, h1, h2⟩ := h
  exact ⟨hb, sd, sb, m', v, by omega, h1, h2⟩
theorem but_out (h : But (Out M O) w w') (hM : M ≤ w.heap.size) : Below M w w' := h.below hM fun k hk => hk.1
end
section
variable (M : Nat) (O : Nat → Prop) (w : World) (m D : Nat) (s : Sto)
theorem New_l (me qh qb qg : Int) (h : NewOk me qh qb qg) (w : World) (hM : M ≤ w.heap.size) (hO : ∀ k, O k → k < w.heap.size) : Calls Try.prog 20 #[.int .i64 me, .agg #[.int .i64 qh, .int .i64 qb, .int .i64 qg]] w fun e w' =>
    ∃ D, e = .returned (.tuple #[.pointer (some ⟨D, 0, none⟩), .int .i64 0]) ∧ Hid (Lv M O w' 0 D (new0 me qh qb qg)) ∧ Hid (Below w.heap.size w w') :=
  (New_ok (Out M O) me qh qb qg h w).mono fun e w' h => by
    obtain ⟨D, hb, sd, sb, rfl, h1, h2, h3⟩ := h
    have hh := h2.out
    have hn : ∀ k, w.heap.size ≤ k → Out M O k := fun k hk => ⟨by omega, fun h => by have := hO k h; omega⟩
    refine ⟨D, rfl, ⟨hb, sd, sb, 0, _, Nat.le_refl _, h1.out, ?_⟩, h3⟩
    rintro k (rfl | rfl | rfl | rfl | e)
    · exact hn _ hh.1
    · exact hn _ hh.2.1
    · exact hn _ hh.2.2.1
    · exact hn _ hh.2.2.2
    · cases e
theorem Apply_l (k : Int) (i : Mg.Id4) (A : Option Addr) (c : Nat) (p : List Nat) (hm : m ≤ 1000000) (hp : Rd w w.heap.size A p) (hA : A = none → p.length = 0 ∧ c = 0) (hM : M ≤ w.heap.size) (hO : ∀ k, O k → k < w.heap.size) (h : Hid (Lv M O w m D s)) :
    Calls Try.prog 19 #[.pointer (some ⟨D, 0, none⟩), .agg (evC k i A p.length c)] w fun e w' => e = .returned (.int .i64 (mayE s k i p.length : Int)) ∧ Hid (Lv M O w' (m + 1) D (appE s k i p)) ∧ Hid (But (Out M O) w w') := by
  obtain ⟨hb, sd, sb, m', v, hm', h1, h2⟩ := h.out
  have hn : ∀ k, w.heap.size ≤ k → Out M O k := fun k hk => ⟨by omega, fun h => by have := hO k h; omega⟩
  refine (Apply_any (Out M O) D hb sd sb m' v s w k i A c p (by omega) hp hA hn h1).mono fun e w' hq => ?_
  unfold AppP at hq
  obtain ⟨he, v2, m2, hm2, hs2, hb2, hv2⟩ := hq
  refine ⟨he, ⟨hb, sd, sb, m2, v2, by omega, hs2.out, ?_⟩, hb2.out.mono fun k _ hk => h2 k hk⟩
  rintro k (e | e | e | e | e)
  · exact h2 k (.inl e)
  · exact h2 k (.inr (.inl e))
  · exact h2 k (.inr (.inr (.inl e)))
  · exact h2 k (.inr (.inr (.inr (.inl e))))
  · rcases hv2.out k e with e | e
    · exact h2 k (.inr (.inr (.inr (.inr e))))
    · exact hn k e
theorem May_l (k : Int) (i : Mg.Id4) (A : Option Addr) (n c : Nat) (h : Hid (Lv M O w m D s)) : Calls Try.prog 29 #[.pointer (some ⟨D, 0, none⟩), .agg (evC k i A n c)] w fun e w' => e = .returned (.int .i64 (mayE s k i n : Int)) ∧ Hid (Below w.heap.size w w') := by
  obtain ⟨hb, sd, sb, m', v, hm', h1, h2⟩ := h.out
  exact May_any (Out M O) D hb sd sb m' v s w k i A n c h1
theorem Fresh_l (d : Int) (h : Hid (Lv M O w m D s)) : Calls Try.prog 10 #[.pointer (some ⟨D, 0, none⟩), .int .i64 d] w fun e w' => e = .returned (.tuple #[.agg (Mg.idC (frI s d)), .int .i64 (frN s d : Int)]) ∧ Hid (Below w.heap.size w w') := by
  obtain ⟨hb, sd, sb, m', v, hm', h1, h2⟩ := h.out
  exact Fresh_any (Out M O) D hb sd sb m' v s w d h1
theorem Find_l (i : Mg.Id4) (hf : Fit i) (h : Hid (Lv M O w m D s)) : Calls Try.prog 12 #[.pointer (some ⟨D, 0, none⟩), .agg (Mg.idC i)] w (FndP (Out M O) s i w) := by
  obtain ⟨hb, sd, sb, m', v, hm', h1, h2⟩ := h.out
  exact Find_any (Out M O) D hb sd sb m' v s w i hf h1
end
end Go.Proofs.Ytpofdimagfldnaa.So
