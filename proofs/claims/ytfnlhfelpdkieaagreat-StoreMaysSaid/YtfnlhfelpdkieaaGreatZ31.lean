/- What a law writes over: bytes, messages, counters of its own. -/
import Derived.Test.YtfnlhfelpdkieaaGreatZ30
import Derived.Test.YtfnlhfelpdkieaaGreatZ12
import Derived.Test.YtfnlhfelpdkieaaGreatSoDone
import Derived.Test.YtfnlhfelpdkieaaGreatZ20
namespace Go.Proofs.YtfnlhfelpdkieaaGreat.So
open Go.RowKit
open Go.Proofs.YtfnlhfelpdkieaaGreat.Me Go.Proofs.YtfnlhfelpdkieaaGreat.Sb
set_option linter.unusedVariables false
set_option linter.unusedSimpArgs false

/-- n bytes from the beginning of a block from B on, whatever they are. -/
def Dat (w : World) (B : Nat) (A : Option Addr) (n : Nat) : Prop :=
  n = 0 ∨ ∃ g cs, A = some ⟨g, 0, none⟩ ∧ B ≤ g ∧ w.heap[g]? = some (.cells cs 5 (0, 0)) ∧ ∀ i, i < n → ∃ b : Nat, b < 256 ∧ cs[i]? = some (byV b)
section
variable {w w' : World} {B : Nat} {A : Option Addr} {n : Nat}
theorem Dat.of_own {c : Nat} {l : List Nat} (h : Me.Own w B (.slice A l.length c) l) (hl : ∀ z ∈ l, z < 256) : Dat w B A l.length := by
  rcases h.2 with ⟨h1, h2⟩ | ⟨g, cap, cur, h1, h2, h3, h4, h5, h6, h7⟩
  · exact .inl h2
  · cases h1
    refine .inr ⟨g, cur, rfl, h2, h3, fun i hi => ⟨l[i], hl _ (List.getElem_mem _), ?_⟩⟩
    have e : (l.map byV)[i]? = some (byV l[i]) := by simp [hi]
    rw [← h7, List.getElem?_take, if_pos (by omega), Array.getElem?_toList] at e
    exact e
theorem Dat.at_ (h : Dat w B A n) {i : Nat} (hi : i < n) : ∃ (g b : Nat) (cs : Array Value), A = some ⟨g, 0, none⟩ ∧ B ≤ g ∧ b < 256 ∧ w.heap[g]? = some (.cells cs 5 (0, 0)) ∧ w.cell? ⟨g, i, none⟩ = some (.int .u8 (b : Int)) ∧ w.frozen? ⟨g, i, none⟩ = false := by
  rcases h with h | ⟨g, cs, h1, h2, h3, h4⟩
  · omega
  · obtain ⟨b, hb, hc⟩ := h4 i hi
    exact ⟨g, b, cs, h1, h2, hb, h3, (cell_of_row w g i _ _ (0, 0) h3).trans hc, frozen_of_row w g i _ _ h3⟩
theorem Dat.set (h : Dat w B A n) (g i : Nat) {b : Nat} (hb : b < 256) : Dat (w.setCell ⟨g, i, none⟩ (.int .u8 (b : Int))) B A n := by
  rcases h with h | ⟨g', cs, h1, h2, h3, h4⟩
  · exact .inl h
  · by_cases e : g' = g
    · subst e
      refine .inr ⟨g', _, h1, h2, heap_setCell_same w g' i _ _ _ h3, fun k hk => ?_⟩
      rw [Array.getElem?_setIfInBounds]
      obtain ⟨b', hb', hc⟩ := h4 k hk
      by_cases e : i = k
      · subst e
        rw [if_pos rfl, if_pos (Array.getElem?_eq_some_iff.1 hc).1]
        exact ⟨b, hb, rfl⟩
      · rw [if_neg e]
        exact ⟨b', hb', hc⟩
    · exact .inr ⟨g', cs, h1, h2, (heap_setCell_other w _ _ _ e).trans h3, h4⟩
theorem Dat.keep (h : Dat w B A n) (hk : ∀ (k : Nat) (cs : Array Value), w.heap[k]? = some (.cells cs 5 (0, 0)) → w'.heap[k]? = w.heap[k]?) : Dat w' B A n := by
  rcases h with h | ⟨g, cs, h1, h2, h3, h4⟩
  · exact .inl h
  · exact .inr ⟨g, cs, h1, h2, (hk g cs h3).trans h3, h4⟩
theorem Dat.below (h : Dat w B A n) (hb : Below w.heap.size w w') : Dat w' B A n := h.keep fun k cs hk => hb.block k (Array.getElem?_eq_some_iff.1 hk).1
end
/-- Messages from place i on: their rows, and bytes, whatever these are. -/
def Mz (w : World) (B : Nat) (A : Option Addr) (P : List Pq) (i : Nat) : Prop :=
  ∀ j p, i ≤ j → P[j]? = some p → ∃ (g : Nat) (cur : Array Value), A = some ⟨g, 0, none⟩ ∧ B ≤ g ∧ w.heap[g]? = some (.cells cur 46 (0, 0)) ∧ (∀ k u, k < 5 → (qV p)[k]? = some u → cur[j * 5 + k]? = some u) ∧ Dat w B p.A p.x.p.length
section
variable {w w' : World} {B : Nat} {A : Option Addr} {P : List Pq} {i : Nat}
theorem Mz.of_ow {n c : Nat} (h : Ow w B (.slice A n c) P) (hl : ∀ p ∈ P, ∀ z ∈ p.x.p, z < 256) : Mz w B A P 0 := fun j p _ hj => by
  have h0 := h.own
  have hlt := (List.getElem?_eq_some_iff.1 hj).1
  rcases h0.2 with ⟨h1, h2⟩ | ⟨g, cap, cur, h1, h2, h3, h4, h5, h6, h7⟩
  · have : P = [] := by simpa using h2
    subst this; simp at hlt
  · cases h1
    refine ⟨g, cur, rfl, h2, h3, fun k u hk hu => ?_, Dat.of_own (h.each p (List.mem_of_getElem? hj)) (hl p (List.mem_of_getElem? hj))⟩
    have e := qsV_get hj hk
    rw [hu, ← h7, List.getElem?_take, if_pos (by omega), Array.getElem?_toList] at e
    exact e
theorem Mz.at_ (h : Mz w B A P i) {p : Pq} (hj : P[i]? = some p) : ∃ g : Nat, A = some ⟨g, 0, none⟩ ∧ B ≤ g ∧ (∃ cur : Array Value, w.heap[g]? = some (.cells cur 46 (0, 0)) ∧ i * 5 + 4 < cur.size) ∧ w.cell? ⟨g, i * 5, none⟩ = some (.int .i64 p.x.i.o) ∧ w.cell? ⟨g, i * 5 + 1, none⟩ = some (.int .i64 p.x.i.d) ∧ w.cell? ⟨g, i * 5 + 2, none⟩ = some (.int .i64 p.x.i.e) ∧ w.cell? ⟨g, i * 5 + 3, none⟩ = some (.int .i64 p.x.i.c) ∧ w.cell? ⟨g, i * 5 + 4, none⟩ = some p.v ∧ (∀ k, w.frozen? ⟨g, k, none⟩ = false) ∧ Dat w B p.A p.x.p.length := by
  obtain ⟨g, cur, h1, h2, h3, h4, h5⟩ := h i p (Nat.le_refl _) hj
  have hx : ∀ k u, k < 5 → (qV p)[k]? = some u → w.cell? ⟨g, i * 5 + k, none⟩ = some u := fun k u hk hu => (cell_of_row w g _ _ _ (0, 0) h3).trans (h4 k u hk hu)
  exact ⟨g, h1, h2, ⟨cur, h3, (Array.getElem?_eq_some_iff.1 (h4 4 _ (by omega) rfl)).1⟩, hx 0 _ (by omega) rfl, hx 1 _ (by omega) rfl, hx 2 _ (by omega) rfl, hx 3 _ (by omega) rfl, hx 4 _ (by omega) rfl, fun k => frozen_of_row w g k _ _ h3, h5⟩
/-- A byte is written. -/
theorem Mz.set (h : Mz w B A P i) {g k : Nat} {cs : Array Value} (hg : w.heap[g]? = some (.cells cs 5 (0, 0))) {b : Nat} (hb : b < 256) : Mz (w.setCell ⟨g, k, none⟩ (.int .u8 (b : Int))) B A P i := fun j p hij hj => by
  obtain ⟨g', cur, h1, h2, h3, h4, h5⟩ := h j p hij hj
  have hne : g' ≠ g := fun e => by
    subst e
    rw [h3] at hg
    simp at hg
  exact ⟨g', cur, h1, h2, (heap_setCell_other w _ _ _ hne).trans h3, h4, h5.set g k hb⟩
/-- The row at place i is written. -/
theorem Mz.row (h : Mz w B A P i) {g : Nat} (hA : A = some ⟨g, 0, none⟩) (hP : i < P.length) {us : List Value} (hu : us.length = 5) : Mz (w.setCells g (i * 5) us) B A P (i + 1) := fun j p hij hj => by
  obtain ⟨g', cur, h1, h2, h3, h4, h5⟩ := h j p (by omega) hj
  rw [hA] at h1
  cases h1
  obtain ⟨cur', q1, q2, q3, q4⟩ := heap_setCells g 46 us (i * 5) w cur h3
  refine ⟨g, cur', hA, h2, q1, fun k u hk hku => by rw [q3 _ (.inr (by rw [hu]; omega))]; exact h4 k u hk hku, h5.keep fun k cs hk => ?_⟩
  have hne : k ≠ g := fun e => by
    subst e
    rw [h3] at hk
    simp at hk
  exact (but_setCells w g (i * 5) us).1.same k (Array.getElem?_eq_some_iff.1 hk).1 hne
theorem Mz.below (h : Mz w B A P i) (hb : Below w.heap.size w w') : Mz w' B A P i := fun j p hij hj => by
  obtain ⟨g, cur, h1, h2, h3, h4, h5⟩ := h j p hij hj
  exact ⟨g, cur, h1, h2, (hb.block g (Array.getElem?_eq_some_iff.1 h3).1).trans h3, h4, h5.below hb⟩
end
/-- n counters of one's own, whatever they are. -/
def Nz (w : World) (B : Nat) (A : Option Addr) (n : Nat) : Prop :=
  n = 0 ∨ ∃ g cs, A = some ⟨g, 0, none⟩ ∧ B ≤ g ∧ w.heap[g]? = some (.cells cs 62 (0, 0)) ∧ n * 2 ≤ cs.size
section
variable {w w' : World} {B : Nat} {A : Option Addr} {n : Nat}
theorem Nz.of_kn {c : Nat} {l : Nx} (h : Kn w B (.slice A n c) l) : Nz w B A l.length := by
  rcases h.2 with ⟨h1, h2⟩ | ⟨g, cap, cur, h1, h2, h3, h4, h5, h6, h7⟩
  · exact .inl h2
  · cases h1
    exact .inr ⟨g, cur, rfl, h2, h3, by rw [h6]; omega⟩
theorem Nz.at_ (h : Nz w B A n) {i : Nat} (hi : i < n) : ∃ (g : Nat) (u : Value), A = some ⟨g, 0, none⟩ ∧ B ≤ g ∧ g < w.heap.size ∧ w.cell? ⟨g, i * 2 + 1, none⟩ = some u ∧ w.frozen? ⟨g, i * 2 + 1, none⟩ = false := by
  rcases h with h | ⟨g, cs, h1, h2, h3, h4⟩
  · omega
  · have hl : i * 2 + 1 < cs.size := by omega
    exact ⟨g, cs[i * 2 + 1], h1, h2, (Array.getElem?_eq_some_iff.1 h3).1, (cell_of_row w g _ _ _ (0, 0) h3).trans (Array.getElem?_eq_getElem hl), frozen_of_row w g _ _ _ h3⟩
theorem Nz.set (h : Nz w B A n) (g i : Nat) (u : Value) : Nz (w.setCell ⟨g, i, none⟩ u) B A n := by
  rcases h with h | ⟨g', cs, h1, h2, h3, h4⟩
  · exact .inl h
  · by_cases e : g' = g
    · subst e
      exact .inr ⟨g', _, h1, h2, heap_setCell_same w g' i _ _ _ h3, by simpa using h4⟩
    · exact .inr ⟨g', cs, h1, h2, (heap_setCell_other w _ _ _ e).trans h3, h4⟩
theorem Nz.below (h : Nz w B A n) (hb : Below w.heap.size w w') : Nz w' B A n := by
  rcases h with h | ⟨g, cs, h1, h2, h3, h4⟩
  · exact .inl h
  · exact .inr ⟨g, cs, h1, h2, (hb.block g (Array.getElem?_eq_some_iff.1 h3).1).trans h3, h4⟩
end
theorem appE_no {s : Sto} {k : Int} {i : Mg.Id4} {p : List Nat} (h : mayE s k i p.length ≠ 0) : appE s k i p = s := by unfold appE; rw [if_pos h]
end Go.Proofs.YtfnlhfelpdkieaaGreat.So
/- The law of May: it says what Apply says, and changes nothing; what was told may be written over. -/
namespace Go.Proofs.YtfnlhfelpdkieaaGreat.So
open Go.RowKit
open Go.Proofs.YtfnlhfelpdkieaaGreat.Me Go.Proofs.YtfnlhfelpdkieaaGreat.Sb
open Go.Proofs.YtfnlhfelpdkieaaGreat.Se (Mw Pm)
set_option linter.unusedVariables false
set_option linter.unusedSimpArgs false

set_option maxRecDepth 100000 in
set_option maxHeartbeats 16000000 in
theorem storeMays_no (me qh qb qg : Int) (v1 : Value) (k : Int) (i : Mg.Id4) (R : Option Addr) (n c : Nat) (w : World) (h : ¬ NewOk me qh qb qg) : Calls Tryz.prog 4 #[.agg #[.int .i64 me, .int .i64 qh, .int .i64 qb, .int .i64 qg], v1, .agg (evC k i R n c)] w fun e w' => e = .returned (.bool true) ∧ Below w.heap.size w w' := by
  unfold evC
  obtain ⟨hB, hY, hX⟩ := two_new w #[.int .i64 me, .int .i64 qh, .int .i64 qb, .int .i64 qg] #[.int .i64 k, .int .i64 i.o, .int .i64 i.d, .int .i64 i.e, .int .i64 i.c, .slice R n c] 25 48
  obtain ⟨x0, x1, x2, x3⟩ := set_cells hX
  have HD := Lib.hid (fun W => done_no me qh qb qg W v1 h)
  have HAw := Lib.hid (fun W => awake_any W)
  have HB := Lib.hid hB
  unfold rs0 at HD
  clear h hB hY hX
  go_enter Tryz.func4, Tryz.ntmps4
  go_wp2_with (first
    | (go_at_call 15; refine (HD.out _).mono ?_; rintro e w2 ⟨rfl, b2⟩)
    | (go_at_call 9; refine (HAw.out _).mono ?_; rintro e w3 ⟨rfl, b3⟩))
  go_ret
  exact ⟨rfl, go_on (go_on (go_on HB.out b2.out) (Me.below_alloc (Below.refl _ _))) b3.out⟩
/-- What holds between the calls. -/
structure Ln (w1 : World) (D : Nat) (O : Nat → Prop) (s : Sto) (m : Nat) (K : Se.Ks) (vU vL vK : Value) (P : List Pq) (ib X : Nat) (ev : Array Value) (W : World) : Prop where
  dn : Dn w1 D W O s m K vU vL vK P
  ev : W.heap[ib]? = some (.cells ev 48 (0, 0))
  st : W.heap[X]? = some (.cells (rsv s vU vL vK) 37 (0, 0))
section
variable {w1 : World} {D : Nat} {O : Nat → Prop} {s : Sto} {m : Nat} {K : Se.Ks} {vU vL vK : Value} {P : List Pq} {ib X : Nat} {ev : Array Value} {W W' : World}
theorem Ln.go (h : Ln w1 D O s m K vU vL vK P ib X ev W) (hb : Below W.heap.size W W') : Ln w1 D O s m K vU vL vK P ib X ev W' :=
  ⟨h.dn.go hb, (hb.block _ (Array.getElem?_eq_some_iff.1 h.ev).1).trans h.ev, (hb.block _ (Array.getElem?_eq_some_iff.1 h.st).1).trans h.st⟩
end
/-- The law's own blocks: those behind done, and what lies from there to N. -/
def OW (O : Nat → Prop) (a N : Nat) (k : Nat) : Prop := O k ∨ (a ≤ k ∧ k < N)
theorem Dn.apply {w1 w2 W : World} {D : Nat} {O : Nat → Prop} {s : Sto} {m : Nat} {K : Se.Ks} {vU vL vK : Value} {P : List Pq} (h : Dn w1 D w2 O s m K vU vL vK P) (hW : Below w2.heap.size w2 W) (k : Int) (i : Mg.Id4) (R : Option Addr) (c : Nat) (p : List Nat) (hp : Rd W W.heap.size R p) (hR : R = none → p.length = 0 ∧ c = 0) :
    Calls Tryz.prog 13 #[.pointer (some ⟨D, 0, none⟩), .agg (evC k i R p.length c)] W fun e w' => e = .returned (.int .i64 (mayE s k i p.length : Int)) ∧ Hid (Lv w1.heap.size (OW O w2.heap.size W.heap.size) w' (m + 1) D (appE s k i p)) ∧ Hid (But (Out w1.heap.size (OW O w2.heap.size W.heap.size)) W w') := by
  have hz := hW.size
  have hb := (go_on h.below hW).size
  have hl : Lv w1.heap.size (OW O w2.heap.size W.heap.size) W m D s := (h.lv.other fun k hk ho => ho.elim id fun q => by omega).below hW
  exact Apply_l _ _ W m D s k i R c p (by have := h.m50; omega) hp hR hb (fun k hk => hk.elim (fun q => by have := (h.oge k q).2; omega) fun q => q.2) (Lib.hid hl)
/-- What lies behind done's end stays behind such a call. -/
theorem ow_same {w1 w2 W w' : World} {O : Nat → Prop} {X : Nat} {o : Obj} (hb : But (Out w1.heap.size (OW O w2.heap.size W.heap.size)) W w') (hX : w2.heap.size ≤ X) (h : W.heap[X]? = some o) : w'.heap[X]? = some o := by
  have hl := (Array.getElem?_eq_some_iff.1 h).1
  exact (hb.same X hl fun hs => hs.2 (.inr ⟨hX, hl⟩)).trans h
theorem below_set {w0 w : World} {p : Addr} (h : Below w0.heap.size w0 w) (hp : w0.heap.size ≤ p.block) (u : Value) : Below w0.heap.size w0 (w.setCell p u) :=
  h.trans (((But.refl (fun k => k = p.block) w).set (p := p) (.inl rfl) u).below h.size fun k hk => by rw [hk]; exact hp)
theorem below_cells {w0 w : World} {g o : Nat} (h : Below w0.heap.size w0 w) (hp : w0.heap.size ≤ g) (us : List Value) : Below w0.heap.size w0 (w.setCells g o us) :=
  h.trans ((but_setCells w g o us).1.below h.size fun k hk => by rw [hk]; exact hp)
set_option maxRecDepth 100000 in
set_option maxHeartbeats 64000000 in
theorem storeMays_ok (me qh qb qg : Int) (A : Option Addr) (len cap : Nat) (ls : List Evt) (ek : Int) (ei : Mg.Id4) (R : Option Addr) (cr : Nat) (ep : List Nat) (w : World) (h : NewOk me qh qb qg) (hl : len = ls.length ∧ len ≤ cap ∧ cap ≤ 9223372036854775807 ∧ Evs w A ls) (hR : Me.Rd w w.heap.size R ep) (hRn : R = none → ep.length = 0 ∧ cr = 0) :
    Calls Tryz.prog 4 #[.agg #[.int .i64 me, .int .i64 qh, .int .i64 qb, .int .i64 qg], .slice A len cap, .agg (evC ek ei R ep.length cr)] w fun e w' => e = .returned (.bool true) ∧ Below w.heap.size w w' := by
  obtain ⟨hB, hY, hX⟩ := two_new w #[.int .i64 me, .int .i64 qh, .int .i64 qb, .int .i64 qg] (evC ek ei R ep.length cr) 25 48
  obtain ⟨s0, s1, s2, s3⟩ := set_cells hX
  have HD := Lib.hid (fun W (hW : Below w.heap.size w W) => done_ok me qh qb qg A len cap ls W h ⟨hl.1, hl.2.1, hl.2.2.1, hl.2.2.2.below hW⟩)
  simp only [rsv, rsc] at HD
  have HAw := Lib.hid (fun W => awake_any W)
  have HR := Lib.hid (fun W (hW : Below w.heap.size w W) => Me.Rd.more (hR.below hW) hW.size)
  have HRn := Lib.hid hRn
  have HB := Lib.hid hB
  have HY := Lib.hid hY
  obtain ⟨en, hen⟩ : ∃ n, ep.length = n := ⟨_, rfl⟩
  have HEn := Lib.hid hen
  rw [hen] at HY HB s0 s1 s2 s3 ⊢
  clear h hB hY hX hl hR hRn hen
  simp only [evC] at HY HB s0 s1 s2 s3 ⊢
  obtain ⟨eo, ed, ee, ec⟩ := ei
  simp only at HY HB s0 s1 s2 s3 ⊢
  obtain ⟨W1, hW1⟩ : ∃ W, (w.alloc (.cells #[.int .i64 me, .int .i64 qh, .int .i64 qb, .int .i64 qg] 25)).alloc (.cells #[.int .i64 ek, .int .i64 eo, .int .i64 ed, .int .i64 ee, .int .i64 ec, .slice R en cr] 48) = W := ⟨_, rfl⟩
  have HW1 := Lib.hid hW1
  rw [hW1] at HY HB
  clear hW1
  go_enter Tryz.func4, Tryz.ntmps4
  go_wp2_with (first
    | (go_at_call 15
       rw [HW1.out]
       refine (HD.out W1 HB.out).mono ?_
       rintro e w2 ⟨D, s, vU, vL, vK, rfl, O, m, K, P, dn⟩
       obtain ⟨Au, cu, rfl, _⟩ := dn.out.rf.un.form
       obtain ⟨Al, cl, rfl, _⟩ := dn.out.rf.ml.form
       obtain ⟨Ak, ck, rfl, _⟩ := dn.out.rf.kv.form
       obtain ⟨nu, hnu⟩ : ∃ n, (usedTo s.last 64).length = n := ⟨_, rfl⟩
       obtain ⟨nl, hnl⟩ : ∃ n, P.length = n := ⟨_, rfl⟩
       obtain ⟨nk, hnk⟩ : ∃ n, K.length = n := ⟨_, rfl⟩
       rw [hnu, hnl, hnk] at dn ⊢
       clear hnu hnl hnk
       have hbn := dn.out.below
       have hy2 := (hbn.block _ (Array.getElem?_eq_some_iff.1 HY.out).1).trans HY.out
       have hba : Below w2.heap.size w2 (w2.alloc (.cells #[.int .i64 s.self, .int .i64 s.qh, .int .i64 s.qb, .int .i64 s.qg, .int .i64 s.epoch, .slice Au nu cu, .slice Al nl cl, .int .i64 s.qg, .slice Ak nk ck] 37)) := Me.below_alloc (Below.refl _ _)
       have S2 : Hid (Ln W1 D O s m K (.slice Au nu cu) (.slice Al nl cl) (.slice Ak nk ck) P (w.heap.size + 1) w2.heap.size #[.int .i64 ek, .int .i64 eo, .int .i64 ed, .int .i64 ee, .int .i64 ec, .slice R en cr] (w2.alloc (.cells #[.int .i64 s.self, .int .i64 s.qh, .int .i64 s.qb, .int .i64 s.qg, .int .i64 s.epoch, .slice Au nu cu, .slice Al nl cl, .int .i64 s.qg, .slice Ak nk ck] 37))) := ⟨dn.out.go hba, (hba.block _ (Array.getElem?_eq_some_iff.1 hy2).1).trans hy2, heap_alloc_new w2 _⟩
       have hw2 : Hid (Below w.heap.size w (w2.alloc (.cells #[.int .i64 s.self, .int .i64 s.qh, .int .i64 s.qb, .int .i64 s.qg, .int .i64 s.epoch, .slice Au nu cu, .slice Al nl cl, .int .i64 s.qg, .slice Ak nk ck] 37))) := go_on (go_on HB.out hbn) hba
       obtain ⟨V2, hV2⟩ : ∃ V, w2.alloc (.cells #[.int .i64 s.self, .int .i64 s.qh, .int .i64 s.qb, .int .i64 s.qg, .int .i64 s.epoch, .slice Au nu cu, .slice Al nl cl, .int .i64 s.qg, .slice Ak nk ck] 37) = V := ⟨_, rfl⟩
       have HV2 := Lib.hid hV2
       rw [hV2] at S2 hw2 hba
       have HBA := Lib.hid hba
       clear hbn hy2 hba hV2)
    | (go_at_call 16
       rw [HV2.out]
       refine (Held_l _ O V2 m D s (Lib.hid S2.out.dn.lv)).mono ?_
       rintro e w4 ⟨vh, PH, rfl, oH, pH, b4⟩
       obtain ⟨aH, cH, rfl, _⟩ := oH.out.form))
  have hby : ∀ p ∈ PH, ∀ z ∈ p.x.p, z < 256 := fun p hp => (S2.out.dn.lv.ok.all p.x (by rw [← pH.out]; exact List.mem_map_of_mem hp)).2.2
  have HMz0 := Lib.hid (Mz.of_ow oH.out hby)
  have hnp : ∀ p ∈ PH, p.x.p.length ≤ 48 := fun p hp => (msgN_zero (S2.out.dn.lv.ok.all p.x (by rw [← pH.out]; exact List.mem_map_of_mem hp)).1).2.2
  have hnH9 : PH.length ≤ 256 := by
    have h1 := S2.out.dn.lv.ok.len
    have h2 := S2.out.dn.lv.ok.h1
    have h3 := congrArg List.length pH.out
    rw [List.length_map] at h3
    omega
  have HNp := Lib.hid hnp
  obtain ⟨nH, hnH⟩ : ∃ n, PH.length = n := ⟨_, rfl⟩
  rw [hnH] at hnH9
  have HN9 := Lib.hid hnH9
  have HNH := Lib.hid hnH
  obtain ⟨X, hXe⟩ : ∃ X, w2.heap.size = X := ⟨_, rfl⟩
  rw [hnH]
  rw [hXe] at S2 ⊢
  have HXe := Lib.hid hXe
  clear hby hnH hXe oH pH hnp hnH9 s0 s1 s2 s3 HD HV2
  go_loopw [11] (fun v11 wr => ∃ j : Nat, v11 = .int .i64 (j : Int) ∧ j ≤ nH ∧ Hid (Mz wr V2.heap.size aH PH j) ∧ Hid (Below V2.heap.size V2 wr)) (fun v11 _ => nH - (intOf v11).toNat)
  case atStart => exact ⟨0, rfl, Nat.zero_le _, HMz0, b4⟩
  case round =>
    obtain ⟨j, rfl, hj, HM, HBr⟩ := hrel
    by_cases hlt : j < nH
    · obtain ⟨p, hp⟩ : ∃ p, PH[j]? = some p := ⟨_, List.getElem?_eq_getElem (by have := HNH.out; omega)⟩
      have HP := Lib.hid hp
      obtain ⟨g, rfl, hg, _, x0, x1, x2, x3, x4, xf, xd⟩ := HM.out.at_ hp
      have HG := Lib.hid hg
      unfold Pq.v at x4
      obtain ⟨np, hnp⟩ : ∃ n, p.x.p.length = n := ⟨_, rfl⟩
      have HNP := Lib.hid hnp
      rw [hnp] at x4
      obtain ⟨pA, hpA⟩ : ∃ n, p.A = n := ⟨_, rfl⟩
      have HPA := Lib.hid hpA
      rw [hpA] at x4
      obtain ⟨pc, hpc⟩ : ∃ n, p.c = n := ⟨_, rfl⟩
      rw [hpc] at x4
      have HV : Hid (p.v = .slice pA np pc) := by show _ = _; unfold Pq.v; rw [hpA, hnp, hpc]
      have g1 : (j : Int) < (nH : Int) := by omega
      have g2 : ¬ ((nH : Int) ≤ (j : Int)) := by omega
      have g3 : (j : Int) < 1000 := by have := HN9.out; omega
      have hn48 := HNp.out p (List.mem_of_getElem? hp)
      rw [HNP.out] at hn48
      clear hnp hpA hpc hp hg xd x0 x1 x2 x3
      go_wp2
      go_loopw [12] (fun v12 wr => ∃ k : Nat, v12 = .int .i64 (k : Int) ∧ k ≤ np ∧ Hid (Mz wr V2.heap.size (some ⟨g, 0, none⟩) PH j) ∧ Hid (Below V2.heap.size V2 wr)) (fun v12 _ => np - (intOf v12).toNat)
      case atStart => exact ⟨0, rfl, Nat.zero_le _, HM, HBr⟩
      case round =>
        obtain ⟨k, rfl, hk, HMq, HBq⟩ := hrel
        obtain ⟨g', e', _, _, y0, y1, y2, y3, y4, yf, yd⟩ := HMq.out.at_ HP.out
        cases e'
        rw [HV.out] at y4
        rw [HPA.out, HNP.out] at yd
        have yf4 := yf (j * 5 + 4)
        by_cases hlk : k < np
        · obtain ⟨gd, b, cs, rfl, hgd, hb, hcs, z0, z1⟩ := yd.at_ hlk
          have HGd := Lib.hid hgd
          have HCs := Lib.hid hcs
          have t1 : (k : Int) < (np : Int) := by omega
          have t4 : (k : Int) < 1000 := by omega
          have t2 : ¬ ((np : Int) ≤ (k : Int)) := by omega
          obtain ⟨c, hc⟩ : ∃ c : Nat, 255 - b = c := ⟨_, rfl⟩
          have hcI : (255 : Int) - (b : Int) = (c : Int) := by omega
          have hc8 : c < 256 := by omega
          have HWr : Hid (IntKind.u8.wrap (255 - (b : Int)) = (c : Int)) := by show _ = _; rw [hcI]; exact Me.wrap8 (by unfold Me.U8; omega)
          have HC8 := Lib.hid hc8
          have HZ0 := Lib.hid z0
          have HZ1 := Lib.hid z1
          have HY4 := Lib.hid y4
          clear hgd hcs hb hc hcI hc8 yd yf yf4 y0 y1 y2 y3 xf x4 z0 z1
          go_wp2
          have S0 : wr.drew.cell? ⟨g, j * 5 + 4, none⟩ = some (.slice (some ⟨gd, 0, none⟩) np pc) := HY4.out
          clear y4
          refine wp_region_held_drew (S := fun W : World => W.cell? ⟨g, j * 5 + 4, none⟩ = some (.slice (some ⟨gd, 0, none⟩) np pc)) (by kernel_rfl) S0 (fun hHeld => ?_)
          refine wpAnyH_take (i := 0) (v := .slice (some ⟨g, 0, none⟩) nH cH) rfl (by kernel_rfl) (by kernel_rfl) (by kernel_rfl) (fun _ _ _ h => h) (Or.inl ⟨by rfl, ?_⟩) (by first | assumption | exact trivial) ?_
          · intro W hSW; go_simp; try (with_reducible rfl)
          simp only [Act.put, List.getElem_toArray, List.getElem_cons_succ, List.getElem_cons_zero, List.setIfInBounds_toArray, List.set_cons_zero, List.set_cons_succ]
          refine wpAnyH_take (i := 1) (v := .int .i64 (j : Int)) rfl (by kernel_rfl) (by kernel_rfl) (by kernel_rfl) (fun _ _ _ h => h) (Or.inl ⟨by rfl, ?_⟩) (by first | assumption | exact trivial) ?_
          · intro W hSW; go_simp; try (with_reducible rfl)
          simp only [Act.put, List.getElem_toArray, List.getElem_cons_succ, List.getElem_cons_zero, List.setIfInBounds_toArray, List.set_cons_zero, List.set_cons_succ]
          refine wpAnyH_take (i := 2) (v := .pointer (some ⟨g, j * 5, none⟩)) rfl (by kernel_rfl) (by kernel_rfl) (by kernel_rfl) (fun _ _ _ h => h) (Or.inl ⟨by rfl, ?_⟩) (by first | assumption | exact trivial) ?_
          · intro W hSW; go_simp; try (with_reducible rfl)
          simp only [Act.put, List.getElem_toArray, List.getElem_cons_succ, List.getElem_cons_zero, List.setIfInBounds_toArray, List.set_cons_zero, List.set_cons_succ]
          refine wpAnyH_take (i := 3) (v := .pointer (some ⟨g, j * 5 + 4, none⟩)) rfl (by kernel_rfl) (by kernel_rfl) (by kernel_rfl) (fun _ _ _ h => h) (Or.inl ⟨by rfl, ?_⟩) (by first | assumption | exact trivial) ?_
          · intro W hSW; go_simp; try (with_reducible rfl)
          simp only [Act.put, List.getElem_toArray, List.getElem_cons_succ, List.getElem_cons_zero, List.setIfInBounds_toArray, List.set_cons_zero, List.set_cons_succ]
          refine wpAnyH_take (i := 4) (v := .slice (some ⟨gd, 0, none⟩) np pc) rfl (by kernel_rfl) (by kernel_rfl) (by kernel_rfl) (fun _ _ _ h => h) (Or.inl ⟨by rfl, ?_⟩) (by first | assumption | exact trivial) ?_
          · intro W hSW; have q := hSW; go_simp; try (with_reducible rfl)
          simp only [Act.put, List.getElem_toArray, List.getElem_cons_succ, List.getElem_cons_zero, List.setIfInBounds_toArray, List.set_cons_zero, List.set_cons_succ]
          refine wpAnyH_take (i := 5) (v := .int .i64 (k : Int)) rfl (by kernel_rfl) (by kernel_rfl) (by kernel_rfl) (fun _ _ _ h => h) (Or.inl ⟨by rfl, ?_⟩) (by first | assumption | exact trivial) ?_
          · intro W hSW; go_simp; try (with_reducible rfl)
          simp only [Act.put, List.getElem_toArray, List.getElem_cons_succ, List.getElem_cons_zero, List.setIfInBounds_toArray, List.set_cons_zero, List.set_cons_succ]
          refine wpAnyH_take (i := 6) (v := .slice (some ⟨g, 0, none⟩) nH cH) rfl (by kernel_rfl) (by kernel_rfl) (by kernel_rfl) (fun _ _ _ h => h) (Or.inl ⟨by rfl, ?_⟩) (by first | assumption | exact trivial) ?_
          · intro W hSW; go_simp; try (with_reducible rfl)
          simp only [Act.put, List.getElem_toArray, List.getElem_cons_succ, List.getElem_cons_zero, List.setIfInBounds_toArray, List.set_cons_zero, List.set_cons_succ]
          refine wpAnyH_take (i := 7) (v := .int .i64 (j : Int)) rfl (by kernel_rfl) (by kernel_rfl) (by kernel_rfl) (fun _ _ _ h => h) (Or.inl ⟨by rfl, ?_⟩) (by first | assumption | exact trivial) ?_
          · intro W hSW; go_simp; try (with_reducible rfl)
          simp only [Act.put, List.getElem_toArray, List.getElem_cons_succ, List.getElem_cons_zero, List.setIfInBounds_toArray, List.set_cons_zero, List.set_cons_succ]
          refine wpAnyH_take (i := 8) (v := .pointer (some ⟨g, j * 5, none⟩)) rfl (by kernel_rfl) (by kernel_rfl) (by kernel_rfl) (fun _ _ _ h => h) (Or.inl ⟨by rfl, ?_⟩) (by first | assumption | exact trivial) ?_
          · intro W hSW; go_simp; try (with_reducible rfl)
          simp only [Act.put, List.getElem_toArray, List.getElem_cons_succ, List.getElem_cons_zero, List.setIfInBounds_toArray, List.set_cons_zero, List.set_cons_succ]
          refine wpAnyH_take (i := 9) (v := .pointer (some ⟨g, j * 5 + 4, none⟩)) rfl (by kernel_rfl) (by kernel_rfl) (by kernel_rfl) (fun _ _ _ h => h) (Or.inl ⟨by rfl, ?_⟩) (by first | assumption | exact trivial) ?_
          · intro W hSW; go_simp; try (with_reducible rfl)
          simp only [Act.put, List.getElem_toArray, List.getElem_cons_succ, List.getElem_cons_zero, List.setIfInBounds_toArray, List.set_cons_zero, List.set_cons_succ]
          refine wpAnyH_take (i := 10) (v := .slice (some ⟨gd, 0, none⟩) np pc) rfl (by kernel_rfl) (by kernel_rfl) (by kernel_rfl) (fun _ _ _ h => h) (Or.inl ⟨by rfl, ?_⟩) (by first | assumption | exact trivial) ?_
          · intro W hSW; have q := hSW; go_simp; try (with_reducible rfl)
          simp only [Act.put, List.getElem_toArray, List.getElem_cons_succ, List.getElem_cons_zero, List.setIfInBounds_toArray, List.set_cons_zero, List.set_cons_succ]
          refine wpAnyH_take (i := 11) (v := .int .i64 (k : Int)) rfl (by kernel_rfl) (by kernel_rfl) (by kernel_rfl) (fun _ _ _ h => h) (Or.inl ⟨by rfl, ?_⟩) (by first | assumption | exact trivial) ?_
          · intro W hSW; go_simp; try (with_reducible rfl)
          simp only [Act.put, List.getElem_toArray, List.getElem_cons_succ, List.getElem_cons_zero, List.setIfInBounds_toArray, List.set_cons_zero, List.set_cons_succ]
          refine wpAnyH_take (i := 12) (v := .pointer (some ⟨gd, k, none⟩)) rfl (by kernel_rfl) (by kernel_rfl) (by kernel_rfl) (fun _ _ _ h => h) (Or.inl ⟨by rfl, ?_⟩) (by first | assumption | exact trivial) ?_
          · intro W hSW; go_simp; try (with_reducible rfl)
          simp only [Act.put, List.getElem_toArray, List.getElem_cons_succ, List.getElem_cons_zero, List.setIfInBounds_toArray, List.set_cons_zero, List.set_cons_succ]
          refine wpAnyH_ready (rs := [13]) (by kernel_rfl) (by simp) ?_
          refine AllReadyH.cons rfl (fun K hK => ?_) AllReadyH.nil
          have q0 : wr.drew.cell? ⟨gd, k, none⟩ = some (.int .u8 (b : Int)) := HZ0.out
          go_simp
          refine hK.out _ _ (S0) (fun hHeld => ?_)
          clear hK K
          refine wpAnyH_take (i := 14) (v := .int .u8 (c : Int)) rfl (by kernel_rfl) (by kernel_rfl) (by kernel_rfl) (fun _ _ _ h => h) (Or.inl ⟨by rfl, ?_⟩) (by first | assumption | exact trivial) ?_
          · intro W hSW; have q := HWr.out; go_simp; try (with_reducible rfl)
          simp only [Act.put, List.getElem_toArray, List.getElem_cons_succ, List.getElem_cons_zero, List.setIfInBounds_toArray, List.set_cons_zero, List.set_cons_succ]
          refine wpAnyH_take (i := 15) (v := .pointer (some ⟨gd, k, none⟩)) rfl (by kernel_rfl) (by kernel_rfl) (by kernel_rfl) (fun _ _ _ h => h) (Or.inl ⟨by rfl, ?_⟩) (by first | assumption | exact trivial) ?_
          · intro W hSW; go_simp; try (with_reducible rfl)
          simp only [Act.put, List.getElem_toArray, List.getElem_cons_succ, List.getElem_cons_zero, List.setIfInBounds_toArray, List.set_cons_zero, List.set_cons_succ]
          refine wpAnyH_ready (rs := [16]) (by kernel_rfl) (by simp) ?_
          refine AllReadyH.cons rfl (fun K hK => ?_) AllReadyH.nil
          have q1 : wr.drew.frozen? ⟨gd, k, none⟩ = false := HZ1.out
          go_simp
          obtain ⟨V6, hV6⟩ : ∃ V, (wr.setCell ⟨gd, k, none⟩ (.int .u8 (c : Int))).drew = V := ⟨_, rfl⟩
          have hM6 : Mz V6 V2.heap.size (some ⟨g, 0, none⟩) PH j := by
            rw [← hV6]
            exact HMq.out.set HCs.out HC8.out
          have hB6 : Below V2.heap.size V2 V6 := by
            rw [← hV6]
            exact (below_set HBq.out HGd.out _).drew
          rw [hV6]
          clear hV6
          have hS6 : V6.cell? ⟨g, j * 5 + 4, none⟩ = some (.slice (some ⟨gd, 0, none⟩) np pc) := by
            obtain ⟨g', e', _, _, _, _, _, _, u4, _⟩ := hM6.at_ HP.out
            cases e'
            rw [HV.out] at u4
            exact u4
          refine hK.out _ _ (hS6) (fun hHeld => ?_)
          clear hK K
          refine wpAnyH_done (by kernel_rfl) ?_ _
          have HM6 := Lib.hid hM6
          have HB6 := Lib.hid hB6
          clear hHeld hS6 hM6 hB6 S0
          go_wp2
          go_roundw
          case rel => exact ⟨k + 1, by go_num, by omega, HM6, HB6⟩
          case measure => simp [intOf]; omega
        · obtain rfl : k = np := by omega
          have t1 : ¬ (k : Int) < (k : Int) := by omega
          have HTh : Hid (wr.there g (j * 5) 5) := fun i hi => by
            refine ⟨?_, yf _⟩
            have hi5 : i = 0 ∨ i = 1 ∨ i = 2 ∨ i = 3 ∨ i = 4 := by omega
            rcases hi5 with rfl | rfl | rfl | rfl | rfl
            · rw [Nat.add_zero, y0]; rfl
            · rw [y1]; rfl
            · rw [y2]; rfl
            · rw [y3]; rfl
            · rw [y4]; rfl
          have HJ : Hid (j < PH.length) := by show _ < _; rw [HNH.out]; exact hlt
          clear yd yf yf4 y0 y1 y2 y3 xf x4
          go_wp2_with (refine wpList_store_mid rfl 46 (.tmp 67) (.tmp 66) rfl g (j * 5) #[.int .i64 0, .int .i64 0, .int .i64 0, .int .i64 0, .slice none 0 0] rfl rfl ?ht (by kernel_rfl) (by kernel_rfl) ?_)
          case ht => exact HTh.out
          go_roundw
          case rel => exact ⟨j + 1, by go_num, by omega, HMq.out.row rfl HJ.out rfl, below_cells HBq.out HG.out _⟩
          case measure => simp [intOf]; omega
    · obtain rfl : j = nH := by omega
      have t1 : ¬ (j : Int) < (j : Int) := by omega
      have S5 := Lib.hid (S2.out.go HBr.out)
      have HSt := Lib.hid (State_l _ O wr m D s (by have := S5.out.dn.m50; omega) (Lib.hid S5.out.dn.lv))
      unfold StT at HSt
      have Hw5 := Lib.hid (go_on hw2.out HBr.out)
      have HBr7 : Hid (Below V2.heap.size V2 wr) := HBr
      have HXX : Hid (w2.heap.size = X) := HXe
      clear S2 hw2 HM HMz0 HBr b4
      go_wp2_with (go_at_call 17; (refine HSt.out.mono ?_); rintro e w5 ⟨n4, hn4, vU1, vH1, vM1, PH2, PM, LM, rfl, kU, oH2, pH2, mM, oM, pM, b5⟩; obtain ⟨aU, cU, rfl, _⟩ := kU.out.form; obtain ⟨aH2, cH2, rfl, _⟩ := oH2.out.form; obtain ⟨aM, cM, rfl, _⟩ := mM.out.form)
      have kz := Nz.of_kn kU.out
      obtain ⟨nU, hnU⟩ : ∃ n, (usedTo s.last 64).length = n := ⟨_, rfl⟩
      obtain ⟨nH2, hnH2⟩ : ∃ n, PH2.length = n := ⟨_, rfl⟩
      obtain ⟨nM, hnM⟩ : ∃ n, PM.length = n := ⟨_, rfl⟩
      rw [hnU] at kz
      rw [hnU, hnH2, hnM]
      obtain ⟨V5, hV5⟩ : ∃ x, w5.alloc (.cells #[.int .i64 s.self, .int .i64 s.epoch, .slice aU nU cU, .slice aH2 nH2 cH2, .slice aM nM cM] 59) = x := ⟨_, rfl⟩
      have hb5 : Below w5.heap.size w5 V5 := by rw [← hV5]; exact Me.below_alloc (Below.refl _ _)
      have hX5 : V5.heap[w5.heap.size]? = some (.cells #[.int .i64 s.self, .int .i64 s.epoch, .slice aU nU cU, .slice aH2 nH2 cH2, .slice aM nM cM] 59 (0, 0)) := by rw [← hV5]; exact heap_alloc_new w5 _
      have HK5 := Lib.hid (kz.below hb5)
      have HB5 : Hid (Below wr.heap.size wr V5) := go_on b5.out hb5
      have HX5 := Lib.hid hX5
      have hgl : ∀ g, aU = some ⟨g, 0, none⟩ → 0 < nU → g < w5.heap.size := fun g e hn => by
        obtain ⟨g', u, e', _, hl, _⟩ := kz.at_ hn
        rw [e'] at e
        cases e
        exact hl
      have HGl := Lib.hid hgl
      rw [hV5]
      obtain ⟨Z, hZ⟩ : ∃ x, w5.heap.size = x := ⟨_, rfl⟩
      rw [hZ] at HX5 HGl ⊢
      have hU64 : nU ≤ 64 := by rw [← hnU]; have := usedTo_len s.last 64; omega
      obtain ⟨wz, hwz⟩ : ∃ x, wr = x := ⟨_, rfl⟩
      rw [hwz] at HK5 HB5 HBr7 S5 Hw5
      clear hwz hnU hnH2 hnM kU oH2 pH2 mM oM pM b5 hn4 kz hb5 hX5 hgl hV5 hZ HSt
      go_loopw [14] (fun v14 wr => ∃ k : Nat, v14 = .int .i64 (k : Int) ∧ k ≤ nU ∧ Hid (Nz wr wz.heap.size aU nU) ∧ Hid (wr.heap[Z]? = some (.cells #[.int .i64 s.self, .int .i64 s.epoch, .slice aU nU cU, .slice aH2 nH2 cH2, .slice aM nM cM] 59 (0, 0))) ∧ Hid (Below wz.heap.size wz wr)) (fun v14 _ => nU - (intOf v14).toNat)
      case atStart => exact ⟨0, rfl, Nat.zero_le _, HK5, HX5, HB5⟩
      case round =>
        obtain ⟨k, rfl, hk, HKq, HXq, HBq⟩ := hrel
        obtain ⟨z0, z1, z2, z3, z4⟩ := state_cells HXq.out
        by_cases hlk : k < nU
        · obtain ⟨g, u, rfl, hg, hgl, q0, q1⟩ := HKq.out.at_ hlk
          have hgZ : Z ≠ g := by have := HGl.out g rfl (by omega); omega
          have HGZ := Lib.hid hgZ
          have HG := Lib.hid hg
          have t2 : (k : Int) < (nU : Int) := by omega
          have t4 : (k : Int) < 1000 := by omega
          have t3 : ¬ ((nU : Int) ≤ (k : Int)) := by omega
          clear hg hgl hgZ
          go_wp2
          go_roundw
          case rel => exact ⟨k + 1, by go_num, by omega, HKq.out.set _ _ _, (heap_setCell_other wr _ _ _ HGZ.out).trans HXq.out, below_set HBq.out HG.out _⟩
          case measure => simp [intOf]; omega
        · obtain rfl : k = nU := by omega
          have t2 : ¬ (k : Int) < (k : Int) := by omega
          have S7 := Lib.hid (S5.out.go HBq.out)
          have Hw7 := Lib.hid (go_on Hw5.out HBq.out)
          have hm50 := S7.out.dn.m50
          have hk50 := S7.out.dn.k50
          have HMay := Lib.hid (May_l _ O wr m D s ek ⟨eo, ed, ee, ec⟩ R en cr (Lib.hid S7.out.dn.lv))
          have HTold := Lib.hid (fun W (hW : Below wr.heap.size wr W) => told_ok _ O O W m D s K (.slice Au nu cu) (.slice Al nl cl) (.slice Ak nk ck) P (by omega) (Lib.hid (S7.out.go hW).dn.lv) (Lib.hid (S7.out.go hW).dn.rf) (by omega))
          have HAp := Lib.hid (fun W (hW : Below wr.heap.size wr W) => dn.out.apply (go_on (go_on (go_on HBA.out HBr7.out) HBq.out) hW) ek ⟨eo, ed, ee, ec⟩ R cr ep (HR.out W (go_on Hw7.out hW)) HRn.out)
          simp only [rsv, rsc, evC, HEn.out] at HMay HTold HAp
          obtain ⟨x0, x1, x2, x3, x4, x5, x6, x7, x8⟩ := rs_cells S7.out.st
          obtain ⟨i0, i1, i2, i3, i4, i5⟩ := ev_cells S7.out.ev
          by_cases h0 : mayE s ek ⟨eo, ed, ee, ec⟩ en = 0
          · rw [h0, show ((0 : Nat) : Int) = 0 from rfl] at HMay HAp
            clear h0 hm50 hk50 z0 z1 z3 z4
            go_wp2_with (first
              | (go_at_call 18; (refine HMay.out.mono ?_); rintro e w8 ⟨rfl, b8⟩; have S8 := Lib.hid (S7.out.go b8.out); clear x0 x1 x2 x3 x4 x5 x6 x7 x8 i0 i1 i2 i3 i4 i5; obtain ⟨x0, x1, x2, x3, x4, x5, x6, x7, x8⟩ := rs_cells S8.out.st)
              | (go_at_call 14; (refine (HTold.out w8 b8.out).mono ?_); rintro e w9 ⟨rfl, b9⟩; have B9 := Lib.hid (go_on b8.out b9.out); have S9 := Lib.hid (S8.out.go b9.out); clear x0 x1 x2 x3 x4 x5 x6 x7 x8; obtain ⟨i0, i1, i2, i3, i4, i5⟩ := ev_cells S9.out.ev)
              | (go_at_call 13; (refine (HAp.out w9 B9.out).mono ?_); rintro e w10 ⟨rfl, l10, b10⟩)
              | (go_at_call 9; refine (HAw.out _).mono ?_; rintro e w11 ⟨rfl, b11⟩))
            go_ret
            exact ⟨rfl, go_on (go_on HB.out (S9.out.dn.below.trans (but_out b10.out S9.out.dn.below.size))) b11.out⟩
          · have hz := Mg.nz h0
            have hap := appE_no (p := ep) (by rw [HEn.out]; exact h0)
            rw [hap] at HAp
            obtain ⟨mN, hmN⟩ : ∃ n, mayE s ek ⟨eo, ed, ee, ec⟩ en = n := ⟨_, rfl⟩
            rw [hmN] at HMay HAp hz
            have HTold2 : Hid (∀ W w10, Below wr.heap.size wr W → Lv W1.heap.size (OW O w2.heap.size W.heap.size) w10 (m + 1) D s → But (Out W1.heap.size (OW O w2.heap.size W.heap.size)) W w10 → Calls Tryz.prog 14 #[.pointer (some ⟨D, 0, none⟩), .agg (rsv s (.slice Au nu cu) (.slice Al nl cl) (.slice Ak nk ck))] w10 fun e w' => e = .returned (.bool true) ∧ Hid (Below w10.heap.size w10 w')) := fun W w10 hW hl hb =>
              told_ok _ _ O w10 (m + 1) D s K (.slice Au nu cu) (.slice Al nl cl) (.slice Ak nk ck) P (by omega) (Lib.hid hl) (Lib.hid ((S7.out.go hW).dn.rf.but hb fun k hk hs => hs.2 (.inl hk))) (by omega)
            simp only [rsv, rsc] at HTold2
            clear h0 hmN hap hm50 hk50 z0 z1 z3 z4
            go_wp2_with (first
              | (go_at_call 18; (refine HMay.out.mono ?_); rintro e w8 ⟨rfl, b8⟩; have S8 := Lib.hid (S7.out.go b8.out); clear x0 x1 x2 x3 x4 x5 x6 x7 x8 i0 i1 i2 i3 i4 i5; obtain ⟨x0, x1, x2, x3, x4, x5, x6, x7, x8⟩ := rs_cells S8.out.st)
              | (go_at_call 13; (refine (HAp.out w9 B9.out).mono ?_); rintro e w10 ⟨rfl, l10, b10⟩; have X10 := ow_same b10.out (Nat.le_of_eq HXX.out) S9.out.st; clear i0 i1 i2 i3 i4 i5; obtain ⟨x0, x1, x2, x3, x4, x5, x6, x7, x8⟩ := rs_cells X10)
              | (go_at_call 14; first
                  | ((with_reducible refine (HTold.out w8 b8.out).mono ?_); rintro e w9 ⟨rfl, b9⟩; have B9 := Lib.hid (go_on b8.out b9.out); have S9 := Lib.hid (S8.out.go b9.out); clear x0 x1 x2 x3 x4 x5 x6 x7 x8; obtain ⟨i0, i1, i2, i3, i4, i5⟩ := ev_cells S9.out.ev)
                  | ((with_reducible refine (HTold2.out w9 w10 B9.out l10.out b10.out).mono ?_); rintro e w12 ⟨rfl, b12⟩))
              | (go_at_call 9; refine (HAw.out _).mono ?_; rintro e w11 ⟨rfl, b11⟩))
            go_ret
            exact ⟨rfl, go_on (go_on (go_on HB.out (S9.out.dn.below.trans (but_out b10.out S9.out.dn.below.size))) b12.out) b11.out⟩
theorem storeMays (me qh qb qg : Int) (A : Option Addr) (len cap : Nat) (ls : List Evt) (ev : Evt) (R : Option Addr) (cr : Nat) (w : World) (w1 : len = ls.length ∧ len ≤ cap ∧ cap ≤ 9223372036854775807 ∧ Evs w A ls) (w2 : ev.p.length ≤ cr ∧ cr ≤ 140737488351232 ∧ Me.Rd w w.heap.size R ev.p ∧ (R = none → ev.p.length = 0 ∧ cr = 0)) :
    Calls Tryz.prog 4 #[.agg #[.int .i64 me, .int .i64 qh, .int .i64 qb, .int .i64 qg], .slice A len cap, .agg (evC ev.k ev.i R ev.p.length cr)] w fun e w' => e = .returned (.bool true) ∧ Below w.heap.size w w' := by
  by_cases h : NewOk me qh qb qg
  · exact storeMays_ok me qh qb qg A len cap ls ev.k ev.i R cr ev.p w h w1 w2.2.2.1 w2.2.2.2
  · exact storeMays_no me qh qb qg _ ev.k ev.i R ev.p.length cr w h
end Go.Proofs.YtfnlhfelpdkieaaGreat.So
