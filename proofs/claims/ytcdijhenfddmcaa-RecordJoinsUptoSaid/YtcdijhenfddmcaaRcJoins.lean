/- The walk of the law RecordJoins. -/
import Derived.Test.YtcdijhenfddmcaaRcCuts
namespace Go.Proofs.Ytcdijhenfddmcaa.Rc
open Go.RowKit
open Go.Proofs.Ytcdijhenfddmcaa.Me Go.Proofs.Ytcdijhenfddmcaa.Ma Go.Proofs.Ytcdijhenfddmcaa.Hd
set_option linter.unusedVariables false
set_option linter.unusedSimpArgs false

/-- A slice of slices that can be read. -/
theorem rows_form {w : World} {B : Nat} {v : Value} {ps : List (List Nat)} {vs : List Value} (h1 : w.ownsRow B 22 1 v ps.length vs)
    (h3 : ∀ j, j < ps.length → ∃ A c, vs[j]? = some (.slice A (lsAt ps j).length c) ∧ (lsAt ps j).length ≤ c ∧ c ≤ 9223372036854775807 ∧ Rd w w.heap.size A (lsAt ps j) ∧ (A = none → (lsAt ps j).length = 0 ∧ c = 0)) :
    ∃ A c, v = .slice A ps.length c ∧ Hid (Me.Lst w w.heap.size A ps) ∧ Hid (Me.Nils w A ps) := by
  rcases h1.2 with ⟨rfl, e0⟩ | ⟨g, cap, cur, rfl, q2, q3, q4, q5, q6, q7⟩
  · obtain rfl : ps = [] := List.eq_nil_of_length_eq_zero e0
    exact ⟨none, 0, rfl, fun hl => absurd hl (by simp), fun _ _ _ j hj => absurd hj (by simp)⟩
  · have hcell : ∀ j, j < ps.length → ∃ A c, w.cell? ⟨g, 0 + j, none⟩ = some (.slice A (lsAt ps j).length c) ∧ (lsAt ps j).length ≤ c ∧ c ≤ 9223372036854775807 ∧ Rd w w.heap.size A (lsAt ps j) ∧ (A = none → (lsAt ps j).length = 0 ∧ c = 0) := by
      intro j hj
      obtain ⟨A, c, e, h4⟩ := h3 j hj
      refine ⟨A, c, ?_, h4⟩
      rw [Nat.zero_add, h1.cellAt j (by omega)]
      exact e
    refine ⟨some ⟨g, 0, none⟩, cap, rfl, fun hl => ⟨g, 0, rfl, own_lt h1 g rfl, fun j hj => ?_⟩, ?_⟩
    · obtain ⟨A, c, e, h4, h5, h6, h7⟩ := hcell j hj
      exact ⟨A, c, e, h4, h5, h6⟩
    · intro b off e j hj n c hc
      simp only [Option.some.injEq, Addr.mk.injEq, and_true] at e
      obtain ⟨rfl, rfl⟩ := e
      obtain ⟨A, c', e', h4, h5, h6, h7⟩ := hcell j hj
      rw [hc] at e'
      simp only [Option.some.injEq, Value.slice.injEq] at e'
      obtain ⟨rfl, rfl, rfl⟩ := e'
      exact h7 rfl
theorem lsAt_app (ps qs : List (List Nat)) (j : Nat) : lsAt (ps ++ qs) j = if j < ps.length then lsAt ps j else lsAt qs (j - ps.length) := by
  split
  · rename_i h; exact lsAt_append_left h
  · rename_i h; exact lsAt_append_right h
/-- All slices of a slice of the call's own appended to slices that came in. -/
theorem appWR {w0 w : World} {ops : Array Oper} {rest : List Oper} {o : Oper} {a : Act} {Q : Exit → Act → World → Prop} (hgd : o.guard = none) (s x : Operand)
    (ho : o.op = .call { callee := .builtin .append, args := #[s, x], argTypes := #[30, 30] })
    (P : Nat → Prop) (v u : Value) (ps qs : List (List Nat)) (hs : a.eval s = v) (hrows : Wnt w0 w v ps) (hx : a.eval x = u) (hr2 : Rws P w u qs) (hqb : ∀ l ∈ qs, ∀ z ∈ l, z < 256)
    (hb : Below w0.heap.size w0 w) (hlen : (ps.length + qs.length) * 24 ≤ 140737488355328)
    (h : ∀ A c w', w.grownBy w' v.ownBlock → Hid (Below w0.heap.size w0 w') → Hid (Me.Lst w' w'.heap.size A (ps ++ qs)) → Hid (Me.Nils w' A (ps ++ qs)) → wpList Try.prog ops Q rest (a.put o.dst (.slice A (ps ++ qs).length c)) w') : wpList Try.prog ops Q (o :: rest) a w := by
  obtain ⟨i0, hi, hz0, hz1, hz2⟩ := info_parts info24
  obtain ⟨vs, h1, h2, h3⟩ := hrows
  obtain ⟨us, k1, k1p, k2, k3⟩ := hr2
  have fin : ∀ (v' : Value) (w' : World), w'.ownsRow w0.heap.size 22 1 v' (ps ++ qs).length (vs ++ us) → w.grownBy w' v.ownBlock → wpList Try.prog ops Q rest (a.put o.dst v') w' := by
    intro v' w' q1 q2
    have hb' : Below w0.heap.size w0 w' := hb.grown q2 hb.size fun k hk => (h1.lt k hk).1
    obtain ⟨A, c, rfl, hL, hN⟩ := rows_form q1 (fun j hj => by
      rw [lsAt_app]
      simp only [List.length_append] at hj
      by_cases hlt : j < ps.length
      · rw [if_pos hlt]
        obtain ⟨A, c, e, h4, h5, h6, h7⟩ := h3 j hlt
        exact ⟨A, c, by rw [List.getElem?_append_left (by omega)]; exact e, h4, h5, (h6.below hb').more hb'.size, h7⟩
      · rw [if_neg hlt]
        obtain ⟨A, c, e, h4, _⟩ := k3 (j - ps.length) (by omega)
        have ho' := h4.kept q2 (two_types h4 h1 (by decide))
        obtain ⟨r1, r2, r3, r4⟩ := own_rd ho' (hqb _ (by simp [lsAt, (by omega : j - ps.length < qs.length)]))
        exact ⟨A, c, by rw [List.getElem?_append_right (by omega), h2]; exact e, r3, r4, r1, r2⟩)
    exact h A c w' q2 hb' hL hN
  rcases k1.2 with ⟨rfl, e0⟩ | ⟨g, cap, cur, rfl, q2, q3, q4, q5, q6, q7⟩
  · obtain rfl : qs = [] := List.eq_nil_of_length_eq_zero e0
    obtain rfl : us = [] := List.eq_nil_of_length_eq_zero (by simpa using k2)
    refine wpList_append_own_none hgd s x 30 ho w0.heap.size 22 i0 1 Try.underlying30 hi v ps.length vs hs h1 hx ?_
    exact fin v w (by rw [List.append_nil, List.append_nil]; exact h1) ⟨rfl, rfl, rfl, Nat.le_refl _, fun _ _ _ => rfl⟩
  · refine wpList_append_own w hgd s x 30 ho w0.heap.size 22 i0 (.slice none 0 0) 1 24 Try.underlying30 hi hz0 hz1 hz2 rfl (by decide) v ps.length vs hs h1 ⟨g, 0, none⟩ qs.length cap us hx (by rw [k2, Nat.mul_one]) (k1.cells (g := g) rfl)
      (by
        intro y hy
        obtain ⟨j, hj, rfl⟩ := List.mem_iff_getElem.mp hy
        obtain ⟨A, c, e, _⟩ := k3 j (by omega)
        rw [List.getElem?_eq_getElem hj] at e
        simp only [Option.some.injEq] at e
        rw [e]; rfl)
      (by unfold maxLen; omega) hlen hb.size ?_
    intro v' w' q1 q2 _
    exact fin v' w' (by rw [List.length_append]; exact q1) q2
set_option maxRecDepth 100000 in
set_option maxHeartbeats 4000000 in
theorem joins_law {H : Type} (a : Option Addr) (len cap : Nat) (ls : List (List Nat)) (Ar : Option Addr) (lenr capr : Nat) (l : List Nat) (w : World) {d : DataW H} (w0 : len = ls.length ∧ len ≤ 9223372036854775807 ∧ Me.Lst w w.heap.size a ls ∧ Me.Nils w a ls ∧ ls.flatten.length + ls.length ≤ Rows.uptoBulk d) (c0 : Rows.uptoBulk d ≤ 1048576) (w1 : BySlice w Ar lenr capr l) (c1 : capr ≤ 1048576) :
    Calls Try.prog 6 #[.slice a len cap, .slice Ar lenr capr] w fun e w' => e = .returned (.bool true) ∧ Below w.heap.size w w' := by
  obtain ⟨rfl, hc, hl', hn', hbk⟩ := w0
  obtain ⟨rfl, m1, m2, m3, mA⟩ := w1
  have hl := Lib.hid hl'
  have hn := Lib.hid hn'
  have HRA := Lib.hid m3
  have HMA := Lib.hid mA
  have HB := Lib.hid (Me.Lst.bytes hl.out)
  have HT : Hid (ls.flatten.length + ls.length ≤ 1048576) := by show _ ≤ _; omega
  have HSZ : Hid (siz (fitL ls) ≤ 9437184) := by have := fitL_siz ls; show _ ≤ _; omega
  have hlr : l.length ≤ 1048576 := by omega
  clear hl' hn' m3 mA hbk c0
  go_enter Try.func6, Try.ntmps6
  go_wp2
  go_loopw [5, 6, 7] (fun v u i wr => ∃ k : Nat, k ≤ ls.length ∧ i = .int .i64 k ∧ Me.Own wr w.heap.size v (flatR (fitL (ls.take k))) ∧ Wnt w wr u (fitL (ls.take k)) ∧ Below w.heap.size w wr) (fun _ _ i _ => ls.length - (intOf i).toNat)
  case atStart => exact ⟨0, Nat.zero_le _, rfl, Me.Own.nil _ _, Wnt.nil _ _, Below.refl _ _⟩
  case round =>
    obtain ⟨k, hk, rfl, hown, hwnt, hbel⟩ := hrel
    have HO := Lib.hid hown
    have HW := Lib.hid hwnt
    have HBE := Lib.hid hbel
    clear hown hwnt hbel
    by_cases hlt : k < ls.length
    · obtain ⟨b, off, rfl, hbB, hcs⟩ := (hl.out.below HBE.out (Nat.le_refl _)) (by omega)
      obtain ⟨b0, off0, e0, hb0, hcs0⟩ := hl.out (by omega)
      obtain ⟨rfl, rfl⟩ : b = b0 ∧ off = off0 := by simpa using e0
      obtain ⟨A, c, hcell0, hlc, hc2, hr0⟩ := hcs0 k hlt
      have hcell := (HBE.out.cell (p := ⟨b, off + k, none⟩) hb0).trans hcell0
      have hA : A = none → (lsAt ls k).length = 0 ∧ c = 0 := by
        rintro rfl
        exact hn.out b off rfl k hlt _ _ hcell0
      have HS := Lib.hid (fit_step hlt)
      have hszk : siz (fitL (ls.take (k + 1))) ≤ siz (fitL ls) := siz_take ls (k + 1)
      have hbl := hr0.1
      have D := Put_any A c (lsAt ls k) wr ((hr0.below HBE.out).more HBE.out.size) hA hlc hc2
      have hlen : (fitL (ls.take k)).length ≤ 1048576 := by
        have h1 := fitL_len (ls.take k)
        have h2 := HT.out
        simp only [List.length_take] at h1
        omega
      by_cases hf : fitR (lsAt ls k) = true
      · rw [if_pos hf] at HS
        obtain ⟨p1, p2⟩ := put_fit hf
        have HD : Hid (Calls Try.prog 9 #[.slice A (lsAt ls k).length c] wr fun e w1 => ∃ A3 k3, e = .returned (.tuple #[.slice A3 (recL (lsAt ls k)).length k3, .int .i64 0]) ∧ Hid (Rd w1 w1.heap.size A3 (recL (lsAt ls k))) ∧ Hid (A3 = none → (recL (lsAt ls k)).length = 0 ∧ k3 = 0) ∧ w1.cell? ⟨b, off + k, none⟩ = some (.slice A (lsAt ls k).length c) ∧ Hid (Below wr.heap.size wr w1)) := by
          refine D.mono ?_
          rintro e w1 ⟨A3, k3, he, hO, hB⟩
          rw [p1, p2] at he
          rw [p1] at hO
          obtain ⟨r1, r2, _, _⟩ := own_rd hO.out (rec_bytes hbl)
          exact ⟨A3, k3, he, r1, r2, (hB.out.cell (p := ⟨b, off + k, none⟩) hbB).trans hcell, hB⟩
        have HLN : Hid ((flatR (fitL (ls.take k))).length + (recL (lsAt ls k)).length ≤ 140737488355328) := by
          rw [HS.out, siz_append, siz_cons, siz_nil] at hszk
          have := HSZ.out
          show _ + _ ≤ _
          rw [flat_length, rec_len]; omega
        have HF : Hid (flatR (fitL (ls.take k)) ++ recL (lsAt ls k) = flatR (fitL (ls.take (k + 1)))) := by
          show _ = _
          rw [HS.out, flat_append]; simp [flatR]
        have h24 : ((fitL (ls.take k)).length + 1) * 24 ≤ 140737488355328 := by omega
        have HR0 := Lib.hid hr0
        have HA0 := Lib.hid hA
        obtain ⟨r, hrd⟩ : ∃ r, lsAt ls k = r := ⟨_, rfl⟩
        obtain ⟨rl, hrl⟩ : ∃ rl, recL r = rl := ⟨_, rfl⟩
        obtain ⟨ps, hps⟩ : ∃ ps, fitL (ls.take k) = ps := ⟨_, rfl⟩
        rw [hrd] at hcell hlc HD HS HLN HF HR0 HA0
        rw [hrl] at HD HLN HF
        rw [hps] at HO HW HS HLN HF h24
        clear D hf p1 p2 hcs hcs0 hcell0 hr0 hA e0 hbl hszk hlen hrd hrl hps
        go_wp2_with (first
          | (go_at_call 9; refine HD.out.mono ?_; rintro e w1 ⟨A3, k3, rfl, HR1, HN1, hcell1, HB1⟩; have BW1 : Hid (Below w.heap.size w w1) := HBE.out.trans (HB1.out.mono HBE.out.size))
          | (at_builtin; refine app8 (w0 := w) rfl (.tmp 30) (.tmp 31) rfl w.heap.size w1.heap.size _ (flatR ps) rl rfl (own_same HO.out fun j _ hj => HB1.out.block j hj) BW1.out BW1.out.size A3 k3 rfl HR1.out HN1.out HLN.out ?_; intro v2 w2 ho2 hb2 hg2; rw [HF.out] at ho2; have HO2 := Lib.hid ho2; have HB2 := Lib.hid hb2; have hcell2 : w2.cell? ⟨b, off + k, none⟩ = some (.slice A r.length c) := (by rw [← hcell1]; exact World.cell?_of_block (w := w1) (a := ⟨b, off + k, none⟩) (hg2.block b (Nat.lt_of_lt_of_le hbB HB1.out.size) (fun e => by have := (HO.out.lt b e.symm).1; omega))); have HW2 : Hid (Wnt w w2 u6 ps) := (HW.out.same fun j _ hj => HB1.out.block j hj).same (fun j hj hjl => hg2.block j hjl (fun e => rows_ne (HW.out.same fun j _ hj => HB1.out.block j hj) (own_same HO.out fun j _ hj => HB1.out.block j hj) hj e)); clear ho2 hb2 hg2)
          | (at_builtin; refine appW (w0 := w) rfl (.tmp 33) (.tmp 38) rfl u6 ps r A r.length c rfl rfl rfl HW2.out HB2.out hlc hc2 HR0.out HA0.out _ rfl rfl h24 ?_; intro v3 w3 q1 q2 q3; rw [← HS.out] at q1; have Q1 := Lib.hid q1; have HO3 : Hid (Me.Own w3 w.heap.size v2 (flatR (fitL (ls.take (k + 1))))) := HO2.out.kept q2 (line_ne HW2.out HO2.out); have HB3 : Hid (Below w.heap.size w w3) := HB2.out.grown q2 HB2.out.size q3; clear q1 q2 q3))
        go_roundw
        case rel => exact ⟨k + 1, by omega, by go_num, HO3.out, Q1.out, HB3.out⟩
        case measure => simp [intOf]; omega
      · rw [if_neg hf, List.append_nil] at HS
        obtain ⟨p1, p2⟩ := put_nofit hf
        have HD : Hid (Calls Try.prog 9 #[.slice A (lsAt ls k).length c] wr fun e w1 => ∃ A3 k3, e = .returned (.tuple #[.slice A3 0 k3, .int .i64 (putE (lsAt ls k))]) ∧ Hid (Below wr.heap.size wr w1)) := by
          refine D.mono ?_
          rintro e w1 ⟨A3, k3, he, hO, hB⟩
          rw [p1] at he
          exact ⟨A3, k3, he, hB⟩
        have q1 : (putE (lsAt ls k) == 0) = false := by simpa using p2
        obtain ⟨ee, hee⟩ : ∃ ee, putE (lsAt ls k) = ee := ⟨_, rfl⟩
        obtain ⟨m, hm⟩ : ∃ m, (lsAt ls k).length = m := ⟨_, rfl⟩
        rw [hee] at HD q1
        rw [hm] at HD hcell hlc
        clear D hf p1 p2 hcs hcs0 hcell0 hr0 hA e0 hbl hszk hlen hee hm
        go_wp2_with (go_at_call 9; refine HD.out.mono ?_; rintro e w1 ⟨A3, k3, rfl, HB1⟩)
        go_roundw
        case rel => exact ⟨k + 1, by omega, by go_num, by rw [HS.out]; exact own_same HO.out fun j _ hj => HB1.out.block j hj, by rw [HS.out]; exact HW.out.same fun j _ hj => HB1.out.block j hj, HBE.out.trans (HB1.out.mono HBE.out.size)⟩
        case measure => simp [intOf]; omega
    · have HE : Hid (ls.take k = ls) := by show _ = _; rw [List.take_of_length_le (by omega)]
      rw [HE.out] at HO HW
      have hfine := fitL_fine HB.out
      have hfl := flat_length (fitL ls)
      have hfb := flat_bytes hfine
      have hln := fitL_len ls
      have hzb := HRA.out.1
      have hsz := HSZ.out
      have ht := HT.out
      have hrr := recs_rows (fitL ls) l hfine
      obtain ⟨ps, hps⟩ : ∃ ps, fitL ls = ps := ⟨_, rfl⟩
      rw [hps] at HO HW hfl hfb hln hsz hrr hfine
      have D1 := (Scan_any Ar capr l wr ((HRA.out.below HBE.out).more HBE.out.size) m1 m2 (by omega)).mono fun _ _ h => h.q hzb
      have D2 := fun (W : World) (A1 : Option Addr) (c1 : Nat) (hr : Hid (Rd W W.heap.size A1 (flatR ps ++ l))) (q1 : (flatR ps ++ l).length ≤ c1) (q2 : c1 ≤ 9223372036854775807) =>
        (Scan_any A1 c1 (flatR ps ++ l) W hr q1 q2 (by rw [List.length_append]; omega)).mono fun _ _ h => h.q (bytes_app hfb hzb)
      rw [hrr, siz_append] at D2
      have hrb := recs_bytes hzb
      have hrm := recs_many l
      obtain ⟨qs, hqs⟩ : ∃ qs, recs l = qs := ⟨_, rfl⟩
      rw [hqs] at D1 D2 hrb hrm
      have hbb : ∀ r ∈ ps ++ qs, ∀ z ∈ r, z < 256 := fun r hr => (List.mem_append.mp hr).elim (fun h => (hfine r h).2) (hrb r)
      have D3 := fun (W : World) (A A' : Option Addr) (c c' : Nat) (q1) (q2) (q3) (q4) => Same_any W A A' c c' (ps ++ qs) (ps ++ qs) q1 q2 q3 q4 (by rw [List.length_append]; omega)
      simp only [decide_true] at D3
      obtain ⟨Aa, ca, e1, p1, p2, p3⟩ := HO.out.held hfb
      obtain ⟨Au, cu, e2, _, _⟩ := HW.out.form HBE.out
      obtain ⟨fl, hfd⟩ : ∃ fl, flatR ps = fl := ⟨_, rfl⟩
      obtain ⟨N, hNd⟩ : ∃ N, fl.length = N := ⟨_, rfl⟩
      obtain ⟨z, hzd⟩ : ∃ z, siz qs = z := ⟨_, rfl⟩
      obtain ⟨Q, hQd⟩ : ∃ Q, qs.length = Q := ⟨_, rfl⟩
      obtain ⟨T, hTd⟩ : ∃ T, (ps ++ qs).length = T := ⟨_, rfl⟩
      obtain ⟨K, hKd⟩ : ∃ K, ps.length = K := ⟨_, rfl⟩
      rw [hfd] at HO hfl hfb e1 p1 p3
      rw [hNd] at hfl e1 p1
      simp only [hfd] at D2
      rw [← hfl] at D2
      rw [hzd, hQd] at D1
      simp only [hzd, hTd] at D2
      simp only [hTd] at D3
      rw [hKd] at e2 hln
      rw [← hfl] at hsz
      have h24 : (ps.length + qs.length) * 24 ≤ 140737488355328 := by omega
      have hTb : T ≤ 4194304 := by rw [List.length_append] at hTd; omega
      have HD1 := Lib.hid D1
      have HD2 := Lib.hid D2
      have HD3 := Lib.hid D3
      have HBB := Lib.hid hbb
      have HRB := Lib.hid hrb
      have HFB := Lib.hid hfb
      have HZB := Lib.hid hzb
      have HN := Lib.hid hNd
      have HQ := Lib.hid hQd
      have HTd := Lib.hid hTd
      have HKd := Lib.hid hKd
      have RA := Lib.hid p3.rd
      have NA := Lib.hid p3.2.2
      have hza : z ≤ 1048576 := by
        rw [← hzd, ← hqs, ← offs_end]
        exact Nat.le_trans (offs_le (Nat.le_refl _)) hlr
      subst e1 e2
      clear D1 D2 D3 hps hfine hfl hfb hrr hqs hbb hrb hzb p3 hfd hNd hzd hQd hTd hKd HB HSZ HT ht hl hn
      have k1 : ((N : Int) + (z : Int) == (N : Int) + (z : Int)) = true := by simp
      go_wp2_with (first
        | (go_at_call 14; ((with_reducible refine HD1.out.mono ?_); rintro e w1 ⟨A10, c10, rfl, HR10, HB10⟩; have RA1 : Hid (Rd w1 w1.heap.size Aa fl) := ((RA.out.below HB10.out).more HB10.out.size); have BW1 : Hid (Below w.heap.size w w1) := HBE.out.trans (HB10.out.mono HBE.out.size)))
        | (at_builtin; refine app8 (w0 := w1) rfl (.tmp 46) (.tmp 47) rfl w1.heap.size w1.heap.size _ [] fl rfl (Own.lit (Below.refl _ _)) (below_alloc (Below.refl _ _)) (below_alloc (Below.refl _ _)).size Aa ca (by rw [HN.out]; rfl) (RA1.out.below (below_alloc (Below.refl _ _))) (fun e => by rw [HN.out]; exact (by have := NA.out e; rw [HN.out] at this; exact this)) (by rw [HN.out]; simp; omega) ?_; intro v2 w2 ho2 hb2 _; rw [List.nil_append] at ho2; have HO2 := Lib.hid ho2; have HB2 := Lib.hid hb2; clear ho2 hb2)
        | (at_builtin; refine app8 (w0 := w1) rfl (.tmp 48) (.tmp 49) rfl w1.heap.size w.heap.size _ fl l rfl HO2.out HB2.out HB2.out.size Ar capr rfl (HRA.out.below (BW1.out.trans (HB2.out.mono BW1.out.size))) HMA.out (by rw [HN.out]; omega) ?_; intro v3 w3 ho3 hb3 _; obtain ⟨A11, c11, rfl, p4, p5, p6⟩ := ho3.held (bytes_app HFB.out HZB.out); have HO3 := Lib.hid ho3; have HB3 := Lib.hid hb3; have R3 := Lib.hid p6.rd; have BW3 : Hid (Below w.heap.size w w3) := BW1.out.trans (hb3.mono BW1.out.size); clear ho3 hb3 p6)
        | (go_at_call 14; have h := HD2.out w3 A11 c11 R3 p4 p5; rw [List.length_append] at h; ((with_reducible refine h.mono ?_); rintro e w4 ⟨A12, c12, rfl, HR12, HB12⟩; have BW4 : Hid (Below w.heap.size w w4) := BW3.out.trans (HB12.out.mono BW3.out.size); have B14 : Hid (Below w1.heap.size w1 w4) := HB3.out.trans (HB12.out.mono HB3.out.size); have Br4 : Hid (Below wr.heap.size wr w4) := HB10.out.trans (B14.out.mono HB10.out.size); have HW4 : Hid (Wnt w w4 (.slice Au K cu) ps) := HW.out.same fun j _ hj => Br4.out.block j hj; have HQ4 : Hid (Rws (fun j => wr.heap.size ≤ j) w4 (.slice A10 Q c10) qs) := HR10.out.below B14.out; have hs13 : wr.heap.size ≤ w3.heap.size := Nat.le_trans HB10.out.size HB3.out.size; clear h))
        | (at_builtin; refine appWR (w0 := w) rfl (.tmp 55) (.tmp 56) rfl (fun j => wr.heap.size ≤ j) (.slice Au K cu) (.slice A10 Q c10) ps qs rfl HW4.out rfl HQ4.out HRB.out BW4.out h24 ?_; intro A13 c13 w5 q1 q2 q3 q4; obtain ⟨A14, c14, e14, _, _, z1, z2, _⟩ := (Rws.grown HR12.out q1 fun r e => by have := (HW.out.own r e).2; omega).lst HBB.out; rw [HTd.out] at e14 ⊢; simp only [Value.slice.injEq, true_and] at e14; obtain ⟨rfl, rfl⟩ := e14; have HL5 := Lib.hid z1; have HI5 := Lib.hid z2; clear q1 z1 z2)
        | (go_at_call 16; ((with_reducible refine (HD3.out w5 _ _ _ _ HL5 HI5 q3 q4).mono ?_); rintro e w6 ⟨rfl, HB6⟩; have BW6 : Hid (Below w.heap.size w w6) := q2.out.trans (HB6.out.mono q2.out.size)))
        | (go_at_call 11; refine (awake_below BW6).mono ?_; rintro e w7 ⟨rfl, hb7⟩))
      go_ret
      exact ⟨rfl, hb7.out⟩
end Go.Proofs.Ytcdijhenfddmcaa.Rc
