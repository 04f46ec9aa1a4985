/- The contract of record's Scan. -/
import Derived.Test.YtbacgljeadalbaaGreatDoorZ12
import Derived.Test.YtbacgljeadalbaaGreatDoorZ7
import Derived.WalkMore
namespace Go.Proofs.YtbacgljeadalbaaGreatDoor.Rc
open Go.RowKit
open Go.Proofs.YtbacgljeadalbaaGreatDoor.Me Go.Proofs.YtbacgljeadalbaaGreatDoor.Ma Go.Proofs.YtbacgljeadalbaaGreatDoor.Hd Go.Proofs.YtbacgljeadalbaaGreatDoor.It
set_option linter.unusedVariables false
set_option linter.unusedSimpArgs false
attribute [local go_sem] Oper.semAt_some

/-- One slice appended to such rows, in a round: the operation alone. -/
theorem appQO {F : Fence} {nn : Nat} {w : World} {o : Oper} {a : Act} {K : Act → World → Prop} {Q : Exit → Act → World → Prop} (s x : Operand)
    (ho : o.op = .call { callee := .builtin .append, args := #[s, x], argTypes := #[31, 31] })
    (P : Nat → Prop) (B : Nat) (v : Value) (ps : List (List Nat)) (r : List Nat) (A : Option Addr) (n c : Nat) (hn : n = r.length) (hs : a.eval s = v) (wl : World) (hw : w = wl.alloc (.cells #[.slice A n c] 32)) (hrows : Rws P wl v ps) (hown : Me.Own wl 0 (.slice A n c) r) (hPA : ∀ a, A = some a → P a.block)
    (hP : ∀ k, B ≤ k → P k) (hPB : ∀ k, P k → B ≤ k) (hB : B ≤ wl.heap.size) (g : Nat) (hgs : g = wl.heap.size) (hx : a.eval x = .slice (some ⟨g, 0, none⟩) 1 1) (hlen : (ps.length + 1) * 24 ≤ 140737488355328)
    (h : ∀ v' w', Rws P w' v' (ps ++ [r]) → w.grownBy w' v.ownBlock → K (a.put o.dst v') w') : o.wpIn F nn Tryz.prog a w K Q := by
  obtain ⟨i0, hi, hz0, hz1, hz2⟩ := info_parts info24
  subst hn hgs
  have hba : Below wl.heap.size wl w := by rw [hw]; exact (Below.refl _ _).alloc (Nat.le_refl _) _
  have hown2 : Me.Own w 0 (.slice A r.length c) r := own_same hown fun k _ hk => hba.block k hk
  obtain ⟨vs, h1, h1p, h2, h3⟩ := hrows.below hba
  have h1B : w.ownsRow B 32 1 v ps.length vs := own_base h1 fun k hk => hPB k (h1p k hk)
  obtain ⟨v', w', hrun, q1, q2, _⟩ := run_append_own (P := Tryz.prog) w B 31 o.type 32 i0 (.slice none 0 0) 1 24 Tryz.underlying31 hi hz0 hz1 hz2 rfl (by decide) v ps.length vs h1B ⟨wl.heap.size, 0, none⟩ 1 1 [.slice A r.length c] rfl
    (by
      intro j u hj
      rw [hw]
      have : j = 0 := by
        apply Classical.byContradiction
        intro hn
        rw [List.getElem?_eq_none (by simp; omega)] at hj; cases hj
      subst this
      have e : (⟨wl.heap.size, 0, none⟩ : Addr).add 0 = ⟨wl.heap.size, 0, none⟩ := by unfold Addr.add; split <;> simp_all
      rw [e, cell_of_row _ wl.heap.size 0 _ 32 (0, 0) (heap_alloc_new wl _)]
      simpa using hj)
    (by simp [Value.oneCell']) (by unfold maxLen; omega) hlen (Nat.le_trans hB hba.size)
  have hQ : Rws P w' v' (ps ++ [r]) := Rws.more (qs := [r]) (us := [.slice A r.length c]) h1 h2 h3 rfl (fun j hj => by
    obtain rfl : j = 0 := by simpa using hj
    exact ⟨A, c, by simp [lsAt], by simpa [lsAt] using hown2, hPA⟩) (own_base q1 fun _ _ => Nat.zero_le _) q2 fun k hk => hP k (q1.lt k hk).1
  unfold Oper.wpIn
  refine ⟨?_, ?_⟩
  · simp [Oper.about, ho, resolve, Target.leads, Sem.run_pure]
  · rw [Oper.semAt_plain F _ _ (by rw [ho]; intro c hc; cases hc)]
    simp [execOp, ho, resolve, invoke, builtin, hs, hx, hrun, Result.andThen]
    exact h _ _ hQ q2
theorem But.boxed {S : Nat → Prop} {w X : World} {b : Nat} {t : TypeId} {v : Value} (h : But S w X) (hb : Boxed w b t v) (hS : ¬ S b) : Boxed X b t v := (h.same b hb.lt hS).trans hb
theorem But.abid {S : Nat → Prop} {w : World} {M : Nat} : Abid w.heap.size M (But S w) := fun X Y row hi hg hr => hi.grown hg fun r e => .inr (hr r e).1
theorem Rws.grown {P : Nat → Prop} {w w' : World} {v : Value} {ps : List (List Nat)} {row : Option Nat} (h : Rws P w v ps) (hg : w.grownBy w' row) (hr : ∀ r, row = some r → ¬ P r) : Rws P w' v ps :=
  h.kept fun k hp hk => hg.block k hk fun e => hr k e.symm hp
/-- What Scan answers. -/
def ScanQ (zs : List Nat) (w : World) (e : Ending) (w' : World) : Prop :=
  ∃ v, e = .returned (.tuple #[v, .int .i64 (siz (recs zs) : Int)]) ∧ Hid (Rws (fun j => w.heap.size ≤ j) w' v (recs zs)) ∧ Hid (Below w.heap.size w w')
/-- Where a round of Scan's stands behind its drawn region. -/
def ZS (w0 : Nat) (W3 X : World) (f : Int) (ps : List (List Nat)) (v' : Value) (w' : World) : Prop :=
  But (fun b => b = w0 ∨ b = w0 + 1) W3 w' ∧ KeepR W3.heap.size 2 X w' ∧ Boxed w' w0 31 v' ∧ Boxed w' (w0 + 1) 3 (.int .i64 f) ∧ Rws (fun j => W3.heap.size + 2 ≤ j) w' v' ps
/-- What stands behind the drawn region in a round of Scan's. -/
def PostS (A : Option Addr) (n c w0 : Nat) (f : Int) (pv t8 t9 : Value) (Z : Value → World → Prop) (a' : Act) (w' : World) : Prop :=
  ∃ (u12 u13 u14 u15 v' : Value), a' = { tmps := #[.slice A n c, undef, .slice none 0 0, .int .i64 0, .pointer (some ⟨w0, 0, none⟩), .pointer (some ⟨w0 + 1, 0, none⟩), .int .i64 f, pv, t8, t9, .int .i64 f, pv, u12, u13, u14, u15, v', undef, undef, undef, undef, undef, undef, undef], defers := [] } ∧ Z v' w'
theorem take_snoc {ps : List (List Nat)} {k : Nat} (h : k < ps.length) : ps.take (k + 1) = ps.take k ++ [lsAt ps k] := by
  have e : lsAt ps k = ps[k] := by simp [lsAt, h]
  rw [List.take_succ_eq_append_getElem h, e]
set_option maxRecDepth 100000 in
set_option maxHeartbeats 4000000 in
theorem Scan_any (A : Option Addr) (c : Nat) (zs : List Nat) (w : World) (hr : Hid (Rd w w.heap.size A zs)) (hlc : zs.length ≤ c) (hc : c ≤ 9223372036854775807) (hb : zs.length ≤ 16777216) :
    Calls Tryz.prog 73 #[.slice A zs.length c] w (ScanQ zs w) := by
  have hzb := hr.out.1
  refine (callsIn_wide (n := 0)).1 (callsIn_of_wp_marks Tryz.func73 rfl trivial ?_ rfl)
  simp only [Tryz.ntmps73, List.size_toArray, List.length_cons, List.length_nil, Nat.reduceAdd, Nat.reduceSub, Array.replicate_succ, Array.replicate_zero, List.push_toArray, List.append_toArray, List.nil_append, List.cons_append]
  refine wpIn_wide.2 ?_
  go_wp2_with (go_at_call 86; refine (records_any _ _ _ _).mono ?_; rintro e w' ⟨rfl, rfl⟩)
  have B1 := ((Boxed.new w 31 (.slice none 0 0)).alloc (.cells #[.int .i64 0] 3)).alloc (.cells #[.slice A zs.length c] 32)
  have B2 := (Boxed.new (w.alloc (.cells #[.slice none 0 0] 31)) 3 (.int .i64 0)).alloc (.cells #[.slice A zs.length c] 32)
  have B3 := Boxed.new ((w.alloc (.cells #[.slice none 0 0] 31)).alloc (.cells #[.int .i64 0] 3)) 32 (.slice A zs.length c)
  simp only [World.size_alloc] at B2 B3
  have hB0 : Below w.heap.size w (((w.alloc (.cells #[.slice none 0 0] 31)).alloc (.cells #[.int .i64 0] 3)).alloc (.cells #[.slice A zs.length c] 32)) := (((Below.refl _ w).alloc (Nat.le_refl _) _).alloc (by simp) _).alloc (by simp; omega) _
  have hsz : (((w.alloc (.cells #[.slice none 0 0] 31)).alloc (.cells #[.int .i64 0] 3)).alloc (.cells #[.slice A zs.length c] 32)).heap.size = w.heap.size + 3 := by simp
  obtain ⟨W3, hW3⟩ : ∃ W3, ((w.alloc (.cells #[.slice none 0 0] 31)).alloc (.cells #[.int .i64 0] 3)).alloc (.cells #[.slice A zs.length c] 32) = W3 := ⟨_, rfl⟩
  rw [hW3] at B1 B2 B3 hB0 hsz ⊢
  clear hW3
  have hrd3 : Rd W3 w.heap.size A zs := hr.out.below hB0
  have kept : ∀ X, But (fun b => b = w.heap.size ∨ b = w.heap.size + 1) W3 X → KeptB (w.heap.size + 1 + 1) A c zs X := fun X hX =>
    ⟨(But.boxed hX B3 (by omega)).cell, (hrd3.below (hX.below (by omega) fun k hk => by omega)).more (by have := hX.size; omega)⟩
  have HKEPT := Lib.hid kept
  have hmany := recs_many zs
  clear kept hr
  refine range2_block (gf := 107) (lb := #[.pointer (some ⟨w.heap.size + 1 + 1, 0, none⟩)]) rfl (enters_of Tryz.func107 (by kernel_rfl) rfl) (records_iter (w.heap.size + 1 + 1) A c zs hlc hc)
    (fun k X => But (fun b => b = w.heap.size ∨ b = w.heap.size + 1) W3 X ∧ Boxed X (w.heap.size + 1) 3 (.int .i64 (offs (recs zs) k : Int)) ∧ ∃ v, Boxed X w.heap.size 31 v ∧ Rws (fun j => W3.heap.size + 2 ≤ j) X v ((recs zs).take k))
    (fun X => False)
    (fun X => But (fun b => b = w.heap.size ∨ b = w.heap.size + 1) W3 X ∧ Boxed X (w.heap.size + 1) 3 (.int .i64 (siz (recs zs) : Int)) ∧ ∃ v, Boxed X w.heap.size 31 v ∧ Rws (fun j => W3.heap.size + 2 ≤ j) X v (recs zs))
    (fun k X Y row h hg hr => ⟨But.abid X Y row h.1 hg hr, h.2.1.kept hg (fun e => by have := hr _ e.symm; omega), by
      obtain ⟨v, q1, q2⟩ := h.2.2
      exact ⟨v, q1.kept hg (fun e => by have := hr _ e.symm; omega), Rws.grown q2 hg fun r e => by have := hr r e; omega⟩⟩)
    (fun _ _ _ h _ _ => h)
    (fun k X h => HKEPT.out X h.1) (fun k X hk hc' h => absurd trivial hc')
    (fun _ _ _ _ _ _ _ h _ _ => h) (fun _ _ _ _ _ _ h _ => h)
    ⟨But.refl _ _, by rw [offs_zero]; exact B2, _, B1, Rws.nil _ _⟩
    (fun X h => by rw [offs_end, List.take_length] at h; exact h) (fun X h => h.elim) ?_ ?_
  · rintro l' k v u X0 hk hcut _ ⟨rfl, rfl⟩
    gi_wp2
    refine ⟨trivial, ?_⟩
    rintro X ⟨hX, hn, va, hva, hrw⟩ _ hsX
    have hmx : Tryz.prog.follows .mixedOrders = true := by kernel_rfl
    obtain ⟨hpr, hpn⟩ := piece_rd (X := X.drew) (B := X.drew.heap.size) (HKEPT.out X hX).2 hk
    have hpl := piece_at hk
    have hpv : pieceV A c zs k = .slice ((A.map fun x => x.add (offs (recs zs) k)).map fun x => x.add 8) (lsAt (recs zs) k).length (c - offs (recs zs) k - 8) := rfl
    have HC : Hid (Calls Tryz.prog 87 #[pieceV A c zs k] X.drew fun e w' => ∃ A2 c2, e = .returned (.slice A2 (lsAt (recs zs) k).length c2) ∧ Hid (Me.Own w' X.drew.heap.size (.slice A2 (lsAt (recs zs) k).length c2) (lsAt (recs zs) k)) ∧ Hid (Below X.drew.heap.size X.drew w')) := by
      rw [hpv]
      refine (BClone_any _ _ X.drew.heap.size (lsAt (recs zs) k) X.drew hpr (fun e => absurd e hpn) (Nat.le_refl _) (by omega)).mono ?_
      rintro e w' ⟨v, he, hO, hB⟩
      obtain ⟨A2, c2, rfl, _, _, _⟩ := hO.out.held (recs_bytes hzb _ (by simp [lsAt, hk]))
      exact ⟨A2, c2, he, hO, hB⟩
    have hbs : ∀ r ∈ (recs zs).take k, ∀ z ∈ r, z < 256 := fun r hr => recs_bytes hzb r (List.mem_of_mem_take hr)
    obtain ⟨Aa, ca, rfl, hac, hac2, _, _, _⟩ := hrw.lst hbs
    have hkl : ((recs zs).take k).length = k := by simp; omega
    have hlk := take_snoc hk
    have hos := offs_step hk
    have hbl : ∀ z ∈ lsAt (recs zs) k, z < 256 := recs_bytes hzb _ (by simp [lsAt, hk])
    have hb1 : ∀ r ∈ (recs zs).take (k + 1), ∀ z ∈ r, z < 256 := fun r hr => recs_bytes hzb r (List.mem_of_mem_take hr)
    have hfl : offs (recs zs) k ≤ zs.length := offs_le (by omega)
    have h0 : X.drew.cell? ⟨w.heap.size, 0, none⟩ = some (.slice Aa ((recs zs).take k).length ca) := hva.cell
    have hlt0 : w.heap.size < X.drew.heap.size := hva.lt
    have hlt1 : w.heap.size + 1 < X.drew.heap.size := hn.lt
    have HX := Lib.hid hX
    have HVA := Lib.hid hva
    have HN := Lib.hid hn
    have HRW := Lib.hid hrw
    have HB1 := Lib.hid hb1
    have HLK := Lib.hid hlk
    have hsX2 : W3.heap.size + 2 ≤ X.drew.heap.size := hsX
    obtain ⟨ps, hps⟩ : ∃ ps, (recs zs).take k = ps := ⟨_, rfl⟩
    obtain ⟨r, hrd⟩ : ∃ r, lsAt (recs zs) k = r := ⟨_, rfl⟩
    obtain ⟨pv, hpd⟩ : ∃ pv, pieceV A c zs k = pv := ⟨_, rfl⟩
    obtain ⟨f, hfd⟩ : ∃ f : Nat, offs (recs zs) k = f := ⟨_, rfl⟩
    obtain ⟨qs, hqs⟩ : ∃ qs, (recs zs).take (k + 1) = qs := ⟨_, rfl⟩
    rw [hps] at HVA HRW h0 hkl HLK
    rw [hrd] at HC HLK hpv hpl hos hbl
    rw [hpd] at HC hpv
    rw [hfd] at HN hpv hos hfl hpl
    rw [hqs] at HLK HB1
    have HOS := Lib.hid hos
    have HPV := Lib.hid hpv
    have hml := hpl.2.2.2
    have hmm := hpl.1
    -- behind the clone
    have HC2 : Hid (Calls Tryz.prog 87 #[pv] X.drew fun e w' => ∃ A2 c2, e = .returned (.slice A2 r.length c2) ∧ w'.cell? ⟨w.heap.size, 0, none⟩ = some (.slice Aa ps.length ca) ∧ (w'.alloc (.cells #[.slice A2 r.length c2] 32)).cell? ⟨w.heap.size, 0, none⟩ = some (.slice Aa ps.length ca) ∧
        Hid (Me.Own w' 0 (.slice A2 r.length c2) r) ∧ Hid (∀ a, A2 = some a → W3.heap.size + 2 ≤ a.block) ∧ Hid (Below X.heap.size X w') ∧ Hid (Rws (fun j => W3.heap.size + 2 ≤ j) w' (.slice Aa ps.length ca) ps) ∧ W3.heap.size + 2 ≤ w'.heap.size) := by
      refine HC.out.mono ?_
      rintro e w' ⟨A2, c2, he, hO, hB⟩
      have hBX : Below X.heap.size X w' := (Below.refl _ X).drew.trans hB.out
      have e1 := (hB.out.cell (p := ⟨w.heap.size, 0, none⟩) hlt0).trans h0
      refine ⟨A2, c2, he, e1, ?_, own_base hO.out fun _ _ => Nat.zero_le _, fun a ha => Nat.le_trans hsX2 (hO.out.lt a.block (by rw [ha]; rfl)).1, hBX, HRW.out.below hBX, Nat.le_trans hsX2 hB.out.size⟩
      exact (((Below.refl w'.heap.size w').alloc (Nat.le_refl _) _).cell (p := ⟨w.heap.size, 0, none⟩) (Nat.lt_of_lt_of_le hlt0 hB.out.size)).trans e1
    have hlen24 : (ps.length + 1) * 24 ≤ 140737488355328 := by rw [hkl]; omega
    have hfol : ∀ (tm : Array Value) (Q : Exit → Act → World → Prop) (ops : Array Oper) (S : Act → World → Prop), (Code.region 6 ops true).wpIn (Wd.inRound l') 0 Tryz.prog (fun e a' w' => e = .normal ∧ S a' w') { tmps := tm, defers := [] } X →
        (∀ a' w', S a' w' → Q .normal a' w') → (Code.region 6 ops true).wpIn (Wd.inRound l') 0 Tryz.prog Q { tmps := tm, defers := [] } X :=
      fun tm Q ops S h hq => wpIn_mono h (by rintro e a' w' ⟨rfl, hs⟩; exact hq a' w' hs)
    obtain ⟨Z, hZd⟩ : ∃ Z : Value → World → Prop, Z = fun v' w' => ∃ A3 c3, v' = .slice A3 qs.length c3 ∧ ZS w.heap.size W3 X (f : Int) qs (.slice A3 qs.length c3) w' := ⟨_, rfl⟩
    have HZ : Hid (∀ (X2 w2 : World) (A2 : Option Addr) (c2 : Nat) (v' : Value), Hid (Below X.heap.size X X2) → Rws (fun j => W3.heap.size + 2 ≤ j) w2 v' qs → (X2.alloc (.cells #[.slice A2 r.length c2] 32)).grownBy w2 (Value.slice Aa ps.length ca).ownBlock →
        ∃ A3 c3, v' = .slice A3 qs.length c3 ∧ w2.cell? ⟨w.heap.size, 0, none⟩ = some (.slice Aa ps.length ca) ∧ w2.frozen? ⟨w.heap.size, 0, none⟩ = false ∧ Z (.slice A3 qs.length c3) (w2.setCell ⟨w.heap.size, 0, none⟩ (.slice A3 qs.length c3))) := by
      intro X2 w2 A2 c2 v' hB2 hq hg
      obtain ⟨A3, c3, rfl, _, _, _, _, _⟩ := hq.lst HB1.out
      have hown : ∀ j, (Value.slice Aa ps.length ca).ownBlock = some j → W3.heap.size + 2 ≤ j := by
        obtain ⟨vs, _, q, _⟩ := HRW.out
        exact q
      have hba : X.grownBy (X2.alloc (.cells #[.slice A2 r.length c2] 32)) none := grown_of_below (hB2.out.trans (((Below.refl _ _).alloc (Nat.le_refl _) _).mono hB2.out.size))
      have hg2 : X.grownBy w2 (Value.slice Aa ps.length ca).ownBlock :=
        ⟨hg.os.trans hba.os, hg.tape.trans hba.tape, hg.output.trans hba.output, Nat.le_trans hba.size hg.size, fun b hb' hne => (hg.block b (Nat.lt_of_lt_of_le hb' hba.size) hne).trans (hba.block b hb' (by simp))⟩
      have t1 : Boxed w2 w.heap.size 31 (.slice Aa ps.length ca) := HVA.out.kept hg2 (fun e => by have := hown _ e.symm; omega)
      have t2 : Boxed w2 (w.heap.size + 1) 3 (.int .i64 (f : Int)) := HN.out.kept hg2 (fun e => by have := hown _ e.symm; omega)
      have hs := grownBy_setCell' w2 w.heap.size (.slice A3 qs.length c3)
      refine ⟨A3, c3, rfl, t1.cell, t1.frozen, ?_⟩
      rw [hZd]
      refine ⟨A3, c3, rfl, ?_, ?_, t1.set _, t2.other (by omega) _, Rws.grown hq hs (fun r' e => by cases e; omega)⟩
      · exact (HX.out.grown hg2 (fun j e => .inr (by have := hown j e; omega))).grown hs (fun j e => by cases e; exact .inl (.inl rfl))
      · exact (KeepR.of_grown hg2 fun j e => .inr (hown j e)).trans (KeepR.of_grown hs fun j e => by cases e; exact .inl (by omega))
    rw [hpd, hfd]
    gi_wp2
    refine hfol _ _ _ (PostS A zs.length c w.heap.size (f : Int) pv (.slice A zs.length c) (.func (.func 107) #[] #[.pointer (some ⟨w.heap.size + 1 + 1, 0, none⟩)]) Z) ?_ ?_
    · clear hfol hpr hpn hpl hpv hZd hX hn hva hrw hb1 hlk hos hbs hbl HC B1 B2 B3 hB0 hrd3 HKEPT HX HVA HN HRW hac hac2 hfl hkl hml hmm hps hrd hpd hfd hqs HPV HOS hmany hlc hc hb hzb hk hcut hsX
      refine wpIn_region_any hmx ?_
      change wpAnyIn _ _ _ _ _ _ _ _ _ (World.drew _)
      refine wpAnyIn_ready (rs := [0, 1]) (by kernel_rfl) (by simp) ?_
      refine AllReadyIn.cons rfl (fun K hK => ?pA) (AllReadyIn.cons rfl (fun K hK => ?pB) AllReadyIn.nil)
      case' pA =>
        go_simp
        refine hK _ _ ?_
        clear hK K
        refine wpAnyIn_ready (rs := [1]) (by kernel_rfl) (by simp) ?_
        refine AllReadyIn.cons rfl (fun K hK => ?_) AllReadyIn.nil
        go_simp
        refine hK _ _ ?_
        clear hK K
        refine wpAnyIn_ready (rs := [2]) (by kernel_rfl) (by simp) ?_
        refine AllReadyIn.cons rfl (fun K hK => ?_) AllReadyIn.nil
        go_simp
        gi_wp2_with (refine ⟨trivial, rfl, ?_⟩; gi_at_call 87; refine (CallsIn.inRound l' (callsIn_wide.2 HC2.out)).mono ?_; rintro e X2 ⟨A2, c2, rfl, k1, k2, HO2, HP2, HB2, HR2, hs2⟩)
        refine wpAnyIn_ready (rs := [3]) (by kernel_rfl) (by simp) ?_
        refine AllReadyIn.cons rfl (fun K hK => ?_) AllReadyIn.nil
        go_simp
        refine hK _ _ ?_
        clear hK K
      case' pB =>
        go_simp
        refine hK _ _ ?_
        clear hK K
        refine wpAnyIn_ready (rs := [0, 2]) (by kernel_rfl) (by simp) ?_
        refine AllReadyIn.cons rfl (fun K hK => ?pC) (AllReadyIn.cons rfl (fun K hK => ?pD) AllReadyIn.nil)
      case' pC =>
        go_simp
        refine hK _ _ ?_
        clear hK K
        refine wpAnyIn_ready (rs := [2]) (by kernel_rfl) (by simp) ?_
        refine AllReadyIn.cons rfl (fun K hK => ?_) AllReadyIn.nil
        go_simp
        gi_wp2_with (refine ⟨trivial, rfl, ?_⟩; gi_at_call 87; refine (CallsIn.inRound l' (callsIn_wide.2 HC2.out)).mono ?_; rintro e X2 ⟨A2, c2, rfl, k1, k2, HO2, HP2, HB2, HR2, hs2⟩)
        refine wpAnyIn_ready (rs := [3]) (by kernel_rfl) (by simp) ?_
        refine AllReadyIn.cons rfl (fun K hK => ?_) AllReadyIn.nil
        go_simp
        refine hK _ _ ?_
        clear hK K
      case' pD =>
        go_simp
        gi_wp2_with (refine ⟨trivial, rfl, ?_⟩; gi_at_call 87; refine (CallsIn.inRound l' (callsIn_wide.2 HC2.out)).mono ?_; rintro e X2 ⟨A2, c2, rfl, k1, k2, HO2, HP2, HB2, HR2, hs2⟩)
        refine wpAnyIn_ready (rs := [0, 3]) (by kernel_rfl) (by simp) ?_
        refine AllReadyIn.cons rfl (fun K hK => ?pE) (AllReadyIn.cons rfl (fun K hK => ?pF) AllReadyIn.nil)
      case' pE =>
        go_simp
        refine hK _ _ ?_
        clear hK K
        refine wpAnyIn_ready (rs := [3]) (by kernel_rfl) (by simp) ?_
        refine AllReadyIn.cons rfl (fun K hK => ?_) AllReadyIn.nil
        go_simp
        refine hK _ _ ?_
        clear hK K
      case' pF =>
        go_simp
        refine hK _ _ ?_
        clear hK K
        refine wpAnyIn_ready (rs := [0]) (by kernel_rfl) (by simp) ?_
        refine AllReadyIn.cons rfl (fun K hK => ?_) AllReadyIn.nil
        go_simp
        refine hK _ _ ?_
        clear hK K
      all_goals
        refine wpAnyIn_ready (rs := [4]) (by kernel_rfl) (by simp) ?_
        refine AllReadyIn.cons rfl (fun K hK => ?_) AllReadyIn.nil
        rw [if_pos (by kernel_rfl)]
        refine appQO (.tmp 12) (.tmp 15) rfl (fun j => W3.heap.size + 2 ≤ j) (W3.heap.size + 2) (.slice Aa ps.length ca) ps r A2 r.length c2 rfl rfl X2 rfl HR2.out HO2.out HP2.out (fun _ h => h) (fun _ h => h) hs2 _ rfl rfl hlen24 ?_
        intro v' w2 q1 q2
        rw [← HLK.out] at q1
        obtain ⟨A3, c3, rfl, k3, k4, hZ3⟩ := HZ.out X2 w2 A2 c2 v' HB2 q1 q2
        refine hK _ _ ?_
        clear hK K
        simp only [Act.put, List.setIfInBounds_toArray, List.set_cons_zero, List.set_cons_succ]
        refine wpAnyIn_ready (rs := [5]) (by kernel_rfl) (by simp) ?_
        refine AllReadyIn.cons rfl (fun K hK => ?_) AllReadyIn.nil
        go_simp
        refine hK _ _ ?_
        clear hK K
        refine wpAnyIn_done (by kernel_rfl) ?_ _
        exact ⟨rfl, _, _, _, _, _, rfl, hZ3⟩
    · rintro a' w' ⟨u12, u13, u14, u15, v', rfl, hz⟩
      rw [hZd] at hz
      obtain ⟨A3, c3, rfl, z1, z2, z3, z4, z5⟩ := hz
      have z6 := z4.cell
      have z7 := z4.frozen
      have hwr : IntKind.i64.wrap ((f : Int) + 8) = (f : Int) + 8 := IntWalk.i64_in _ (by omega)
      have hwr2 : IntKind.i64.wrap ((f : Int) + 8 + (r.length : Int)) = (f : Int) + 8 + (r.length : Int) := IntWalk.i64_in _ (by omega)
      have Z1 := Lib.hid z1
      have Z2 := Lib.hid z2
      have Z3 := Lib.hid z3
      have Z4 := Lib.hid z4
      have Z5 := Lib.hid z5
      rw [HPV.out]
      obtain ⟨P1, hP1⟩ : ∃ P, ((A.map fun x => x.add f).map fun x => x.add 8) = P := ⟨_, rfl⟩
      rw [hP1]
      clear hfol hZd HZ HC2 HC hX hn hva hrw z1 z2 z3 z4 z5 HX HVA HN HRW hpr hpn hpv hP1 h0 hb1 hbs hbl hlk hos hpl hkl HPV
      have HSZ := Lib.hid hsz
      have hqs2 := Lib.hid hqs
      clear hsz hps hrd hpd hfd hqs
      gi_wp2
      have hs := grownBy_setCell' w' (w.heap.size + 1) (.int .i64 ((f : Int) + 8 + (r.length : Int)))
      refine ⟨Z2.out.trans (KeepR.of_grown hs fun j e => by cases e; have := HSZ.out; omega), Z1.out.grown hs (fun j e => by cases e; exact .inl (.inr rfl)), ?_, _, Z3.out.other (by omega) _, ?_⟩
      · have e : ((offs (recs zs) (k + 1) : Nat) : Int) = (f : Int) + 8 + (r.length : Int) := by rw [HOS.out]; omega
        rw [e]; exact Z4.out.set _
      · rw [hqs2.out]; exact Rws.grown Z5.out hs fun j e => by cases e; have := HSZ.out; omega
  · rintro X ⟨hX, hn, va, hva, hrw⟩ hD
    obtain ⟨Aa, ca, rfl, _, _, _, _, _⟩ := hrw.lst (recs_bytes hzb)
    have h1 := hva.cell
    have h2 := hn.cell
    have HQ : Hid (∀ n, ScanQ zs w (.returned (.tuple #[.slice Aa (recs zs).length ca, .int .i64 (siz (recs zs) : Int)])) ((X.drewN n).putObj W3.heap.size (.deferred none))) := by
      intro n
      have hd : X.grownBy (X.drewN n) none := grown_of_below (Me.below_drewN (Below.refl _ X) n)
      have hp := grownBy_putObj' (X.drewN n) W3.heap.size (.deferred none)
      refine ⟨_, rfl, ?_, ?_⟩
      · exact (Rws.grown (Rws.grown hrw hd fun r e => by cases e) hp fun r e => by cases e; omega).mono fun j _ hj => by omega
      · have hX2 : But (fun b => b = w.heap.size ∨ b = w.heap.size + 1) W3 ((X.drewN n).putObj W3.heap.size (.deferred none)) := (hX.grown hd fun r e => by cases e).grown hp fun r e => by cases e; exact .inr (by omega)
        exact hB0.trans (hX2.below (by omega) fun j hj => by omega)
    have HD := Lib.hid hD
    obtain ⟨m, hm⟩ : ∃ m, (recs zs).length = m := ⟨_, rfl⟩
    obtain ⟨z, hz⟩ : ∃ z, siz (recs zs) = z := ⟨_, rfl⟩
    rw [hm] at h1
    rw [hz] at h2
    rw [hm, hz] at HQ
    clear hX hn hva hrw hD HKEPT B1 B2 B3 hB0 hrd3 hmany hsz hm hz
    go_wp2
    go_quiet (fail)
    go_wp2
    refine ⟨by simp, .inl ⟨_, _, rfl, run_takeDeferred (show (X.drewN _).heap[W3.heap.size]? = _ from HD.out), ?_⟩⟩
    exact ⟨_, results_tmp2 (t := 2) (u := 3) rfl _ _ _, HQ.out nq⟩
end Go.Proofs.YtbacgljeadalbaaGreatDoor.Rc
/- A file's records; the log's segments gone through. -/
namespace Go.Proofs.YtbacgljeadalbaaGreatDoor.Wl
open Go.RowKit
open Go.Proofs.YtbacgljeadalbaaGreatDoor.Me Go.Proofs.YtbacgljeadalbaaGreatDoor.Hd Go.Proofs.YtbacgljeadalbaaGreatDoor.Dk Go.Proofs.YtbacgljeadalbaaGreatDoor.Rc
set_option linter.unusedVariables false
set_option linter.unusedSimpArgs false

section
variable {G : Nat → Prop} (w : World) (D mb : Nat) (s : St)
set_option maxHeartbeats 2000000 in
theorem recordsOf_whole (h : Hid (Dq (Lo G w.heap.size) w D mb s)) (ok : Hid s.Ok) (hd : s.down = false) {k : Nat} (hk : there s k) (hw : whole s k) :
    Calls Tryz.prog 60 #[.pointer (some ⟨D, 0, none⟩), .string ⟨(nameW k).toArray⟩] w fun e w' => ∃ v, e = .returned (.tuple #[v, .bool true, .int .i64 0]) ∧ Hid (Rws (fun j => w.heap.size ≤ j) w' v (recs (bytesOf s k))) ∧ Hid (Below w.heap.size w w') := by
  obtain ⟨f, hf⟩ := Option.isSome_iff_exists.1 hk.2
  have hfe := findE_up hd hf
  have hrp : readP s (nameW k) = bytesOf s k := by unfold readP; rw [if_pos hfe]; rfl
  have hb := bytes_lt ok.out k
  have hlen : (bytesOf s k).length ≤ 1048576 := by
    have h1 := ok.out.fileOf (nameW k)
    have h2 := ok.out.use
    show (fileOf s (nameW k)).bytes.length ≤ _
    omega
  obtain ⟨zs, hz⟩ : ∃ zs, bytesOf s k = zs := ⟨_, rfl⟩
  unfold whole at hw
  rw [hz] at hrp hb hlen hw ⊢
  have HRd : Hid (Calls Tryz.prog 25 #[.pointer (some ⟨D, 0, none⟩), .string ⟨(nameW k).toArray⟩] w fun e w' => ∃ A, e = .returned (.tuple #[.slice A zs.length zs.length, .int .i64 0]) ∧ Hid (Me.Rd w' w'.heap.size A zs) ∧ Hid (Below w.heap.size w w')) :=
    (Read_any w D mb s h ok (nameW k)).mono fun e w' ⟨A, q1, q2, _, _, q5⟩ => by
      rw [hrp] at q1 q2
      rw [hfe] at q1
      exact ⟨A, q1, q2, q5⟩
  have HSc : Hid (∀ W A, Hid (Me.Rd W W.heap.size A zs) → Calls Tryz.prog 73 #[.slice A zs.length zs.length] W fun e W' => ∃ v, e = .returned (.tuple #[v, .int .i64 (siz (recs zs) : Int)]) ∧ Hid (Rws (fun j => W.heap.size ≤ j) W' v (recs zs)) ∧ Hid (Below W.heap.size W W')) := fun W A hW => Scan_any A zs.length zs W hW (Nat.le_refl _) (by omega) (by omega)
  rw [hw] at HSc
  obtain ⟨n, hn⟩ : ∃ n, zs.length = n := ⟨_, rfl⟩
  obtain ⟨S, hS⟩ : ∃ S, (⟨(nameW k).toArray⟩ : ByteArray) = S := ⟨_, rfl⟩
  rw [hn] at HRd HSc
  rw [hS] at HRd ⊢
  clear hn hS hw hb hlen hrp hfe hf hk hz
  go_enter Tryz.func60, Tryz.ntmps60
  go_wp2_with (first
    | (go_at_call 25; refine HRd.out.mono ?_; rintro e w1 ⟨A, rfl, hr1, b1⟩)
    | (go_at_call 73; refine (HSc.out w1 A hr1).mono ?_; rintro e w2 ⟨v, rfl, hv2, b2⟩))
  go_returns
  exact ⟨v, rfl, hv2.out.mono fun j _ hj => Nat.le_trans b1.out.size hj, b1.out.trans (b2.out.mono b1.out.size)⟩
set_option maxHeartbeats 2000000 in
theorem recordsOf_cut (h : Hid (Dq (Lo G w.heap.size) w D mb s)) (ok : Hid s.Ok) (hd : s.down = false) {k : Nat} (hk : there s k) (hw : ¬ whole s k) :
    Calls Tryz.prog 60 #[.pointer (some ⟨D, 0, none⟩), .string ⟨(nameW k).toArray⟩] w fun e w' => ∃ v t, e = .returned (.tuple #[v, .bool false, .int .i64 (cutE s (nameW k) (siz (recs (bytesOf s k)) : Int) : Int)]) ∧ Hid (Rws (fun j => w.heap.size ≤ j ∧ j < t) w' v (recs (bytesOf s k))) ∧ Hid (Dq (Gn (Lo G w.heap.size) t) w' D mb (cutS s (nameW k) (siz (recs (bytesOf s k)) : Int))) ∧ Hid (But (Lo G w.heap.size) w w') ∧ Hid (w.heap.size ≤ t) := by
  obtain ⟨f, hf⟩ := Option.isSome_iff_exists.1 hk.2
  have hfe := findE_up hd hf
  have hrp : readP s (nameW k) = bytesOf s k := by unfold readP; rw [if_pos hfe]; rfl
  have hb := bytes_lt ok.out k
  have hlen : (bytesOf s k).length ≤ 1048576 := by
    have h1 := ok.out.fileOf (nameW k)
    have h2 := ok.out.use
    show (fileOf s (nameW k)).bytes.length ≤ _
    omega
  obtain ⟨zs, hz⟩ : ∃ zs, bytesOf s k = zs := ⟨_, rfl⟩
  unfold whole at hw
  rw [hz] at hrp hb hlen hw ⊢
  have HRd : Hid (Calls Tryz.prog 25 #[.pointer (some ⟨D, 0, none⟩), .string ⟨(nameW k).toArray⟩] w fun e w' => ∃ A, e = .returned (.tuple #[.slice A zs.length zs.length, .int .i64 0]) ∧ Hid (Me.Rd w' w'.heap.size A zs) ∧ Hid (Below w.heap.size w w')) :=
    (Read_any w D mb s h ok (nameW k)).mono fun e w' ⟨A, q1, q2, _, _, q5⟩ => by
      rw [hrp] at q1 q2
      rw [hfe] at q1
      exact ⟨A, q1, q2, q5⟩
  have HSc : Hid (∀ W A, Hid (Me.Rd W W.heap.size A zs) → Calls Tryz.prog 73 #[.slice A zs.length zs.length] W fun e W' => ∃ v, e = .returned (.tuple #[v, .int .i64 (siz (recs zs) : Int)]) ∧ Hid (Rws (fun j => W.heap.size ≤ j) W' v (recs zs)) ∧ Hid (Below W.heap.size W W')) := fun W A hW => Scan_any A zs.length zs W hW (Nat.le_refl _) (by omega) (by omega)
  have HCu : Hid (∀ W, Below w.heap.size w W → Calls Tryz.prog 74 #[.pointer (some ⟨D, 0, none⟩), .string ⟨(nameW k).toArray⟩, .int .i64 (siz (recs zs) : Int)] W fun e W' => e = .returned (.int .i64 (cutE s (nameW k) (siz (recs zs) : Int) : Int)) ∧ Hid (Dq (Gn (Lo G w.heap.size) W.heap.size) W' D mb (cutS s (nameW k) (siz (recs zs) : Int))) ∧ Hid (But (Lo G w.heap.size) W W')) := fun W hW =>
    (Cut_any W D mb s (h.out.below hW) ok (nameW k) (siz (recs zs) : Int))
  have hne : ((siz (recs zs) : Int) == (zs.length : Int)) = false := by
    have : ¬ (siz (recs zs) : Int) = (zs.length : Int) := by omega
    simpa using this
  have HQ : Hid (∀ w1 w2 w3 v, Below w.heap.size w w1 → Below w1.heap.size w1 w2 → Rws (fun j => w1.heap.size ≤ j) w2 v (recs zs) → But (Lo G w.heap.size) w2 w3 → Rws (fun j => w.heap.size ≤ j ∧ j < w2.heap.size) w3 v (recs zs) ∧ But (Lo G w.heap.size) w w3 ∧ w.heap.size ≤ w2.heap.size) := fun w1 w2 w3 v k1 k2 k3 k5 => by
    have b := k1.trans (k2.mono k1.size)
    refine ⟨(k3.mono (P' := fun j => w.heap.size ≤ j ∧ j < w2.heap.size) fun j hl hj => ⟨Nat.le_trans k1.size hj, hl⟩).but k5 (fun j hj e => ?_), (But.of_below b).trans k5 fun _ _ e => e, b.size⟩
    have h1 := hj.1; have h2 := e.2; omega
  obtain ⟨ce, hce⟩ : ∃ ce, cutE s (nameW k) (siz (recs zs) : Int) = ce := ⟨_, rfl⟩
  rw [hce] at HCu ⊢
  obtain ⟨n, hn⟩ : ∃ n, zs.length = n := ⟨_, rfl⟩
  rw [hn] at HRd HSc hne
  obtain ⟨cs, hcs⟩ : ∃ cs, cutS s (nameW k) (siz (recs zs) : Int) = cs := ⟨_, rfl⟩
  rw [hcs] at HCu ⊢
  obtain ⟨S, hS⟩ : ∃ S, (⟨(nameW k).toArray⟩ : ByteArray) = S := ⟨_, rfl⟩
  obtain ⟨z, hzz⟩ : ∃ z, siz (recs zs) = z := ⟨_, rfl⟩
  rw [hzz] at HSc HCu hne
  rw [hS] at HRd HCu ⊢
  clear hn hS hw hb hlen hrp hfe hf hk hz hce hcs hzz
  go_enter Tryz.func60, Tryz.ntmps60
  go_wp2_with (first
    | (go_at_call 25; refine HRd.out.mono ?_; rintro e w1 ⟨A, rfl, hr1, b1⟩)
    | (go_at_call 73; refine (HSc.out w1 A hr1).mono ?_; rintro e w2 ⟨v, rfl, hv2, b2⟩; have B2 : Hid (Below w.heap.size w w2) := b1.out.trans (b2.out.mono b1.out.size))
    | (go_at_call 74; refine (HCu.out w2 B2.out).mono ?_; rintro e w3 ⟨rfl, d3, b3⟩))
  go_returns
  obtain ⟨q1, q2, q3⟩ := HQ.out w1 w2 w3 v b1.out b2.out hv2.out b3.out
  exact ⟨v, w2.heap.size, rfl, q1, d3, q2, q3⟩
end
end Go.Proofs.YtbacgljeadalbaaGreatDoor.Wl
/- The log's segments gone through. -/
namespace Go.Proofs.YtbacgljeadalbaaGreatDoor.Wl
open Go.RowKit
open Go.Proofs.YtbacgljeadalbaaGreatDoor.Me Go.Proofs.YtbacgljeadalbaaGreatDoor.Hd Go.Proofs.YtbacgljeadalbaaGreatDoor.Dk Go.Proofs.YtbacgljeadalbaaGreatDoor.Rc
set_option linter.unusedVariables false
set_option linter.unusedSimpArgs false

theorem _root_.Go.Proofs.YtbacgljeadalbaaGreatDoor.Hd.Rws.own {P : Nat → Prop} {w : World} {v : Value} {ps : List (List Nat)} (h : Rws P w v ps) : ∀ k, v.ownBlock = some k → P k := by
  obtain ⟨vs, _, h2, _⟩ := h
  exact h2
/-- Box b holds these names, in memory from block n on. -/
structure Nb (w : World) (n b : Nat) (ns : List Nm) : Prop where
  lt : b < w.heap.size
  low : n ≤ b
  box : ∃ A c, w.cell? ⟨b, 0, none⟩ = some (.slice A ns.length c) ∧ (0 < ns.length → ∃ g, A = some ⟨g, 0, none⟩ ∧ n ≤ g ∧ g < w.heap.size ∧ ∀ i, i < ns.length → w.cell? ⟨g, i, none⟩ = some (nmV (ns.getD i [])))
theorem Nb.but {S : Nat → Prop} {w w' : World} {n b : Nat} {ns : List Nm} (h : Nb w n b ns) (hb : But S w w') (hS : ∀ k, n ≤ k → ¬ S k) : Nb w' n b ns := by
  obtain ⟨A, c, h1, h2⟩ := h.box
  refine ⟨Nat.lt_of_lt_of_le h.lt hb.size, h.low, A, c, by rw [World.cell?_of_block (a := ⟨b, 0, none⟩) (hb.same b h.lt (hS b h.low))]; exact h1, fun hl => ?_⟩
  obtain ⟨g, e, q1, q2, q3⟩ := h2 hl
  exact ⟨g, e, q1, Nat.lt_of_lt_of_le q2 hb.size, fun i hi => by rw [World.cell?_of_block (a := ⟨g, i, none⟩) (hb.same g q2 (hS g q1))]; exact q3 i hi⟩
set_option maxHeartbeats 2000000 in
/-- Is the file of the segment k among them? -/
theorem there_any (w : World) (n b : Nat) (ns : List Nm) (h : Hid (Nb w n b ns)) (hl : ns.length ≤ 64) (k : Int) :
    Calls Tryz.prog 58 #[.int .i64 k, .pointer (some ⟨b, 0, none⟩)] w fun e w' => e = .returned (.bool (decide (nameI k ∈ ns))) ∧ Hid (Below w.heap.size w w') := by
  obtain ⟨A, c, hbox, hcells⟩ := h.out.box
  have S0 : Hid (w.drew.cell? ⟨b, 0, none⟩ = some (.slice A ns.length c) ∧ Below w.heap.size w w.drew) := ⟨hbox, (Below.refl _ w).drew⟩
  have HK : Hid (∀ W, Below w.heap.size w W → W.cell? ⟨b, 0, none⟩ = some (.slice A ns.length c)) := fun W hW => by rw [hW.cell (p := ⟨b, 0, none⟩) h.out.lt]; exact hbox
  have HN : Hid (∀ W, (W.cell? ⟨b, 0, none⟩ = some (.slice A ns.length c) ∧ Below w.heap.size w W) → Calls Tryz.prog 7 #[.int .i64 k] W fun e W' => e = .returned (.string ⟨(nameI k).toArray⟩) ∧ W'.cell? ⟨b, 0, none⟩ = some (.slice A ns.length c) ∧ Below w.heap.size w W') := fun W hW =>
    (Name_any k W).mono fun e W' ⟨h1, h2⟩ => by
      have := hW.2.trans (h2.out.mono hW.2.size)
      exact ⟨h1, HK.out W' this, this⟩
  have HC : Hid (∀ W, (W.cell? ⟨b, 0, none⟩ = some (.slice A ns.length c) ∧ Below w.heap.size w W) → Calls Tryz.prog 59 #[.slice A ns.length c, .string ⟨(nameI k).toArray⟩] W fun e W' => e = .returned (.bool (decide (nameI k ∈ ns))) ∧ W'.cell? ⟨b, 0, none⟩ = some (.slice A ns.length c) ∧ Below w.heap.size w W') := fun W hW => by
    by_cases h0 : 0 < ns.length
    · obtain ⟨g, rfl, q1, q2, q3⟩ := hcells h0
      have hz : ((ns.map fun n => (⟨n.toArray⟩ : ByteArray))).length = ns.length := by simp
      refine (Tryz.ConS g 0 ns.length c (ns.map fun n => (⟨n.toArray⟩ : ByteArray)) ⟨(nameI k).toArray⟩ W (by rw [hz]; exact Nat.le_refl _) (by omega) fun j hj => ?_).mono ?_
      · rw [hz] at hj
        rw [Nat.zero_add, hW.2.cell (p := ⟨g, j, none⟩) q2, q3 j hj]
        simp [List.getD, hj]
      · rintro e W' ⟨h1, rfl⟩
        refine ⟨?_, hW⟩
        rw [h1, List.take_of_length_le (by rw [hz]; exact Nat.le_refl _)]
        congr 2
        rw [Bool.eq_iff_iff, Lib.containsS_iff, decide_eq_true_eq]
        constructor
        · intro hm
          obtain ⟨m, hm, e⟩ := List.mem_map.1 hm
          injection e with e
          have : m = nameI k := by
            have := congrArg Array.toList e
            simpa using this
          rw [← this]; exact hm
        · exact fun hm => List.mem_map.2 ⟨_, hm, rfl⟩
    · have e0 : ns = [] := List.eq_nil_of_length_eq_zero (by omega)
      subst e0
      refine (Tryz.ConS0 A c ⟨(nameI k).toArray⟩ W).mono ?_
      rintro e W' ⟨h1, rfl⟩
      exact ⟨by rw [h1]; simp, hW⟩
  obtain ⟨N, hNn⟩ : ∃ N, ns.length = N := ⟨_, rfl⟩
  obtain ⟨S, hS⟩ : ∃ S, (⟨(nameI k).toArray⟩ : ByteArray) = S := ⟨_, rfl⟩
  obtain ⟨d, hd⟩ : ∃ d, decide (nameI k ∈ ns) = d := ⟨_, rfl⟩
  rw [hNn] at S0 HN HC
  rw [hS] at HN HC
  rw [hd] at HC ⊢
  clear hNn hS hd h hbox hcells HK hl
  go_enter Tryz.func58, Tryz.ntmps58
  go_wp2
  go_region_held (fun W => W.cell? ⟨b, 0, none⟩ = some (.slice A N c) ∧ Below w.heap.size w W) (first | assumption | exact S0.out)
    (first
      | (go_at_call 7; (refine (HN.out _ ?_).mono ?_); (exact (by assumption)); rintro e w1 ⟨rfl, hS1⟩)
      | (go_at_call 59; (refine (HC.out _ ?_).mono ?_); (exact (by assumption)); rintro e w2 ⟨rfl, hS2⟩))
  all_goals
    rename_i hfin
    have HB := Lib.hid hfin.2
    clear hfin
    go_wp2
    go_ret
    exact ⟨rfl, HB⟩
theorem there_mem {s : St} (ok : s.Ok) (k : Nat) : nameI (k : Int) ∈ namesL s.files ↔ there s k := by
  unfold there
  by_cases hk : isN k
  · rw [nameI_nat hk]
    constructor
    · intro h
      obtain ⟨p, hp, e⟩ := List.mem_map.1 h
      refine ⟨hk, ?_⟩
      rw [← e, look_of_mem ok.srt (n := p.1) (f := p.2) hp]
      rfl
    · rintro ⟨_, h⟩
      obtain ⟨f, hf⟩ := Option.isSome_iff_exists.1 h
      exact List.mem_map.2 ⟨_, look_mem hf, rfl⟩
  · rw [nameI_no (by unfold isN at hk; omega)]
    constructor
    · intro h
      obtain ⟨p, hp, e⟩ := List.mem_map.1 h
      have := ok.nm p hp
      rw [e] at this
      simp [nameOk] at this
    · exact fun h => absurd h.1 hk
theorem recs_len {s : St} (ok : s.Ok) (k : Nat) : (recs (bytesOf s k)).length ≤ 1048576 := by
  have h1 := recs_many (bytesOf s k)
  have h2 := (ok.fileOf (nameW k)).2.1
  have h3 := ok.use
  have h4 : (bytesOf s k).length = (fileOf s (nameW k)).bytes.length := rfl
  omega
theorem pays_len {s : St} (ok : s.Ok) : ∀ m, (pays s m).length ≤ m * 1048576
  | 0 => Nat.le_refl _
  | m + 1 => by
    have ih := pays_len ok m
    have h1 := recs_many (bytesOf s (m + 1))
    have h2 := (ok.fileOf (nameW (m + 1))).2.1
    have h3 := ok.use
    have h4 : (bytesOf s (m + 1)).length = (fileOf s (nameW (m + 1))).bytes.length := rfl
    rw [pays, List.length_append]
    omega
end Go.Proofs.YtbacgljeadalbaaGreatDoor.Wl
