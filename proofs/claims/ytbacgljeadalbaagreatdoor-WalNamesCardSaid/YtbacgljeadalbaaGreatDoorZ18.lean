/- The law's own question 'is a record found?' is answered true, whatever the memory. -/
import Derived.Test.YtbacgljeadalbaaGreatDoorZ13
import Derived.Test.YtbacgljeadalbaaGreatDoorZ16
import Derived.Test.YtbacgljeadalbaaGreatDoorZ17
import Derived.Test.YtbacgljeadalbaaGreatDoorZ6
import Derived.Lib.SlBytesConst
namespace Go.Proofs.YtbacgljeadalbaaGreatDoor.Rc
open Go.RowKit
open Go.Proofs.YtbacgljeadalbaaGreatDoor.Me Go.Proofs.YtbacgljeadalbaaGreatDoor.Ma Go.Proofs.YtbacgljeadalbaaGreatDoor.Hd
set_option linter.unusedVariables false
set_option linter.unusedSimpArgs false

/-- A row of slices that lie in memory, read. -/
theorem row_conv {w : World} {A : Option Addr} {ps : List (List Nat)} (h : Me.Lst w w.heap.size A ps) (n : Me.Nils w A ps) {j : Nat} (hj : j < ps.length) : ∃ b off R cr, A = some ⟨b, off, none⟩ ∧ w.cell? ⟨b, off + j, none⟩ = some (.slice R (lsAt ps j).length cr) ∧ (lsAt ps j).length ≤ cr ∧ cr ≤ 9223372036854775807 ∧ Rd w w.heap.size R (lsAt ps j) ∧ (R = none → (lsAt ps j).length = 0 ∧ cr = 0) := by
  obtain ⟨b, off, rfl, hb, hc⟩ := h (by omega)
  obtain ⟨R, cr, g1, g2, g3, g4⟩ := hc j hj
  exact ⟨b, off, R, cr, rfl, g1, g2, g3, g4, by rintro rfl; exact n b off rfl j hj _ _ g1⟩
theorem fine_a : Fine [[97]] := by
  intro p hp
  simp at hp; subst hp
  exact ⟨by decide, by decide⟩
theorem flat_a : flatR [[97]] = recL [97] := by simp [flatR]
theorem recs_a : recs (recL [97]) = [[97]] := by rw [← flat_a]; exact recs_flat fine_a
theorem Put_a (w : World) : Calls Tryz.prog 30 #[.slice (some ⟨w.heap.size, 0, none⟩) 1 1] (w.alloc (.cells #[.int .u8 97] 5 (1, 2))) fun e w' => ∃ A k, e = .returned (.tuple #[.slice A 9 k, .int .i64 0]) ∧ Hid (Rd w' w'.heap.size A (recL [97])) ∧ 9 ≤ k ∧ k ≤ 9223372036854775807 ∧ Hid (Below w.heap.size w w') := by
  have hr : Rd (w.alloc (.cells #[.int .u8 97] 5 (1, 2))) (w.alloc (.cells #[.int .u8 97] 5 (1, 2))).heap.size (some ⟨w.heap.size, 0, none⟩) [97] := by
    have := rd_lit (w := w) (r := [97]) (by decide) 5 (1, 2)
    exact this.more (by simp)
  have hl : (recL [97]).length = 9 := rec_len _
  refine (Put_any (some ⟨w.heap.size, 0, none⟩) 1 [97] _ hr (fun e => by cases e) (by decide) (by decide)).mono ?_
  rintro e w' ⟨A, k, he, hO, hB⟩
  rw [(put_fit (p := [97]) (by decide)).1, (put_fit (p := [97]) (by decide)).2, hl] at he
  rw [(put_fit (p := [97]) (by decide)).1] at hO
  obtain ⟨r1, r2, r3, r4⟩ := own_rd hO.out (rec_bytes (by decide))
  exact ⟨A, k, he, r1, by rw [hl] at r3; exact r3, r4, (below_alloc (Below.refl _ _)).trans (hB.out.mono (by simp))⟩
theorem Scan_a (A : Option Addr) (k : Nat) (w : World) (hr : Hid (Rd w w.heap.size A (recL [97]))) (h1 : 9 ≤ k) (h2 : k ≤ 9223372036854775807) :
    Calls Tryz.prog 73 #[.slice A 9 k] w fun e w' => ∃ b off c R cr, e = .returned (.tuple #[.slice (some ⟨b, off, none⟩) 1 c, .int .i64 9]) ∧ w'.cell? ⟨b, off, none⟩ = some (.slice R 1 cr) ∧ (convert 32 9 (.slice R 1 cr)).run Tryz.prog w' = .ok (.string { data := #[97] }) w' ∧ Hid (Below w.heap.size w w') := by
  have hl : (recL [97]).length = 9 := rec_len _
  have h := Scan_any A k (recL [97]) w hr (by omega) h2 (by omega)
  rw [hl] at h
  refine h.mono ?_
  rintro e w' ⟨v, he, hR, hB⟩
  rw [recs_a] at he hR
  obtain ⟨A4, c4, rfl, q1, q2, q3, q4, q5⟩ := hR.out.lst (by decide)
  obtain ⟨b, off, R, cr, rfl, g1, g2, g3, g4, g5⟩ := row_conv (j := 0) q3 q4 (by decide)
  exact ⟨b, off, c4, R, cr, he, g1, conv_rd w' _ R [97] cr g4 g5, hB⟩
end Go.Proofs.YtbacgljeadalbaaGreatDoor.Rc
/- The law's own question is answered true, whatever the memory. -/
namespace Go.Proofs.YtbacgljeadalbaaGreatDoor.Wl
open Go.RowKit
open Go.Proofs.YtbacgljeadalbaaGreatDoor.Me Go.Proofs.YtbacgljeadalbaaGreatDoor.Hd Go.Proofs.YtbacgljeadalbaaGreatDoor.Dk Go.Proofs.YtbacgljeadalbaaGreatDoor.Rc
set_option linter.unusedVariables false
set_option linter.unusedSimpArgs false

/-! ### All that is one's own lies from block B on -/
section
variable {B X D mb size : Nat} {s : St} {g : Lg}
theorem lq_from {G : Nat → Prop} {w : World} (h : Lq G w X D mb s g size) (hG : ∀ k, G k → B ≤ k) : Lq (From B) w X D mb s g size := h.mono fun k _ hk => hG k hk
theorem wlp_from {G : Nat → Prop} {w w' : World} {r : Rs} {e : Ending} (hp : WlP G w X D mb size r e w') (hG : ∀ k, G k → B ≤ k) (hB : B ≤ w.heap.size) : e = .returned (.int .i64 (r.e : Int)) ∧ Hid (Lq (From B) w' X D mb r.s r.g size) ∧ Hid (Below B w w') :=
  ⟨hp.1, lq_from hp.2.1.out fun k hk => hk.elim (hG k) fun e => Nat.le_trans hB e, hp.2.2.out.below hB hG⟩
theorem lq_le {w : World} (h : Lq (From B) w X D mb s g size) : B ≤ w.heap.size := Nat.le_trans h.gX (Nat.le_of_lt h.lt)
/-- Open, where the disk is one's own. -/
theorem Open_from (W : World) (h : Hid (Dq (From B) W D mb s)) (ok : Hid s.Ok) (hs : Hid (Seg s.files)) (hc : Hid (Calm s)) (h1 : 16 ≤ size) (h2 : size ≤ 1048576) (hB : B ≤ W.heap.size) :
    Calls Tryz.prog 17 #[.pointer (some ⟨D, 0, none⟩), .int .i64 1, .int .i64 (size : Int)] W fun e w' => ∃ (s' : St) (last : Nat) (ps : List (List Nat)) (v : Value) (X : Nat) (G' : Nat → Prop), e = .returned (.tuple #[.pointer (some ⟨X, 0, none⟩), v, .int .i64 0]) ∧ Hid (Opens s s' last ps) ∧ Hid (Rws (fun k => W.heap.size ≤ k ∧ ¬ G' k) w' v ps) ∧ Hid (Lq G' w' X D mb s' ⟨last, false⟩ size) ∧ Hid (∀ k, G' k → B ≤ k) ∧ Hid (Below B W w') := by
  refine (Open_any (G := Lo (From B) W.heap.size) W D mb s size (h.out.mono fun k hk e => ⟨e, hk⟩) ok hs hc h1 h2 fun k e => e.2).mono fun e w' ⟨s', last, ps, v, X, G', q1, q2, q3, q4, q5, q6⟩ => ⟨s', last, ps, v, X, G', q1, q2, q3, q4, fun k hk => ?_, q6.out.below hB fun k e => e.1⟩
  rcases q5.out k hk with e | e
  · exact e.1
  · exact Nat.le_trans hB e
end

/-! ### A log of a hundred bytes -/
def k1 : Rs := appR (newS 100) ⟨1, false⟩ [97] 20 0
def k2 : Rs := syncR k1.s k1.g
def k3 : Rs := appR k2.s k2.g [98] 20 0
def k4 : St := crashS k3.s []
theorem k1e : k1.e = 0 := by decide +kernel
theorem k2e : k2.e = 0 := by decide +kernel
theorem k3e : k3.e = 0 := by decide +kernel
theorem k4f : k4.files = k2.s.files := by kernel_rfl
theorem k4c : crashS k4 [] = k4 := by
  unfold k4 crashS
  congr 1
theorem new_good : Good (newS 100) ⟨1, false⟩ := ⟨St.Ok.new (by decide), Seg.nil, (show isN 1 from ⟨by omega, by omega⟩)⟩
theorem k1g : Good k1.s k1.g := new_good.app (by decide) _ _
theorem k2g : Good k2.s k2.g := k1g.sync.1
theorem k3g : Good k3.s k3.g := k2g.app (by decide) _ _
theorem k4k : Kp k4 k2.g [[97]] 1 := by
  have h0 : Kp (newS 100) ⟨1, false⟩ [] 0 := Kp.new (St.Ok.new (by decide)) rfl rfl
  have h1 := app_K h0 (p := [97]) (by decide) 20 0 (fun _ => by decide)
  rw [show appR (newS 100) ⟨1, false⟩ [97] 20 0 = k1 from rfl, if_pos k1e] at h1
  have h2 := (sync_K h1).1 k2e
  exact (h2.kp (safe := 1) (by decide)).same k4f rfl (k3g.ok.crash [])
theorem k4o {s' : St} {last : Nat} {ps : List (List Nat)} (h : Opens k4 s' last ps) : ps = [[97]] := by
  rw [← k4c] at h
  obtain ⟨n, h1, h2, rfl⟩ := opens_K k4k h
  have h2 : n ≤ 1 := h2
  obtain rfl : n = 1 := by omega
  rfl
theorem new_calm (n : Nat) : Calm (newS n) := ⟨rfl, rfl⟩
theorem app_lit1 {B X D mb : Nat} (W : World) (s : St) (g : Lg) (h : Hid (Lq (From B) W X D mb s g 20)) (x : Nat) (hx : x < 256) (fr : Nat × Nat) :
    Calls Tryz.prog 12 #[.pointer (some ⟨X, 0, none⟩), .slice (some ⟨W.heap.size, 0, none⟩) 1 1] (W.alloc (.cells #[.int .u8 (x : Int)] 5 fr)) fun e w' => e = .returned (.int .i64 ((appR s g [x] 20 0).e : Int)) ∧ Hid (Lq (From B) w' X D mb (appR s g [x] 20 0).s (appR s g [x] 20 0).g 20) ∧ Hid (Below B W w') := by
  have hb : Below W.heap.size W (W.alloc (.cells #[.int .u8 (x : Int)] 5 fr)) := Me.below_alloc (Below.refl _ _)
  have hl := lq_le h.out
  refine (Append_any (W.alloc (.cells #[.int .u8 (x : Int)] 5 fr)) X D mb s g 20 (h.out.below hb) (some ⟨W.heap.size, 0, none⟩) 1 [x] ((Me.rd_lit (w := W) (r := [x]) (by simpa using hx) 5 fr).more (by simp)) (fun e => by cases e) (by simp) (by decide)).mono ?_
  intro e w' hp
  obtain ⟨q1, q2, q3⟩ := wlp_from hp (fun k e => e) (by simp; omega)
  exact ⟨q1, q2, (hb.mono hl).trans q3.out⟩
set_option maxRecDepth 100000 in
set_option maxHeartbeats 4000000 in
theorem awake_any (w : World) : Calls Tryz.prog 9 #[] w fun e w' => e = .returned (.bool true) ∧ Hid (Below w.heap.size w w') := by
  have kc := fun (w : World) (C : Array Value) (n c : Nat) => Lib.run_convert_bytes_const (P := Tryz.prog) w 32 5 C n c Tryz.underlying32 Tryz.underlying5
  have N := Lib.hid (New_f 100 (by decide) (by decide) w)
  rw [show ((100 : Nat) : Int) = 100 from rfl] at N
  obtain ⟨s, hs⟩ : ∃ s, w.heap.size = s := ⟨_, rfl⟩
  have HSS := Lib.hid hs
  rw [hs] at N ⊢
  have O1 : Hid (∀ W : World, Hid (Df s W (s + 1) s (newS 100)) → Calls Tryz.prog 17 #[.pointer (some ⟨s + 1, 0, none⟩), .int .i64 1, .int .i64 20] W fun e w' => ∃ v X, e = .returned (.tuple #[.pointer (some ⟨X, 0, none⟩), v, .int .i64 0]) ∧ Hid (Lq (From s) w' X (s + 1) s (newS 100) ⟨1, false⟩ 20) ∧ Hid (Below s W w')) :=
    fun W h => (Open_from (size := 20) W h.out.dq h.out.ok Seg.nil (new_calm 100) (by decide) (by decide) h.out.lt).mono fun e w' ⟨s', last, ps, v, X, G', q1, q2, q3, q4, q5, q6⟩ => by
      obtain ⟨rfl, rfl, rfl⟩ := opens_none rfl q2.out
      exact ⟨v, X, q1, lq_from q4.out q5.out, q6⟩
  have A1 : Hid (∀ (W : World) X, Hid (Lq (From s) W X (s + 1) s (newS 100) ⟨1, false⟩ 20) → Calls Tryz.prog 12 #[.pointer (some ⟨X, 0, none⟩), .slice (some ⟨W.heap.size, 0, none⟩) 1 1] (W.alloc (.cells #[.int .u8 97] 5 (1, 2))) fun e w' => e = .returned (.int .i64 0) ∧ Hid (Lq (From s) w' X (s + 1) s k1.s k1.g 20) ∧ Hid (Below s W w')) :=
    fun W X h => (app_lit1 W (newS 100) ⟨1, false⟩ h 97 (by decide) (1, 2)).mono fun e w' q => by
      obtain ⟨q1, q2, q3⟩ := q
      rw [show appR (newS 100) ⟨1, false⟩ [97] 20 0 = k1 from rfl, k1e] at q1
      exact ⟨q1, q2, q3⟩
  have S1 : Hid (∀ (W : World) X, Hid (Lq (From s) W X (s + 1) s k1.s k1.g 20) → Calls Tryz.prog 13 #[.pointer (some ⟨X, 0, none⟩)] W fun e w' => e = .returned (.int .i64 0) ∧ Hid (Lq (From s) w' X (s + 1) s k2.s k2.g 20) ∧ Hid (Below s W w')) :=
    fun W X h => (Sync_any W X (s + 1) s k1.s k1.g 20 h).mono fun e w' hp => by
      obtain ⟨q1, q2, q3⟩ := wlp_from hp (fun k e => e) (lq_le h.out)
      rw [show syncR k1.s k1.g = k2 from rfl, k2e] at q1
      exact ⟨q1, q2, q3⟩
  have A2 : Hid (∀ (W : World) X, Hid (Lq (From s) W X (s + 1) s k2.s k2.g 20) → Calls Tryz.prog 12 #[.pointer (some ⟨X, 0, none⟩), .slice (some ⟨W.heap.size, 0, none⟩) 1 1] (W.alloc (.cells #[.int .u8 98] 5 (1, 2))) fun e w' => e = .returned (.int .i64 0) ∧ Hid (Lq (From s) w' X (s + 1) s k3.s k3.g 20) ∧ Hid (Below s W w')) :=
    fun W X h => (app_lit1 W k2.s k2.g h 98 (by decide) (1, 2)).mono fun e w' q => by
      obtain ⟨q1, q2, q3⟩ := q
      rw [show appR k2.s k2.g [98] 20 0 = k3 from rfl, k3e] at q1
      exact ⟨q1, q2, q3⟩
  have C1 : Hid (∀ (W : World) X, Hid (Lq (From s) W X (s + 1) s k3.s k3.g 20) → Calls Tryz.prog 16 #[.pointer (some ⟨s + 1, 0, none⟩), .slice none 0 0] W fun e w' => e = .returned (.int .i64 0) ∧ Hid (Df s w' (s + 1) s k4) ∧ Hid (Below s W w')) :=
    fun W X h => Crash_none (st := k3.s) W (s + 1) s ⟨h.out.dq.mono fun k _ e => e.1, h.out.good.ok⟩
  have O2 : Hid (∀ W : World, Hid (Df s W (s + 1) s k4) → Calls Tryz.prog 17 #[.pointer (some ⟨s + 1, 0, none⟩), .int .i64 1, .int .i64 20] W fun e w' => ∃ b off c R cr X, e = .returned (.tuple #[.pointer (some ⟨X, 0, none⟩), .slice (some ⟨b, off, none⟩) 1 c, .int .i64 0]) ∧ w'.cell? ⟨b, off, none⟩ = some (.slice R 1 cr) ∧ (convert 32 9 (.slice R 1 cr)).run Tryz.prog w' = .ok (.string { data := #[97] }) w' ∧ Hid (Below s W w')) :=
    fun W h => (Open_from (size := 20) W h.out.dq h.out.ok (k3g.seg.crash []) ⟨rfl, rfl⟩ (by decide) (by decide) h.out.lt).mono fun e w' ⟨s', last, ps, v, X, G', q1, q2, q3, q4, q5, q6⟩ => by
      obtain rfl := k4o q2.out
      obtain ⟨A4, c4, rfl, r1, r2, r3, r4, r5⟩ := q3.out.lst (by decide)
      obtain ⟨b, off, R, cr, rfl, g1, g2, g3, g4, g5⟩ := row_conv (j := 0) r3 r4 (by decide)
      exact ⟨b, off, c4, R, cr, X, q1, g1, conv_rd w' _ R [97] cr g4 g5, q6⟩
  have NM : Hid (∀ W : World, Calls Tryz.prog 7 #[.int .i64 12] W fun e w' => e = .returned (.string ⟨#[119, 48, 48, 48, 49, 50]⟩) ∧ Hid (Below W.heap.size W w')) := fun W => Name_seg (k := 12) (by unfold isN; omega) W
  have HB : Hid (∀ w1 w2 w3 w4 w5 w6 w7 w8, Below s w w1 → Below s w1 w2 → Below s w2 w3 → Below s w3 w4 → Below s w4 w5 → Below s w5 w6 → Below s w6 w7 → Below w7.heap.size w7 w8 → Below s w w8) := fun w1 w2 w3 w4 w5 w6 w7 w8 b1 b2 b3 b4 b5 b6 b7 b8 => by
    have hb := b1.trans (b2.trans (b3.trans (b4.trans (b5.trans (b6.trans b7)))))
    exact hb.trans (b8.mono (Nat.le_trans (Nat.le_of_eq HSS.out.symm) hb.size))
  clear hs
  go_enter Tryz.func9, Tryz.ntmps9
  go_wp2_with (first
    | (go_at_call 29; refine N.out.mono ?_; rintro e w1 ⟨rfl, H1, B1⟩)
    | (go_at_call 17; ((with_reducible refine (O1.out w1 H1).mono ?_); rintro e w2 ⟨v, X, rfl, H2, B2⟩))
    | (go_at_call 12; (with_reducible refine (A1.out w2 X H2).mono ?_); rintro e w3 ⟨rfl, H3, B3⟩)
    | (go_at_call 13; refine (S1.out w3 X H3).mono ?_; rintro e w4 ⟨rfl, H4, B4⟩)
    | (go_at_call 12; (with_reducible refine (A2.out w4 X H4).mono ?_); rintro e w5 ⟨rfl, H5, B5⟩)
    | (go_at_call 16; refine (C1.out w5 X H5).mono ?_; rintro e w6 ⟨rfl, H6, B6⟩)
    | (go_at_call 17; ((with_reducible refine (O2.out w6 H6).mono ?_); rintro e w7 ⟨b, off, c7, R, cr, X7, rfl, g1, g2, B7⟩))
    | (go_at_call 7; refine (NM.out w7).mono ?_; rintro e w8 ⟨rfl, B8⟩))
  go_ret
  exact ⟨rfl, HB.out _ _ _ _ _ _ _ _ B1.out B2.out B3.out B4.out B5.out B6.out B7.out B8.out⟩
theorem awake_below {w0 w : World} (hb : Hid (Below w0.heap.size w0 w)) : Calls Tryz.prog 9 #[] w fun e w' => e = .returned (.bool true) ∧ Hid (Below w0.heap.size w0 w') :=
  (awake_any w).mono fun _ _ ⟨he, h⟩ => ⟨he, hb.out.trans (h.out.mono hb.out.size)⟩
end Go.Proofs.YtbacgljeadalbaaGreatDoor.Wl
/- The walk of the law WalNames. -/
namespace Go.Proofs.YtbacgljeadalbaaGreatDoor.Wl
open Go.RowKit
open Go.Proofs.YtbacgljeadalbaaGreatDoor.Me Go.Proofs.YtbacgljeadalbaaGreatDoor.Hd Go.Proofs.YtbacgljeadalbaaGreatDoor.Dk
set_option linter.unusedVariables false
set_option linter.unusedSimpArgs false

theorem wnames (k : Int) (w : World) (_hk : (Lit.int .i64 k).wf = true) : Calls Tryz.prog 3 #[.int .i64 k] w fun e w' => e = .returned (.bool true) ∧ Below w.heap.size w w' := by
  have HN : Hid (∀ W, Calls Tryz.prog 7 #[.int .i64 k] W fun e w' => e = .returned (.string ⟨(nameI k).toArray⟩) ∧ Hid (Below W.heap.size W w')) := fun W => Name_any k W
  have HR : Hid (∀ W, Calls Tryz.prog 8 #[.int .i64 k] W fun e w' => e = .returned (.string ⟨(nameI k).toArray⟩) ∧ W = w') := fun W => RName_any k W
  obtain ⟨S, hS⟩ : ∃ S, (⟨(nameI k).toArray⟩ : ByteArray) = S := ⟨_, rfl⟩
  rw [hS] at HN HR
  clear hS
  go_enter Tryz.func3, Tryz.ntmps3
  go_wp2_with (first
    | (go_at_call 7; refine (HN.out _).mono ?_; rintro e w1 ⟨rfl, b1⟩)
    | (go_at_call 8; refine (HR.out _).mono ?_; rintro e w' ⟨rfl, rfl⟩)
    | (go_at_call 9; refine (awake_below b1).mono ?_; rintro e w2 ⟨rfl, b2⟩))
  go_ret
  exact ⟨rfl, b2.out⟩
end Go.Proofs.YtbacgljeadalbaaGreatDoor.Wl
