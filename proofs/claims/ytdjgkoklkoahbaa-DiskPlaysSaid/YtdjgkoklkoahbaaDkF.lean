/- The disk's calls for the laws: all own blocks from s on. -/
import Derived.Test.YtdjgkoklkoahbaaDkAppB
import Derived.Test.YtdjgkoklkoahbaaDkCrash
import Derived.Test.YtdjgkoklkoahbaaDkFork
import Derived.Test.YtdjgkoklkoahbaaDkOpsC
namespace Go.Proofs.Ytdjgkoklkoahbaa.Dk
open Go.RowKit
open Go.Proofs.Ytdjgkoklkoahbaa.Me Go.Proofs.Ytdjgkoklkoahbaa.Hd
set_option linter.unusedVariables false
set_option linter.unusedSimpArgs false

/-- All from block s on. -/
abbrev From (s : Nat) : Nat → Prop := fun k => s ≤ k
/-- A disk of the law's own, all of it from block s on. -/
structure Df (s : Nat) (w : World) (D mb : Nat) (st : St) : Prop where
  dq : Dq (From s) w D mb st
  ok : st.Ok
theorem Df.lt {s : Nat} {w : World} {D mb : Nat} {st : St} (h : Df s w D mb st) : s ≤ w.heap.size := Nat.le_trans h.dq.gD (Nat.le_of_lt h.dq.lt)
theorem Df.below {s : Nat} {w w' : World} {D mb : Nat} {st : St} (h : Df s w D mb st) (hb : Below w.heap.size w w') : Df s w' D mb st := ⟨h.dq.below hb, h.ok⟩
theorem Df.keep {s B : Nat} {w w' : World} {D mb : Nat} {st : St} (h : Df s w D mb st) (hb : Below B w w') (hB : w.heap.size ≤ B) : Df s w' D mb st := h.below (hb.mono hB)
/-- What a changing call answers, and leaves. -/
def OpF (s : Nat) (w : World) (D mb : Nat) (st' : St) (c : Nat) (e : Ending) (w' : World) : Prop := e = .returned (.int .i64 (c : Int)) ∧ Hid (Df s w' D mb st') ∧ Hid (Below s w w')
theorem OpF.of {G : Nat → Prop} {s : Nat} {w : World} {D mb : Nat} {st' : St} {c : Nat} {e : Ending} {w' : World} (h : OpP G w D mb st' c e w') (hG : ∀ k, G k → s ≤ k) (hs : s ≤ w.heap.size) (ok : st'.Ok) : OpF s w D mb st' c e w' := by
  obtain ⟨h1, h2, h3⟩ := h
  refine ⟨h1, ⟨h2.out.mono fun k _ hk => ?_, ok⟩, h3.out.below hs hG⟩
  rcases hk with hk | hk
  · exact hG k hk
  · exact Nat.le_trans hs hk
section
variable {s : Nat} (w : World) (D mb : Nat) (st : St)
theorem Append_f (h : Hid (Df s w D mb st)) (n : Nm) (Ap : Option Addr) (cp : Nat) (l : List Nat) (hr : Hid (Me.Rd w w.heap.size Ap l)) (hA : Hid (Ap = none → l.length = 0 ∧ cp = 0)) (hl : l.length ≤ 140737488351232) :
    Calls Try.prog 14 #[.pointer (some ⟨D, 0, none⟩), nmV n, .slice Ap l.length cp] w (OpF s w D mb (appS st n l) (appE st n l)) :=
  (Append_any w D mb st h.out.dq h.out.ok n Ap cp l hr hA hl).mono fun e w' hp => OpF.of hp (fun _ hk => hk) h.out.lt (h.out.ok.app n hr.out.1)
theorem Sync_f (h : Hid (Df s w D mb st)) (n : Nm) : Calls Try.prog 23 #[.pointer (some ⟨D, 0, none⟩), nmV n] w (OpF s w D mb (syncS st n) (findE st n)) :=
  (Sync_any w D mb st h.out.dq h.out.ok n).mono fun e w' hp => OpF.of hp (fun _ hk => hk) h.out.lt (h.out.ok.sync n)
theorem Cut_f (h : Hid (Df s w D mb st)) (n : Nm) (k : Int) : Calls Try.prog 26 #[.pointer (some ⟨D, 0, none⟩), nmV n, .int .i64 k] w (OpF s w D mb (cutS st n k) (cutE st n k)) :=
  (Cut_any w D mb st h.out.dq h.out.ok n k).mono fun e w' hp => OpF.of hp (fun _ hk => hk) h.out.lt (h.out.ok.cut n k)
theorem Rename_f (h : Hid (Df s w D mb st)) (a b : Nm) : Calls Try.prog 27 #[.pointer (some ⟨D, 0, none⟩), nmV a, nmV b] w (OpF s w D mb (renS st a b) (renE st a b)) :=
  (Rename_any w D mb st h.out.dq h.out.ok a b).mono fun e w' hp => OpF.of hp (fun _ hk => hk) h.out.lt (h.out.ok.ren a b)
theorem Remove_f (h : Hid (Df s w D mb st)) (n : Nm) : Calls Try.prog 28 #[.pointer (some ⟨D, 0, none⟩), nmV n] w (OpF s w D mb (remS st n) (findE st n)) :=
  (Remove_any w D mb st h.out.dq h.out.ok n).mono fun e w' hp => OpF.of hp (fun _ hk => hk) h.out.lt (h.out.ok.rem n)
theorem Limit_f (h : Hid (Df s w D mb st)) (k : Int) : Calls Try.prog 30 #[.pointer (some ⟨D, 0, none⟩), .int .i64 k] w (OpF s w D mb (limS st k) (limE k)) :=
  (Limit_any w D mb st h.out.dq k).mono fun e w' ⟨h1, h2, h3⟩ => ⟨h1, ⟨h2.out, h.out.ok.lim' k⟩, h3.out.below h.out.lt fun _ hk => hk⟩
theorem Arm_f (h : Hid (Df s w D mb st)) (k : Int) (hk : k ≤ 9223372036854775807) : Calls Try.prog 29 #[.pointer (some ⟨D, 0, none⟩), .int .i64 k] w (OpF s w D mb (armS st k) (armE st)) :=
  (Arm_any w D mb st h.out.dq k).mono fun e w' ⟨h1, h2, h3⟩ => ⟨h1, ⟨h2.out, h.out.ok.arm hk⟩, h3.out.below h.out.lt fun _ hk => hk⟩
/-- A crash: what is kept is told by a slice that is none of the disk's. -/
theorem Crash_f {B : Nat} (h : Hid (Dq (fun k => s ≤ k ∧ k < B) w D mb st)) (ok : Hid st.Ok) (A : Option Addr) (c : Nat) (ks : List Int) (hr : Hid (Mi.Rd w w.heap.size A ks)) (hc : ks.length ≤ c) (hc2 : c ≤ 9223372036854775807) (hG : Hid (∀ a, A = some a → a.block < s ∨ B ≤ a.block)) :
    Calls Try.prog 13 #[.pointer (some ⟨D, 0, none⟩), .slice A ks.length c] w (OpF s w D mb (crashS st ks) 0) :=
  (Crash_any w D mb st h ok A c ks hr hc hc2 fun a e e2 => by have := hG.out a e; omega).mono fun e w' hp => OpF.of hp (fun _ hk => hk.1) (Nat.le_trans h.out.gD.1 (Nat.le_of_lt h.out.lt)) (ok.out.crash ks)
theorem Crash_none (h : Hid (Df s w D mb st)) : Calls Try.prog 13 #[.pointer (some ⟨D, 0, none⟩), .slice none 0 0] w (OpF s w D mb (crashS st []) 0) :=
  (Crash_any w D mb st h.out.dq h.out.ok none 0 [] (Mi.Rd.nil _ _ _) (Nat.le_refl _) (by decide) fun a e => by cases e).mono fun e w' hp => OpF.of hp (fun _ hk => hk) h.out.lt (h.out.ok.crash [])
theorem Read_f (h : Hid (Df s w D mb st)) (n : Nm) : Calls Try.prog 20 #[.pointer (some ⟨D, 0, none⟩), nmV n] w (ReadP w st n) := Read_any w D mb st h.out.dq h.out.ok n
theorem Safe_f (h : Hid (Df s w D mb st)) (n : Nm) (hn : n.length ≤ maxLen) : Calls Try.prog 21 #[.pointer (some ⟨D, 0, none⟩), nmV n] w fun e w' => e = .returned (.int .i64 ((fileOf st n).safe : Int)) ∧ w = w' := Safe_any w D mb st h.out.dq n hn
theorem Used_f (h : Hid (Df s w D mb st)) : Calls Try.prog 25 #[.pointer (some ⟨D, 0, none⟩)] w fun e w' => e = .returned (.int .i64 (used st.files : Int)) ∧ Hid (Below w.heap.size w w') := Used_any w D mb st h.out.dq h.out.ok
theorem Names_f (h : Hid (Df s w D mb st)) : Calls Try.prog 19 #[.pointer (some ⟨D, 0, none⟩)] w fun e w' => ∃ v, e = .returned v ∧ Hid (NmS w' w.heap.size v (namesL st.files)) ∧ Hid (Below w.heap.size w w') := Names_any w D mb st h.out.dq h.out.ok
theorem Down_f (h : Hid (Df s w D mb st)) : Calls Try.prog 22 #[.pointer (some ⟨D, 0, none⟩)] w fun e w' => e = .returned (.bool st.down) ∧ w = w' := Down_any w D mb st h.out.dq
/-- A fork: all of it is new. -/
theorem Fork_f (h : Hid (Df s w D mb st)) : Calls Try.prog 12 #[.pointer (some ⟨D, 0, none⟩)] w fun e w' => e = .returned (.pointer (some ⟨w.heap.size, 0, none⟩)) ∧ Hid (Df w.heap.size w' w.heap.size (w.heap.size + 1) st) ∧ Hid (Below w.heap.size w w') :=
  (Fork_any w D mb st h.out.dq h.out.ok).mono fun e w' ⟨h1, h2, h3⟩ => ⟨h1, ⟨h2.out, h.out.ok⟩, h3⟩
end
theorem New_f (n : Nat) (h1 : 1 ≤ n) (h2 : n ≤ 1048576) (w : World) : Calls Try.prog 9 #[.int .i64 n] w fun e w' =>
    e = .returned (.tuple #[.pointer (some ⟨w.heap.size + 1, 0, none⟩), .int .i64 0]) ∧ Hid (Df w.heap.size w' (w.heap.size + 1) w.heap.size (newS n)) ∧ Hid (Below w.heap.size w w') :=
  (New_ok n h1 h2 w).mono fun e w' ⟨q1, q2, q3⟩ => ⟨q1, ⟨q2.out, St.Ok.new h2⟩, q3⟩
end Go.Proofs.Ytdjgkoklkoahbaa.Dk
