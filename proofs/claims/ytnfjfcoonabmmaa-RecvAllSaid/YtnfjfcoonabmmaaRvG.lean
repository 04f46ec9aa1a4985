/- A receiver among other memory: its calls once more, in a form for laws. -/
import Derived.Test.YtnfjfcoonabmmaaRvTake
import Derived.Test.YtnfjfcoonabmmaaSameL
namespace Go.Proofs.Ytnfjfcoonabmmaa.Rv
open Go.RowKit
open Go.Proofs.Ytnfjfcoonabmmaa.Me Go.Proofs.Ytnfjfcoonabmmaa.Hd Go.Proofs.Ytnfjfcoonabmmaa.Sn
set_option linter.unusedVariables false
set_option linter.unusedSimpArgs false

/-- Blocks that bear G, but for the receiver's own two. -/
def Gx (G : Nat → Prop) (D mb k : Nat) : Prop := G k ∧ k ≠ D ∧ k ≠ mb
/-- Block D is the receiver r, block mb its map; all of it in blocks that bear G. -/
structure Rv (G : Nat → Prop) (w : World) (D mb : Nat) (r : Rcv) : Prop where
  rq : Rq (Gx G D mb) w D mb r
  gD : G D
  gm : G mb
theorem Rv.mono {G G' : Nat → Prop} {w : World} {D mb : Nat} {r : Rcv} (h : Rv G w D mb r) (hG : ∀ k, k < w.heap.size → G k → G' k) : Rv G' w D mb r :=
  ⟨h.rq.mono (fun k hk he => ⟨hG k hk he.1, he.2⟩) (fun e => e.2.1 rfl) (fun e => e.2.2 rfl), hG D h.rq.lt h.gD, hG mb h.rq.ltm h.gm⟩
theorem Rv.but {G S : Nat → Prop} {w w' : World} {D mb : Nat} {r : Rcv} (h : Rv G w D mb r) (hb : But S w w') (hS : ∀ k, G k → ¬ S k) : Rv G w' D mb r :=
  ⟨h.rq.but hb (hS D h.gD) (hS mb h.gm) fun k hk => hS k hk.1, h.gD, h.gm⟩
theorem Rv.below {G : Nat → Prop} {w w' : World} {D mb : Nat} {r : Rcv} (h : Rv G w D mb r) (hb : Below w.heap.size w w') : Rv G w' D mb r := h.but (S := fun _ => False) (But.of_below hb) fun _ _ => id
/-- Blocks of other kinds may turn. -/
theorem Rv.turn {G S : Nat → Prop} {w w' : World} {D mb : Nat} {r : Rcv} (h : Rv G w D mb r) (hb : But S w w') (h1 : ¬ S D) (h2 : ¬ S mb) (h3 : ∀ k cs, G k → w.heap[k]? = some (.cells cs 5 (0, 0)) → ¬ S k) : Rv G w' D mb r :=
  ⟨h.rq.kept' (hb.same D h.rq.lt h1) (hb.same mb h.rq.ltm h2) (fun k cs he hc => ⟨hb.same k (Array.getElem?_eq_some_iff.1 hc).1 (h3 k cs he.1 hc), he⟩) h.rq.nD h.rq.nm, h.gD, h.gm⟩
/-- What a Take answers that goes well. -/
def TakeG (G : Nat → Prop) (w : World) (D mb : Nat) (r : Rcv) (n : Nat) (p : List Nat) (e : Ending) (w' : World) : Prop :=
  ∃ i A c v, e = .returned (.tuple #[.slice A i c, v, .int .i64 0]) ∧ Hid (Tells (keepR r n p) i) ∧ Hid (Ls (Gx (fun k => G k ∨ w.heap.size ≤ k) D mb) w' A c (toldR (keepR r n p) i)) ∧
    Hid (Mi.Own w' w.heap.size v (askL (goneR (keepR r n p) i).asked (missR (goneR (keepR r n p) i)))) ∧ Hid (Rv (fun k => G k ∨ w.heap.size ≤ k) w' D mb (takeR r n p i)) ∧ Hid (But (fun k => k = D ∨ k = mb) w w') ∧ Hid (∀ k, bk A k → w.heap.size ≤ k)
theorem Take_g {G : Nat → Prop} (w : World) (D mb : Nat) (r : Rcv) (h : Hid (Rv G w D mb r)) (ok : Hid r.Ok) (n : Nat) (Ap : Option Addr) (cp : Nat) (p : List Nat) (hp : Hid (Me.Rd w w.heap.size Ap p)) (hA : Hid (Ap = none → p.length = 0 ∧ cp = 0)) (hl : Hid (p.length ≤ 140737488355328)) (hn : Hid (n < 128)) (he : mayE r (n : Int) p = 0) :
    Calls Try.prog 9 #[.pointer (some ⟨D, 0, none⟩), .int .i64 n, .slice Ap p.length cp] w (TakeG G w D mb r n p) := by
  have hlt := h.out.rq.lt
  have hltm := h.out.rq.ltm
  refine (Take_ok w D mb r h.out.rq ok n Ap cp p hp hA hl hn he).mono ?_
  rintro e w' ⟨i, A, c, v, rfl, h1, h2, h3, h4, h5, h6⟩
  have hE : ∀ k, (Gx G D mb k ∨ w.heap.size ≤ k) → Gx (fun k => G k ∨ w.heap.size ≤ k) D mb k := fun k hk => by
    rcases hk with hk | hk
    · exact ⟨.inl hk.1, hk.2⟩
    · exact ⟨.inr hk, by omega, by omega⟩
  exact ⟨i, A, c, v, rfl, h1, h2.out.mono fun k _ hk => hE k hk, h3, ⟨h4.out.mono (fun k _ hk => hE k hk) (fun e => e.2.1 rfl) (fun e => e.2.2 rfl), .inl h.out.gD, .inl h.out.gm⟩, h5, h6⟩
theorem New_g (n : Nat) (h1 : 1 ≤ n) (h2 : n ≤ 63) (w : World) : Calls Try.prog 7 #[.int .i64 n] w fun e w' =>
    e = .returned (.tuple #[.pointer (some ⟨w.heap.size + 1, 0, none⟩), .int .i64 0]) ∧ Hid (Rv (fun k => w.heap.size ≤ k) w' (w.heap.size + 1) w.heap.size (newR n)) ∧ Hid (Below w.heap.size w w') := by
  refine (New_ok n h1 h2 w).mono ?_
  rintro e w' ⟨rfl, h, hb⟩
  exact ⟨rfl, ⟨h.out.mono (fun k _ hk => ⟨by omega, by omega, by omega⟩) (fun e => e.2.1 rfl) (fun e => e.2.2 rfl), by omega, by omega⟩, hb⟩
theorem Tells.eq {r : Rcv} {i k : Nat} (h : Tells r i) (ok : r.Ok) (hk : k < 128) (ha : ∀ j, j < k → (r.kept ((r.waits + j) % 128)).isSome = true) (hn : r.kept ((r.waits + k) % 128) = none) : i = k := by
  by_cases h1 : i < k
  · have := ha i h1
    have h2 := h.end_
    rw [goneR_kept ok (by omega)] at h2
    rw [h2] at this; cases this
  · by_cases h3 : k < i
    · have := h.all k h3
      rw [hn] at this; cases this
    · omega
theorem Rcv.Ok.ask {r : Rcv} (h : r.Ok) : (askR r).Ok := ⟨h.s1, h.s63, h.w, h.kn⟩
theorem Rcv.Ok.take {r : Rcv} (h : r.Ok) {n : Nat} {p : List Nat} (hn : n < 128) (hp : ∀ z ∈ p, z < 256) (i : Nat) : (takeR r n p i).Ok := ((h.keep hn hp).gone i).ask
end Go.Proofs.Ytnfjfcoonabmmaa.Rv
