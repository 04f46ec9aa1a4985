/- A sender: the model of its calls; its block in memory, the reference's struct. -/
import Derived.Test.YtnfjfcoonabmmaaSnMem
import Derived.Test.YtnfjfcoonabmmaaWSmall
import Derived.Test.YtnfjfcoonabmmaaWMath
import Derived.Test.YtnfjfcoonabmmaaBClone
namespace Go.Proofs.Ytnfjfcoonabmmaa.Sn
open Go.RowKit
open Go.Proofs.Ytnfjfcoonabmmaa.Me Go.Proofs.Ytnfjfcoonabmmaa.Hd
set_option linter.unusedVariables false

/-- A sender: its size, its base, how many are under way, its payloads. -/
structure Snd where
  size : Nat
  base : Nat
  under : Nat
  l : List (List Nat)
/-- A sender as it may be. -/
structure Snd.Ok (s : Snd) : Prop where
  s1 : 1 ≤ s.size
  s63 : s.size ≤ 63
  b : s.base < 128
  u : s.under ≤ s.size
  ul : s.under ≤ s.l.length
  q : s.l.length ≤ 64
  p : ∀ r ∈ s.l, 0 < r.length ∧ r.length ≤ 121 ∧ ∀ z ∈ r, z < 256
def pushE (s : Snd) (p : List Nat) : Nat := if p.length = 0 then 2 else if 121 < p.length then 3 else if s.l.length = 64 then 6 else 0
def pushS (s : Snd) (p : List Nat) : Snd := if pushE s p = 0 then ⟨s.size, s.base, s.under, s.l ++ [p]⟩ else s
def sendOk (s : Snd) : Bool := decide (s.under < s.size ∧ s.under < s.l.length)
def sendS (s : Snd) : Snd := if sendOk s then ⟨s.size, s.base, s.under + 1, s.l⟩ else s
def sendN (s : Snd) : Nat := if sendOk s then (s.base + s.under) % 128 else 0
def sendP (s : Snd) : List Nat := if sendOk s then lsAt s.l s.under else []
/-- How far n is ahead of the base. -/
def wayOf (s : Snd) (n : Int) : Nat := ((n - (s.base : Int)) % 128).toNat
def ackE (s : Snd) (n : Int) : Nat := if n < 0 ∨ 127 < n then 1 else if s.under < wayOf s n then 7 else 0
def ackS (s : Snd) (n : Int) : Snd := if ackE s n = 0 then ⟨s.size, n.toNat, s.under - wayOf s n, s.l.drop (wayOf s n)⟩ else s
def ackN (s : Snd) (n : Int) : Nat := if ackE s n = 0 then wayOf s n else 0
def againE (s : Snd) (n : Int) : Nat := if n < 0 ∨ 127 < n then 1 else if s.under ≤ wayOf s n then 4 else 0
def againP (s : Snd) (n : Int) : List Nat := if againE s n = 0 then lsAt s.l (wayOf s n) else []
def newS (n : Nat) : Snd := ⟨n, 0, 0, []⟩
theorem lsAt_mem {ls : List (List Nat)} {j : Nat} (h : j < ls.length) : lsAt ls j ∈ ls := by simp [lsAt, h]
theorem Snd.Ok.at_ {s : Snd} (h : s.Ok) {j : Nat} (hj : j < s.l.length) : 0 < (lsAt s.l j).length ∧ (lsAt s.l j).length ≤ 121 ∧ ∀ z ∈ lsAt s.l j, z < 256 := h.p _ (lsAt_mem hj)
theorem Snd.Ok.bytes {s : Snd} (h : s.Ok) : ∀ r ∈ s.l, ∀ z ∈ r, z < 256 := fun r hr => (h.p r hr).2.2
theorem Snd.Ok.new {n : Nat} (h1 : 1 ≤ n) (h2 : n ≤ 63) : (newS n).Ok := ⟨h1, h2, by simp [newS], Nat.zero_le _, Nat.zero_le _, by simp [newS], by simp [newS]⟩
theorem Snd.Ok.push {s : Snd} (h : s.Ok) {p : List Nat} (hp : ∀ z ∈ p, z < 256) : (pushS s p).Ok := by
  unfold pushS
  by_cases he : pushE s p = 0
  · rw [if_pos he]
    unfold pushE at he
    have h0 : p.length ≠ 0 := fun e => by rw [if_pos e] at he; cases he
    rw [if_neg h0] at he
    have h1 : ¬ 121 < p.length := fun e => by rw [if_pos e] at he; cases he
    rw [if_neg h1] at he
    have h2 : s.l.length ≠ 64 := fun e => by rw [if_pos e] at he; cases he
    have := h.q
    refine ⟨h.s1, h.s63, h.b, h.u, by have := h.ul; simp; omega, by simp; omega, fun r hr => ?_⟩
    rcases List.mem_append.mp hr with h' | h'
    · exact h.p r h'
    · obtain rfl : r = p := by simpa using h'
      exact ⟨by omega, by omega, hp⟩
  · rw [if_neg he]; exact h
theorem Snd.Ok.send {s : Snd} (h : s.Ok) : (sendS s).Ok := by
  unfold sendS
  by_cases hs : sendOk s = true
  · rw [if_pos hs]
    have h1 := of_decide_eq_true hs
    exact ⟨h.s1, h.s63, h.b, h1.1, h1.2, h.q, h.p⟩
  · rw [if_neg hs]; exact h
theorem wayOf_lt (s : Snd) (n : Int) : wayOf s n < 128 := by unfold wayOf; omega
theorem wayOf_eq (s : Snd) (n : Int) : (n - (s.base : Int)) % 128 = (wayOf s n : Int) := by unfold wayOf; omega
theorem ack_ok {s : Snd} {n : Int} (h : ackE s n = 0) : 0 ≤ n ∧ n ≤ 127 ∧ wayOf s n ≤ s.under := by
  unfold ackE at h
  have h0 : ¬ (n < 0 ∨ 127 < n) := fun e => by rw [if_pos e] at h; cases h
  rw [if_neg h0] at h
  have h1 : ¬ s.under < wayOf s n := fun e => by rw [if_pos e] at h; cases h
  omega
theorem Snd.Ok.ack {s : Snd} (h : s.Ok) (n : Int) : (ackS s n).Ok := by
  unfold ackS
  by_cases he : ackE s n = 0
  · rw [if_pos he]
    obtain ⟨h1, h2, h3⟩ := ack_ok he
    refine ⟨h.s1, h.s63, by simp only; omega, by have := h.u; simp only; omega, by have := h.ul; simp only [List.length_drop]; omega, by have := h.q; simp only [List.length_drop]; omega, fun r hr => h.p r (List.mem_of_mem_drop hr)⟩
  · rw [if_neg he]; exact h
theorem pushE_le (s : Snd) (p : List Nat) : pushE s p ≤ 6 := by unfold pushE; (repeat' split) <;> omega
theorem ackE_le (s : Snd) (n : Int) : ackE s n ≤ 7 := by unfold ackE; (repeat' split) <;> omega
theorem againE_le (s : Snd) (n : Int) : againE s n ≤ 4 := by unfold againE; (repeat' split) <;> omega

/-! ### The sender's block -/
def scells (s : Snd) (A : Option Addr) (c : Nat) : Array Value := #[.int .i64 (s.size : Int), .int .i64 (s.base : Int), .int .i64 (s.under : Int), .slice A s.l.length c]
/-- Block D is the sender s, its list at A with room c; all of it lies in blocks that bear F. -/
structure Sq (F : Nat → Prop) (w : World) (D : Nat) (s : Snd) (A : Option Addr) (c : Nat) : Prop where
  blk : w.heap[D]? = some (.cells (scells s A c) 73 (0, 0))
  f : F D
  ls : Ls F w A c s.l
theorem Sq.lt {F : Nat → Prop} {w : World} {D : Nat} {s : Snd} {A : Option Addr} {c : Nat} (h : Sq F w D s A c) : D < w.heap.size := (Array.getElem?_eq_some_iff.1 h.blk).1
theorem Sq.cell {F : Nat → Prop} {w : World} {D : Nat} {s : Snd} {A : Option Addr} {c : Nat} (h : Sq F w D s A c) (i : Nat) : w.cell? ⟨D, i, none⟩ = (scells s A c)[i]? := cell_of_row w D i _ _ (0, 0) h.blk
theorem Sq.frozen {F : Nat → Prop} {w : World} {D : Nat} {s : Snd} {A : Option Addr} {c : Nat} (h : Sq F w D s A c) (i : Nat) : w.frozen? ⟨D, i, none⟩ = false := frozen_of_row w D i _ _ h.blk
theorem Sq.kept {F F' : Nat → Prop} {w w' : World} {D : Nat} {s : Snd} {A : Option Addr} {c : Nat} (h : Sq F w D s A c) (hk : ∀ k, k < w.heap.size → F k → w'.heap[k]? = w.heap[k]? ∧ F' k) : Sq F' w' D s A c :=
  ⟨((hk D h.lt h.f).1).trans h.blk, (hk D h.lt h.f).2, h.ls.kept hk⟩
theorem Sq.but {F S : Nat → Prop} {w w' : World} {D : Nat} {s : Snd} {A : Option Addr} {c : Nat} (h : Sq F w D s A c) (hb : But S w w') (hS : ∀ k, F k → ¬ S k) : Sq F w' D s A c := h.kept fun k hk hF => ⟨hb.same k hk (hS k hF), hF⟩
theorem Sq.below {F : Nat → Prop} {w w' : World} {D : Nat} {s : Snd} {A : Option Addr} {c : Nat} (h : Sq F w D s A c) (hb : Below w.heap.size w w') : Sq F w' D s A c := h.kept fun k hk hF => ⟨hb.block k hk, hF⟩
theorem Sq.mono {F F' : Nat → Prop} {w : World} {D : Nat} {s : Snd} {A : Option Addr} {c : Nat} (h : Sq F w D s A c) (hF : ∀ k, k < w.heap.size → F k → F' k) : Sq F' w D s A c := h.kept fun k hk h => ⟨rfl, hF k hk h⟩
theorem Sq.notbk {F : Nat → Prop} {w : World} {D : Nat} {s : Snd} {A : Option Addr} {c : Nat} (h : Sq F w D s A c) : ¬ bk A D := fun hb => by
  obtain ⟨_, _, cur, hc⟩ := h.ls.blk D hb
  rw [h.blk] at hc
  simp only [Option.some.injEq, Obj.cells.injEq] at hc
  exact absurd hc.2.1 (by decide)
/-- Behind a call of a sender's: it is s now, in its old blocks and new ones; nothing else turned. -/
def After (F : Nat → Prop) (w : World) (D : Nat) (s : Snd) (w' : World) : Prop := (∃ A c, Sq (fun k => F k ∨ w.heap.size ≤ k) w' D s A c) ∧ But F w w'
theorem After.same {F : Nat → Prop} {w w' : World} {D : Nat} {s : Snd} {A : Option Addr} {c : Nat} (h : Sq F w D s A c) (hb : Below w.heap.size w w') : After F w D s w' :=
  ⟨⟨A, c, (h.below hb).mono fun _ _ hF => .inl hF⟩, But.of_below hb⟩
/-! ### The reference's struct -/
def rcells (s : Snd) (A : Option Addr) (c : Nat) : Array Value := #[.int .i64 (s.size : Int), .int .i64 (s.base : Int), .slice A s.l.length c, .int .i64 (s.under : Int)]
def rval (s : Snd) (A : Option Addr) (c : Nat) : Value := .agg (rcells s A c)
end Go.Proofs.Ytnfjfcoonabmmaa.Sn
