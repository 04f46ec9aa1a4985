/-
  No cell of these rows narrows 'for every input' (looked for: loops, veiled, ifaces, maps, wideKeys, modest, calm, conditions, laid).
  DERIVED. THE GIVEN ROWS OF THIS SEAT. 6 by the template 'for every input the law returns true; each argument reads behind the call as it read before'; 0 by the template 'total and deterministic' (their statements: YthajocfgpodimaaTotals.lean).
  GIVEN WITH THE SEED: the statements are not yours to turn. If you find one false, say at which input.
  Laid BY PROGRAM, IN A SANDBOX (cutbox-rows.mjs): the forced cells as the released guide's own fill.sh prints them over the translation 22c17837feb2e5e4… (all of the seat's roots in one cut). By AI agents, Wed Nov 11 2026. No macro, syntax, notation, axiom, sorry.
-/
import Derived.Test.YthajocfgpodimaaChecked
import GoSem.Claim
import GoSem.ClaimJoined
import GoSem.ClaimMapViews
import Derived.JoinedTies
import Derived.KernelRfl
namespace Go.Proofs.Ythajocfgpodimaa
/- THE CELL 'sum', in the pinned program and in every row, IS THE sha256 OF THE DUMP (.gsa) THAT YthajocfgpodimaaProg.lean LOADS. Nothing in Lean hashes anything: it is a label: what it is worth is what the hold of that sum in a sandbox is worth. -/
noncomputable def Try.pinned : Pinned := { name := "ythajocfgpodimaa", sum := "22c17837feb2e5e4aba7d52313d3a574eb084b8fa36bbe0b6fca0377544f1ff0", checked := Try.checked }
namespace Rows
def none {H : Type} : Left H := { results := [], args := [] }

/-- 'portagelaw14.SeenPlays': WHATEVER THE INPUT: true; the input reads as it did. -/
def seenPlaysSpec : ChangeSpec := { name := "seenPlays", fn := fun _ => fun
  | [d1, d2] => { results := [.lit (.bool true)], args := [d1, d2] }
  | _ => none }
def seenPlaysRow : OpenClaim := { program := "ythajocfgpodimaa", sum := "22c17837feb2e5e4aba7d52313d3a574eb084b8fa36bbe0b6fca0377544f1ff0", func := "portage/portagelaw14.SeenPlays", spec := "seenPlays", inPlace := ["slices.overlaps[int]"], unfollowed := true, recurses := true, plainKeys := false, apart := false }
def SeenPlaysSaid : Prop := seenPlaysRow.holds Try.pinned (OpenSpec.ofChange seenPlaysSpec)

/-- ITS FALSE NEIGHBOUR: 'it returns false'. Refute it at one input. -/
def seenPlaysWrong : ChangeSpec := { name := "seenPlays", fn := fun _ => fun
  | [d1, d2] => { results := [.lit (.bool false)], args := [d1, d2] }
  | _ => none }
def SeenPlaysWrongFalsely : Prop := seenPlaysRow.holds Try.pinned (OpenSpec.ofChange seenPlaysWrong)

/-- 'portagelaw14.SeenHas': WHATEVER THE INPUT: true; the input reads as it did. -/
def seenHasSpec : ChangeSpec := { name := "seenHas", fn := fun _ => fun
  | [d1, d2, d3] => { results := [.lit (.bool true)], args := [d1, d2, d3] }
  | _ => none }
def seenHasRow : OpenClaim := { program := "ythajocfgpodimaa", sum := "22c17837feb2e5e4aba7d52313d3a574eb084b8fa36bbe0b6fca0377544f1ff0", func := "portage/portagelaw14.SeenHas", spec := "seenHas", inPlace := ["slices.overlaps[int]"], plainKeys := false, apart := false }
def SeenHasSaid : Prop := seenHasRow.holds Try.pinned (OpenSpec.ofChange seenHasSpec)

/-- ITS FALSE NEIGHBOUR: 'it returns false'. Refute it at one input. -/
def seenHasWrong : ChangeSpec := { name := "seenHas", fn := fun _ => fun
  | [d1, d2, d3] => { results := [.lit (.bool false)], args := [d1, d2, d3] }
  | _ => none }
def SeenHasWrongFalsely : Prop := seenHasRow.holds Try.pinned (OpenSpec.ofChange seenHasWrong)

/-- 'portagelaw14.SeenFrom': WHATEVER THE INPUT: true; the input reads as it did. -/
def seenFromSpec : ChangeSpec := { name := "seenFrom", fn := fun _ => fun
  | [d1, d2, d3] => { results := [.lit (.bool true)], args := [d1, d2, d3] }
  | _ => none }
def seenFromRow : OpenClaim := { program := "ythajocfgpodimaa", sum := "22c17837feb2e5e4aba7d52313d3a574eb084b8fa36bbe0b6fca0377544f1ff0", func := "portage/portagelaw14.SeenFrom", spec := "seenFrom", inPlace := ["slices.overlaps[int]"], unfollowed := true, recurses := true, plainKeys := false, apart := false }
def SeenFromSaid : Prop := seenFromRow.holds Try.pinned (OpenSpec.ofChange seenFromSpec)

/-- ITS FALSE NEIGHBOUR: 'it returns false'. Refute it at one input. -/
def seenFromWrong : ChangeSpec := { name := "seenFrom", fn := fun _ => fun
  | [d1, d2, d3] => { results := [.lit (.bool false)], args := [d1, d2, d3] }
  | _ => none }
def SeenFromWrongFalsely : Prop := seenFromRow.holds Try.pinned (OpenSpec.ofChange seenFromWrong)

/-- 'portagelaw14.SeenAny': WHATEVER THE INPUT: true; the input reads as it did. -/
def seenAnySpec : ChangeSpec := { name := "seenAny", fn := fun _ => fun
  | [d1, d2] => { results := [.lit (.bool true)], args := [d1, d2] }
  | _ => none }
def seenAnyRow : OpenClaim := { program := "ythajocfgpodimaa", sum := "22c17837feb2e5e4aba7d52313d3a574eb084b8fa36bbe0b6fca0377544f1ff0", func := "portage/portagelaw14.SeenAny", spec := "seenAny", inPlace := ["slices.overlaps[int]"], unfollowed := true, recurses := true, plainKeys := false, apart := false }
def SeenAnySaid : Prop := seenAnyRow.holds Try.pinned (OpenSpec.ofChange seenAnySpec)

/-- ITS FALSE NEIGHBOUR: 'it returns false'. Refute it at one input. -/
def seenAnyWrong : ChangeSpec := { name := "seenAny", fn := fun _ => fun
  | [d1, d2] => { results := [.lit (.bool false)], args := [d1, d2] }
  | _ => none }
def SeenAnyWrongFalsely : Prop := seenAnyRow.holds Try.pinned (OpenSpec.ofChange seenAnyWrong)

/-- 'portagelaw14.SeenNext': WHATEVER THE INPUT: true; the input reads as it did. -/
def seenNextSpec : ChangeSpec := { name := "seenNext", fn := fun _ => fun
  | [d1, d2] => { results := [.lit (.bool true)], args := [d1, d2] }
  | _ => none }
def seenNextRow : OpenClaim := { program := "ythajocfgpodimaa", sum := "22c17837feb2e5e4aba7d52313d3a574eb084b8fa36bbe0b6fca0377544f1ff0", func := "portage/portagelaw14.SeenNext", spec := "seenNext", inPlace := ["slices.overlaps[int]"], unfollowed := true, recurses := true, plainKeys := false, apart := false }
def SeenNextSaid : Prop := seenNextRow.holds Try.pinned (OpenSpec.ofChange seenNextSpec)

/-- ITS FALSE NEIGHBOUR: 'it returns false'. Refute it at one input. -/
def seenNextWrong : ChangeSpec := { name := "seenNext", fn := fun _ => fun
  | [d1, d2] => { results := [.lit (.bool false)], args := [d1, d2] }
  | _ => none }
def SeenNextWrongFalsely : Prop := seenNextRow.holds Try.pinned (OpenSpec.ofChange seenNextWrong)

/-- 'portagelaw14.SeenNil': WHATEVER THE INPUT: true; the input reads as it did. -/
def seenNilSpec : ChangeSpec := { name := "seenNil", fn := fun _ => fun
  | [d] => { results := [.lit (.bool true)], args := [d] }
  | _ => none }
def seenNilRow : OpenClaim := { program := "ythajocfgpodimaa", sum := "22c17837feb2e5e4aba7d52313d3a574eb084b8fa36bbe0b6fca0377544f1ff0", func := "portage/portagelaw14.SeenNil", spec := "seenNil", inPlace := ["slices.overlaps[int]"], unfollowed := true, recurses := true, plainKeys := false, apart := false }
def SeenNilSaid : Prop := seenNilRow.holds Try.pinned (OpenSpec.ofChange seenNilSpec)

/-- ITS FALSE NEIGHBOUR: 'it returns false'. Refute it at one input. -/
def seenNilWrong : ChangeSpec := { name := "seenNil", fn := fun _ => fun
  | [d] => { results := [.lit (.bool false)], args := [d] }
  | _ => none }
def SeenNilWrongFalsely : Prop := seenNilRow.holds Try.pinned (OpenSpec.ofChange seenNilWrong)

/- THE SECOND FORM. 'bulk': how many values and letters a reading holds, each counted each time it is reached (what is shared counts as often as it is met; a slice's spare places count too). A statement '..UptoSaid' is the law's where the arguments, and the package variables that the reading takes, are together of bulk at most 1048576: NARROWER than '..Said'. Prove '..Said' where nothing that the law and all that it calls make is longer than what came in: it says more and counts as full. Else prove '..UptoSaid'. A law counts once. -/
mutual
def uptoBulk {H : Type} : DataW H → Nat
  | .lit (.string bytes) => bytes.length + 1
  | .lit _ => 1
  | .nil => 1
  | .ptr d => uptoBulk d + 1
  | .slice elems spare => uptoBulkAll elems + uptoBulkAll spare + 1
  | .agg parts => uptoBulkAll parts + 1
  | .iface _ d => uptoBulk d + 1
  | .map entries => uptoBulkEntries entries + 1
  | .held _ => 1
def uptoBulkAll {H : Type} : List (DataW H) → Nat
  | [] => 0
  | d :: r => uptoBulk d + uptoBulkAll r
def uptoBulkEntries {H : Type} : List (Lit × DataW H) → Nat
  | [] => 0
  | x :: r => uptoBulkEntry x + uptoBulkEntries r
def uptoBulkEntry {H : Type} : Lit × DataW H → Nat
  | (.string bytes, d) => bytes.length + uptoBulk d + 1
  | (_, d) => uptoBulk d + 1
 end
def uptoSmall : (H : Type) → List (DataW H) → Bool := fun _ ds => decide (uptoBulkAll ds ≤ 1048576)
def OpenSpec.upto (s : _root_.Go.ChangeSpec) : _root_.Go.OpenSpec := { _root_.Go.OpenSpec.ofChange s with cond := some uptoSmall }

/-- 'portagelaw14.SeenPlays', WHERE WHAT IT READS IS OF BULK AT MOST 1048576: true; the input reads as it did. -/
def seenPlaysUptoRow : OpenClaim := { program := "ythajocfgpodimaa", sum := "22c17837feb2e5e4aba7d52313d3a574eb084b8fa36bbe0b6fca0377544f1ff0", func := "portage/portagelaw14.SeenPlays", spec := "seenPlays", inPlace := ["slices.overlaps[int]"], unfollowed := true, recurses := true, plainKeys := false, apart := false, narrowed := true }
def SeenPlaysUptoSaid : Prop := seenPlaysUptoRow.holds Try.pinned (OpenSpec.upto seenPlaysSpec)

/-- 'portagelaw14.SeenHas', WHERE WHAT IT READS IS OF BULK AT MOST 1048576: true; the input reads as it did. -/
def seenHasUptoRow : OpenClaim := { program := "ythajocfgpodimaa", sum := "22c17837feb2e5e4aba7d52313d3a574eb084b8fa36bbe0b6fca0377544f1ff0", func := "portage/portagelaw14.SeenHas", spec := "seenHas", inPlace := ["slices.overlaps[int]"], plainKeys := false, apart := false, narrowed := true }
def SeenHasUptoSaid : Prop := seenHasUptoRow.holds Try.pinned (OpenSpec.upto seenHasSpec)

/-- 'portagelaw14.SeenFrom', WHERE WHAT IT READS IS OF BULK AT MOST 1048576: true; the input reads as it did. -/
def seenFromUptoRow : OpenClaim := { program := "ythajocfgpodimaa", sum := "22c17837feb2e5e4aba7d52313d3a574eb084b8fa36bbe0b6fca0377544f1ff0", func := "portage/portagelaw14.SeenFrom", spec := "seenFrom", inPlace := ["slices.overlaps[int]"], unfollowed := true, recurses := true, plainKeys := false, apart := false, narrowed := true }
def SeenFromUptoSaid : Prop := seenFromUptoRow.holds Try.pinned (OpenSpec.upto seenFromSpec)

/-- 'portagelaw14.SeenAny', WHERE WHAT IT READS IS OF BULK AT MOST 1048576: true; the input reads as it did. -/
def seenAnyUptoRow : OpenClaim := { program := "ythajocfgpodimaa", sum := "22c17837feb2e5e4aba7d52313d3a574eb084b8fa36bbe0b6fca0377544f1ff0", func := "portage/portagelaw14.SeenAny", spec := "seenAny", inPlace := ["slices.overlaps[int]"], unfollowed := true, recurses := true, plainKeys := false, apart := false, narrowed := true }
def SeenAnyUptoSaid : Prop := seenAnyUptoRow.holds Try.pinned (OpenSpec.upto seenAnySpec)

/-- 'portagelaw14.SeenNext', WHERE WHAT IT READS IS OF BULK AT MOST 1048576: true; the input reads as it did. -/
def seenNextUptoRow : OpenClaim := { program := "ythajocfgpodimaa", sum := "22c17837feb2e5e4aba7d52313d3a574eb084b8fa36bbe0b6fca0377544f1ff0", func := "portage/portagelaw14.SeenNext", spec := "seenNext", inPlace := ["slices.overlaps[int]"], unfollowed := true, recurses := true, plainKeys := false, apart := false, narrowed := true }
def SeenNextUptoSaid : Prop := seenNextUptoRow.holds Try.pinned (OpenSpec.upto seenNextSpec)

/-- 'portagelaw14.SeenNil', WHERE WHAT IT READS IS OF BULK AT MOST 1048576: true; the input reads as it did. -/
def seenNilUptoRow : OpenClaim := { program := "ythajocfgpodimaa", sum := "22c17837feb2e5e4aba7d52313d3a574eb084b8fa36bbe0b6fca0377544f1ff0", func := "portage/portagelaw14.SeenNil", spec := "seenNil", inPlace := ["slices.overlaps[int]"], unfollowed := true, recurses := true, plainKeys := false, apart := false, narrowed := true }
def SeenNilUptoSaid : Prop := seenNilUptoRow.holds Try.pinned (OpenSpec.upto seenNilSpec)

end Rows
end Go.Proofs.Ythajocfgpodimaa
