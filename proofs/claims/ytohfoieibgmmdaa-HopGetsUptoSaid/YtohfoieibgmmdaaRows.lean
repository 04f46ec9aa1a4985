/-
  No cell of these rows narrows 'for every input' (looked for: loops, veiled, ifaces, maps, wideKeys, modest, calm, conditions, laid).
  DERIVED. THE GIVEN ROWS OF THIS SEAT. 6 by the template 'for every input the law returns true; each argument reads behind the call as it read before'; 0 by the template 'total and deterministic' (their statements: YtohfoieibgmmdaaTotals.lean).
  GIVEN WITH THE SEED: the statements are not yours to turn. If you find one false, say at which input.
  Laid BY PROGRAM, IN A SANDBOX (cutbox-rows.mjs): the forced cells as the released guide's own fill.sh prints them over the translation 469c13acbfdf203a… (all of the seat's roots in one cut). By AI agents, Wed Nov 11 2026. No macro, syntax, notation, axiom, sorry.
-/
import Derived.Test.YtohfoieibgmmdaaChecked
import GoSem.Claim
import GoSem.ClaimJoined
import GoSem.ClaimMapViews
import Derived.JoinedTies
import Derived.KernelRfl
namespace Go.Proofs.Ytohfoieibgmmdaa
/- THE CELL 'sum', in the pinned program and in every row, IS THE sha256 OF THE DUMP (.gsa) THAT YtohfoieibgmmdaaProg.lean LOADS. Nothing in Lean hashes anything: it is a label: what it is worth is what the hold of that sum in a sandbox is worth. -/
noncomputable def Try.pinned : Pinned := { name := "ytohfoieibgmmdaa", sum := "469c13acbfdf203a86a704b2bf3d840e55d3edfc15a64d06c17412d41c913761", checked := Try.checked }
namespace Rows
def none {H : Type} : Left H := { results := [], args := [] }

/-- 'portagelaw20.HopPuts': WHATEVER THE INPUT: true; the input reads as it did. -/
def hopPutsSpec : ChangeSpec := { name := "hopPuts", fn := fun _ => fun
  | [d] => { results := [.lit (.bool true)], args := [d] }
  | _ => none }
def hopPutsRow : OpenClaim := { program := "ytohfoieibgmmdaa", sum := "469c13acbfdf203a86a704b2bf3d840e55d3edfc15a64d06c17412d41c913761", func := "portage/portagelaw20.HopPuts", spec := "hopPuts", unfollowed := true, recurses := true, plainKeys := false, apart := false }
def HopPutsSaid : Prop := hopPutsRow.holds Try.pinned (OpenSpec.ofChange hopPutsSpec)

/-- ITS FALSE NEIGHBOUR: 'it returns false'. Refute it at one input. -/
def hopPutsWrong : ChangeSpec := { name := "hopPuts", fn := fun _ => fun
  | [d] => { results := [.lit (.bool false)], args := [d] }
  | _ => none }
def HopPutsWrongFalsely : Prop := hopPutsRow.holds Try.pinned (OpenSpec.ofChange hopPutsWrong)

/-- 'portagelaw20.HopGets': WHATEVER THE INPUT: true; the input reads as it did. -/
def hopGetsSpec : ChangeSpec := { name := "hopGets", fn := fun _ => fun
  | [d] => { results := [.lit (.bool true)], args := [d] }
  | _ => none }
def hopGetsRow : OpenClaim := { program := "ytohfoieibgmmdaa", sum := "469c13acbfdf203a86a704b2bf3d840e55d3edfc15a64d06c17412d41c913761", func := "portage/portagelaw20.HopGets", spec := "hopGets", unfollowed := true, recurses := true, plainKeys := false, apart := false }
def HopGetsSaid : Prop := hopGetsRow.holds Try.pinned (OpenSpec.ofChange hopGetsSpec)

/-- ITS FALSE NEIGHBOUR: 'it returns false'. Refute it at one input. -/
def hopGetsWrong : ChangeSpec := { name := "hopGets", fn := fun _ => fun
  | [d] => { results := [.lit (.bool false)], args := [d] }
  | _ => none }
def HopGetsWrongFalsely : Prop := hopGetsRow.holds Try.pinned (OpenSpec.ofChange hopGetsWrong)

/-- 'portagelaw20.HopBack': WHATEVER THE INPUT: true; the input reads as it did. -/
def hopBackSpec : ChangeSpec := { name := "hopBack", fn := fun _ => fun
  | [d1, d2] => { results := [.lit (.bool true)], args := [d1, d2] }
  | _ => none }
def hopBackRow : OpenClaim := { program := "ytohfoieibgmmdaa", sum := "469c13acbfdf203a86a704b2bf3d840e55d3edfc15a64d06c17412d41c913761", func := "portage/portagelaw20.HopBack", spec := "hopBack", unfollowed := true, recurses := true, plainKeys := false, apart := false }
def HopBackSaid : Prop := hopBackRow.holds Try.pinned (OpenSpec.ofChange hopBackSpec)

/-- ITS FALSE NEIGHBOUR: 'it returns false'. Refute it at one input. -/
def hopBackWrong : ChangeSpec := { name := "hopBack", fn := fun _ => fun
  | [d1, d2] => { results := [.lit (.bool false)], args := [d1, d2] }
  | _ => none }
def HopBackWrongFalsely : Prop := hopBackRow.holds Try.pinned (OpenSpec.ofChange hopBackWrong)

/-- 'portagelaw20.HopPlays': WHATEVER THE INPUT: true; the input reads as it did. -/
def hopPlaysSpec : ChangeSpec := { name := "hopPlays", fn := fun _ => fun
  | [d1, d2] => { results := [.lit (.bool true)], args := [d1, d2] }
  | _ => none }
def hopPlaysRow : OpenClaim := { program := "ytohfoieibgmmdaa", sum := "469c13acbfdf203a86a704b2bf3d840e55d3edfc15a64d06c17412d41c913761", func := "portage/portagelaw20.HopPlays", spec := "hopPlays", inPlace := ["internal/reflectlite.ValueOf", "internal/reflectlite.Swapper", "(internal/reflectlite.Value).Len"], unfollowed := true, recurses := true, plainKeys := false, apart := false }
def HopPlaysSaid : Prop := hopPlaysRow.holds Try.pinned (OpenSpec.ofChange hopPlaysSpec)

/-- ITS FALSE NEIGHBOUR: 'it returns false'. Refute it at one input. -/
def hopPlaysWrong : ChangeSpec := { name := "hopPlays", fn := fun _ => fun
  | [d1, d2] => { results := [.lit (.bool false)], args := [d1, d2] }
  | _ => none }
def HopPlaysWrongFalsely : Prop := hopPlaysRow.holds Try.pinned (OpenSpec.ofChange hopPlaysWrong)

/-- 'portagelaw20.HopOnce': WHATEVER THE INPUT: true; the input reads as it did. -/
def hopOnceSpec : ChangeSpec := { name := "hopOnce", fn := fun _ => fun
  | [d1, d2] => { results := [.lit (.bool true)], args := [d1, d2] }
  | _ => none }
def hopOnceRow : OpenClaim := { program := "ytohfoieibgmmdaa", sum := "469c13acbfdf203a86a704b2bf3d840e55d3edfc15a64d06c17412d41c913761", func := "portage/portagelaw20.HopOnce", spec := "hopOnce", inPlace := ["internal/reflectlite.ValueOf", "internal/reflectlite.Swapper", "(internal/reflectlite.Value).Len"], unfollowed := true, recurses := true, plainKeys := false, apart := false }
def HopOnceSaid : Prop := hopOnceRow.holds Try.pinned (OpenSpec.ofChange hopOnceSpec)

/-- ITS FALSE NEIGHBOUR: 'it returns false'. Refute it at one input. -/
def hopOnceWrong : ChangeSpec := { name := "hopOnce", fn := fun _ => fun
  | [d1, d2] => { results := [.lit (.bool false)], args := [d1, d2] }
  | _ => none }
def HopOnceWrongFalsely : Prop := hopOnceRow.holds Try.pinned (OpenSpec.ofChange hopOnceWrong)

/-- 'portagelaw20.HopWhose': WHATEVER THE INPUT: true; the input reads as it did. -/
def hopWhoseSpec : ChangeSpec := { name := "hopWhose", fn := fun _ => fun
  | [d1, d2, d3] => { results := [.lit (.bool true)], args := [d1, d2, d3] }
  | _ => none }
def hopWhoseRow : OpenClaim := { program := "ytohfoieibgmmdaa", sum := "469c13acbfdf203a86a704b2bf3d840e55d3edfc15a64d06c17412d41c913761", func := "portage/portagelaw20.HopWhose", spec := "hopWhose", unfollowed := true, recurses := true, plainKeys := false, apart := false }
def HopWhoseSaid : Prop := hopWhoseRow.holds Try.pinned (OpenSpec.ofChange hopWhoseSpec)

/-- ITS FALSE NEIGHBOUR: 'it returns false'. Refute it at one input. -/
def hopWhoseWrong : ChangeSpec := { name := "hopWhose", fn := fun _ => fun
  | [d1, d2, d3] => { results := [.lit (.bool false)], args := [d1, d2, d3] }
  | _ => none }
def HopWhoseWrongFalsely : Prop := hopWhoseRow.holds Try.pinned (OpenSpec.ofChange hopWhoseWrong)

/- THE SECOND FORM. 'bulk': how many values and letters a reading holds, each counted each time it is reached (what is shared counts as often as it is met; a slice's spare places count too). A statement '..UptoSaid' is the law's where the arguments, and the package variables that the reading takes, are together of bulk at most 1048576: NARROWER than '..Said'. Prove '..Said' where nothing that the law and all that it calls make is longer than what came in: it says more and counts as full. Else prove '..UptoSaid'. A law counts once. -/
mutual
def uptoBulk {H : Type} : DataW H → Nat
  | .lit (.string bytes) => bytes.length + 1
  | .lit _ => 1
  | .nil => 1
  | .ptr d => uptoBulk d + 1
  | .slice elems spare => uptoBulkAll elems + uptoBulkAll spare + 1
  | .agg parts => uptoBulkAll parts + 1
  | .iface _ d => uptoBulk d + 1
  | .map entries => uptoBulkEntries entries + 1
  | .held _ => 1
def uptoBulkAll {H : Type} : List (DataW H) → Nat
  | [] => 0
  | d :: r => uptoBulk d + uptoBulkAll r
def uptoBulkEntries {H : Type} : List (Lit × DataW H) → Nat
  | [] => 0
  | x :: r => uptoBulkEntry x + uptoBulkEntries r
def uptoBulkEntry {H : Type} : Lit × DataW H → Nat
  | (.string bytes, d) => bytes.length + uptoBulk d + 1
  | (_, d) => uptoBulk d + 1
 end
def uptoSmall : (H : Type) → List (DataW H) → Bool := fun _ ds => decide (uptoBulkAll ds ≤ 1048576)
def OpenSpec.upto (s : _root_.Go.ChangeSpec) : _root_.Go.OpenSpec := { _root_.Go.OpenSpec.ofChange s with cond := some uptoSmall }

/-- 'portagelaw20.HopPuts', WHERE WHAT IT READS IS OF BULK AT MOST 1048576: true; the input reads as it did. -/
def hopPutsUptoRow : OpenClaim := { program := "ytohfoieibgmmdaa", sum := "469c13acbfdf203a86a704b2bf3d840e55d3edfc15a64d06c17412d41c913761", func := "portage/portagelaw20.HopPuts", spec := "hopPuts", unfollowed := true, recurses := true, plainKeys := false, apart := false, narrowed := true }
def HopPutsUptoSaid : Prop := hopPutsUptoRow.holds Try.pinned (OpenSpec.upto hopPutsSpec)

/-- 'portagelaw20.HopGets', WHERE WHAT IT READS IS OF BULK AT MOST 1048576: true; the input reads as it did. -/
def hopGetsUptoRow : OpenClaim := { program := "ytohfoieibgmmdaa", sum := "469c13acbfdf203a86a704b2bf3d840e55d3edfc15a64d06c17412d41c913761", func := "portage/portagelaw20.HopGets", spec := "hopGets", unfollowed := true, recurses := true, plainKeys := false, apart := false, narrowed := true }
def HopGetsUptoSaid : Prop := hopGetsUptoRow.holds Try.pinned (OpenSpec.upto hopGetsSpec)

/-- 'portagelaw20.HopBack', WHERE WHAT IT READS IS OF BULK AT MOST 1048576: true; the input reads as it did. -/
def hopBackUptoRow : OpenClaim := { program := "ytohfoieibgmmdaa", sum := "469c13acbfdf203a86a704b2bf3d840e55d3edfc15a64d06c17412d41c913761", func := "portage/portagelaw20.HopBack", spec := "hopBack", unfollowed := true, recurses := true, plainKeys := false, apart := false, narrowed := true }
def HopBackUptoSaid : Prop := hopBackUptoRow.holds Try.pinned (OpenSpec.upto hopBackSpec)

/-- 'portagelaw20.HopPlays', WHERE WHAT IT READS IS OF BULK AT MOST 1048576: true; the input reads as it did. -/
def hopPlaysUptoRow : OpenClaim := { program := "ytohfoieibgmmdaa", sum := "469c13acbfdf203a86a704b2bf3d840e55d3edfc15a64d06c17412d41c913761", func := "portage/portagelaw20.HopPlays", spec := "hopPlays", inPlace := ["internal/reflectlite.ValueOf", "internal/reflectlite.Swapper", "(internal/reflectlite.Value).Len"], unfollowed := true, recurses := true, plainKeys := false, apart := false, narrowed := true }
def HopPlaysUptoSaid : Prop := hopPlaysUptoRow.holds Try.pinned (OpenSpec.upto hopPlaysSpec)

/-- 'portagelaw20.HopOnce', WHERE WHAT IT READS IS OF BULK AT MOST 1048576: true; the input reads as it did. -/
def hopOnceUptoRow : OpenClaim := { program := "ytohfoieibgmmdaa", sum := "469c13acbfdf203a86a704b2bf3d840e55d3edfc15a64d06c17412d41c913761", func := "portage/portagelaw20.HopOnce", spec := "hopOnce", inPlace := ["internal/reflectlite.ValueOf", "internal/reflectlite.Swapper", "(internal/reflectlite.Value).Len"], unfollowed := true, recurses := true, plainKeys := false, apart := false, narrowed := true }
def HopOnceUptoSaid : Prop := hopOnceUptoRow.holds Try.pinned (OpenSpec.upto hopOnceSpec)

/-- 'portagelaw20.HopWhose', WHERE WHAT IT READS IS OF BULK AT MOST 1048576: true; the input reads as it did. -/
def hopWhoseUptoRow : OpenClaim := { program := "ytohfoieibgmmdaa", sum := "469c13acbfdf203a86a704b2bf3d840e55d3edfc15a64d06c17412d41c913761", func := "portage/portagelaw20.HopWhose", spec := "hopWhose", unfollowed := true, recurses := true, plainKeys := false, apart := false, narrowed := true }
def HopWhoseUptoSaid : Prop := hopWhoseUptoRow.holds Try.pinned (OpenSpec.upto hopWhoseSpec)

end Rows
end Go.Proofs.Ytohfoieibgmmdaa
