/-
  No cell of these rows narrows 'for every input' (looked for: loops, veiled, ifaces, maps, wideKeys, modest, calm, conditions, laid).
  DERIVED. THE GIVEN ROWS OF THIS SEAT. 6 by the template 'for every input the law returns true; each argument reads behind the call as it read before'; 0 by the template 'total and deterministic' (their statements: YtkanebolfmpnfaaTotals.lean).
  GIVEN WITH THE SEED: the statements are not yours to turn. If you find one false, say at which input.
  Laid BY PROGRAM, IN A SANDBOX (cutbox-rows.mjs): the forced cells as the released guide's own fill.sh prints them over the translation 5ead7520279a159a… (all of the seat's roots in one cut). By AI agents, Wed Nov 11 2026. No macro, syntax, notation, axiom, sorry.
-/
import Derived.Test.YtkanebolfmpnfaaChecked
import GoSem.Claim
import GoSem.ClaimJoined
import GoSem.ClaimMapViews
import Derived.JoinedTies
import Derived.KernelRfl
namespace Go.Proofs.Ytkanebolfmpnfaa
/- THE CELL 'sum', in the pinned program and in every row, IS THE sha256 OF THE DUMP (.gsa) THAT YtkanebolfmpnfaaProg.lean LOADS. Nothing in Lean hashes anything: it is a label: what it is worth is what the hold of that sum in a sandbox is worth. -/
noncomputable def Try.pinned : Pinned := { name := "ytkanebolfmpnfaa", sum := "5ead7520279a159ae885380d5d3a7271566d61cffd5d0d24fb01ce4bcadc5376", checked := Try.checked }
namespace Rows
def none {H : Type} : Left H := { results := [], args := [] }

/-- 'portagelaw18.RoutesPlays': WHATEVER THE INPUT: true; the input reads as it did. -/
def routesPlaysSpec : ChangeSpec := { name := "routesPlays", fn := fun _ => fun
  | [d1, d2] => { results := [.lit (.bool true)], args := [d1, d2] }
  | _ => none }
def routesPlaysRow : OpenClaim := { program := "ytkanebolfmpnfaa", sum := "5ead7520279a159ae885380d5d3a7271566d61cffd5d0d24fb01ce4bcadc5376", func := "portage/portagelaw18.RoutesPlays", spec := "routesPlays", unfollowed := true, recurses := true, apart := false }
def RoutesPlaysSaid : Prop := routesPlaysRow.holds Try.pinned (OpenSpec.ofChange routesPlaysSpec)

/-- ITS FALSE NEIGHBOUR: 'it returns false'. Refute it at one input. -/
def routesPlaysWrong : ChangeSpec := { name := "routesPlays", fn := fun _ => fun
  | [d1, d2] => { results := [.lit (.bool false)], args := [d1, d2] }
  | _ => none }
def RoutesPlaysWrongFalsely : Prop := routesPlaysRow.holds Try.pinned (OpenSpec.ofChange routesPlaysWrong)

/-- 'portagelaw18.RoutesVectors': WHATEVER THE INPUT: true; the input reads as it did. -/
def routesVectorsSpec : ChangeSpec := { name := "routesVectors", fn := fun _ => fun
  | [d1, d2, d3] => { results := [.lit (.bool true)], args := [d1, d2, d3] }
  | _ => none }
def routesVectorsRow : OpenClaim := { program := "ytkanebolfmpnfaa", sum := "5ead7520279a159ae885380d5d3a7271566d61cffd5d0d24fb01ce4bcadc5376", func := "portage/portagelaw18.RoutesVectors", spec := "routesVectors", unfollowed := true, recurses := true, apart := false }
def RoutesVectorsSaid : Prop := routesVectorsRow.holds Try.pinned (OpenSpec.ofChange routesVectorsSpec)

/-- ITS FALSE NEIGHBOUR: 'it returns false'. Refute it at one input. -/
def routesVectorsWrong : ChangeSpec := { name := "routesVectors", fn := fun _ => fun
  | [d1, d2, d3] => { results := [.lit (.bool false)], args := [d1, d2, d3] }
  | _ => none }
def RoutesVectorsWrongFalsely : Prop := routesVectorsRow.holds Try.pinned (OpenSpec.ofChange routesVectorsWrong)

/-- 'portagelaw18.RoutesNear': WHATEVER THE INPUT: true; the input reads as it did. -/
def routesNearSpec : ChangeSpec := { name := "routesNear", fn := fun _ => fun
  | [d1, d2] => { results := [.lit (.bool true)], args := [d1, d2] }
  | _ => none }
def routesNearRow : OpenClaim := { program := "ytkanebolfmpnfaa", sum := "5ead7520279a159ae885380d5d3a7271566d61cffd5d0d24fb01ce4bcadc5376", func := "portage/portagelaw18.RoutesNear", spec := "routesNear", unfollowed := true, recurses := true, apart := false }
def RoutesNearSaid : Prop := routesNearRow.holds Try.pinned (OpenSpec.ofChange routesNearSpec)

/-- ITS FALSE NEIGHBOUR: 'it returns false'. Refute it at one input. -/
def routesNearWrong : ChangeSpec := { name := "routesNear", fn := fun _ => fun
  | [d1, d2] => { results := [.lit (.bool false)], args := [d1, d2] }
  | _ => none }
def RoutesNearWrongFalsely : Prop := routesNearRow.holds Try.pinned (OpenSpec.ofChange routesNearWrong)

/-- 'portagelaw18.RoutesPoison': WHATEVER THE INPUT: true; the input reads as it did. -/
def routesPoisonSpec : ChangeSpec := { name := "routesPoison", fn := fun _ => fun
  | [d1, d2, d3] => { results := [.lit (.bool true)], args := [d1, d2, d3] }
  | _ => none }
def routesPoisonRow : OpenClaim := { program := "ytkanebolfmpnfaa", sum := "5ead7520279a159ae885380d5d3a7271566d61cffd5d0d24fb01ce4bcadc5376", func := "portage/portagelaw18.RoutesPoison", spec := "routesPoison", unfollowed := true, recurses := true, apart := false }
def RoutesPoisonSaid : Prop := routesPoisonRow.holds Try.pinned (OpenSpec.ofChange routesPoisonSpec)

/-- ITS FALSE NEIGHBOUR: 'it returns false'. Refute it at one input. -/
def routesPoisonWrong : ChangeSpec := { name := "routesPoison", fn := fun _ => fun
  | [d1, d2, d3] => { results := [.lit (.bool false)], args := [d1, d2, d3] }
  | _ => none }
def RoutesPoisonWrongFalsely : Prop := routesPoisonRow.holds Try.pinned (OpenSpec.ofChange routesPoisonWrong)

/-- 'portagelaw18.RoutesFind': WHATEVER THE INPUT: true; the input reads as it did. -/
def routesFindSpec : ChangeSpec := { name := "routesFind", fn := fun _ => fun
  | [d1, d2] => { results := [.lit (.bool true)], args := [d1, d2] }
  | _ => none }
def routesFindRow : OpenClaim := { program := "ytkanebolfmpnfaa", sum := "5ead7520279a159ae885380d5d3a7271566d61cffd5d0d24fb01ce4bcadc5376", func := "portage/portagelaw18.RoutesFind", spec := "routesFind", unfollowed := true, recurses := true, apart := false }
def RoutesFindSaid : Prop := routesFindRow.holds Try.pinned (OpenSpec.ofChange routesFindSpec)

/-- ITS FALSE NEIGHBOUR: 'it returns false'. Refute it at one input. -/
def routesFindWrong : ChangeSpec := { name := "routesFind", fn := fun _ => fun
  | [d1, d2] => { results := [.lit (.bool false)], args := [d1, d2] }
  | _ => none }
def RoutesFindWrongFalsely : Prop := routesFindRow.holds Try.pinned (OpenSpec.ofChange routesFindWrong)

/-- 'portagelaw18.RoutesNil': WHATEVER THE INPUT: true; the input reads as it did. -/
def routesNilSpec : ChangeSpec := { name := "routesNil", fn := fun _ => fun
  | [d] => { results := [.lit (.bool true)], args := [d] }
  | _ => none }
def routesNilRow : OpenClaim := { program := "ytkanebolfmpnfaa", sum := "5ead7520279a159ae885380d5d3a7271566d61cffd5d0d24fb01ce4bcadc5376", func := "portage/portagelaw18.RoutesNil", spec := "routesNil", unfollowed := true, recurses := true, apart := false }
def RoutesNilSaid : Prop := routesNilRow.holds Try.pinned (OpenSpec.ofChange routesNilSpec)

/-- ITS FALSE NEIGHBOUR: 'it returns false'. Refute it at one input. -/
def routesNilWrong : ChangeSpec := { name := "routesNil", fn := fun _ => fun
  | [d] => { results := [.lit (.bool false)], args := [d] }
  | _ => none }
def RoutesNilWrongFalsely : Prop := routesNilRow.holds Try.pinned (OpenSpec.ofChange routesNilWrong)

/- THE SECOND FORM. 'bulk': how many values and letters a reading holds, each counted each time it is reached (what is shared counts as often as it is met; a slice's spare places count too). A statement '..UptoSaid' is the law's where the arguments, and the package variables that the reading takes, are together of bulk at most 1048576: NARROWER than '..Said'. Prove '..Said' where nothing that the law and all that it calls make is longer than what came in: it says more and counts as full. Else prove '..UptoSaid'. A law counts once. -/
mutual
def uptoBulk {H : Type} : DataW H → Nat
  | .lit (.string bytes) => bytes.length + 1
  | .lit _ => 1
  | .nil => 1
  | .ptr d => uptoBulk d + 1
  | .slice elems spare => uptoBulkAll elems + uptoBulkAll spare + 1
  | .agg parts => uptoBulkAll parts + 1
  | .iface _ d => uptoBulk d + 1
  | .map entries => uptoBulkEntries entries + 1
  | .held _ => 1
def uptoBulkAll {H : Type} : List (DataW H) → Nat
  | [] => 0
  | d :: r => uptoBulk d + uptoBulkAll r
def uptoBulkEntries {H : Type} : List (Lit × DataW H) → Nat
  | [] => 0
  | x :: r => uptoBulkEntry x + uptoBulkEntries r
def uptoBulkEntry {H : Type} : Lit × DataW H → Nat
  | (.string bytes, d) => bytes.length + uptoBulk d + 1
  | (_, d) => uptoBulk d + 1
 end
def uptoSmall : (H : Type) → List (DataW H) → Bool := fun _ ds => decide (uptoBulkAll ds ≤ 1048576)
def OpenSpec.upto (s : _root_.Go.ChangeSpec) : _root_.Go.OpenSpec := { _root_.Go.OpenSpec.ofChange s with cond := some uptoSmall }

/-- 'portagelaw18.RoutesPlays', WHERE WHAT IT READS IS OF BULK AT MOST 1048576: true; the input reads as it did. -/
def routesPlaysUptoRow : OpenClaim := { program := "ytkanebolfmpnfaa", sum := "5ead7520279a159ae885380d5d3a7271566d61cffd5d0d24fb01ce4bcadc5376", func := "portage/portagelaw18.RoutesPlays", spec := "routesPlays", unfollowed := true, recurses := true, apart := false, narrowed := true }
def RoutesPlaysUptoSaid : Prop := routesPlaysUptoRow.holds Try.pinned (OpenSpec.upto routesPlaysSpec)

/-- 'portagelaw18.RoutesVectors', WHERE WHAT IT READS IS OF BULK AT MOST 1048576: true; the input reads as it did. -/
def routesVectorsUptoRow : OpenClaim := { program := "ytkanebolfmpnfaa", sum := "5ead7520279a159ae885380d5d3a7271566d61cffd5d0d24fb01ce4bcadc5376", func := "portage/portagelaw18.RoutesVectors", spec := "routesVectors", unfollowed := true, recurses := true, apart := false, narrowed := true }
def RoutesVectorsUptoSaid : Prop := routesVectorsUptoRow.holds Try.pinned (OpenSpec.upto routesVectorsSpec)

/-- 'portagelaw18.RoutesNear', WHERE WHAT IT READS IS OF BULK AT MOST 1048576: true; the input reads as it did. -/
def routesNearUptoRow : OpenClaim := { program := "ytkanebolfmpnfaa", sum := "5ead7520279a159ae885380d5d3a7271566d61cffd5d0d24fb01ce4bcadc5376", func := "portage/portagelaw18.RoutesNear", spec := "routesNear", unfollowed := true, recurses := true, apart := false, narrowed := true }
def RoutesNearUptoSaid : Prop := routesNearUptoRow.holds Try.pinned (OpenSpec.upto routesNearSpec)

/-- 'portagelaw18.RoutesPoison', WHERE WHAT IT READS IS OF BULK AT MOST 1048576: true; the input reads as it did. -/
def routesPoisonUptoRow : OpenClaim := { program := "ytkanebolfmpnfaa", sum := "5ead7520279a159ae885380d5d3a7271566d61cffd5d0d24fb01ce4bcadc5376", func := "portage/portagelaw18.RoutesPoison", spec := "routesPoison", unfollowed := true, recurses := true, apart := false, narrowed := true }
def RoutesPoisonUptoSaid : Prop := routesPoisonUptoRow.holds Try.pinned (OpenSpec.upto routesPoisonSpec)

/-- 'portagelaw18.RoutesFind', WHERE WHAT IT READS IS OF BULK AT MOST 1048576: true; the input reads as it did. -/
def routesFindUptoRow : OpenClaim := { program := "ytkanebolfmpnfaa", sum := "5ead7520279a159ae885380d5d3a7271566d61cffd5d0d24fb01ce4bcadc5376", func := "portage/portagelaw18.RoutesFind", spec := "routesFind", unfollowed := true, recurses := true, apart := false, narrowed := true }
def RoutesFindUptoSaid : Prop := routesFindUptoRow.holds Try.pinned (OpenSpec.upto routesFindSpec)

/-- 'portagelaw18.RoutesNil', WHERE WHAT IT READS IS OF BULK AT MOST 1048576: true; the input reads as it did. -/
def routesNilUptoRow : OpenClaim := { program := "ytkanebolfmpnfaa", sum := "5ead7520279a159ae885380d5d3a7271566d61cffd5d0d24fb01ce4bcadc5376", func := "portage/portagelaw18.RoutesNil", spec := "routesNil", unfollowed := true, recurses := true, apart := false, narrowed := true }
def RoutesNilUptoSaid : Prop := routesNilUptoRow.holds Try.pinned (OpenSpec.upto routesNilSpec)

end Rows
end Go.Proofs.Ytkanebolfmpnfaa
