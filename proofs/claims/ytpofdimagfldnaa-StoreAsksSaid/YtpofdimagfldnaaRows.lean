/-
  No cell of these rows narrows 'for every input' (looked for: loops, veiled, ifaces, maps, wideKeys, modest, calm, conditions, laid).
  DERIVED. THE GIVEN ROWS OF THIS SEAT. 5 by the template 'for every input the law returns true; each argument reads behind the call as it read before'; 0 by the template 'total and deterministic' (their statements: YtpofdimagfldnaaTotals.lean).
  GIVEN WITH THE SEED: the statements are not yours to turn. If you find one false, say at which input.
  Laid BY PROGRAM, IN A SANDBOX (cutbox-rows.mjs): the forced cells as the released guide's own fill.sh prints them over the translation 1d84a2ad615d5bb0… (all of the seat's roots in one cut). By AI agents, Wed Nov 11 2026. No macro, syntax, notation, axiom, sorry.
-/
import Derived.Test.YtpofdimagfldnaaChecked
import GoSem.Claim
import GoSem.ClaimJoined
import GoSem.ClaimMapViews
import Derived.JoinedTies
import Derived.KernelRfl
namespace Go.Proofs.Ytpofdimagfldnaa
/- THE CELL 'sum', in the pinned program and in every row, IS THE sha256 OF THE DUMP (.gsa) THAT YtpofdimagfldnaaProg.lean LOADS. Nothing in Lean hashes anything: it is a label: what it is worth is what the hold of that sum in a sandbox is worth. -/
noncomputable def Try.pinned : Pinned := { name := "ytpofdimagfldnaa", sum := "1d84a2ad615d5bb0175578221be5ec8c2e487ff45e0095ee6a096672f7bf05bf", checked := Try.checked }
namespace Rows
def none {H : Type} : Left H := { results := [], args := [] }

/-- 'portagelaw15.StoreAsks': WHATEVER THE INPUT: true; the input reads as it did. -/
def storeAsksSpec : ChangeSpec := { name := "storeAsks", fn := fun _ => fun
  | [d1, d2, d3] => { results := [.lit (.bool true)], args := [d1, d2, d3] }
  | _ => none }
def storeAsksRow : OpenClaim := { program := "ytpofdimagfldnaa", sum := "1d84a2ad615d5bb0175578221be5ec8c2e487ff45e0095ee6a096672f7bf05bf", func := "portage/portagelaw15.StoreAsks", spec := "storeAsks", inPlace := ["slices.overlaps[int]"], unfollowed := true, recurses := true, plainKeys := false, apart := false }
def StoreAsksSaid : Prop := storeAsksRow.holds Try.pinned (OpenSpec.ofChange storeAsksSpec)

/-- ITS FALSE NEIGHBOUR: 'it returns false'. Refute it at one input. -/
def storeAsksWrong : ChangeSpec := { name := "storeAsks", fn := fun _ => fun
  | [d1, d2, d3] => { results := [.lit (.bool false)], args := [d1, d2, d3] }
  | _ => none }
def StoreAsksWrongFalsely : Prop := storeAsksRow.holds Try.pinned (OpenSpec.ofChange storeAsksWrong)

/-- 'portagelaw15.StoreFresh': WHATEVER THE INPUT: true; the input reads as it did. -/
def storeFreshSpec : ChangeSpec := { name := "storeFresh", fn := fun _ => fun
  | [d1, d2, d3] => { results := [.lit (.bool true)], args := [d1, d2, d3] }
  | _ => none }
def storeFreshRow : OpenClaim := { program := "ytpofdimagfldnaa", sum := "1d84a2ad615d5bb0175578221be5ec8c2e487ff45e0095ee6a096672f7bf05bf", func := "portage/portagelaw15.StoreFresh", spec := "storeFresh", inPlace := ["slices.overlaps[int]"], unfollowed := true, recurses := true, plainKeys := false, apart := false }
def StoreFreshSaid : Prop := storeFreshRow.holds Try.pinned (OpenSpec.ofChange storeFreshSpec)

/-- ITS FALSE NEIGHBOUR: 'it returns false'. Refute it at one input. -/
def storeFreshWrong : ChangeSpec := { name := "storeFresh", fn := fun _ => fun
  | [d1, d2, d3] => { results := [.lit (.bool false)], args := [d1, d2, d3] }
  | _ => none }
def StoreFreshWrongFalsely : Prop := storeFreshRow.holds Try.pinned (OpenSpec.ofChange storeFreshWrong)

/-- 'portagelaw15.StoreQuotas': WHATEVER THE INPUT: true; the input reads as it did. -/
def storeQuotasSpec : ChangeSpec := { name := "storeQuotas", fn := fun _ => fun
  | [d1, d2] => { results := [.lit (.bool true)], args := [d1, d2] }
  | _ => none }
def storeQuotasRow : OpenClaim := { program := "ytpofdimagfldnaa", sum := "1d84a2ad615d5bb0175578221be5ec8c2e487ff45e0095ee6a096672f7bf05bf", func := "portage/portagelaw15.StoreQuotas", spec := "storeQuotas", inPlace := ["slices.overlaps[int]"], unfollowed := true, recurses := true, plainKeys := false, apart := false }
def StoreQuotasSaid : Prop := storeQuotasRow.holds Try.pinned (OpenSpec.ofChange storeQuotasSpec)

/-- ITS FALSE NEIGHBOUR: 'it returns false'. Refute it at one input. -/
def storeQuotasWrong : ChangeSpec := { name := "storeQuotas", fn := fun _ => fun
  | [d1, d2] => { results := [.lit (.bool false)], args := [d1, d2] }
  | _ => none }
def StoreQuotasWrongFalsely : Prop := storeQuotasRow.holds Try.pinned (OpenSpec.ofChange storeQuotasWrong)

/-- 'portagelaw15.StoreEvs': WHATEVER THE INPUT: true; the input reads as it did. -/
def storeEvsSpec : ChangeSpec := { name := "storeEvs", fn := fun _ => fun
  | [d1, d2] => { results := [.lit (.bool true)], args := [d1, d2] }
  | _ => none }
def storeEvsRow : OpenClaim := { program := "ytpofdimagfldnaa", sum := "1d84a2ad615d5bb0175578221be5ec8c2e487ff45e0095ee6a096672f7bf05bf", func := "portage/portagelaw15.StoreEvs", spec := "storeEvs", inPlace := ["slices.overlaps[int]"], unfollowed := true, recurses := true, plainKeys := false, apart := false }
def StoreEvsSaid : Prop := storeEvsRow.holds Try.pinned (OpenSpec.ofChange storeEvsSpec)

/-- ITS FALSE NEIGHBOUR: 'it returns false'. Refute it at one input. -/
def storeEvsWrong : ChangeSpec := { name := "storeEvs", fn := fun _ => fun
  | [d1, d2] => { results := [.lit (.bool false)], args := [d1, d2] }
  | _ => none }
def StoreEvsWrongFalsely : Prop := storeEvsRow.holds Try.pinned (OpenSpec.ofChange storeEvsWrong)

/-- 'portagelaw15.StoreNil': WHATEVER THE INPUT: true; the input reads as it did. -/
def storeNilSpec : ChangeSpec := { name := "storeNil", fn := fun _ => fun
  | [d] => { results := [.lit (.bool true)], args := [d] }
  | _ => none }
def storeNilRow : OpenClaim := { program := "ytpofdimagfldnaa", sum := "1d84a2ad615d5bb0175578221be5ec8c2e487ff45e0095ee6a096672f7bf05bf", func := "portage/portagelaw15.StoreNil", spec := "storeNil", inPlace := ["slices.overlaps[int]"], unfollowed := true, recurses := true, plainKeys := false, apart := false }
def StoreNilSaid : Prop := storeNilRow.holds Try.pinned (OpenSpec.ofChange storeNilSpec)

/-- ITS FALSE NEIGHBOUR: 'it returns false'. Refute it at one input. -/
def storeNilWrong : ChangeSpec := { name := "storeNil", fn := fun _ => fun
  | [d] => { results := [.lit (.bool false)], args := [d] }
  | _ => none }
def StoreNilWrongFalsely : Prop := storeNilRow.holds Try.pinned (OpenSpec.ofChange storeNilWrong)

/- THE SECOND FORM. 'bulk': how many values and letters a reading holds, each counted each time it is reached (what is shared counts as often as it is met; a slice's spare places count too). A statement '..UptoSaid' is the law's where the arguments, and the package variables that the reading takes, are together of bulk at most 1048576: NARROWER than '..Said'. Prove '..Said' where nothing that the law and all that it calls make is longer than what came in: it says more and counts as full. Else prove '..UptoSaid'. A law counts once. -/
mutual
def uptoBulk {H : Type} : DataW H → Nat
  | .lit (.string bytes) => bytes.length + 1
  | .lit _ => 1
  | .nil => 1
  | .ptr d => uptoBulk d + 1
  | .slice elems spare => uptoBulkAll elems + uptoBulkAll spare + 1
  | .agg parts => uptoBulkAll parts + 1
  | .iface _ d => uptoBulk d + 1
  | .map entries => uptoBulkEntries entries + 1
  | .held _ => 1
def uptoBulkAll {H : Type} : List (DataW H) → Nat
  | [] => 0
  | d :: r => uptoBulk d + uptoBulkAll r
def uptoBulkEntries {H : Type} : List (Lit × DataW H) → Nat
  | [] => 0
  | x :: r => uptoBulkEntry x + uptoBulkEntries r
def uptoBulkEntry {H : Type} : Lit × DataW H → Nat
  | (.string bytes, d) => bytes.length + uptoBulk d + 1
  | (_, d) => uptoBulk d + 1
 end
def uptoSmall : (H : Type) → List (DataW H) → Bool := fun _ ds => decide (uptoBulkAll ds ≤ 1048576)
def OpenSpec.upto (s : _root_.Go.ChangeSpec) : _root_.Go.OpenSpec := { _root_.Go.OpenSpec.ofChange s with cond := some uptoSmall }

/-- 'portagelaw15.StoreAsks', WHERE WHAT IT READS IS OF BULK AT MOST 1048576: true; the input reads as it did. -/
def storeAsksUptoRow : OpenClaim := { program := "ytpofdimagfldnaa", sum := "1d84a2ad615d5bb0175578221be5ec8c2e487ff45e0095ee6a096672f7bf05bf", func := "portage/portagelaw15.StoreAsks", spec := "storeAsks", inPlace := ["slices.overlaps[int]"], unfollowed := true, recurses := true, plainKeys := false, apart := false, narrowed := true }
def StoreAsksUptoSaid : Prop := storeAsksUptoRow.holds Try.pinned (OpenSpec.upto storeAsksSpec)

/-- 'portagelaw15.StoreFresh', WHERE WHAT IT READS IS OF BULK AT MOST 1048576: true; the input reads as it did. -/
def storeFreshUptoRow : OpenClaim := { program := "ytpofdimagfldnaa", sum := "1d84a2ad615d5bb0175578221be5ec8c2e487ff45e0095ee6a096672f7bf05bf", func := "portage/portagelaw15.StoreFresh", spec := "storeFresh", inPlace := ["slices.overlaps[int]"], unfollowed := true, recurses := true, plainKeys := false, apart := false, narrowed := true }
def StoreFreshUptoSaid : Prop := storeFreshUptoRow.holds Try.pinned (OpenSpec.upto storeFreshSpec)

/-- 'portagelaw15.StoreQuotas', WHERE WHAT IT READS IS OF BULK AT MOST 1048576: true; the input reads as it did. -/
def storeQuotasUptoRow : OpenClaim := { program := "ytpofdimagfldnaa", sum := "1d84a2ad615d5bb0175578221be5ec8c2e487ff45e0095ee6a096672f7bf05bf", func := "portage/portagelaw15.StoreQuotas", spec := "storeQuotas", inPlace := ["slices.overlaps[int]"], unfollowed := true, recurses := true, plainKeys := false, apart := false, narrowed := true }
def StoreQuotasUptoSaid : Prop := storeQuotasUptoRow.holds Try.pinned (OpenSpec.upto storeQuotasSpec)

/-- 'portagelaw15.StoreEvs', WHERE WHAT IT READS IS OF BULK AT MOST 1048576: true; the input reads as it did. -/
def storeEvsUptoRow : OpenClaim := { program := "ytpofdimagfldnaa", sum := "1d84a2ad615d5bb0175578221be5ec8c2e487ff45e0095ee6a096672f7bf05bf", func := "portage/portagelaw15.StoreEvs", spec := "storeEvs", inPlace := ["slices.overlaps[int]"], unfollowed := true, recurses := true, plainKeys := false, apart := false, narrowed := true }
def StoreEvsUptoSaid : Prop := storeEvsUptoRow.holds Try.pinned (OpenSpec.upto storeEvsSpec)

/-- 'portagelaw15.StoreNil', WHERE WHAT IT READS IS OF BULK AT MOST 1048576: true; the input reads as it did. -/
def storeNilUptoRow : OpenClaim := { program := "ytpofdimagfldnaa", sum := "1d84a2ad615d5bb0175578221be5ec8c2e487ff45e0095ee6a096672f7bf05bf", func := "portage/portagelaw15.StoreNil", spec := "storeNil", inPlace := ["slices.overlaps[int]"], unfollowed := true, recurses := true, plainKeys := false, apart := false, narrowed := true }
def StoreNilUptoSaid : Prop := storeNilUptoRow.holds Try.pinned (OpenSpec.upto storeNilSpec)

end Rows
end Go.Proofs.Ytpofdimagfldnaa
