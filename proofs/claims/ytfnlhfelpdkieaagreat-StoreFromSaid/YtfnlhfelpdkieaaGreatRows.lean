/-
  No cell of these rows narrows 'for every input' (looked for: loops, veiled, ifaces, maps, wideKeys, modest, calm, conditions, laid).
  DERIVED. THE GIVEN ROWS OF THIS SEAT. 4 by the template 'for every input the law returns true; each argument reads behind the call as it read before'; 0 by the template 'total and deterministic' (their statements: YtfnlhfelpdkieaaGreatTotals.lean).
  GIVEN WITH THE SEED: the statements are not yours to turn. If you find one false, say at which input.
  Laid BY PROGRAM, IN A SANDBOX (cutbox-rows.mjs): the forced cells as the released guide's own fill.sh prints them over the translation bb1a0a648644fb6c… (all of the seat's roots in one cut). By AI agents, Wed Nov 11 2026. No macro, syntax, notation, axiom, sorry.
-/
import Derived.Test.YtfnlhfelpdkieaaGreatChecked
import GoSem.Claim
import GoSem.ClaimJoined
import GoSem.ClaimMapViews
import Derived.JoinedTies
import Derived.KernelRfl
namespace Go.Proofs.YtfnlhfelpdkieaaGreat
/- THE CELL 'sum', in the pinned program and in every row, IS THE sha256 OF THE DUMP (.gsa) THAT YtfnlhfelpdkieaaGreatProg.lean LOADS. Nothing in Lean hashes anything: it is a label: what it is worth is what the hold of that sum in a sandbox is worth. -/
noncomputable def Tryz.pinned : Pinned := { name := "ytfnlhfelpdkieaagreat", sum := "bb1a0a648644fb6c5490e88e9743e1b0507f9eaf637ed0bfcf30a39f5d808a5d", checked := Tryz.checked }
namespace Rows
def none {H : Type} : Left H := { results := [], args := [] }

/-- 'portagelaw15.StorePlays': WHATEVER THE INPUT: true; the input reads as it did. -/
def storePlaysSpec : ChangeSpec := { name := "storePlays", fn := fun _ => fun
  | [d1, d2] => { results := [.lit (.bool true)], args := [d1, d2] }
  | _ => none }
def storePlaysRow : OpenClaim := { program := "ytfnlhfelpdkieaagreat", sum := "bb1a0a648644fb6c5490e88e9743e1b0507f9eaf637ed0bfcf30a39f5d808a5d", func := "portage/portagelaw15.StorePlays", spec := "storePlays", inPlace := ["slices.overlaps[int]"], unfollowed := true, recurses := true, plainKeys := false, apart := false }
def StorePlaysSaid : Prop := storePlaysRow.holds Tryz.pinned (OpenSpec.ofChange storePlaysSpec)

/-- ITS FALSE NEIGHBOUR: 'it returns false'. Refute it at one input. -/
def storePlaysWrong : ChangeSpec := { name := "storePlays", fn := fun _ => fun
  | [d1, d2] => { results := [.lit (.bool false)], args := [d1, d2] }
  | _ => none }
def StorePlaysWrongFalsely : Prop := storePlaysRow.holds Tryz.pinned (OpenSpec.ofChange storePlaysWrong)

/-- 'portagelaw15.StoreMays': WHATEVER THE INPUT: true; the input reads as it did. -/
def storeMaysSpec : ChangeSpec := { name := "storeMays", fn := fun _ => fun
  | [d1, d2, d3] => { results := [.lit (.bool true)], args := [d1, d2, d3] }
  | _ => none }
def storeMaysRow : OpenClaim := { program := "ytfnlhfelpdkieaagreat", sum := "bb1a0a648644fb6c5490e88e9743e1b0507f9eaf637ed0bfcf30a39f5d808a5d", func := "portage/portagelaw15.StoreMays", spec := "storeMays", inPlace := ["slices.overlaps[int]"], unfollowed := true, recurses := true, plainKeys := false, apart := false }
def StoreMaysSaid : Prop := storeMaysRow.holds Tryz.pinned (OpenSpec.ofChange storeMaysSpec)

/-- ITS FALSE NEIGHBOUR: 'it returns false'. Refute it at one input. -/
def storeMaysWrong : ChangeSpec := { name := "storeMays", fn := fun _ => fun
  | [d1, d2, d3] => { results := [.lit (.bool false)], args := [d1, d2, d3] }
  | _ => none }
def StoreMaysWrongFalsely : Prop := storeMaysRow.holds Tryz.pinned (OpenSpec.ofChange storeMaysWrong)

/-- 'portagelaw15.StoreFrom': WHATEVER THE INPUT: true; the input reads as it did. -/
def storeFromSpec : ChangeSpec := { name := "storeFrom", fn := fun _ => fun
  | [d1, d2] => { results := [.lit (.bool true)], args := [d1, d2] }
  | _ => none }
def storeFromRow : OpenClaim := { program := "ytfnlhfelpdkieaagreat", sum := "bb1a0a648644fb6c5490e88e9743e1b0507f9eaf637ed0bfcf30a39f5d808a5d", func := "portage/portagelaw15.StoreFrom", spec := "storeFrom", inPlace := ["slices.overlaps[int]"], unfollowed := true, recurses := true, plainKeys := false, apart := false }
def StoreFromSaid : Prop := storeFromRow.holds Tryz.pinned (OpenSpec.ofChange storeFromSpec)

/-- ITS FALSE NEIGHBOUR: 'it returns false'. Refute it at one input. -/
def storeFromWrong : ChangeSpec := { name := "storeFrom", fn := fun _ => fun
  | [d1, d2] => { results := [.lit (.bool false)], args := [d1, d2] }
  | _ => none }
def StoreFromWrongFalsely : Prop := storeFromRow.holds Tryz.pinned (OpenSpec.ofChange storeFromWrong)

/-- 'portagelaw15.StoreGoes': WHATEVER THE INPUT: true; the input reads as it did. -/
def storeGoesSpec : ChangeSpec := { name := "storeGoes", fn := fun _ => fun
  | [d1, d2, d3] => { results := [.lit (.bool true)], args := [d1, d2, d3] }
  | _ => none }
def storeGoesRow : OpenClaim := { program := "ytfnlhfelpdkieaagreat", sum := "bb1a0a648644fb6c5490e88e9743e1b0507f9eaf637ed0bfcf30a39f5d808a5d", func := "portage/portagelaw15.StoreGoes", spec := "storeGoes", inPlace := ["slices.overlaps[int]"], unfollowed := true, recurses := true, plainKeys := false, apart := false }
def StoreGoesSaid : Prop := storeGoesRow.holds Tryz.pinned (OpenSpec.ofChange storeGoesSpec)

/-- ITS FALSE NEIGHBOUR: 'it returns false'. Refute it at one input. -/
def storeGoesWrong : ChangeSpec := { name := "storeGoes", fn := fun _ => fun
  | [d1, d2, d3] => { results := [.lit (.bool false)], args := [d1, d2, d3] }
  | _ => none }
def StoreGoesWrongFalsely : Prop := storeGoesRow.holds Tryz.pinned (OpenSpec.ofChange storeGoesWrong)

/- THE SECOND FORM. 'bulk': how many values and letters a reading holds, each counted each time it is reached (what is shared counts as often as it is met; a slice's spare places count too). A statement '..UptoSaid' is the law's where the arguments, and the package variables that the reading takes, are together of bulk at most 1048576: NARROWER than '..Said'. Prove '..Said' where nothing that the law and all that it calls make is longer than what came in: it says more and counts as full. Else prove '..UptoSaid'. A law counts once. -/
mutual
def uptoBulk {H : Type} : DataW H → Nat
  | .lit (.string bytes) => bytes.length + 1
  | .lit _ => 1
  | .nil => 1
  | .ptr d => uptoBulk d + 1
  | .slice elems spare => uptoBulkAll elems + uptoBulkAll spare + 1
  | .agg parts => uptoBulkAll parts + 1
  | .iface _ d => uptoBulk d + 1
  | .map entries => uptoBulkEntries entries + 1
  | .held _ => 1
def uptoBulkAll {H : Type} : List (DataW H) → Nat
  | [] => 0
  | d :: r => uptoBulk d + uptoBulkAll r
def uptoBulkEntries {H : Type} : List (Lit × DataW H) → Nat
  | [] => 0
  | x :: r => uptoBulkEntry x + uptoBulkEntries r
def uptoBulkEntry {H : Type} : Lit × DataW H → Nat
  | (.string bytes, d) => bytes.length + uptoBulk d + 1
  | (_, d) => uptoBulk d + 1
 end
def uptoSmall : (H : Type) → List (DataW H) → Bool := fun _ ds => decide (uptoBulkAll ds ≤ 1048576)
def OpenSpec.upto (s : _root_.Go.ChangeSpec) : _root_.Go.OpenSpec := { _root_.Go.OpenSpec.ofChange s with cond := some uptoSmall }

/-- 'portagelaw15.StorePlays', WHERE WHAT IT READS IS OF BULK AT MOST 1048576: true; the input reads as it did. -/
def storePlaysUptoRow : OpenClaim := { program := "ytfnlhfelpdkieaagreat", sum := "bb1a0a648644fb6c5490e88e9743e1b0507f9eaf637ed0bfcf30a39f5d808a5d", func := "portage/portagelaw15.StorePlays", spec := "storePlays", inPlace := ["slices.overlaps[int]"], unfollowed := true, recurses := true, plainKeys := false, apart := false, narrowed := true }
def StorePlaysUptoSaid : Prop := storePlaysUptoRow.holds Tryz.pinned (OpenSpec.upto storePlaysSpec)

/-- 'portagelaw15.StoreMays', WHERE WHAT IT READS IS OF BULK AT MOST 1048576: true; the input reads as it did. -/
def storeMaysUptoRow : OpenClaim := { program := "ytfnlhfelpdkieaagreat", sum := "bb1a0a648644fb6c5490e88e9743e1b0507f9eaf637ed0bfcf30a39f5d808a5d", func := "portage/portagelaw15.StoreMays", spec := "storeMays", inPlace := ["slices.overlaps[int]"], unfollowed := true, recurses := true, plainKeys := false, apart := false, narrowed := true }
def StoreMaysUptoSaid : Prop := storeMaysUptoRow.holds Tryz.pinned (OpenSpec.upto storeMaysSpec)

/-- 'portagelaw15.StoreFrom', WHERE WHAT IT READS IS OF BULK AT MOST 1048576: true; the input reads as it did. -/
def storeFromUptoRow : OpenClaim := { program := "ytfnlhfelpdkieaagreat", sum := "bb1a0a648644fb6c5490e88e9743e1b0507f9eaf637ed0bfcf30a39f5d808a5d", func := "portage/portagelaw15.StoreFrom", spec := "storeFrom", inPlace := ["slices.overlaps[int]"], unfollowed := true, recurses := true, plainKeys := false, apart := false, narrowed := true }
def StoreFromUptoSaid : Prop := storeFromUptoRow.holds Tryz.pinned (OpenSpec.upto storeFromSpec)

/-- 'portagelaw15.StoreGoes', WHERE WHAT IT READS IS OF BULK AT MOST 1048576: true; the input reads as it did. -/
def storeGoesUptoRow : OpenClaim := { program := "ytfnlhfelpdkieaagreat", sum := "bb1a0a648644fb6c5490e88e9743e1b0507f9eaf637ed0bfcf30a39f5d808a5d", func := "portage/portagelaw15.StoreGoes", spec := "storeGoes", inPlace := ["slices.overlaps[int]"], unfollowed := true, recurses := true, plainKeys := false, apart := false, narrowed := true }
def StoreGoesUptoSaid : Prop := storeGoesUptoRow.holds Tryz.pinned (OpenSpec.upto storeGoesSpec)

end Rows
end Go.Proofs.YtfnlhfelpdkieaaGreat
