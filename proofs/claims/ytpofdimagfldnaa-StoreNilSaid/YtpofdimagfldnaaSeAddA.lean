/- Add, of any set. -/
import Derived.Test.YtpofdimagfldnaaSeAdd
import Derived.Test.YtpofdimagfldnaaSeInsM
namespace Go.Proofs.Ytpofdimagfldnaa.Se
open Go.RowKit
open Go.Proofs.Ytpofdimagfldnaa.Me Go.Proofs.Ytpofdimagfldnaa.Sb
set_option linter.unusedVariables false
set_option linter.unusedSimpArgs false

theorem Add_all (D b n : Nat) (s : St) (i : Mg.Id4) (w : World) (hS : Hid (Set w true D b n s)) (hn : n ≤ 1000000) : Calls Try.prog 44 #[.pointer (some ⟨D, 0, none⟩), .agg (Mg.idC i)] w (AddP D b n s i w) :=
  Add_any D b n s i w hS hn fun _ A W hA => insAt hA (by have h1 := hS.out.ok.more_le i.o i.e; have h2 := hS.out.ok.g1; have h3 := hS.out.ok.r1; omega)
end Go.Proofs.Ytpofdimagfldnaa.Se
