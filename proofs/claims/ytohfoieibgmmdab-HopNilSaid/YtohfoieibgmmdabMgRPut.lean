/- The reference's bytes of an id. -/
import Derived.Test.YtohfoieibgmmdabMgPut
import Derived.Test.YtohfoieibgmmdabMgLex
import Derived.Test.YtohfoieibgmmdabIKit
namespace Go.Proofs.Ytohfoieibgmmdab.Mg
open Go.RowKit
open Go.Proofs.Ytohfoieibgmmdab.Me Go.Proofs.Ytohfoieibgmmdab.Ba Go.Proofs.Ytohfoieibgmmdab.Ma
set_option linter.unusedVariables false
set_option linter.unusedSimpArgs false

end Go.Proofs.Ytohfoieibgmmdab.Mg
