/- spec.l2Dual. -/
import Derived.Test.YtijplnaoecoblaaWordD
import Derived.Deep.RegionHeld3
namespace Go.Proofs.Ytijplnaoecoblaa
set_option linter.unusedVariables false
open Go.RowKit

abbrev F0 (_ : Nat) : Prop := False
end Go.Proofs.Ytijplnaoecoblaa
