/- spec.l2Flip, spec.l2Word, spec.l2Dual. -/
import Derived.Test.YtijplnaoecoblaaTree
import Derived.Test.YtijplnaoecoblaaMathD
import Derived.Test.YtijplnaoecoblaaFormT
import Derived.Test.YtijplnaoecoblaaListT
namespace Go.Proofs.Ytijplnaoecoblaa
set_option linter.unusedVariables false
open Go.RowKit

end Go.Proofs.Ytijplnaoecoblaa
