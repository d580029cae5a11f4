/- spec.l1Text. -/
import Derived.Test.YtbglimlhffbddaaHead
import Derived.Test.YtbglimlhffbddaaMathT
namespace Go.Proofs.Ytbglimlhffbddaa
set_option linter.unusedVariables false
open Go.RowKit

end Go.Proofs.Ytbglimlhffbddaa
