/- Duals of formulas: impl's methods 'dual', the model's l1List and l1Dual. -/
import Derived.Test.YtbglimlhffbddaaListT
import Derived.Test.YtbglimlhffbddaaTextF
namespace Go.Proofs.Ytbglimlhffbddaa
open Go.RowKit

/-! ### The model -/
end Go.Proofs.Ytbglimlhffbddaa
