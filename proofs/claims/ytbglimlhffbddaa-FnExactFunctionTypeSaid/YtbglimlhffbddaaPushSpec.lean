/- Not moved inwards in the model: l1Push. -/
import Derived.Test.YtbglimlhffbddaaPush
namespace Go.Proofs.Ytbglimlhffbddaa
open Go.RowKit

end Go.Proofs.Ytbglimlhffbddaa
