/- FormulaDual of the model and of the program, and its law as a call. -/
import Derived.Test.YtbglimlhffbddaaDualS
import Derived.Test.YtbglimlhffbddaaReadF
import Derived.Test.YtbglimlhffbddaaDual
import Derived.Test.YtbglimlhffbddaaSizeLaw
namespace Go.Proofs.Ytbglimlhffbddaa
open Go.RowKit

end Go.Proofs.Ytbglimlhffbddaa
