/- spec.FormulaDual. -/
import Derived.Test.YtbglimlhffbddaaListT
import Derived.Test.YtbglimlhffbddaaTextF
import Derived.Test.YtbglimlhffbddaaReadF
namespace Go.Proofs.Ytbglimlhffbddaa
set_option linter.unusedVariables false
open Go.RowKit

def dualS : Option F → ByteArray
  | none => ⟨#[]⟩
  | some f => ⟨f.dual.text.toArray⟩

end Go.Proofs.Ytbglimlhffbddaa
