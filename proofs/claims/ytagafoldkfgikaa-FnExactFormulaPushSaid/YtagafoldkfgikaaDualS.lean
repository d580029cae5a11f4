/- spec.FormulaDual. -/
import Derived.Test.YtagafoldkfgikaaListT
import Derived.Test.YtagafoldkfgikaaTextF
import Derived.Test.YtagafoldkfgikaaReadF
namespace Go.Proofs.Ytagafoldkfgikaa
set_option linter.unusedVariables false
open Go.RowKit

def dualS : Option F → ByteArray
  | none => ⟨#[]⟩
  | some f => ⟨f.dual.text.toArray⟩

end Go.Proofs.Ytagafoldkfgikaa
