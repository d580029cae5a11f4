/- ProgramKind and ProgramSize of the model and of the program, and their laws as calls. -/
import Derived.Test.YtijplnaoecoblaaSpecL
namespace Go.Proofs.Ytijplnaoecoblaa
set_option linter.unusedVariables false
open Go.RowKit

/-- What ProgramKind answers. -/
def kindText : Option P → Bs
  | none => []
  | some p => p.kind.name
def sizePO : Option P → Int
  | none => -1
  | some p => p.size

end Go.Proofs.Ytijplnaoecoblaa
