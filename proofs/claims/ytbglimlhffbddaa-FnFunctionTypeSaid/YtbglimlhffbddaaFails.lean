/- The model's l1Fails. -/
import Derived.Test.YtbglimlhffbddaaSeqVF
import Derived.Test.YtbglimlhffbddaaSeqSpec
namespace Go.Proofs.Ytbglimlhffbddaa
set_option linter.unusedVariables false
open Go.RowKit

def l1F (L : List ByteArray) (fs gs : List F) : List ByteArray × Int := if 10 < L.length then ([], 2) else match ff L fs gs with
  | some b => (pick b 0 L, 1)
  | none => ([], 0)

def FFRet (o : List ByteArray × Int) (w : World) (e : Ending) (w' : World) : Prop :=
  ∃ C k, e = .returned (.tuple #[.slice C o.1.length k, .int .i64 o.2]) ∧ w'.ownsRow w.heap.size 9 1 (.slice C o.1.length k) o.1.length (o.1.map Value.string) ∧ Below w.heap.size w w'

end Go.Proofs.Ytbglimlhffbddaa
