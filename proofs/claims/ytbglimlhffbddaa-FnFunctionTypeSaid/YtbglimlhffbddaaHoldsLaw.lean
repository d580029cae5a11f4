/- FormulaHolds of the model and of the program. FnExactFormulaHolds as a call. -/
import Derived.Test.YtbglimlhffbddaaTruths
import Derived.Test.YtbglimlhffbddaaSpecForm
import Derived.Test.YtbglimlhffbddaaDualS
import Derived.Test.YtbglimlhffbddaaReadF
import Derived.Test.YtbglimlhffbddaaListT
import Derived.Test.YtbglimlhffbddaaTextF
import Derived.Test.YtbglimlhffbddaaSizeLaw
import Derived.Test.YtbglimlhffbddaaStrs
namespace Go.Proofs.Ytbglimlhffbddaa
set_option linter.unusedVariables false
open Go.RowKit

def holdsO (L : List ByteArray) : Option F → Bool
  | none => false
  | some f => f.holds L

theorem holds_ahead (f : F) (w : World) : (nilAhead 206 (ft f) (fi f) "loop.example/classicalcontrol/impl.holds").run Try.prog w = .ok (some false) w := by
  cases f <;> kernel_rfl

end Go.Proofs.Ytbglimlhffbddaa

namespace Go.Proofs.Ytbglimlhffbddaa
open Go.RowKit

theorem ArgS.of_own {w : World} {base : Nat} {A : Option Addr} {n c : Nat} {ss : List ByteArray} (h : w.ownsRow base 9 1 (.slice A n c) n (ss.map Value.string)) (hs : ∀ s ∈ ss, s.size ≤ maxLen) : ArgS w A n ss := ⟨RowS.of_own h, hs⟩

end Go.Proofs.Ytbglimlhffbddaa
