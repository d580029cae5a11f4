/- SequentValid of the model, and its law as a call. -/
import Derived.Test.YtbglimlhffbddaaStrs
import Derived.Test.YtbglimlhffbddaaFails
import Derived.Test.YtbglimlhffbddaaSeqSpec
import Derived.Test.YtbglimlhffbddaaHoldsLaw
namespace Go.Proofs.Ytbglimlhffbddaa
set_option linter.unusedVariables false
open Go.RowKit

theorem l1F_zero (L : List ByteArray) (fs gs : List F) : ((l1F L fs gs).2 == 0) = (decide (L.length ≤ 10) && !(ff L fs gs).isSome) := by
  unfold l1F
  by_cases h : 10 < L.length
  · rw [if_pos h, decide_eq_false (by omega)]; rfl
  · rw [if_neg h, decide_eq_true (by omega)]
    cases ff L fs gs <;> rfl

end Go.Proofs.Ytbglimlhffbddaa
