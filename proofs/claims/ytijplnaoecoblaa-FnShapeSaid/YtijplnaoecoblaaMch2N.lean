/- A machine's noValue and isValue. -/
import Derived.Test.YtijplnaoecoblaaMch1N
import Derived.Test.YtijplnaoecoblaaFirstNo
import Derived.Test.YtijplnaoecoblaaAssert
namespace Go.Proofs.Ytijplnaoecoblaa
set_option linter.unusedVariables false
open Go.RowKit
set_option maxRecDepth 100000

theorem formValN_1 {h : Bs} {r : K × K} (e : hd1 h = some r) (b : Bool) : formVal (dhead h) [b] = (if h = fstB ∨ h = sndB then b else decide (h = negB)) := by
  unfold hd1 at e
  repeat' split at e
  all_goals first | (rename_i hh; subst hh; revert b; decide) | cases e
theorem formValN_2 {h : Bs} {r : K × K × K} (e : hd2 h = some r) (a b : Bool) : formVal (dhead h) [a, b] = (decide (h = caseB) && (a && b)) := by
  unfold hd2 at e
  repeat' split at e
  all_goals first | (rename_i hh; subst hh; revert a b; decide) | cases e

end Go.Proofs.Ytijplnaoecoblaa
