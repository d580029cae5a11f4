/- spec.l1List. -/
import Derived.Test.YtaagbnbekfogiaaHead
namespace Go.Proofs.Ytaagbnbekfogiaa
set_option linter.unusedVariables false
open Go.RowKit


/-! ### The model -/
/-- A call hands back the tree t, which reads what D allows and what is new; and it only makes memory. -/
def TreeRet (D : Nat → Prop) (t : T) (w : World) (e : Ending) (w' : World) : Prop :=
  ∃ a p n c, e = .returned (.agg #[.string a, .slice p n c]) ∧ TC w' (DN D w.heap.size w') t a p n c ∧ Below w.heap.size w w'

/-- A slice that the text itself writes out is a row of the call's own. -/
theorem own_block {w : World} {g : Nat} {E : TypeId} {x y : Value} (base : Nat) (hb : base ≤ g) (h : w.heap[g]? = some (.cells #[x, y] E (0, 0))) : w.ownsRow base E 2 (.slice (some ⟨g, 0, none⟩) 1 1) 1 [x, y] :=
  ⟨rfl, .inr ⟨g, 1, #[x, y], rfl, hb, h, Nat.le_refl _, by unfold maxLen; omega, rfl, rfl⟩⟩

end Go.Proofs.Ytaagbnbekfogiaa
