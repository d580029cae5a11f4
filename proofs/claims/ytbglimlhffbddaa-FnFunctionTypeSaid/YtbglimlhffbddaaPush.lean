/- Not moved inwards: impl.push and impl.pushOpposite, the model's l1Push. -/
import Derived.Test.YtbglimlhffbddaaDualS
import Derived.Test.YtbglimlhffbddaaReadF
import Derived.Test.YtbglimlhffbddaaListT
import Derived.Test.YtbglimlhffbddaaTextF
import Derived.Test.YtbglimlhffbddaaSizeLaw
namespace Go.Proofs.Ytbglimlhffbddaa
set_option linter.unusedVariables false
open Go.RowKit

/-! ### What the type switch asks -/
theorem as_conjunction_conjunction (v : Value) (w : World) : (Instr.typeAssert (.iface 43 v) 36 43 true).run Try.prog w = .ok (.tuple #[v, .bool true]) w := by kernel_rfl
theorem as_disjunction_conjunction (v : Value) (w : World) : (Instr.typeAssert (.iface 83 v) 36 43 true).run Try.prog w = .ok (.tuple #[.agg #[.nilIface, .nilIface], .bool false]) w := by kernel_rfl
theorem as_opposite_conjunction (v : Value) (w : World) : (Instr.typeAssert (.iface 41 v) 36 43 true).run Try.prog w = .ok (.tuple #[.agg #[.nilIface, .nilIface], .bool false]) w := by kernel_rfl
theorem as_letter_conjunction (v : Value) (w : World) : (Instr.typeAssert (.iface 79 v) 36 43 true).run Try.prog w = .ok (.tuple #[.agg #[.nilIface, .nilIface], .bool false]) w := by kernel_rfl
theorem as_conjunction_disjunction (v : Value) (w : World) : (Instr.typeAssert (.iface 43 v) 36 83 true).run Try.prog w = .ok (.tuple #[.agg #[.nilIface, .nilIface], .bool false]) w := by kernel_rfl
theorem as_disjunction_disjunction (v : Value) (w : World) : (Instr.typeAssert (.iface 83 v) 36 83 true).run Try.prog w = .ok (.tuple #[v, .bool true]) w := by kernel_rfl
theorem as_opposite_disjunction (v : Value) (w : World) : (Instr.typeAssert (.iface 41 v) 36 83 true).run Try.prog w = .ok (.tuple #[.agg #[.nilIface, .nilIface], .bool false]) w := by kernel_rfl
theorem as_letter_disjunction (v : Value) (w : World) : (Instr.typeAssert (.iface 79 v) 36 83 true).run Try.prog w = .ok (.tuple #[.agg #[.nilIface, .nilIface], .bool false]) w := by kernel_rfl
theorem as_conjunction_opposite (v : Value) (w : World) : (Instr.typeAssert (.iface 43 v) 36 41 true).run Try.prog w = .ok (.tuple #[.agg #[.nilIface], .bool false]) w := by kernel_rfl
theorem as_disjunction_opposite (v : Value) (w : World) : (Instr.typeAssert (.iface 83 v) 36 41 true).run Try.prog w = .ok (.tuple #[.agg #[.nilIface], .bool false]) w := by kernel_rfl
theorem as_opposite_opposite (v : Value) (w : World) : (Instr.typeAssert (.iface 41 v) 36 41 true).run Try.prog w = .ok (.tuple #[v, .bool true]) w := by kernel_rfl
theorem as_letter_opposite (v : Value) (w : World) : (Instr.typeAssert (.iface 79 v) 36 41 true).run Try.prog w = .ok (.tuple #[.agg #[.nilIface], .bool false]) w := by kernel_rfl

end Go.Proofs.Ytbglimlhffbddaa
