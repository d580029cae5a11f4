/- (impl.name).isVariable. -/
import Derived.Test.YtagafoldkfgikaaNames
namespace Go.Proofs.Ytagafoldkfgikaa
set_option linter.unusedVariables false
open Go.RowKit



set_option maxRecDepth 100000 in
theorem isVariable_any (c : UInt8) (d : Bs) (w : World) :
    Calls Try.prog 58 #[nameV c d] w fun e w' => e = .returned (.bool (varB c)) ∧ Below w.heap.size w w' := by
  go_enter Try.func58, Try.ntmps58
  go_wp2_with (go_at_call 68; refine (sIndexByte_any _ _ _).mono ?_; rintro e w' ⟨rfl, rfl⟩)
  go_ret
  exact ⟨ret_bool (idx3 c), (by repeat (with_reducible first | exact hbel | exact Below.refl _ _ | refine Below.drew ?_ | refine Below.drewN ?_ _ | refine Below.alloc ?_ (by first | (simp; done) | (simp; omega) | omega | (have := Below.size hbel; simp; omega) | (have := Below.size hbel; omega)) _ | refine Below.setCell ?_ (by first | (simp; done) | (simp; omega) | omega) _))⟩

end Go.Proofs.Ytagafoldkfgikaa
