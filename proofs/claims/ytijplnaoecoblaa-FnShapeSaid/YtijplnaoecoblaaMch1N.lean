/- A machine's exchanged and head. -/
import Derived.Test.YtijplnaoecoblaaMakeP
import Derived.Test.YtijplnaoecoblaaMathV
namespace Go.Proofs.Ytijplnaoecoblaa
set_option linter.unusedVariables false
open Go.RowKit
set_option maxRecDepth 100000

theorem kind0N (w : World) : Calls Try.prog 88 #[.agg #[.int .u8 0, .string ⟨#[]⟩]] w fun e w' => e = .returned (str [99, 111, 116, 101, 114, 109]) ∧ Below w.heap.size w w' := by
  go_enter Try.func88, Try.ntmps88
  go_wp2_with fail
  go_ret
  exact ⟨rfl, (by repeat (with_reducible first | exact hbel | exact Below.refl _ _ | refine Below.drew ?_ | refine Below.drewN ?_ _ | refine Below.alloc ?_ (by first | (simp; done) | (simp; omega) | omega | (have := Below.size hbel; simp; omega) | (have := Below.size hbel; omega)) _ | refine Below.setCell ?_ (by first | (simp; done) | (simp; omega) | omega) _))⟩
theorem km0N (w : World) : (method 229 53 (.agg #[.int .u8 0, .string ⟨#[]⟩]) "loop.example/classicalcontrol/impl.kind").run Try.prog w = .ok (88, .agg #[.int .u8 0, .string ⟨#[]⟩]) w := by kernel_rfl
theorem kc0N (x : Array Value) (w : World) : (callFunc 88 x).run Try.prog w = .ok (.enter 88 x) w := by kernel_rfl

/-- What a head is called on the other side; nothing for what is no head of a form. -/
def dhead (h : Bs) : Bs := match shapeL h with
  | none => []
  | some (_, d, _) => d
theorem field_dual' (a b c : Value) (w : World) : (Instr.field 87 (.agg #[a, b, c]) 1).run Try.prog w = .ok b w := by kernel_rfl
end Go.Proofs.Ytijplnaoecoblaa
