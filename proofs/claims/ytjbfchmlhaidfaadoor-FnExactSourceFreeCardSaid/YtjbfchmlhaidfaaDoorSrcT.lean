/- Type assertions and the method inner of source terms. -/
import Derived.Test.YtjbfchmlhaidfaaDoorSrcV
namespace Go.Proofs.YtjbfchmlhaidfaaDoor
set_option linter.unusedVariables false
open Go.RowKit

theorem sa_mention_mention (v : Value) (w : World) : (Instr.typeAssert (.iface 102 v) 40 102 true).run Tryd.prog w = .ok (.tuple #[v, .bool true]) w := by kernel_rfl
theorem sa_mention_lambda (v : Value) (w : World) : (Instr.typeAssert (.iface 102 v) 40 106 true).run Tryd.prog w = .ok (.tuple #[.agg #[.int .u8 0, .string ⟨#[]⟩, .nilIface], .bool false]) w := by kernel_rfl
theorem sa_mention_catch (v : Value) (w : World) : (Instr.typeAssert (.iface 102 v) 40 108 true).run Tryd.prog w = .ok (.tuple #[.agg #[.int .u8 0, .string ⟨#[]⟩, .nilIface], .bool false]) w := by kernel_rfl
theorem sa_mention_throw (v : Value) (w : World) : (Instr.typeAssert (.iface 102 v) 40 110 true).run Tryd.prog w = .ok (.tuple #[.agg #[.int .u8 0, .string ⟨#[]⟩, .nilIface], .bool false]) w := by kernel_rfl
theorem sa_mention_application (v : Value) (w : World) : (Instr.typeAssert (.iface 102 v) 40 152 true).run Tryd.prog w = .ok (.tuple #[.agg #[.nilIface, .nilIface], .bool false]) w := by kernel_rfl
theorem sa_mention_both (v : Value) (w : World) : (Instr.typeAssert (.iface 102 v) 40 153 true).run Tryd.prog w = .ok (.tuple #[.agg #[.nilIface, .nilIface], .bool false]) w := by kernel_rfl
theorem sa_mention_leftPart (v : Value) (w : World) : (Instr.typeAssert (.iface 102 v) 40 155 true).run Tryd.prog w = .ok (.tuple #[.agg #[.nilIface], .bool false]) w := by kernel_rfl
theorem sa_mention_rightPart (v : Value) (w : World) : (Instr.typeAssert (.iface 102 v) 40 156 true).run Tryd.prog w = .ok (.tuple #[.agg #[.nilIface], .bool false]) w := by kernel_rfl
theorem sa_lambda_mention (v : Value) (w : World) : (Instr.typeAssert (.iface 106 v) 40 102 true).run Tryd.prog w = .ok (.tuple #[.agg #[.int .u8 0, .string ⟨#[]⟩], .bool false]) w := by kernel_rfl
theorem sa_lambda_lambda (v : Value) (w : World) : (Instr.typeAssert (.iface 106 v) 40 106 true).run Tryd.prog w = .ok (.tuple #[v, .bool true]) w := by kernel_rfl
theorem sa_lambda_catch (v : Value) (w : World) : (Instr.typeAssert (.iface 106 v) 40 108 true).run Tryd.prog w = .ok (.tuple #[.agg #[.int .u8 0, .string ⟨#[]⟩, .nilIface], .bool false]) w := by kernel_rfl
theorem sa_lambda_throw (v : Value) (w : World) : (Instr.typeAssert (.iface 106 v) 40 110 true).run Tryd.prog w = .ok (.tuple #[.agg #[.int .u8 0, .string ⟨#[]⟩, .nilIface], .bool false]) w := by kernel_rfl
theorem sa_lambda_application (v : Value) (w : World) : (Instr.typeAssert (.iface 106 v) 40 152 true).run Tryd.prog w = .ok (.tuple #[.agg #[.nilIface, .nilIface], .bool false]) w := by kernel_rfl
theorem sa_lambda_both (v : Value) (w : World) : (Instr.typeAssert (.iface 106 v) 40 153 true).run Tryd.prog w = .ok (.tuple #[.agg #[.nilIface, .nilIface], .bool false]) w := by kernel_rfl
theorem sa_lambda_leftPart (v : Value) (w : World) : (Instr.typeAssert (.iface 106 v) 40 155 true).run Tryd.prog w = .ok (.tuple #[.agg #[.nilIface], .bool false]) w := by kernel_rfl
theorem sa_lambda_rightPart (v : Value) (w : World) : (Instr.typeAssert (.iface 106 v) 40 156 true).run Tryd.prog w = .ok (.tuple #[.agg #[.nilIface], .bool false]) w := by kernel_rfl
theorem sa_catch_mention (v : Value) (w : World) : (Instr.typeAssert (.iface 108 v) 40 102 true).run Tryd.prog w = .ok (.tuple #[.agg #[.int .u8 0, .string ⟨#[]⟩], .bool false]) w := by kernel_rfl
theorem sa_catch_lambda (v : Value) (w : World) : (Instr.typeAssert (.iface 108 v) 40 106 true).run Tryd.prog w = .ok (.tuple #[.agg #[.int .u8 0, .string ⟨#[]⟩, .nilIface], .bool false]) w := by kernel_rfl
theorem sa_catch_catch (v : Value) (w : World) : (Instr.typeAssert (.iface 108 v) 40 108 true).run Tryd.prog w = .ok (.tuple #[v, .bool true]) w := by kernel_rfl
theorem sa_catch_throw (v : Value) (w : World) : (Instr.typeAssert (.iface 108 v) 40 110 true).run Tryd.prog w = .ok (.tuple #[.agg #[.int .u8 0, .string ⟨#[]⟩, .nilIface], .bool false]) w := by kernel_rfl
theorem sa_catch_application (v : Value) (w : World) : (Instr.typeAssert (.iface 108 v) 40 152 true).run Tryd.prog w = .ok (.tuple #[.agg #[.nilIface, .nilIface], .bool false]) w := by kernel_rfl
theorem sa_catch_both (v : Value) (w : World) : (Instr.typeAssert (.iface 108 v) 40 153 true).run Tryd.prog w = .ok (.tuple #[.agg #[.nilIface, .nilIface], .bool false]) w := by kernel_rfl
theorem sa_catch_leftPart (v : Value) (w : World) : (Instr.typeAssert (.iface 108 v) 40 155 true).run Tryd.prog w = .ok (.tuple #[.agg #[.nilIface], .bool false]) w := by kernel_rfl
theorem sa_catch_rightPart (v : Value) (w : World) : (Instr.typeAssert (.iface 108 v) 40 156 true).run Tryd.prog w = .ok (.tuple #[.agg #[.nilIface], .bool false]) w := by kernel_rfl
theorem sa_throw_mention (v : Value) (w : World) : (Instr.typeAssert (.iface 110 v) 40 102 true).run Tryd.prog w = .ok (.tuple #[.agg #[.int .u8 0, .string ⟨#[]⟩], .bool false]) w := by kernel_rfl
theorem sa_throw_lambda (v : Value) (w : World) : (Instr.typeAssert (.iface 110 v) 40 106 true).run Tryd.prog w = .ok (.tuple #[.agg #[.int .u8 0, .string ⟨#[]⟩, .nilIface], .bool false]) w := by kernel_rfl
theorem sa_throw_catch (v : Value) (w : World) : (Instr.typeAssert (.iface 110 v) 40 108 true).run Tryd.prog w = .ok (.tuple #[.agg #[.int .u8 0, .string ⟨#[]⟩, .nilIface], .bool false]) w := by kernel_rfl
theorem sa_throw_throw (v : Value) (w : World) : (Instr.typeAssert (.iface 110 v) 40 110 true).run Tryd.prog w = .ok (.tuple #[v, .bool true]) w := by kernel_rfl
theorem sa_throw_application (v : Value) (w : World) : (Instr.typeAssert (.iface 110 v) 40 152 true).run Tryd.prog w = .ok (.tuple #[.agg #[.nilIface, .nilIface], .bool false]) w := by kernel_rfl
theorem sa_throw_both (v : Value) (w : World) : (Instr.typeAssert (.iface 110 v) 40 153 true).run Tryd.prog w = .ok (.tuple #[.agg #[.nilIface, .nilIface], .bool false]) w := by kernel_rfl
theorem sa_throw_leftPart (v : Value) (w : World) : (Instr.typeAssert (.iface 110 v) 40 155 true).run Tryd.prog w = .ok (.tuple #[.agg #[.nilIface], .bool false]) w := by kernel_rfl
theorem sa_throw_rightPart (v : Value) (w : World) : (Instr.typeAssert (.iface 110 v) 40 156 true).run Tryd.prog w = .ok (.tuple #[.agg #[.nilIface], .bool false]) w := by kernel_rfl
theorem sa_application_mention (v : Value) (w : World) : (Instr.typeAssert (.iface 152 v) 40 102 true).run Tryd.prog w = .ok (.tuple #[.agg #[.int .u8 0, .string ⟨#[]⟩], .bool false]) w := by kernel_rfl
theorem sa_application_lambda (v : Value) (w : World) : (Instr.typeAssert (.iface 152 v) 40 106 true).run Tryd.prog w = .ok (.tuple #[.agg #[.int .u8 0, .string ⟨#[]⟩, .nilIface], .bool false]) w := by kernel_rfl
theorem sa_application_catch (v : Value) (w : World) : (Instr.typeAssert (.iface 152 v) 40 108 true).run Tryd.prog w = .ok (.tuple #[.agg #[.int .u8 0, .string ⟨#[]⟩, .nilIface], .bool false]) w := by kernel_rfl
theorem sa_application_throw (v : Value) (w : World) : (Instr.typeAssert (.iface 152 v) 40 110 true).run Tryd.prog w = .ok (.tuple #[.agg #[.int .u8 0, .string ⟨#[]⟩, .nilIface], .bool false]) w := by kernel_rfl
theorem sa_application_application (v : Value) (w : World) : (Instr.typeAssert (.iface 152 v) 40 152 true).run Tryd.prog w = .ok (.tuple #[v, .bool true]) w := by kernel_rfl
theorem sa_application_both (v : Value) (w : World) : (Instr.typeAssert (.iface 152 v) 40 153 true).run Tryd.prog w = .ok (.tuple #[.agg #[.nilIface, .nilIface], .bool false]) w := by kernel_rfl
theorem sa_application_leftPart (v : Value) (w : World) : (Instr.typeAssert (.iface 152 v) 40 155 true).run Tryd.prog w = .ok (.tuple #[.agg #[.nilIface], .bool false]) w := by kernel_rfl
theorem sa_application_rightPart (v : Value) (w : World) : (Instr.typeAssert (.iface 152 v) 40 156 true).run Tryd.prog w = .ok (.tuple #[.agg #[.nilIface], .bool false]) w := by kernel_rfl
theorem sa_both_mention (v : Value) (w : World) : (Instr.typeAssert (.iface 153 v) 40 102 true).run Tryd.prog w = .ok (.tuple #[.agg #[.int .u8 0, .string ⟨#[]⟩], .bool false]) w := by kernel_rfl
theorem sa_both_lambda (v : Value) (w : World) : (Instr.typeAssert (.iface 153 v) 40 106 true).run Tryd.prog w = .ok (.tuple #[.agg #[.int .u8 0, .string ⟨#[]⟩, .nilIface], .bool false]) w := by kernel_rfl
theorem sa_both_catch (v : Value) (w : World) : (Instr.typeAssert (.iface 153 v) 40 108 true).run Tryd.prog w = .ok (.tuple #[.agg #[.int .u8 0, .string ⟨#[]⟩, .nilIface], .bool false]) w := by kernel_rfl
theorem sa_both_throw (v : Value) (w : World) : (Instr.typeAssert (.iface 153 v) 40 110 true).run Tryd.prog w = .ok (.tuple #[.agg #[.int .u8 0, .string ⟨#[]⟩, .nilIface], .bool false]) w := by kernel_rfl
theorem sa_both_application (v : Value) (w : World) : (Instr.typeAssert (.iface 153 v) 40 152 true).run Tryd.prog w = .ok (.tuple #[.agg #[.nilIface, .nilIface], .bool false]) w := by kernel_rfl
theorem sa_both_both (v : Value) (w : World) : (Instr.typeAssert (.iface 153 v) 40 153 true).run Tryd.prog w = .ok (.tuple #[v, .bool true]) w := by kernel_rfl
theorem sa_both_leftPart (v : Value) (w : World) : (Instr.typeAssert (.iface 153 v) 40 155 true).run Tryd.prog w = .ok (.tuple #[.agg #[.nilIface], .bool false]) w := by kernel_rfl
theorem sa_both_rightPart (v : Value) (w : World) : (Instr.typeAssert (.iface 153 v) 40 156 true).run Tryd.prog w = .ok (.tuple #[.agg #[.nilIface], .bool false]) w := by kernel_rfl
theorem sa_leftPart_mention (v : Value) (w : World) : (Instr.typeAssert (.iface 155 v) 40 102 true).run Tryd.prog w = .ok (.tuple #[.agg #[.int .u8 0, .string ⟨#[]⟩], .bool false]) w := by kernel_rfl
theorem sa_leftPart_lambda (v : Value) (w : World) : (Instr.typeAssert (.iface 155 v) 40 106 true).run Tryd.prog w = .ok (.tuple #[.agg #[.int .u8 0, .string ⟨#[]⟩, .nilIface], .bool false]) w := by kernel_rfl
theorem sa_leftPart_catch (v : Value) (w : World) : (Instr.typeAssert (.iface 155 v) 40 108 true).run Tryd.prog w = .ok (.tuple #[.agg #[.int .u8 0, .string ⟨#[]⟩, .nilIface], .bool false]) w := by kernel_rfl
theorem sa_leftPart_throw (v : Value) (w : World) : (Instr.typeAssert (.iface 155 v) 40 110 true).run Tryd.prog w = .ok (.tuple #[.agg #[.int .u8 0, .string ⟨#[]⟩, .nilIface], .bool false]) w := by kernel_rfl
theorem sa_leftPart_application (v : Value) (w : World) : (Instr.typeAssert (.iface 155 v) 40 152 true).run Tryd.prog w = .ok (.tuple #[.agg #[.nilIface, .nilIface], .bool false]) w := by kernel_rfl
theorem sa_leftPart_both (v : Value) (w : World) : (Instr.typeAssert (.iface 155 v) 40 153 true).run Tryd.prog w = .ok (.tuple #[.agg #[.nilIface, .nilIface], .bool false]) w := by kernel_rfl
theorem sa_leftPart_leftPart (v : Value) (w : World) : (Instr.typeAssert (.iface 155 v) 40 155 true).run Tryd.prog w = .ok (.tuple #[v, .bool true]) w := by kernel_rfl
theorem sa_leftPart_rightPart (v : Value) (w : World) : (Instr.typeAssert (.iface 155 v) 40 156 true).run Tryd.prog w = .ok (.tuple #[.agg #[.nilIface], .bool false]) w := by kernel_rfl
theorem sa_rightPart_mention (v : Value) (w : World) : (Instr.typeAssert (.iface 156 v) 40 102 true).run Tryd.prog w = .ok (.tuple #[.agg #[.int .u8 0, .string ⟨#[]⟩], .bool false]) w := by kernel_rfl
theorem sa_rightPart_lambda (v : Value) (w : World) : (Instr.typeAssert (.iface 156 v) 40 106 true).run Tryd.prog w = .ok (.tuple #[.agg #[.int .u8 0, .string ⟨#[]⟩, .nilIface], .bool false]) w := by kernel_rfl
theorem sa_rightPart_catch (v : Value) (w : World) : (Instr.typeAssert (.iface 156 v) 40 108 true).run Tryd.prog w = .ok (.tuple #[.agg #[.int .u8 0, .string ⟨#[]⟩, .nilIface], .bool false]) w := by kernel_rfl
theorem sa_rightPart_throw (v : Value) (w : World) : (Instr.typeAssert (.iface 156 v) 40 110 true).run Tryd.prog w = .ok (.tuple #[.agg #[.int .u8 0, .string ⟨#[]⟩, .nilIface], .bool false]) w := by kernel_rfl
theorem sa_rightPart_application (v : Value) (w : World) : (Instr.typeAssert (.iface 156 v) 40 152 true).run Tryd.prog w = .ok (.tuple #[.agg #[.nilIface, .nilIface], .bool false]) w := by kernel_rfl
theorem sa_rightPart_both (v : Value) (w : World) : (Instr.typeAssert (.iface 156 v) 40 153 true).run Tryd.prog w = .ok (.tuple #[.agg #[.nilIface, .nilIface], .bool false]) w := by kernel_rfl
theorem sa_rightPart_leftPart (v : Value) (w : World) : (Instr.typeAssert (.iface 156 v) 40 155 true).run Tryd.prog w = .ok (.tuple #[.agg #[.nilIface], .bool false]) w := by kernel_rfl
theorem sa_rightPart_rightPart (v : Value) (w : World) : (Instr.typeAssert (.iface 156 v) 40 156 true).run Tryd.prog w = .ok (.tuple #[v, .bool true]) w := by kernel_rfl

theorem in_mention (x : Value) (w : World) : (method 322 102 x "loop.example/classicalcontrol/impl.inner").run Tryd.prog w = .ok (119, x) w := by kernel_rfl
theorem in_lambda (n d x : Value) (w : World) : (method 322 106 (.agg #[n, d, x]) "loop.example/classicalcontrol/impl.inner").run Tryd.prog w = .ok (122, .agg #[x]) w := by kernel_rfl
theorem in_catch (n d x : Value) (w : World) : (method 322 108 (.agg #[n, d, x]) "loop.example/classicalcontrol/impl.inner").run Tryd.prog w = .ok (122, .agg #[x]) w := by kernel_rfl
theorem in_throw (n d x : Value) (w : World) : (method 322 110 (.agg #[n, d, x]) "loop.example/classicalcontrol/impl.inner").run Tryd.prog w = .ok (122, .agg #[x]) w := by kernel_rfl
theorem in_application (x y : Value) (w : World) : (method 322 152 (.agg #[x, y]) "loop.example/classicalcontrol/impl.inner").run Tryd.prog w = .ok (130, .agg #[x, y]) w := by kernel_rfl
theorem in_both (x y : Value) (w : World) : (method 322 153 (.agg #[x, y]) "loop.example/classicalcontrol/impl.inner").run Tryd.prog w = .ok (130, .agg #[x, y]) w := by kernel_rfl
theorem in_leftPart (x : Value) (w : World) : (method 322 155 (.agg #[x]) "loop.example/classicalcontrol/impl.inner").run Tryd.prog w = .ok (122, .agg #[x]) w := by kernel_rfl
theorem in_rightPart (x : Value) (w : World) : (method 322 156 (.agg #[x]) "loop.example/classicalcontrol/impl.inner").run Tryd.prog w = .ok (122, .agg #[x]) w := by kernel_rfl

set_option maxRecDepth 100000 in
theorem inner_none (c : UInt8) (d : Bs) (w : World) : Calls Tryd.prog 119 #[.agg #[.int .u8 c.toNat, str d]] w fun e w' => e = .returned (.slice none 0 0) ∧ Below w.heap.size w w' := by
  go_enter Tryd.func119, Tryd.ntmps119
  go_wp2_with fail
  go_ret
  exact ⟨rfl, (by repeat (with_reducible first | exact hbel | exact Below.refl _ _ | refine Below.drew ?_ | refine Below.drewN ?_ _ | refine Below.alloc ?_ (by first | (simp; done) | (simp; omega) | omega | (have := Below.size hbel; simp; omega) | (have := Below.size hbel; omega)) _ | refine Below.setCell ?_ (by first | (simp; done) | (simp; omega) | omega) _))⟩
set_option maxRecDepth 100000 in
theorem inner_one (t : TypeId) (x : Value) (w : World) : Calls Tryd.prog 122 #[.agg #[.iface t x]] w fun e w' => ∃ g, e = .returned (.slice (some ⟨g, 0, none⟩) 1 1) ∧ Below w.heap.size w w' ∧ g < w'.heap.size ∧ w'.cell? ⟨g, 0, none⟩ = some (.iface t x) := by
  go_enter Tryd.func122, Tryd.ntmps122
  go_wp2_with fail
  go_ret
  exact ⟨_, rfl, (by repeat (with_reducible first | exact hbel | exact Below.refl _ _ | refine Below.drew ?_ | refine Below.drewN ?_ _ | refine Below.alloc ?_ (by first | (simp; done) | (simp; omega) | omega | (have := Below.size hbel; simp; omega) | (have := Below.size hbel; omega)) _ | refine Below.setCell ?_ (by first | (simp; done) | (simp; omega) | omega) _)), by simp, by simp⟩
set_option maxRecDepth 100000 in
theorem inner_two (t u : TypeId) (x y : Value) (w : World) : Calls Tryd.prog 130 #[.agg #[.iface t x, .iface u y]] w fun e w' => ∃ g, e = .returned (.slice (some ⟨g, 0, none⟩) 2 2) ∧ Below w.heap.size w w' ∧ g < w'.heap.size ∧ w'.cell? ⟨g, 0, none⟩ = some (.iface t x) ∧ w'.cell? ⟨g, 1, none⟩ = some (.iface u y) := by
  go_enter Tryd.func130, Tryd.ntmps130
  go_wp2_with fail
  go_ret
  exact ⟨_, rfl, (by repeat (with_reducible first | exact hbel | exact Below.refl _ _ | refine Below.drew ?_ | refine Below.drewN ?_ _ | refine Below.alloc ?_ (by first | (simp; done) | (simp; omega) | omega | (have := Below.size hbel; simp; omega) | (have := Below.size hbel; omega)) _ | refine Below.setCell ?_ (by first | (simp; done) | (simp; omega) | omega) _)), by simp, by simp, by simp⟩

end Go.Proofs.YtjbfchmlhaidfaaDoor
