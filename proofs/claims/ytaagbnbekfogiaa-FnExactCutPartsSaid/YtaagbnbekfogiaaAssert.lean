/- Type assertions on programs. -/
import Derived.Test.YtaagbnbekfogiaaPiV
namespace Go.Proofs.Ytaagbnbekfogiaa
set_option linter.unusedVariables false
open Go.RowKit

theorem ta_variable_variable (v : Value) (w : World) : (Instr.typeAssert (.iface 73 v) 35 73 true).run Try.prog w = .ok (.tuple #[v, .bool true]) w := by kernel_rfl
theorem ta_variable_covariable (v : Value) (w : World) : (Instr.typeAssert (.iface 73 v) 35 74 true).run Try.prog w = .ok (.tuple #[.agg #[.int .u8 0, .string ⟨#[]⟩], .bool false]) w := by kernel_rfl
theorem ta_variable_form (v : Value) (w : World) : (Instr.typeAssert (.iface 73 v) 35 40 true).run Try.prog w = .ok (.tuple #[.agg #[.string ⟨#[]⟩, .slice none 0 0], .bool false]) w := by kernel_rfl
theorem ta_variable_binder (v : Value) (w : World) : (Instr.typeAssert (.iface 73 v) 35 76 true).run Try.prog w = .ok (.tuple #[.agg #[.int .u8 0, .string ⟨#[]⟩, .nilIface], .bool false]) w := by kernel_rfl
theorem ta_covariable_variable (v : Value) (w : World) : (Instr.typeAssert (.iface 74 v) 35 73 true).run Try.prog w = .ok (.tuple #[.agg #[.int .u8 0, .string ⟨#[]⟩], .bool false]) w := by kernel_rfl
theorem ta_covariable_covariable (v : Value) (w : World) : (Instr.typeAssert (.iface 74 v) 35 74 true).run Try.prog w = .ok (.tuple #[v, .bool true]) w := by kernel_rfl
theorem ta_covariable_form (v : Value) (w : World) : (Instr.typeAssert (.iface 74 v) 35 40 true).run Try.prog w = .ok (.tuple #[.agg #[.string ⟨#[]⟩, .slice none 0 0], .bool false]) w := by kernel_rfl
theorem ta_covariable_binder (v : Value) (w : World) : (Instr.typeAssert (.iface 74 v) 35 76 true).run Try.prog w = .ok (.tuple #[.agg #[.int .u8 0, .string ⟨#[]⟩, .nilIface], .bool false]) w := by kernel_rfl
theorem ta_form_variable (v : Value) (w : World) : (Instr.typeAssert (.iface 40 v) 35 73 true).run Try.prog w = .ok (.tuple #[.agg #[.int .u8 0, .string ⟨#[]⟩], .bool false]) w := by kernel_rfl
theorem ta_form_covariable (v : Value) (w : World) : (Instr.typeAssert (.iface 40 v) 35 74 true).run Try.prog w = .ok (.tuple #[.agg #[.int .u8 0, .string ⟨#[]⟩], .bool false]) w := by kernel_rfl
theorem ta_form_form (v : Value) (w : World) : (Instr.typeAssert (.iface 40 v) 35 40 true).run Try.prog w = .ok (.tuple #[v, .bool true]) w := by kernel_rfl
theorem ta_form_binder (v : Value) (w : World) : (Instr.typeAssert (.iface 40 v) 35 76 true).run Try.prog w = .ok (.tuple #[.agg #[.int .u8 0, .string ⟨#[]⟩, .nilIface], .bool false]) w := by kernel_rfl
theorem ta_binder_variable (v : Value) (w : World) : (Instr.typeAssert (.iface 76 v) 35 73 true).run Try.prog w = .ok (.tuple #[.agg #[.int .u8 0, .string ⟨#[]⟩], .bool false]) w := by kernel_rfl
theorem ta_binder_covariable (v : Value) (w : World) : (Instr.typeAssert (.iface 76 v) 35 74 true).run Try.prog w = .ok (.tuple #[.agg #[.int .u8 0, .string ⟨#[]⟩], .bool false]) w := by kernel_rfl
theorem ta_binder_form (v : Value) (w : World) : (Instr.typeAssert (.iface 76 v) 35 40 true).run Try.prog w = .ok (.tuple #[.agg #[.string ⟨#[]⟩, .slice none 0 0], .bool false]) w := by kernel_rfl
theorem ta_binder_binder (v : Value) (w : World) : (Instr.typeAssert (.iface 76 v) 35 76 true).run Try.prog w = .ok (.tuple #[v, .bool true]) w := by kernel_rfl

end Go.Proofs.Ytaagbnbekfogiaa
