/- FormulaSize of the model and of the program, and its law as a call. -/
import Derived.Test.YtagafoldkfgikaaReadF
import Derived.Test.YtagafoldkfgikaaFormula
namespace Go.Proofs.Ytagafoldkfgikaa
set_option linter.unusedVariables false
open Go.RowKit

def sizeO : Option F → Int
  | none => -1
  | some f => f.size

/-- Where a tree of a formula has its number of atoms. -/
theorem atoms_calls {w : World} {D : Nat → Prop} {f : F} {a : ByteArray} {p : Option Addr} {n c : Nat} (hf : f.size ≤ 60) (ht : TC w D f.tree a p n c) (hD : ∀ g, D g → g < w.heap.size) :
    Calls Try.prog 19 #[.agg #[.string a, .slice p n c]] w fun e w' => e = .returned (.int .i64 f.size) ∧ Below w.heap.size w w' := by
  have h := atoms_all 9000 (by omega) f.tree w D a p n c (by have := f.sz_tree; omega) ht hD
  rw [F.atoms_tree] at h
  exact h

end Go.Proofs.Ytagafoldkfgikaa
