/- The letters of formulas in the model: l1Letters. FormulaLetters of the model and of the program, and its law as a call. -/
import Derived.Test.YtbglimlhffbddaaLetters
import Derived.Test.YtbglimlhffbddaaStrs
import Derived.Test.YtbglimlhffbddaaHas
import Derived.Test.YtbglimlhffbddaaSizeLaw
namespace Go.Proofs.Ytbglimlhffbddaa
set_option linter.unusedVariables false
open Go.RowKit

def addAll (acc : List ByteArray) (fs : List F) : List ByteArray := fs.foldl addL acc
def sizes : List F → Nat
  | [] => 0
  | f :: fs => f.size + sizes fs
theorem addAll_take {acc : List ByteArray} {fs : List F} {k : Nat} {f : F} (h : fs[k]? = some f) : addAll acc (fs.take (k + 1)) = addL (addAll acc (fs.take k)) f := by
  rw [List.take_add_one, h]; unfold addAll; rw [List.foldl_append]; rfl
theorem sizes_append (fs gs : List F) : sizes (fs ++ gs) = sizes fs + sizes gs := by
  induction fs with
  | nil => simp [sizes]
  | cons f fs ih => simp [sizes, ih]; omega
theorem addAll_length (fs : List F) : ∀ acc, (addAll acc fs).length ≤ acc.length + sizes fs := by
  induction fs with
  | nil => intro acc; simp [addAll, sizes]
  | cons f fs ih => intro acc; have := ih (addL acc f); have := addL_length f acc; simp only [addAll, List.foldl_cons, sizes] at *; omega
theorem sizes_take {fs : List F} {k : Nat} {f : F} (h : fs[k]? = some f) : sizes (fs.take k) + f.size ≤ sizes fs := by
  have e : fs.take (k + 1) ++ fs.drop (k + 1) = fs := List.take_append_drop _ _
  rw [List.take_add_one, h] at e
  have := congrArg sizes e
  rw [sizes_append, sizes_append] at this
  simp [sizes] at this
  omega

end Go.Proofs.Ytbglimlhffbddaa

namespace Go.Proofs.Ytbglimlhffbddaa
open Go.RowKit

def lettersO : Option F → List ByteArray
  | none => []
  | some f => addL [] f

end Go.Proofs.Ytbglimlhffbddaa
