/- FormulaPush of the model and of the program, and its law as a call. -/
import Derived.Test.YtbglimlhffbddaaPush
namespace Go.Proofs.Ytbglimlhffbddaa
set_option linter.unusedVariables false
open Go.RowKit

def pushO : Option F → Option F
  | none => none
  | some f => if (f.push false).size ≤ 60 then some (f.push false) else none
def textS : Option F → ByteArray
  | none => ⟨#[]⟩
  | some f => ⟨f.text.toArray⟩

theorem atoms_calls' {w : World} {D : Nat → Prop} {f : F} {a : ByteArray} {p : Option Addr} {n c : Nat} (hf : f.size ≤ 1000) (ht : TC w D f.tree a p n c) (hD : ∀ g, D g → g < w.heap.size) :
    Calls Try.prog 33 #[.agg #[.string a, .slice p n c]] w fun e w' => e = .returned (.int .i64 f.size) ∧ Below w.heap.size w w' := by
  have h := atoms_all 9000 (by omega) f.tree w D a p n c (by have := f.sz_tree; omega) ht hD
  rw [F.atoms_tree] at h
  exact h

end Go.Proofs.Ytbglimlhffbddaa
