/- impl.SequentValid, impl.SequentFails. -/
import Derived.Test.YtbglimlhffbddaaFirst
namespace Go.Proofs.Ytbglimlhffbddaa
set_option linter.unusedVariables false
open Go.RowKit

def validO : Option (List F × List F) → Bool
  | none => false
  | some q => decide ((seqL q.1 q.2).length ≤ 10) && !(ff (seqL q.1 q.2) q.1 q.2).isSome
def failB : Option (List F × List F) → Bool
  | none => false
  | some q => decide ((seqL q.1 q.2).length ≤ 10) && (ff (seqL q.1 q.2) q.1 q.2).isSome
def failL : Option (List F × List F) → List ByteArray
  | none => []
  | some q => if (seqL q.1 q.2).length ≤ 10 then ffL (seqL q.1 q.2) q.1 q.2 else []

theorem isIn_mem {s t : ByteArray} {l : List ByteArray} (h : t ∈ l) : t = s ∨ t ∈ l := .inr h
theorem addL_let : ∀ (f : F) (acc : List ByteArray), f.ok = true → (∀ s ∈ acc, s.size ≤ maxLen) → ∀ s ∈ addL acc f, s.size ≤ maxLen
  | .lt t, acc, h, ha => by
    intro s hs
    rw [addL] at hs
    split at hs
    · exact ha s hs
    · rcases List.mem_append.1 hs with hs | hs
      · exact ha s hs
      · simp at hs
        subst hs
        have := let_size h
        unfold maxLen
        simp [ByteArray.size]
        omega
  | .an a b, acc, h, ha => by
    rw [F.ok, Bool.and_eq_true] at h
    rw [addL]
    exact addL_let b _ h.2 (addL_let a _ h.1 ha)
  | .or a b, acc, h, ha => by
    rw [F.ok, Bool.and_eq_true] at h
    rw [addL]
    exact addL_let b _ h.2 (addL_let a _ h.1 ha)
  | .no a, acc, h, ha => by
    rw [F.ok] at h
    rw [addL]
    exact addL_let a _ h ha
theorem addAll_let : ∀ (fs : List F) (acc : List ByteArray), (∀ f ∈ fs, f.ok = true) → (∀ s ∈ acc, s.size ≤ maxLen) → ∀ s ∈ addAll acc fs, s.size ≤ maxLen
  | [], acc, _, ha => ha
  | f :: fs, acc, h, ha => addAll_let fs (addL acc f) (fun g hg => h g (by simp [hg])) (addL_let f acc (h f (by simp)) ha)
theorem seqL_let {fs gs : List F} (h : ∀ f ∈ fs, f.ok = true) (h' : ∀ g ∈ gs, g.ok = true) : ∀ s ∈ seqL fs gs, s.size ≤ maxLen :=
  addAll_let gs _ h' (addAll_let fs [] h (by simp))

end Go.Proofs.Ytbglimlhffbddaa
