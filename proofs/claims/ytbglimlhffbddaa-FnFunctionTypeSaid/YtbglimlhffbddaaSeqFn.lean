/- impl.SequentHolds. -/
import Derived.Test.YtbglimlhffbddaaSeqHolds
namespace Go.Proofs.Ytbglimlhffbddaa
set_option linter.unusedVariables false
open Go.RowKit

def sqO (L : List ByteArray) : Option (List F × List F) → Bool
  | none => false
  | some q => seqHolds L q.1 q.2

theorem readSq_ok {ss ts : List ByteArray} {fs gs : List F} (h : readSq ss ts = some (fs, gs)) : fs.length + gs.length ≤ 12 ∧ readFs ss = some fs ∧ readFs ts = some gs := by
  unfold readSq at h
  split at h
  · cases h1 : readFs ss with
    | none => rw [h1] at h; cases h2 : readFs ts <;> rw [h2] at h <;> cases h
    | some a => cases h2 : readFs ts with
      | none => rw [h1, h2] at h; cases h
      | some b =>
        rw [h1, h2] at h
        cases h
        exact ⟨by rw [readFs_length h1, readFs_length h2]; omega, rfl, rfl⟩
  · cases h

end Go.Proofs.Ytbglimlhffbddaa
