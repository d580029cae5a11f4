/- What is read as a formula is one. -/
import Derived.Test.YtbglimlhffbddaaMathF
namespace Go.Proofs.Ytbglimlhffbddaa
set_option linter.unusedVariables false
open Go.RowKit

theorem readF_size {s : Bs} {f : F} (h : readF s = some f) : f.size ≤ 60 := by
  unfold readF at h
  split at h
  · cases h
  · split at h
    · cases h
    · split at h
      · rename_i h60
        injection h with h; subst h; exact h60
      · cases h

theorem readF_ok {s : Bs} {f : F} (h : readF s = some f) : f.ok = true := by
  unfold readF at h
  split at h
  · cases h
  · split at h
    · cases h
    · rename_i g hg
      split at h
      · injection h with h; subst h; exact (toF_tree hg).2
      · cases h

end Go.Proofs.Ytbglimlhffbddaa
