/- Digits alone: impl.allDigits. -/
import Derived.Test.YtjbfchmlhaidfaaDoorBytes
import Derived.Lib.Hide
import Derived.BigQuiet
import Derived.Deep.QuietTactic
namespace Go.Proofs.YtjbfchmlhaidfaaDoor
set_option linter.unusedVariables false
open Go.RowKit

def allDig (s : ByteArray) : Bool := s.data.toList.all digB

theorem dig_not (c : UInt8) (h : digB c = false) : (c.toNat : Int) < 48 ∨ 57 < (c.toNat : Int) := by
  unfold digB at h
  rcases Nat.lt_or_ge c.toNat 48 with h1 | h1
  · exact .inl (by omega)
  · rcases Nat.lt_or_ge 57 c.toNat with h2 | h2
    · exact .inr (by omega)
    · simp [h1, h2] at h
theorem dig_yes (c : UInt8) (h : digB c = true) : 48 ≤ (c.toNat : Int) ∧ (c.toNat : Int) ≤ 57 := by
  unfold digB at h
  simp at h
  omega
theorem low_not (c : UInt8) (h : lowB c = false) : (c.toNat : Int) < 97 ∨ 122 < (c.toNat : Int) := by
  unfold lowB at h
  rcases Nat.lt_or_ge c.toNat 97 with h1 | h1
  · exact .inl (by omega)
  · rcases Nat.lt_or_ge 122 c.toNat with h2 | h2
    · exact .inr (by omega)
    · simp [h1, h2] at h
theorem low_yes (c : UInt8) (h : lowB c = true) : 97 ≤ (c.toNat : Int) ∧ (c.toNat : Int) ≤ 122 := by
  unfold lowB at h
  simp at h
  omega

end Go.Proofs.YtjbfchmlhaidfaaDoor
