/- Digits alone: impl.allDigits. -/
import Derived.Test.YtaagbnbekfogiaaGreatDoorBytes
import Derived.Lib.Hide
import Derived.BigQuiet
import Derived.Deep.QuietTactic
namespace Go.Proofs.YtaagbnbekfogiaaGreatDoor
set_option linter.unusedVariables false
open Go.RowKit

def allDig (s : ByteArray) : Bool := s.data.toList.all digB

theorem allDigits_any (s : ByteArray) (w : World) (hs : s.size ≤ 9000) :
    Calls Tryz.prog 108 #[.string s] w fun e w' => e = .returned (.bool (allDig s)) ∧ w = w' := by
  go_enter Tryz.func108, Tryz.ntmps108
  go_wp2_with fail
  go_loop [6] (fun c => ∃ k : Nat, k ≤ s.size ∧ allTo digB s 0 k ∧ c = .int .i64 k) (fun c => s.size - (intOf c).toNat)
  case atStart => exact ⟨0, Nat.zero_le _, allTo_zero, rfl⟩
  case round =>
    obtain ⟨k, hk, hall, rfl⟩ := hrel
    have hall' := Lib.hid hall
    clear hall
    by_cases hlt : k < s.size
    · cases hb : digB s[k]
      · go_wp2_with (go_at_call 131; refine (dig_any _ _).mono ?_; rintro e w' ⟨rfl, rfl⟩)
        go_ret
        exact ⟨ret_bool ((all_false (Nat.zero_le k) hlt hb).symm), rfl⟩
      · go_wp2_with (go_at_call 131; refine (dig_any _ _).mono ?_; rintro e w' ⟨rfl, rfl⟩)
        go_round
        case rel => exact ⟨k + 1, by omega, allTo_step hall'.out hlt hb, by go_num⟩
        case measure => simp [intOf]; omega
    · go_wp2_with fail
      go_ret
      exact ⟨ret_bool ((allTo_all hall'.out (by omega)).symm), rfl⟩

theorem dig_not (c : UInt8) (h : digB c = false) : (c.toNat : Int) < 48 ∨ 57 < (c.toNat : Int) := by
  unfold digB at h
  rcases Nat.lt_or_ge c.toNat 48 with h1 | h1
  · exact .inl (by omega)
  · rcases Nat.lt_or_ge 57 c.toNat with h2 | h2
    · exact .inr (by omega)
    · simp [h1, h2] at h
theorem dig_yes (c : UInt8) (h : digB c = true) : 48 ≤ (c.toNat : Int) ∧ (c.toNat : Int) ≤ 57 := by
  unfold digB at h
  simp at h
  omega
theorem low_not (c : UInt8) (h : lowB c = false) : (c.toNat : Int) < 97 ∨ 122 < (c.toNat : Int) := by
  unfold lowB at h
  rcases Nat.lt_or_ge c.toNat 97 with h1 | h1
  · exact .inl (by omega)
  · rcases Nat.lt_or_ge 122 c.toNat with h2 | h2
    · exact .inr (by omega)
    · simp [h1, h2] at h
theorem low_yes (c : UInt8) (h : lowB c = true) : 97 ≤ (c.toNat : Int) ∧ (c.toNat : Int) ≤ 122 := by
  unfold lowB at h
  simp at h
  omega

end Go.Proofs.YtaagbnbekfogiaaGreatDoor
