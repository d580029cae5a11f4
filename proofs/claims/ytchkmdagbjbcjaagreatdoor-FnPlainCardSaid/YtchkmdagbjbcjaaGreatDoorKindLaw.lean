/- ProgramKind and ProgramSize of the model and of the program, and their laws as calls. -/
import Derived.Test.YtchkmdagbjbcjaaGreatDoorSpecL
namespace Go.Proofs.YtchkmdagbjbcjaaGreatDoor
set_option linter.unusedVariables false
open Go.RowKit

/-- What ProgramKind answers. -/
def kindText : Option P → Bs
  | none => []
  | some p => p.kind.name
def sizePO : Option P → Int
  | none => -1
  | some p => p.size

theorem implKind_any (s : ByteArray) (w : World) : Calls Tryz.prog 10 #[.string s] w fun e w' => e = .returned (.string ⟨(kindText (readP s.data.toList)).toArray⟩) ∧ Below w.heap.size w w' := by
  generalize hz : kindText (readP s.data.toList) = z
  have hz' := Lib.hid hz
  clear hz
  go_enter Tryz.func10, Tryz.ntmps10
  go_wp2_with fail
  refine Calls.mono (readProgram_any s _) ?_
  intro e w1 hm
  cases hrd : readP s.data.toList with
  | none =>
    rw [hrd] at hm
    obtain ⟨hb1, rfl⟩ := hm
    obtain rfl : kindText none = z := by have h := hz'.out; rw [hrd] at h; exact h
    clear hrd hz'
    go_wp2_with fail
    go_ret
    exact ⟨rfl, hb1⟩
  | some p =>
    have hok := (readP_ok hrd).1
    rw [hrd] at hm
    obtain ⟨hb1, y, rfl, hy⟩ := hm
    obtain rfl : kindText (some p) = z := by have h := hz'.out; rw [hrd] at h; exact h
    have mq := fun w => kind_m hy w
    have cq := fun x w => kind_c p x w
    have hy' := Lib.hid hy
    clear hrd hy hz'
    go_wp2_with (refine Calls.mono (kind_any hok _ _ _ hy'.out) ?_; rintro e w2 ⟨rfl, hb2⟩)
    go_ret
    exact ⟨rfl, below_step hb1 (Nat.le_refl _) hb2⟩

end Go.Proofs.YtchkmdagbjbcjaaGreatDoor
