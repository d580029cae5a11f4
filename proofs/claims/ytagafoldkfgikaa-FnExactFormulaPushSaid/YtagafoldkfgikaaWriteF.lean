/- impl.writeFormula. -/
import Derived.Test.YtagafoldkfgikaaPushSpec
namespace Go.Proofs.Ytagafoldkfgikaa
set_option linter.unusedVariables false
open Go.RowKit

def textS : Option F → ByteArray
  | none => ⟨#[]⟩
  | some f => ⟨f.text.toArray⟩

/-- What is written: a formula that is not too great. -/
def writeO (g : F) : Option F := if g.size ≤ 60 then some g else none

theorem writeF_any (g : F) (hok : g.ok = true) (hs : g.size ≤ 700) (w : World) : Calls Try.prog 23 #[.iface (ft g) (fi g)] w fun e w' => e = .returned (.tuple #[.string (textS (writeO g)), .bool (writeO g).isSome]) ∧ Below w.heap.size w w' := by
  have hm := fun w => size_method g w
  have hc := fun x w => size_call g x w
  have hm2 := fun w => text_method g w
  have hc2 := fun x w => text_call g x w
  have htx := Lib.hid (text_of g hok (by omega))
  have hsz := Lib.hid (size_any g (by omega))
  by_cases h : g.size ≤ 60
  · rw [show writeO g = some g from if_pos h, show (some g).isSome = true from rfl, show textS (some g) = ⟨g.text.toArray⟩ from rfl]
    go_enter Try.func23, Try.ntmps23
    go_wp2_with fail
    refine Calls.mono (hsz.out _) ?_
    rintro e w3 ⟨rfl, hb3⟩
    go_wp2_with fail
    refine Calls.mono (htx.out _) ?_
    rintro e w4 ⟨rfl, hb4⟩
    go_wp2_with fail
    go_ret2
    exact ⟨rfl, below_step hb3 (Nat.le_refl _) hb4⟩
  · rw [show writeO g = none from if_neg h, show (none : Option F).isSome = false from rfl, show textS none = ⟨#[]⟩ from rfl]
    go_enter Try.func23, Try.ntmps23
    go_wp2_with fail
    refine Calls.mono (hsz.out _) ?_
    rintro e w3 ⟨rfl, hb3⟩
    go_wp2_with fail
    go_ret2
    exact ⟨rfl, hb3⟩

end Go.Proofs.Ytagafoldkfgikaa
