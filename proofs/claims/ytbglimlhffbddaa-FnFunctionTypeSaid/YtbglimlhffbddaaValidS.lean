/- spec.FormulaValid. -/
import Derived.Test.YtbglimlhffbddaaFormula
namespace Go.Proofs.Ytbglimlhffbddaa
set_option linter.unusedVariables false
open Go.RowKit

theorem specValid_any (s : ByteArray) (w : World) : Calls Try.prog 13 #[.string s] w fun e w' => e = .returned (.bool (readF s.data.toList).isSome) ∧ Below w.heap.size w w' := by
  generalize hb : (readF s.data.toList).isSome = b
  have hb' := Lib.hid hb
  clear hb
  go_enter Try.func13, Try.ntmps13
  go_wp2_with fail
  refine (l1Formula_any s _).mono ?_
  rintro e w1 ⟨hb1, hp⟩
  have hb1' := Lib.hid hb1
  rcases hp with ⟨f, a, p, l, c, hrd, rfl, htc⟩ | ⟨a, p, l, c, hrd, rfl⟩
  · have hbt : Hid (b = true) := by have h := hb'.out; rw [hrd] at h; exact h.symm
    clear hrd htc hb1
    go_wp2_with fail
    go_ret
    have hbel := hb1'.out
    exact ⟨ret_bool hbt.out.symm, (by repeat (with_reducible first | exact hbel | exact Below.refl _ _ | refine Below.drew ?_ | refine Below.drewN ?_ _ | refine Below.alloc ?_ (by first | (simp; done) | (simp; omega) | omega | (have := Below.size hbel; simp; omega) | (have := Below.size hbel; omega)) _ | refine Below.setCell ?_ (by first | (simp; done) | (simp; omega) | omega) _))⟩
  · have hbt : Hid (b = false) := by have h := hb'.out; rw [hrd] at h; exact h.symm
    clear hrd hb1
    go_wp2_with fail
    go_ret
    have hbel := hb1'.out
    exact ⟨ret_bool hbt.out.symm, (by repeat (with_reducible first | exact hbel | exact Below.refl _ _ | refine Below.drew ?_ | refine Below.drewN ?_ _ | refine Below.alloc ?_ (by first | (simp; done) | (simp; omega) | omega | (have := Below.size hbel; simp; omega) | (have := Below.size hbel; omega)) _ | refine Below.setCell ?_ (by first | (simp; done) | (simp; omega) | omega) _))⟩

end Go.Proofs.Ytbglimlhffbddaa
