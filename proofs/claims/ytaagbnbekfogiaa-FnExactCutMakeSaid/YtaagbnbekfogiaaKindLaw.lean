/- ProgramKind and ProgramSize of the model and of the program, and their laws as calls. -/
import Derived.Test.YtaagbnbekfogiaaSpecL
namespace Go.Proofs.Ytaagbnbekfogiaa
set_option linter.unusedVariables false
open Go.RowKit

/-- What ProgramKind answers. -/
def kindText : Option P → Bs
  | none => []
  | some p => p.kind.name
def sizePO : Option P → Int
  | none => -1
  | some p => p.size

theorem specKind_any (s : ByteArray) (w : World) : Calls Try.prog 13 #[.string s] w fun e w' => e = .returned (.string ⟨(kindText (readP s.data.toList)).toArray⟩) ∧ Below w.heap.size w w' := by
  generalize hz : kindText (readP s.data.toList) = z
  have hz' := Lib.hid hz
  clear hz
  go_enter Try.func13, Try.ntmps13
  go_wp2_with fail
  refine Calls.mono (l2Read_any s _) ?_
  rintro e w1 ⟨hb1, hp⟩
  rcases hp with ⟨p, a, A, n, c, hrd, rfl, htc⟩ | ⟨a, A, n, c, hrd, rfl⟩
  · obtain rfl : kindText (some p) = z := by have h := hz'.out; rw [hrd] at h; exact h
    clear hrd htc hz'
    cases hk : p.kind
    · have hkt := Lib.hid (show kindText (some p) = [116, 101, 114, 109] from by rw [kindText, hk]; rfl)
      clear hk
      rw [show K.t.let = [116] from rfl]
      go_wp2_with fail
      go_ret
      rw [hkt.out]
      have hbel := hb1
      exact ⟨rfl, (by repeat (with_reducible first | exact hbel | exact Below.refl _ _ | refine Below.drew ?_ | refine Below.drewN ?_ _ | refine Below.alloc ?_ (by first | (simp; done) | (simp; omega) | omega | (have := Below.size hbel; simp; omega) | (have := Below.size hbel; omega)) _ | refine Below.setCell ?_ (by first | (simp; done) | (simp; omega) | omega) _))⟩
    · have hkt := Lib.hid (show kindText (some p) = [99, 111, 116, 101, 114, 109] from by rw [kindText, hk]; rfl)
      clear hk
      rw [show K.c.let = [99] from rfl]
      go_wp2_with fail
      go_ret
      rw [hkt.out]
      have hbel := hb1
      exact ⟨rfl, (by repeat (with_reducible first | exact hbel | exact Below.refl _ _ | refine Below.drew ?_ | refine Below.drewN ?_ _ | refine Below.alloc ?_ (by first | (simp; done) | (simp; omega) | omega | (have := Below.size hbel; simp; omega) | (have := Below.size hbel; omega)) _ | refine Below.setCell ?_ (by first | (simp; done) | (simp; omega) | omega) _))⟩
    · have hkt := Lib.hid (show kindText (some p) = [115, 116, 97, 116, 101, 109, 101, 110, 116] from by rw [kindText, hk]; rfl)
      clear hk
      rw [show K.s.let = [115] from rfl]
      go_wp2_with fail
      go_ret
      rw [hkt.out]
      have hbel := hb1
      exact ⟨rfl, (by repeat (with_reducible first | exact hbel | exact Below.refl _ _ | refine Below.drew ?_ | refine Below.drewN ?_ _ | refine Below.alloc ?_ (by first | (simp; done) | (simp; omega) | omega | (have := Below.size hbel; simp; omega) | (have := Below.size hbel; omega)) _ | refine Below.setCell ?_ (by first | (simp; done) | (simp; omega) | omega) _))⟩
  · obtain rfl : kindText none = z := by have h := hz'.out; rw [hrd] at h; exact h
    clear hrd hz'
    go_wp2_with fail
    go_ret
    have hbel := hb1
    exact ⟨rfl, (by repeat (with_reducible first | exact hbel | exact Below.refl _ _ | refine Below.drew ?_ | refine Below.drewN ?_ _ | refine Below.alloc ?_ (by first | (simp; done) | (simp; omega) | omega | (have := Below.size hbel; simp; omega) | (have := Below.size hbel; omega)) _ | refine Below.setCell ?_ (by first | (simp; done) | (simp; omega) | omega) _))⟩

end Go.Proofs.Ytaagbnbekfogiaa
