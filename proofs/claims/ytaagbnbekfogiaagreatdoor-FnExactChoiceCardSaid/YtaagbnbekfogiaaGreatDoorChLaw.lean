/- The law of Choice, as a call. -/
import Derived.Test.YtaagbnbekfogiaaGreatDoorNine8
import Derived.Test.YtaagbnbekfogiaaGreatDoorChI
namespace Go.Proofs.YtaagbnbekfogiaaGreatDoor
set_option linter.unusedVariables false
open Go.RowKit

theorem lawChoice (s : ByteArray) (_ : s.size ≤ maxLen) (t : ByteArray) (_ : t.size ≤ maxLen) (w : World) (hito : ITO 1000000 w.heap.size w) : Calls Tryz.prog 3 #[.string s, .string t] w fun e w' => e = .returned (.bool true) ∧ Below w.heap.size w w' := by
  have h1 := fun W => specChoice s t W
  have h2 := fun W (hW : Below w.heap.size w W) => implChoice_any (N := 1000000) (by omega) (by omega) s t W (hito.up hW)
  unfold WPost at h1 h2
  generalize wrT (chO (readS s.data.toList) (readS t.data.toList)) = x at h1 h2
  generalize wrB (chO (readS s.data.toList) (readS t.data.toList)) = b at h1 h2
  have h1' := Lib.hid h1
  have h2' := Lib.hid h2
  clear h1 h2 hito
  by_cases hlen : 1048576 < s.size
  · go_enter Tryz.func3, Tryz.ntmps3
    go_wp2_with fail
    go_ret
    exact ⟨rfl, (by repeat (with_reducible first | exact hbel | exact Below.refl _ _ | refine Below.drew ?_ | refine Below.drewN ?_ _ | refine Below.alloc ?_ (by first | (simp; done) | (simp; omega) | omega | (have := Below.size hbel; simp; omega) | (have := Below.size hbel; omega)) _ | refine Below.setCell ?_ (by first | (simp; done) | (simp; omega) | omega) _))⟩
  · by_cases hlen2 : 1048576 < t.size
    · go_enter Tryz.func3, Tryz.ntmps3
      go_wp2_with fail
      go_ret
      exact ⟨rfl, (by repeat (with_reducible first | exact hbel | exact Below.refl _ _ | refine Below.drew ?_ | refine Below.drewN ?_ _ | refine Below.alloc ?_ (by first | (simp; done) | (simp; omega) | omega | (have := Below.size hbel; simp; omega) | (have := Below.size hbel; omega)) _ | refine Below.setCell ?_ (by first | (simp; done) | (simp; omega) | omega) _))⟩
    · go_enter Tryz.func3, Tryz.ntmps3
      go_wp2_with fail
      refine Calls.mono (h1'.out _) ?_
      rintro e w1 ⟨rfl, hb1⟩
      have hb1' := Lib.hid hb1
      clear hb1
      go_wp2_with fail
      refine Calls.mono (h2'.out _ hb1'.out) ?_
      rintro e w2 ⟨rfl, hb2⟩
      go_wp2_with fail
      go_ret
      exact ⟨rfl, below_step hb1'.out (Nat.le_refl _) hb2⟩

end Go.Proofs.YtaagbnbekfogiaaGreatDoor
