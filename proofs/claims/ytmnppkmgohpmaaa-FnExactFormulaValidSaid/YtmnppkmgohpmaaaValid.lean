/- FormulaValid and FormulaSize of the model and of the program, and their two laws as calls. -/
import Derived.Test.YtmnppkmgohpmaaaFormula
namespace Go.Proofs.Ytmnppkmgohpmaaa
open Go.RowKit

theorem specValid_any (s : ByteArray) (w : World) : Calls Try.prog 12 #[.string s] w fun e w' => e = .returned (.bool (readF s.data.toList).isSome) ∧ Below w.heap.size w w' := by
  generalize hb : (readF s.data.toList).isSome = b
  have hb' := Lib.hid hb
  clear hb
  go_enter Try.func12, Try.ntmps12
  go_wp2_with fail
  refine (l1Formula_any s _).mono ?_
  rintro e w1 ⟨hb1, hp⟩
  have hb1' := Lib.hid hb1
  rcases hp with ⟨f, a, p, l, c, hrd, rfl, htc⟩ | ⟨a, p, l, c, hrd, rfl⟩
  · have hbt : Hid (b = true) := by have h := hb'.out; rw [hrd] at h; exact h.symm
    clear hrd htc hb1
    go_wp2_with fail
    go_ret
    have hbel := hb1'.out
    exact ⟨ret_bool hbt.out.symm, (by repeat (with_reducible first | exact hbel | exact Below.refl _ _ | refine Below.drew ?_ | refine Below.drewN ?_ _ | refine Below.alloc ?_ (by first | (simp; done) | (simp; omega) | omega | (have := Below.size hbel; simp; omega) | (have := Below.size hbel; omega)) _ | refine Below.setCell ?_ (by first | (simp; done) | (simp; omega) | omega) _))⟩
  · have hbt : Hid (b = false) := by have h := hb'.out; rw [hrd] at h; exact h.symm
    clear hrd hb1
    go_wp2_with fail
    go_ret
    have hbel := hb1'.out
    exact ⟨ret_bool hbt.out.symm, (by repeat (with_reducible first | exact hbel | exact Below.refl _ _ | refine Below.drew ?_ | refine Below.drewN ?_ _ | refine Below.alloc ?_ (by first | (simp; done) | (simp; omega) | omega | (have := Below.size hbel; simp; omega) | (have := Below.size hbel; omega)) _ | refine Below.setCell ?_ (by first | (simp; done) | (simp; omega) | omega) _))⟩

theorem implValid_any (s : ByteArray) (w : World) : Calls Try.prog 13 #[.string s] w fun e w' => e = .returned (.bool (readF s.data.toList).isSome) ∧ Below w.heap.size w w' := by
  generalize hb : (readF s.data.toList).isSome = b
  have hb' := Lib.hid hb
  clear hb
  go_enter Try.func13, Try.ntmps13
  go_wp2_with fail
  refine (readFormula_any s _).mono ?_
  rintro e w1 ⟨hb1, rfl⟩
  have hb1' := Lib.hid hb1
  clear hb1
  rw [hb'.out]
  generalize fvO (readF s.data.toList) = v
  go_wp2_with fail
  go_ret
  exact ⟨rfl, hb1'.out⟩

theorem lawValid (s : ByteArray) (_ : s.size ≤ maxLen) (w : World) : Calls Try.prog 3 #[.string s] w fun e w' => e = .returned (.bool true) ∧ Below w.heap.size w w' := by
  have h1 := fun W => specValid_any s W
  have h2 := fun W => implValid_any s W
  generalize (readF s.data.toList).isSome = b at h1 h2
  have h1' := Lib.hid h1
  have h2' := Lib.hid h2
  clear h1 h2
  by_cases hlen : 1048576 < s.size
  · go_enter Try.func3, Try.ntmps3
    go_wp2_with fail
    go_ret
    exact ⟨rfl, (by repeat (with_reducible first | exact hbel | exact Below.refl _ _ | refine Below.drew ?_ | refine Below.drewN ?_ _ | refine Below.alloc ?_ (by first | (simp; done) | (simp; omega) | omega | (have := Below.size hbel; simp; omega) | (have := Below.size hbel; omega)) _ | refine Below.setCell ?_ (by first | (simp; done) | (simp; omega) | omega) _))⟩
  · go_enter Try.func3, Try.ntmps3
    go_wp2_with fail
    refine (h1'.out _).mono ?_
    rintro e w1 ⟨rfl, hb1⟩
    go_wp2_with fail
    refine (h2'.out _).mono ?_
    rintro e w2 ⟨rfl, hb2⟩
    cases b
    all_goals
      go_wp2_with fail
      go_ret
      exact ⟨rfl, below_step hb1 (Nat.le_refl _) hb2⟩

end Go.Proofs.Ytmnppkmgohpmaaa
