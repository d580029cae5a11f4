/- spec.FormulaDual. -/
import Derived.Test.YtdbdcfijeeelkaaDual
import Derived.Test.YtdbdcfijeeelkaaReadF
namespace Go.Proofs.Ytdbdcfijeeelkaa
set_option linter.unusedVariables false
open Go.RowKit

def dualS : Option F → ByteArray
  | none => ⟨#[]⟩
  | some f => ⟨f.dual.text.toArray⟩

theorem specDual_any (s : ByteArray) (w : World) : Calls Try.prog 18 #[.string s] w fun e w' => e = .returned (.tuple #[.string (dualS (readF s.data.toList)), .bool (readF s.data.toList).isSome]) ∧ Below w.heap.size w w' := by
  generalize hz : dualS (readF s.data.toList) = z
  generalize hb : (readF s.data.toList).isSome = b
  have hz' := Lib.hid hz
  have hb' := Lib.hid hb
  clear hz hb
  go_enter Try.func18, Try.ntmps18
  go_wp2_with fail
  refine (l1Formula_any s _).mono ?_
  rintro e w1 ⟨hb1, hp⟩
  have hb1' := Lib.hid hb1
  rcases hp with ⟨f, a, p, l, c, hrd, rfl, htc⟩ | ⟨a, p, l, c, hrd, rfl⟩
  · have hzt : Hid (⟨f.dual.text.toArray⟩ = z) := by have h := hz'.out; rw [hrd] at h; exact h
    have hbt : Hid (true = b) := by have h := hb'.out; rw [hrd] at h; exact h
    have h60 := readF_size hrd
    have hok := F.dual_ok (readF_ok hrd)
    have hds := f.dual_size
    have htc' := Lib.hid htc
    clear hrd htc hb1
    go_wp2_with fail
    refine (ldual_of f _ _ a p l c (htc'.out.below (by repeat (with_reducible first | exact hbel | exact Below.refl _ _ | refine Below.drew ?_ | refine Below.drewN ?_ _ | refine Below.alloc ?_ (by first | (simp; done) | (simp; omega) | omega | (have := Below.size hbel; simp; omega) | (have := Below.size hbel; omega)) _ | refine Below.setCell ?_ (by first | (simp; done) | (simp; omega) | omega) _)) (fun g hg => hg.2)) (fun g hg => by have := hg.2; simp; omega)).mono ?_
    rintro e w2 ⟨u, v, m, d, rfl, tc2, hb2⟩
    have tc2' := Lib.hid tc2
    clear tc2
    go_wp2_with fail
    refine (text_calls hok (by omega) tc2'.out (fun g hg => by
      have := hb2.size
      simp at this
      rcases hg with hg | hg
      · have := hg.2; omega
      · exact hg.2)).mono ?_
    rintro e w3 ⟨rfl, hb3⟩
    go_wp2_with fail
    go_ret2
    exact ⟨by rw [← hzt.out, ← hbt.out]; rfl, below_step (below_step hb1'.out (Nat.le_refl _) (below_step ((Below.refl _ _).alloc (Nat.le_refl _) _) (by simp) hb2)) (Nat.le_refl _) hb3⟩
  · have hzt : Hid (⟨#[]⟩ = z) := by have h := hz'.out; rw [hrd] at h; exact h
    have hbt : Hid (false = b) := by have h := hb'.out; rw [hrd] at h; exact h
    clear hrd hb1
    go_wp2_with fail
    go_ret2
    have hbel := hb1'.out
    exact ⟨by rw [← hzt.out, ← hbt.out]; rfl, (by repeat (with_reducible first | exact hbel | exact Below.refl _ _ | refine Below.drew ?_ | refine Below.drewN ?_ _ | refine Below.alloc ?_ (by first | (simp; done) | (simp; omega) | omega | (have := Below.size hbel; simp; omega) | (have := Below.size hbel; omega)) _ | refine Below.setCell ?_ (by first | (simp; done) | (simp; omega) | omega) _))⟩

end Go.Proofs.Ytdbdcfijeeelkaa
