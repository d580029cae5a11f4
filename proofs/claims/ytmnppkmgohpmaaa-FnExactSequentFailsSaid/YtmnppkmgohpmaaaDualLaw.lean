/- FormulaDual of the model and of the program, and its law as a call. -/
import Derived.Test.YtmnppkmgohpmaaaDual
import Derived.Test.YtmnppkmgohpmaaaSizeLaw
namespace Go.Proofs.Ytmnppkmgohpmaaa
open Go.RowKit

def dualS : Option F → ByteArray
  | none => ⟨#[]⟩
  | some f => ⟨f.dual.text.toArray⟩

theorem readF_ok {s : Bs} {f : F} (h : readF s = some f) : f.ok = true := by
  unfold readF at h
  split at h
  · cases h
  · split at h
    · cases h
    · rename_i g hg
      split at h
      · injection h with h; subst h; exact (toF_tree hg).2
      · cases h

theorem specDual_any (s : ByteArray) (w : World) : Calls Try.prog 25 #[.string s] w fun e w' => e = .returned (.tuple #[.string (dualS (readF s.data.toList)), .bool (readF s.data.toList).isSome]) ∧ Below w.heap.size w w' := by
  generalize hz : dualS (readF s.data.toList) = z
  generalize hb : (readF s.data.toList).isSome = b
  have hz' := Lib.hid hz
  have hb' := Lib.hid hb
  clear hz hb
  go_enter Try.func25, Try.ntmps25
  go_wp2_with fail
  refine (l1Formula_any s _).mono ?_
  rintro e w1 ⟨hb1, hp⟩
  have hb1' := Lib.hid hb1
  rcases hp with ⟨f, a, p, l, c, hrd, rfl, htc⟩ | ⟨a, p, l, c, hrd, rfl⟩
  · have hzt : Hid (⟨f.dual.text.toArray⟩ = z) := by have h := hz'.out; rw [hrd] at h; exact h
    have hbt : Hid (true = b) := by have h := hb'.out; rw [hrd] at h; exact h
    have h60 := readF_size hrd
    have hok := F.dual_ok (readF_ok hrd)
    have hds := f.dual_size
    have htc' := Lib.hid htc
    clear hrd htc hb1
    go_wp2_with fail
    refine (ldual_of f _ _ a p l c (htc'.out.below (by repeat (with_reducible first | exact hbel | exact Below.refl _ _ | refine Below.drew ?_ | refine Below.drewN ?_ _ | refine Below.alloc ?_ (by first | (simp; done) | (simp; omega) | omega | (have := Below.size hbel; simp; omega) | (have := Below.size hbel; omega)) _ | refine Below.setCell ?_ (by first | (simp; done) | (simp; omega) | omega) _)) (fun g hg => hg.2)) (fun g hg => by have := hg.2; simp; omega)).mono ?_
    rintro e w2 ⟨u, v, m, d, rfl, tc2, hb2⟩
    have tc2' := Lib.hid tc2
    clear tc2
    go_wp2_with fail
    refine (text_calls hok (by omega) tc2'.out (fun g hg => by
      have := hb2.size
      simp at this
      rcases hg with hg | hg
      · have := hg.2; omega
      · exact hg.2)).mono ?_
    rintro e w3 ⟨rfl, hb3⟩
    go_wp2_with fail
    go_ret2
    exact ⟨by rw [← hzt.out, ← hbt.out]; rfl, below_step (below_step hb1'.out (Nat.le_refl _) (below_step ((Below.refl _ _).alloc (Nat.le_refl _) _) (by simp) hb2)) (Nat.le_refl _) hb3⟩
  · have hzt : Hid (⟨#[]⟩ = z) := by have h := hz'.out; rw [hrd] at h; exact h
    have hbt : Hid (false = b) := by have h := hb'.out; rw [hrd] at h; exact h
    clear hrd hb1
    go_wp2_with fail
    go_ret2
    have hbel := hb1'.out
    exact ⟨by rw [← hzt.out, ← hbt.out]; rfl, (by repeat (with_reducible first | exact hbel | exact Below.refl _ _ | refine Below.drew ?_ | refine Below.drewN ?_ _ | refine Below.alloc ?_ (by first | (simp; done) | (simp; omega) | omega | (have := Below.size hbel; simp; omega) | (have := Below.size hbel; omega)) _ | refine Below.setCell ?_ (by first | (simp; done) | (simp; omega) | omega) _))⟩

theorem implDual_any (s : ByteArray) (w : World) : Calls Try.prog 26 #[.string s] w fun e w' => e = .returned (.tuple #[.string (dualS (readF s.data.toList)), .bool (readF s.data.toList).isSome]) ∧ Below w.heap.size w w' := by
  generalize hz : dualS (readF s.data.toList) = z
  generalize hb : (readF s.data.toList).isSome = b
  have hz' := Lib.hid hz
  have hb' := Lib.hid hb
  clear hz hb
  go_enter Try.func26, Try.ntmps26
  go_wp2_with fail
  refine (readFormula_any s _).mono ?_
  rintro e w1 ⟨hb1, rfl⟩
  have hb1' := Lib.hid hb1
  clear hb1
  cases hrd : readF s.data.toList with
  | none =>
    have hzt : Hid (⟨#[]⟩ = z) := by have h := hz'.out; rw [hrd] at h; exact h
    have hbt : Hid (false = b) := by have h := hb'.out; rw [hrd] at h; exact h
    clear hrd
    go_wp2_with fail
    go_ret2
    exact ⟨by rw [← hzt.out, ← hbt.out]; rfl, hb1'.out⟩
  | some f =>
    have hzt : Hid (⟨f.dual.text.toArray⟩ = z) := by have h := hz'.out; rw [hrd] at h; exact h
    have hbt : Hid (true = b) := by have h := hb'.out; rw [hrd] at h; exact h
    have h60 := readF_size hrd
    have hok := F.dual_ok (readF_ok hrd)
    have hds := f.dual_size
    have hm := fun w => dual_method f w
    have hc := fun x w => dual_call f x w
    have hm2 := fun w => text_method f.dual w
    have hc2 := fun x w => text_call f.dual x w
    have htx := Lib.hid (text_of f.dual hok (by omega))
    clear hrd
    rw [show fvO (some f) = .iface (ft f) (fi f) from rfl, show (some f).isSome = true from rfl]
    have hdu := Lib.hid (dual_of f)
    go_wp2_with fail
    refine Calls.mono (hdu.out _) ?_
    rintro e w2 ⟨rfl, hb2⟩
    go_wp2_with fail
    refine Calls.mono (htx.out _) ?_
    rintro e w3 ⟨rfl, hb3⟩
    go_wp2_with fail
    go_ret2
    exact ⟨by rw [← hzt.out, ← hbt.out]; rfl, below_step (below_step hb1'.out (Nat.le_refl _) hb2) (Nat.le_refl _) hb3⟩

/-- A law that holds two answers of a text and a bool against each other. -/
theorem lawDual (s : ByteArray) (_ : s.size ≤ maxLen) (w : World) : Calls Try.prog 7 #[.string s] w fun e w' => e = .returned (.bool true) ∧ Below w.heap.size w w' := by
  have h1 := fun W => specDual_any s W
  have h2 := fun W => implDual_any s W
  generalize dualS (readF s.data.toList) = z at h1 h2
  generalize (readF s.data.toList).isSome = b at h1 h2
  have h1' := Lib.hid h1
  have h2' := Lib.hid h2
  clear h1 h2
  by_cases hlen : 1048576 < s.size
  · go_enter Try.func7, Try.ntmps7
    go_wp2_with fail
    go_ret
    exact ⟨rfl, (by repeat (with_reducible first | exact hbel | exact Below.refl _ _ | refine Below.drew ?_ | refine Below.drewN ?_ _ | refine Below.alloc ?_ (by first | (simp; done) | (simp; omega) | omega | (have := Below.size hbel; simp; omega) | (have := Below.size hbel; omega)) _ | refine Below.setCell ?_ (by first | (simp; done) | (simp; omega) | omega) _))⟩
  · go_enter Try.func7, Try.ntmps7
    go_wp2_with fail
    refine (h1'.out _).mono ?_
    rintro e w1 ⟨rfl, hb1⟩
    go_wp2_with fail
    refine (h2'.out _).mono ?_
    rintro e w2 ⟨rfl, hb2⟩
    cases b
    all_goals
      go_wp2_with fail
      go_ret
      exact ⟨rfl, below_step hb1 (Nat.le_refl _) hb2⟩

end Go.Proofs.Ytmnppkmgohpmaaa
