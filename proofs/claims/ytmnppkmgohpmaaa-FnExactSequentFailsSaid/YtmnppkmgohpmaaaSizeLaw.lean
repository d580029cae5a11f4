/- FormulaSize of the model and of the program, and its law as a call. -/
import Derived.Test.YtmnppkmgohpmaaaFormula
namespace Go.Proofs.Ytmnppkmgohpmaaa
open Go.RowKit

def sizeO : Option F → Int
  | none => -1
  | some f => f.size

/-- Where a tree of a formula has its number of atoms. -/
theorem atoms_calls {w : World} {D : Nat → Prop} {f : F} {a : ByteArray} {p : Option Addr} {n c : Nat} (hf : f.size ≤ 60) (ht : TC w D f.tree a p n c) (hD : ∀ g, D g → g < w.heap.size) :
    Calls Try.prog 40 #[.agg #[.string a, .slice p n c]] w fun e w' => e = .returned (.int .i64 f.size) ∧ Below w.heap.size w w' := by
  have h := atoms_all 9000 (by omega) f.tree w D a p n c (by have := f.sz_tree; omega) ht hD
  rw [F.atoms_tree] at h
  exact h

theorem readF_size {s : Bs} {f : F} (h : readF s = some f) : f.size ≤ 60 := by
  unfold readF at h
  split at h
  · cases h
  · split at h
    · cases h
    · split at h
      · rename_i h60
        injection h with h; subst h; exact h60
      · cases h

theorem specSize_any (s : ByteArray) (w : World) : Calls Try.prog 19 #[.string s] w fun e w' => e = .returned (.int .i64 (sizeO (readF s.data.toList))) ∧ Below w.heap.size w w' := by
  generalize hb : sizeO (readF s.data.toList) = z
  have hb' := Lib.hid hb
  clear hb
  go_enter Try.func19, Try.ntmps19
  go_wp2_with fail
  refine (l1Formula_any s _).mono ?_
  rintro e w1 ⟨hb1, hp⟩
  have hb1' := Lib.hid hb1
  rcases hp with ⟨f, a, p, l, c, hrd, rfl, htc⟩ | ⟨a, p, l, c, hrd, rfl⟩
  · have hbt : Hid ((f.size : Int) = z) := by have h := hb'.out; rw [hrd] at h; exact h
    have h60 := readF_size hrd
    have htc' := Lib.hid htc
    clear hrd htc hb1
    go_wp2_with fail
    refine (atoms_calls h60 (htc'.out.below (by repeat (with_reducible first | exact hbel | exact Below.refl _ _ | refine Below.drew ?_ | refine Below.drewN ?_ _ | refine Below.alloc ?_ (by first | (simp; done) | (simp; omega) | omega | (have := Below.size hbel; simp; omega) | (have := Below.size hbel; omega)) _ | refine Below.setCell ?_ (by first | (simp; done) | (simp; omega) | omega) _)) (fun g hg => hg.2)) (fun g hg => by have := hg.2; simp; omega)).mono ?_
    rintro e w2 ⟨rfl, hb2⟩
    go_wp2_with fail
    go_ret
    exact ⟨ret_int hbt.out, below_step hb1'.out (Nat.le_refl _) (below_step ((Below.refl _ _).alloc (Nat.le_refl _) _) (by simp) hb2)⟩
  · have hbt : Hid (-1 = z) := by have h := hb'.out; rw [hrd] at h; exact h
    clear hrd hb1
    go_wp2_with fail
    go_ret
    have hbel := hb1'.out
    exact ⟨ret_int hbt.out, (by repeat (with_reducible first | exact hbel | exact Below.refl _ _ | refine Below.drew ?_ | refine Below.drewN ?_ _ | refine Below.alloc ?_ (by first | (simp; done) | (simp; omega) | omega | (have := Below.size hbel; simp; omega) | (have := Below.size hbel; omega)) _ | refine Below.setCell ?_ (by first | (simp; done) | (simp; omega) | omega) _))⟩

theorem implSize_any (s : ByteArray) (w : World) : Calls Try.prog 20 #[.string s] w fun e w' => e = .returned (.int .i64 (sizeO (readF s.data.toList))) ∧ Below w.heap.size w w' := by
  generalize hb : sizeO (readF s.data.toList) = z
  have hb' := Lib.hid hb
  clear hb
  go_enter Try.func20, Try.ntmps20
  go_wp2_with fail
  refine (readFormula_any s _).mono ?_
  rintro e w1 ⟨hb1, rfl⟩
  have hb1' := Lib.hid hb1
  clear hb1
  cases hrd : readF s.data.toList with
  | none =>
    have hbt : Hid (-1 = z) := by have h := hb'.out; rw [hrd] at h; exact h
    clear hrd
    go_wp2_with fail
    go_ret
    exact ⟨ret_int hbt.out, hb1'.out⟩
  | some f =>
    have hbt : Hid ((f.size : Int) = z) := by have h := hb'.out; rw [hrd] at h; exact h
    have h60 := readF_size hrd
    have hm := fun w => size_method f w
    have hc := fun x w => size_call f x w
    clear hrd
    rw [show fvO (some f) = .iface (ft f) (fi f) from rfl, show (some f).isSome = true from rfl]
    go_wp2_with (refine Calls.mono (size_any f (by omega) _) ?_; rintro e w3 ⟨rfl, hb3⟩)
    go_ret
    exact ⟨ret_int hbt.out, below_step hb1'.out (Nat.le_refl _) hb3⟩

theorem lawSize (s : ByteArray) (_ : s.size ≤ maxLen) (w : World) : Calls Try.prog 5 #[.string s] w fun e w' => e = .returned (.bool true) ∧ Below w.heap.size w w' := by
  have h1 := fun W => specSize_any s W
  have h2 := fun W => implSize_any s W
  generalize sizeO (readF s.data.toList) = b at h1 h2
  have h1' := Lib.hid h1
  have h2' := Lib.hid h2
  clear h1 h2
  by_cases hlen : 1048576 < s.size
  · go_enter Try.func5, Try.ntmps5
    go_wp2_with fail
    go_ret
    exact ⟨rfl, (by repeat (with_reducible first | exact hbel | exact Below.refl _ _ | refine Below.drew ?_ | refine Below.drewN ?_ _ | refine Below.alloc ?_ (by first | (simp; done) | (simp; omega) | omega | (have := Below.size hbel; simp; omega) | (have := Below.size hbel; omega)) _ | refine Below.setCell ?_ (by first | (simp; done) | (simp; omega) | omega) _))⟩
  · go_enter Try.func5, Try.ntmps5
    go_wp2_with fail
    refine (h1'.out _).mono ?_
    rintro e w1 ⟨rfl, hb1⟩
    go_wp2_with fail
    refine (h2'.out _).mono ?_
    rintro e w2 ⟨rfl, hb2⟩
    go_wp2_with fail
    go_ret
    exact ⟨rfl, below_step hb1 (Nat.le_refl _) hb2⟩

end Go.Proofs.Ytmnppkmgohpmaaa
