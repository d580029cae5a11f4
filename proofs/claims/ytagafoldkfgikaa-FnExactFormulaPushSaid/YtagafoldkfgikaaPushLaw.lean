/- FormulaPush of the model and of the program, and its law as a call. -/
import Derived.Test.YtagafoldkfgikaaPushSpec
import Derived.Test.YtagafoldkfgikaaWriteF
namespace Go.Proofs.Ytagafoldkfgikaa
set_option linter.unusedVariables false
open Go.RowKit

def pushO : Option F → Option F
  | none => none
  | some f => if (f.push false).size ≤ 60 then some (f.push false) else none

theorem atoms_calls' {w : World} {D : Nat → Prop} {f : F} {a : ByteArray} {p : Option Addr} {n c : Nat} (hf : f.size ≤ 1000) (ht : TC w D f.tree a p n c) (hD : ∀ g, D g → g < w.heap.size) :
    Calls Try.prog 19 #[.agg #[.string a, .slice p n c]] w fun e w' => e = .returned (.int .i64 f.size) ∧ Below w.heap.size w w' := by
  have h := atoms_all 9000 (by omega) f.tree w D a p n c (by have := f.sz_tree; omega) ht hD
  rw [F.atoms_tree] at h
  exact h

theorem specPush_any (s : ByteArray) (w : World) : Calls Try.prog 10 #[.string s] w fun e w' => e = .returned (.tuple #[.string (textS (pushO (readF s.data.toList))), .bool (pushO (readF s.data.toList)).isSome]) ∧ Below w.heap.size w w' := by
  generalize hz : textS (pushO (readF s.data.toList)) = z
  generalize hb : (pushO (readF s.data.toList)).isSome = b
  have hz' := Lib.hid hz
  have hb' := Lib.hid hb
  clear hz hb
  go_enter Try.func10, Try.ntmps10
  go_wp2_with fail
  refine (l1Formula_any s _).mono ?_
  rintro e w1 ⟨hb1, hp⟩
  have hb1' := Lib.hid hb1
  rcases hp with ⟨f, a, p, l, c, hrd, rfl, htc⟩ | ⟨a, p, l, c, hrd, rfl⟩
  · have h60 := readF_size hrd
    have hok := F.push_ok false (readF_ok hrd)
    have hds := f.push_size false
    have hrd' := Lib.hid hrd
    have htc' := Lib.hid htc
    clear hrd htc hb1
    have hP : Hid (∀ W, Below w1.heap.size w1 W → Calls Try.prog 20 #[.agg #[.string a, .slice p l c], .bool false] W (TreeRet (New w.heap.size w1) (f.push false).tree W)) := fun W hW =>
      lpush_of false f W _ a p l c (htc'.out.below hW (fun g hg => hg.2)) (fun g hg => by have := hg.2; have := hW.size; omega)
    generalize hg : f.push false = g at *
    have hg' := Lib.hid hg
    clear hg
    go_wp2_with fail
    have hbx := heap_alloc_new w1 (.cells #[.string a, .slice p l c] 32)
    have hbx' := Lib.hid hbx
    clear hbx
    refine (hP.out _ ((Below.refl _ _).alloc (Nat.le_refl _) _)).mono ?_
    rintro e w2 ⟨u, v, m, d, rfl, tc2, hb2⟩
    have tc2' := Lib.hid tc2
    clear tc2
    go_wp2_with fail
    refine (atoms_calls' (by omega) tc2'.out (fun g hg => by
      have := hb2.size
      simp at this
      rcases hg with hg | hg
      · have := hg.2; omega
      · exact hg.2)).mono ?_
    rintro e w3 ⟨rfl, hb3⟩
    have hbb : Below w1.heap.size w1 w3 := below_step (below_step ((Below.refl _ _).alloc (Nat.le_refl _) _) (by simp) hb2) (by simp) hb3
    have s2 := hb2.size
    have s3 := hb3.size
    simp at s2
    obtain ⟨z0, k0, k1, -, -⟩ := two_cells ((hb3.block w1.heap.size (by omega)).trans ((hb2.block w1.heap.size (by simp)).trans hbx'.out))
    have hbb' := Lib.hid hbb
    clear hbb hb2 hb3 s2 s3
    by_cases h : g.size ≤ 60
    · have hzt : Hid (⟨g.text.toArray⟩ = z) := by have h1 := hz'.out; rw [hrd'.out, pushO, hg'.out, if_pos h] at h1; exact h1
      have hbt : Hid (true = b) := by have h1 := hb'.out; rw [hrd'.out, pushO, hg'.out, if_pos h] at h1; exact h1
      go_wp2_with fail
      refine (hP.out _ hbb'.out).mono ?_
      rintro e w4 ⟨u', v', m', d', rfl, tc4, hb4⟩
      have tc4' := Lib.hid tc4
      clear tc4
      go_wp2_with fail
      refine (text_calls hok (by omega) tc4'.out (fun g hg => by
        have := hb4.size
        rcases hg with hg | hg
        · have := hg.2; omega
        · exact hg.2)).mono ?_
      rintro e w5 ⟨rfl, hb5⟩
      go_wp2_with fail
      go_ret2
      exact ⟨by rw [← hzt.out, ← hbt.out]; rfl, below_step (below_step (below_step hb1'.out (Nat.le_refl _) hbb'.out) (Nat.le_refl _) hb4) (Nat.le_refl _) hb5⟩
    · have hzt : Hid (⟨#[]⟩ = z) := by have h1 := hz'.out; rw [hrd'.out, pushO, hg'.out, if_neg h] at h1; exact h1
      have hbt : Hid (false = b) := by have h1 := hb'.out; rw [hrd'.out, pushO, hg'.out, if_neg h] at h1; exact h1
      go_wp2_with fail
      go_ret2
      exact ⟨by rw [← hzt.out, ← hbt.out]; rfl, below_step hb1'.out (Nat.le_refl _) hbb'.out⟩
  · have hzt : Hid (⟨#[]⟩ = z) := by have h := hz'.out; rw [hrd] at h; exact h
    have hbt : Hid (false = b) := by have h := hb'.out; rw [hrd] at h; exact h
    clear hrd hb1
    go_wp2_with fail
    go_ret2
    have hbel := hb1'.out
    exact ⟨by rw [← hzt.out, ← hbt.out]; rfl, (by repeat (with_reducible first | exact hbel | exact Below.refl _ _ | refine Below.drew ?_ | refine Below.drewN ?_ _ | refine Below.alloc ?_ (by first | (simp; done) | (simp; omega) | omega | (have := Below.size hbel; simp; omega) | (have := Below.size hbel; omega)) _ | refine Below.setCell ?_ (by first | (simp; done) | (simp; omega) | omega) _))⟩

theorem implPush_any (s : ByteArray) (w : World) : Calls Try.prog 11 #[.string s] w fun e w' => e = .returned (.tuple #[.string (textS (pushO (readF s.data.toList))), .bool (pushO (readF s.data.toList)).isSome]) ∧ Below w.heap.size w w' := by
  generalize hz : textS (pushO (readF s.data.toList)) = z
  generalize hb : (pushO (readF s.data.toList)).isSome = b
  have hz' := Lib.hid hz
  have hb' := Lib.hid hb
  clear hz hb
  go_enter Try.func11, Try.ntmps11
  go_wp2_with fail
  refine (readFormula_any s _).mono ?_
  rintro e w1 ⟨hb1, rfl⟩
  have hb1' := Lib.hid hb1
  clear hb1
  cases hrd : readF s.data.toList with
  | none =>
    have hzt : Hid (⟨#[]⟩ = z) := by have h := hz'.out; rw [hrd] at h; exact h
    have hbt : Hid (false = b) := by have h := hb'.out; rw [hrd] at h; exact h
    clear hrd
    go_wp2_with fail
    go_ret2
    exact ⟨by rw [← hzt.out, ← hbt.out]; rfl, hb1'.out⟩
  | some f =>
    have h60 := readF_size hrd
    have hok := F.push_ok false (readF_ok hrd)
    have hds := f.push_size false
    have hw := Lib.hid (writeF_any (f.push false) hok (by omega))
    have hpu := Lib.hid (push_of false f)
    have hrd' := Lib.hid hrd
    have hpo := Lib.hid (show pushO (some f) = writeO (f.push false) from rfl)
    clear hrd
    rw [show fvO (some f) = .iface (ft f) (fi f) from rfl, show (some f).isSome = true from rfl]
    generalize hg : f.push false = g at *
    go_wp2_with fail
    refine Calls.mono (hpu.out _) ?_
    rintro e w2 ⟨rfl, hb2⟩
    go_wp2_with fail
    refine Calls.mono (hw.out _) ?_
    rintro e w3 ⟨rfl, hb3⟩
    go_wp2_with fail
    go_ret2
    exact ⟨by rw [← hz'.out, ← hb'.out, hrd'.out, hpo.out]; rfl, below_step (below_step hb1'.out (Nat.le_refl _) hb2) (Nat.le_refl _) hb3⟩

theorem lawPush (s : ByteArray) (_ : s.size ≤ maxLen) (w : World) : Calls Try.prog 4 #[.string s] w fun e w' => e = .returned (.bool true) ∧ Below w.heap.size w w' := by
  have h1 := fun W => specPush_any s W
  have h2 := fun W => implPush_any s W
  generalize textS (pushO (readF s.data.toList)) = z at h1 h2
  generalize (pushO (readF s.data.toList)).isSome = b at h1 h2
  have h1' := Lib.hid h1
  have h2' := Lib.hid h2
  clear h1 h2
  by_cases hlen : 1048576 < s.size
  · go_enter Try.func4, Try.ntmps4
    go_wp2_with fail
    go_ret
    exact ⟨rfl, (by repeat (with_reducible first | exact hbel | exact Below.refl _ _ | refine Below.drew ?_ | refine Below.drewN ?_ _ | refine Below.alloc ?_ (by first | (simp; done) | (simp; omega) | omega | (have := Below.size hbel; simp; omega) | (have := Below.size hbel; omega)) _ | refine Below.setCell ?_ (by first | (simp; done) | (simp; omega) | omega) _))⟩
  · go_enter Try.func4, Try.ntmps4
    go_wp2_with fail
    refine (h1'.out _).mono ?_
    rintro e w1 ⟨rfl, hb1⟩
    go_wp2_with fail
    refine (h2'.out _).mono ?_
    rintro e w2 ⟨rfl, hb2⟩
    cases b
    all_goals
      go_wp2_with fail
      go_ret
      exact ⟨rfl, below_step hb1 (Nat.le_refl _) hb2⟩

end Go.Proofs.Ytagafoldkfgikaa
