/- The law FnProgramDual as a call. -/
import Derived.Test.YtcdagenocmmidaaDrawP
import Derived.Test.YtcdagenocmmidaaDualPLaw
import Derived.Test.YtcdagenocmmidaaArgB
namespace Go.Proofs.Ytcdagenocmmidaa
set_option linter.unusedVariables false
open Go.RowKit

set_option maxRecDepth 100000 in
theorem lawFnDual (A : Option Addr) (n c : Nat) (w : World) (hr : ByteRow w A n) (hc : n ≤ c) (hn : n ≤ maxLen) : Calls Try.prog 4 #[.slice A n c] w fun e w' => e = .returned (.bool true) ∧ Below w.heap.size w w' := by
  have hd := Lib.hid (drawDual_any A n c w hr hc)
  unfold maxLen at hn
  clear hr
  by_cases hlen : 1048576 < n
  · have hlen' : (1048576 : Int) < (n : Int) := by omega
    go_enter Try.func4, Try.ntmps4
    go_wp2_with fail
    go_ret
    exact ⟨rfl, Below.refl _ _⟩
  · have hlen' : ¬ (1048576 : Int) < (n : Int) := by omega
    go_enter Try.func4, Try.ntmps4
    go_wp2_with fail
    refine Calls.mono hd.out ?_
    rintro e w1 ⟨s, hs, rfl, hb1⟩
    have hb1' := Lib.hid hb1
    have h1 := Lib.hid (fun W => implDualP_any s W)
    have h2 := Lib.hid (fun W => specDualP_any s W)
    clear hb1
    cases hrd : readP s.data.toList with
    | none =>
      rw [hrd] at h1 h2
      clear hrd
      go_wp2_with fail
      refine Calls.mono (h1.out _) ?_
      rintro e w2 ⟨rfl, hb2⟩
      go_wp2_with fail
      refine Calls.mono (h2.out _) ?_
      rintro e w3 ⟨rfl, hb3⟩
      go_wp2_with fail
      go_ret
      exact ⟨rfl, below_step (below_step hb1'.out (Nat.le_refl _) hb2) (Nat.le_refl _) hb3⟩
    | some p =>
      rw [hrd] at h1 h2
      obtain ⟨hst, -, hok, -⟩ := readP_back hrd
      have hrd2 := readP_dual hrd
      have h3 := Lib.hid (fun W => implDualP_any ⟨p.dual.text.toArray⟩ W)
      rw [show (⟨p.dual.text.toArray⟩ : ByteArray).data.toList = p.dual.text from rfl, hrd2] at h3
      have hs2 : s = ⟨p.text.toArray⟩ := by rw [← hst]
      unfold DPost at h1 h2 h3
      rw [show dualText (some p) = p.dual.text from rfl] at h1 h2
      rw [show dualText (some p.dual) = p.dual.dual.text from rfl, P.dual_dual hok] at h3
      subst hs2
      generalize p.dual.text = t at *
      generalize p.text = u at *
      clear hrd hrd2 hst
      go_wp2_with fail
      refine Calls.mono (h1.out _) ?_
      rintro e w2 ⟨rfl, hb2⟩
      go_wp2_with fail
      refine Calls.mono (h2.out _) ?_
      rintro e w3 ⟨rfl, hb3⟩
      go_wp2_with fail
      refine Calls.mono (h3.out _) ?_
      rintro e w4 ⟨rfl, hb4⟩
      go_wp2_with fail
      go_ret
      exact ⟨rfl, below_step (below_step (below_step hb1'.out (Nat.le_refl _) hb2) (Nat.le_refl _) hb3) (Nat.le_refl _) hb4⟩

end Go.Proofs.Ytcdagenocmmidaa
