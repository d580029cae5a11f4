/- FnExactFormulaHolds as a call. -/
import Derived.Test.YtmnppkmgohpmaaaHoldsFn
namespace Go.Proofs.Ytmnppkmgohpmaaa
open Go.RowKit

theorem ArgS.of_own {w : World} {base : Nat} {A : Option Addr} {n c : Nat} {ss : List ByteArray} (h : w.ownsRow base 9 1 (.slice A n c) n (ss.map Value.string)) (hs : ∀ s ∈ ss, s.size ≤ maxLen) : ArgS w A n ss := ⟨RowS.of_own h, hs⟩

set_option maxRecDepth 100000 in
theorem lawHolds (s : ByteArray) (_ : s.size ≤ maxLen) (A : Option Addr) (n c : Nat) (L : List ByteArray) (w : World) (hr : ArgS w A n L) (hn : n ≤ maxLen) :
    Calls Try.prog 6 #[.string s, .slice A n c] w fun e w' => e = .returned (.bool true) ∧ Below w.heap.size w w' := by
  obtain rfl := hr.1.1
  have hr' := Lib.hid hr
  have hsz := Lib.hid hr.2
  clear hr
  have hs : ∀ W, Below w.heap.size w W → L.length ≤ 10000000 → ∀ A1 c1, RowS W A1 L.length L → Calls Try.prog 22 #[.string s, .slice A1 L.length c1] W fun e w' => e = .returned (.bool (holdsO L (readF s.data.toList))) ∧ Below W.heap.size W w' :=
    fun W hW hn A1 c1 hR => specHolds_any s A1 _ c1 L W hR (by omega)
  have hi : ∀ W, Below w.heap.size w W → L.length ≤ 10000000 → ∀ A1 c1, RowS W A1 L.length L → Calls Try.prog 24 #[.string s, .slice A1 L.length c1] W fun e w' => e = .returned (.bool (holdsO L (readF s.data.toList))) ∧ Below W.heap.size W w' :=
    fun W hW hn A1 c1 hR => implHolds_any s A1 _ c1 L W ⟨hR, hsz.out⟩ (by omega)
  have hs' := Lib.hid hs
  have hi' := Lib.hid hi
  clear hs hi
  generalize holdsO L (readF s.data.toList) = z at *
  by_cases hlen : 1048576 < s.size
  · go_enter Try.func6, Try.ntmps6
    go_wp2_with fail
    go_ret
    exact ⟨rfl, (by repeat (with_reducible first | exact hbel | exact Below.refl _ _ | refine Below.drew ?_ | refine Below.drewN ?_ _ | refine Below.alloc ?_ (by first | (simp; done) | (simp; omega) | omega | (have := Below.size hbel; simp; omega) | (have := Below.size hbel; omega)) _ | refine Below.setCell ?_ (by first | (simp; done) | (simp; omega) | omega) _))⟩
  · go_enter Try.func6, Try.ntmps6
    go_wp2_with fail
    refine (sz_any A _ c L 1048576 _ hr'.out (by omega) (by omega) hn).mono ?_
    rintro e w' ⟨⟨r, rfl, h1, h2, h3⟩, rfl⟩
    by_cases hneg : r < 0
    · go_wp2_with fail
      go_ret
      exact ⟨rfl, (by repeat (with_reducible first | exact hbel | exact Below.refl _ _ | refine Below.drew ?_ | refine Below.drewN ?_ _ | refine Below.alloc ?_ (by first | (simp; done) | (simp; omega) | omega | (have := Below.size hbel; simp; omega) | (have := Below.size hbel; omega)) _ | refine Below.setCell ?_ (by first | (simp; done) | (simp; omega) | omega) _))⟩
    · have hn7 : L.length ≤ 10000000 := by have := h3 (by omega); omega
      clear h3
      go_wp2_with fail
      refine (toStr_any A _ c L _ hr'.out.1 hn7).mono ?_
      rintro e w1 ⟨A1, c1, rfl, own1, hb1⟩
      have R1 := Lib.hid (RowS.of_own own1)
      clear own1
      go_wp2_with fail
      refine (hs'.out w1 hb1 hn7 A1 c1 R1.out).mono ?_
      rintro e w2 ⟨rfl, hb2⟩
      have hb2' : Below w.heap.size w w2 := below_step hb1 (Nat.le_refl _) hb2
      go_wp2_with fail
      refine (toStr_any A _ c L _ (hr'.out.1.below hb2') hn7).mono ?_
      rintro e w3 ⟨A3, c3, rfl, own3, hb3⟩
      have R3 := Lib.hid (RowS.of_own own3)
      clear own3
      have hb3' : Below w.heap.size w w3 := below_step hb2' (Nat.le_refl _) hb3
      go_wp2_with fail
      refine (hi'.out w3 hb3' hn7 A3 c3 R3.out).mono ?_
      rintro e w4 ⟨rfl, hb4⟩
      have hb4' : Below w.heap.size w w4 := below_step hb3' (Nat.le_refl _) hb4
      go_wp2_with fail
      refine (toStr_any A _ c L _ (hr'.out.1.below hb4') hn7).mono ?_
      rintro e w5 ⟨A5, c5, rfl, own5, hb5⟩
      have R5 := Lib.hid (RowS.of_own own5)
      clear own5
      have hb5' : Below w.heap.size w w5 := below_step hb4' (Nat.le_refl _) hb5
      go_wp2_with fail
      refine (eq_any A3 A5 _ _ c3 c5 L L _ (R3.out.below (below_step hb4 (Nat.le_refl _) hb5)) R5.out (by omega)).mono ?_
      rintro e w6 ⟨rfl, hb6⟩
      rw [decide_eq_true rfl]
      go_wp2_with fail
      go_ret
      exact ⟨rfl, below_step hb5' (Nat.le_refl _) hb6⟩

end Go.Proofs.Ytmnppkmgohpmaaa
