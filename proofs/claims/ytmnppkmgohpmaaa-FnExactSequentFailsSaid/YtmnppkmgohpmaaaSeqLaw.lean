/- FnExactSequentHolds as a call. -/
import Derived.Test.YtmnppkmgohpmaaaSeqTrue
import Derived.Test.YtmnppkmgohpmaaaHoldsLaw
namespace Go.Proofs.Ytmnppkmgohpmaaa
open Go.RowKit

set_option maxRecDepth 100000 in
theorem lawSeqHolds (A : Option Addr) (n c : Nat) (ss : List ByteArray) (B : Option Addr) (m d : Nat) (ts : List ByteArray) (C : Option Addr) (k e : Nat) (L : List ByteArray) (w : World)
    (hA : ArgS w A n ss) (hn : n ≤ maxLen) (hB : ArgS w B m ts) (hm : m ≤ maxLen) (hC : ArgS w C k L) (hk : k ≤ maxLen) :
    Calls Try.prog 9 #[.slice A n c, .slice B m d, .slice C k e] w fun e w' => e = .returned (.bool true) ∧ Below w.heap.size w w' := by
  obtain rfl := hA.1.1
  obtain rfl := hB.1.1
  obtain rfl := hC.1.1
  have hA' := Lib.hid hA
  have hB' := Lib.hid hB
  have hC' := Lib.hid hC
  have hsz := Lib.hid hC.2
  clear hA hB hC
  have hs : ∀ W A1 c1 B1 d1 C1 e1, ss.length ≤ 10000000 → ts.length ≤ 10000000 → L.length ≤ 10000000 → RowS W A1 ss.length ss → RowS W B1 ts.length ts → RowS W C1 L.length L →
      Calls Try.prog 29 #[.slice A1 ss.length c1, .slice B1 ts.length d1, .slice C1 L.length e1] W fun e w' => e = .returned (.bool (sqO L (readSq ss ts))) ∧ Below W.heap.size W w' :=
    fun W A1 c1 B1 d1 C1 e1 h1 h2 h3 r1 r2 r3 => specSeqHolds_any A1 B1 C1 _ c1 _ d1 _ e1 ss ts L W r1 r2 r3 h1 h2 h3
  have hi : ∀ W A1 c1 B1 d1 C1 e1, ss.length ≤ 10000000 → ts.length ≤ 10000000 → L.length ≤ 10000000 → RowS W A1 ss.length ss → RowS W B1 ts.length ts → RowS W C1 L.length L →
      Calls Try.prog 30 #[.slice A1 ss.length c1, .slice B1 ts.length d1, .slice C1 L.length e1] W fun e w' => e = .returned (.bool (sqO L (readSq ss ts))) ∧ Below W.heap.size W w' :=
    fun W A1 c1 B1 d1 C1 e1 h1 h2 h3 r1 r2 r3 => implSeqHolds_any A1 B1 C1 _ c1 _ d1 _ e1 ss ts L W r1 r2 ⟨r3, hsz.out⟩ h1 h2 h3
  have hs' := Lib.hid hs
  have hi' := Lib.hid hi
  clear hs hi
  generalize sqO L (readSq ss ts) = z at *
  go_enter Try.func9, Try.ntmps9
  go_wp2_with fail
  refine (sz_any A _ c ss 1048576 _ hA'.out (by omega) (by omega) hn).mono ?_
  rintro e w' ⟨⟨r, rfl, h1, h2, h3⟩, rfl⟩
  by_cases hneg : r < 0
  · go_wp2_with fail
    go_ret
    exact ⟨rfl, (by repeat (with_reducible first | exact hbel | exact Below.refl _ _ | refine Below.drew ?_ | refine Below.drewN ?_ _ | refine Below.alloc ?_ (by first | (simp; done) | (simp; omega) | omega | (have := Below.size hbel; simp; omega) | (have := Below.size hbel; omega)) _ | refine Below.setCell ?_ (by first | (simp; done) | (simp; omega) | omega) _))⟩
  have hn7 : ss.length ≤ 10000000 := by have := h3 (by omega); omega
  clear h3
  go_wp2_with fail
  refine (sz_any B _ d ts r _ hB'.out (by omega) (by omega) hm).mono ?_
  rintro e w' ⟨⟨r2, rfl, h21, h22, h23⟩, rfl⟩
  by_cases hneg2 : r2 < 0
  · go_wp2_with fail
    go_ret
    exact ⟨rfl, (by repeat (with_reducible first | exact hbel | exact Below.refl _ _ | refine Below.drew ?_ | refine Below.drewN ?_ _ | refine Below.alloc ?_ (by first | (simp; done) | (simp; omega) | omega | (have := Below.size hbel; simp; omega) | (have := Below.size hbel; omega)) _ | refine Below.setCell ?_ (by first | (simp; done) | (simp; omega) | omega) _))⟩
  have hm7 : ts.length ≤ 10000000 := by have := h23 (by omega); omega
  clear h23
  go_wp2_with fail
  refine (sz_any C _ _ L r2 _ hC'.out (by omega) (by omega) hk).mono ?_
  rintro e w' ⟨⟨r3, rfl, h31, h32, h33⟩, rfl⟩
  by_cases hneg3 : r3 < 0
  · go_wp2_with fail
    go_ret
    exact ⟨rfl, (by repeat (with_reducible first | exact hbel | exact Below.refl _ _ | refine Below.drew ?_ | refine Below.drewN ?_ _ | refine Below.alloc ?_ (by first | (simp; done) | (simp; omega) | omega | (have := Below.size hbel; simp; omega) | (have := Below.size hbel; omega)) _ | refine Below.setCell ?_ (by first | (simp; done) | (simp; omega) | omega) _))⟩
  have hk7 : L.length ≤ 10000000 := by have := h33 (by omega); omega
  clear h33
  go_wp2_with fail
  refine (toStr_any A _ c ss _ hA'.out.1 hn7).mono ?_
  rintro e w1 ⟨A1, c1, rfl, own1, hb1⟩
  have R1 := Lib.hid (RowS.of_own own1)
  clear own1
  go_wp2_with fail
  refine (toStr_any B _ d ts _ (hB'.out.1.below hb1) hm7).mono ?_
  rintro e w2 ⟨A2, c2, rfl, own2, hb2⟩
  have R2 := Lib.hid (RowS.of_own own2)
  have k2 : Below w.heap.size w w2 := below_step hb1 (Nat.le_refl _) hb2
  clear own2
  go_wp2_with fail
  refine (toStr_any C _ _ L _ (hC'.out.1.below k2) hk7).mono ?_
  rintro e w3 ⟨A3, c3, rfl, own3, hb3⟩
  have R3 := Lib.hid (RowS.of_own own3)
  have k3 : Below w.heap.size w w3 := below_step k2 (Nat.le_refl _) hb3
  clear own3
  go_wp2_with fail
  refine (hs'.out w3 A1 c1 A2 c2 A3 c3 hn7 hm7 hk7 (R1.out.below (below_step hb2 (Nat.le_refl _) hb3)) (R2.out.below hb3) R3.out).mono ?_
  rintro e w4 ⟨rfl, hb4⟩
  have k4 : Below w.heap.size w w4 := below_step k3 (Nat.le_refl _) hb4
  clear hb1 hb2 hb3 R1 R2 R3 k2 k3 hb4
  go_wp2_with fail
  refine (toStr_any A _ c ss _ (hA'.out.1.below k4) hn7).mono ?_
  rintro e w5 ⟨A5, c5, rfl, own5, hb5⟩
  have R5 := Lib.hid (RowS.of_own own5)
  have k5 : Below w.heap.size w w5 := below_step k4 (Nat.le_refl _) hb5
  clear own5
  go_wp2_with fail
  refine (toStr_any B _ d ts _ (hB'.out.1.below k5) hm7).mono ?_
  rintro e w6 ⟨A6, c6, rfl, own6, hb6⟩
  have R6 := Lib.hid (RowS.of_own own6)
  have k6 : Below w.heap.size w w6 := below_step k5 (Nat.le_refl _) hb6
  clear own6
  go_wp2_with fail
  refine (toStr_any C _ _ L _ (hC'.out.1.below k6) hk7).mono ?_
  rintro e w7 ⟨A7, c7, rfl, own7, hb7⟩
  have R7 := Lib.hid (RowS.of_own own7)
  have k7 : Below w.heap.size w w7 := below_step k6 (Nat.le_refl _) hb7
  clear own7
  have R5' := Lib.hid (R5.out.below (below_step hb6 (Nat.le_refl _) hb7))
  have R6' := Lib.hid (R6.out.below hb7)
  clear R5 R6
  go_wp2_with fail
  refine (hi'.out w7 A5 c5 A6 c6 A7 c7 hn7 hm7 hk7 R5'.out R6'.out R7.out).mono ?_
  rintro e w8 ⟨rfl, hb8⟩
  have k8 : Below w.heap.size w w8 := below_step k7 (Nat.le_refl _) hb8
  go_wp2_with fail
  refine (toStr_any A _ c ss _ (hA'.out.1.below k8) hn7).mono ?_
  rintro e w9 ⟨A9, c9, rfl, own9, hb9⟩
  have R9 := Lib.hid (RowS.of_own own9)
  have k9 : Below w.heap.size w w9 := below_step k8 (Nat.le_refl _) hb9
  clear own9
  have j9 : Below w7.heap.size w7 w9 := below_step hb8 (Nat.le_refl _) hb9
  go_wp2_with fail
  refine (eq_any A5 A9 _ _ c5 c9 ss ss _ (R5'.out.below j9) R9.out (by omega)).mono ?_
  rintro e w10 ⟨rfl, hb10⟩
  rw [decide_eq_true rfl]
  have k10 : Below w.heap.size w w10 := below_step k9 (Nat.le_refl _) hb10
  have j10 : Below w7.heap.size w7 w10 := below_step j9 (Nat.le_refl _) hb10
  go_wp2_with fail
  refine (toStr_any B _ d ts _ (hB'.out.1.below k10) hm7).mono ?_
  rintro e w11 ⟨A11, c11, rfl, own11, hb11⟩
  have R11 := Lib.hid (RowS.of_own own11)
  have k11 : Below w.heap.size w w11 := below_step k10 (Nat.le_refl _) hb11
  have j11 : Below w7.heap.size w7 w11 := below_step j10 (Nat.le_refl _) hb11
  clear own11
  go_wp2_with fail
  refine (eq_any A6 A11 _ _ c6 c11 ts ts _ (R6'.out.below j11) R11.out (by omega)).mono ?_
  rintro e w12 ⟨rfl, hb12⟩
  rw [decide_eq_true rfl]
  have k12 : Below w.heap.size w w12 := below_step k11 (Nat.le_refl _) hb12
  have j12 : Below w7.heap.size w7 w12 := below_step j11 (Nat.le_refl _) hb12
  go_wp2_with fail
  refine (toStr_any C _ _ L _ (hC'.out.1.below k12) hk7).mono ?_
  rintro e w13 ⟨A13, c13, rfl, own13, hb13⟩
  have R13 := Lib.hid (RowS.of_own own13)
  have k13 : Below w.heap.size w w13 := below_step k12 (Nat.le_refl _) hb13
  have j13 : Below w7.heap.size w7 w13 := below_step j12 (Nat.le_refl _) hb13
  clear own13
  go_wp2_with fail
  refine (eq_any A7 A13 _ _ c7 c13 L L _ (R7.out.below j13) R13.out (by omega)).mono ?_
  rintro e w14 ⟨rfl, hb14⟩
  rw [decide_eq_true rfl]
  go_wp2_with fail
  go_ret
  exact ⟨rfl, below_step k13 (Nat.le_refl _) hb14⟩

end Go.Proofs.Ytmnppkmgohpmaaa
