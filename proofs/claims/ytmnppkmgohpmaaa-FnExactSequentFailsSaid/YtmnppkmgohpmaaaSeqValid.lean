/- SequentValid of the model, and its law as a call. -/
import Derived.Test.YtmnppkmgohpmaaaFails
import Derived.Test.YtmnppkmgohpmaaaSeqLaw
namespace Go.Proofs.Ytmnppkmgohpmaaa
open Go.RowKit

theorem l1F_zero (L : List ByteArray) (fs gs : List F) : ((l1F L fs gs).2 == 0) = (decide (L.length ≤ 10) && !(ff L fs gs).isSome) := by
  unfold l1F
  by_cases h : 10 < L.length
  · rw [if_pos h, decide_eq_false (by omega)]; rfl
  · rw [if_neg h, decide_eq_true (by omega)]
    cases ff L fs gs <;> rfl

set_option maxRecDepth 100000 in
theorem specSeqValid_any (A B : Option Addr) (n c m d : Nat) (ss ts : List ByteArray) (w : World) (hA : RowS w A n ss) (hB : RowS w B m ts) (hn : n ≤ 10000000) (hm : m ≤ 10000000) :
    Calls Try.prog 31 #[.slice A n c, .slice B m d] w fun e w' => e = .returned (.bool (validO (readSq ss ts))) ∧ Below w.heap.size w w' := by
  generalize hb : validO (readSq ss ts) = z
  have hb' := Lib.hid hb
  have hR := Lib.hid (fun W (hW : Below w.heap.size w W) => l1Sequent_any A B n c m d ss ts W (hA.below hW) (hB.below hW) hn hm)
  clear hb hA hB
  go_enter Try.func31, Try.ntmps31
  go_wp2_with fail
  refine (hR.out _ (by repeat (with_reducible first | exact hbel | exact Below.refl _ _ | refine Below.drew ?_ | refine Below.drewN ?_ _ | refine Below.alloc ?_ (by first | (simp; done) | (simp; omega) | omega | (have := Below.size hbel; simp; omega) | (have := Below.size hbel; omega)) _ | refine Below.setCell ?_ (by first | (simp; done) | (simp; omega) | omega) _))).mono ?_
  rintro e w1 ⟨hb1, A1, n1, c1, B1, m1, d1, rfl, hr1⟩
  have hw1 := Lib.hid hb1
  clear hb1
  cases hrd : readSq ss ts with
  | none =>
    have hbt : Hid (false = z) := by have h := hb'.out; rw [hrd] at h; exact h
    clear hrd hr1
    rw [show (none : Option (List F × List F)).isSome = false from rfl]
    go_wp2_with fail
    go_ret
    have hbel := hw1.out
    exact ⟨ret_bool hbt.out, (by repeat (with_reducible first | exact hbel | exact Below.refl _ _ | refine Below.drew ?_ | refine Below.drewN ?_ _ | refine Below.alloc ?_ (by first | (simp; done) | (simp; omega) | omega | (have := Below.size hbel; simp; omega) | (have := Below.size hbel; omega)) _ | refine Below.setCell ?_ (by first | (simp; done) | (simp; omega) | omega) _))⟩
  | some q =>
    obtain ⟨fs, gs⟩ := q
    obtain ⟨h12, r1, r2⟩ := readSq_ok hrd
    obtain ⟨hf, hg⟩ := hr1 fs gs hrd
    have hbt : Hid (((l1F (seqL fs gs) fs gs).2 == 0) = z) := by have h := hb'.out; rw [hrd] at h; rw [l1F_zero]; exact h
    have hT := Lib.hid (l1Fails_any A1 B1 n1 c1 m1 d1 fs gs w1 _ hf hg (fun g hg => hg.2) (readFs_ok r1) (readFs_ok r2) h12)
    clear hrd hr1 hf hg r1 r2
    rw [show (some (fs, gs) : Option (List F × List F)).isSome = true from rfl]
    generalize l1F (seqL fs gs) fs gs = o at *
    obtain ⟨ol, on⟩ := o
    go_wp2_with fail
    refine hT.out.mono ?_
    rintro e w2 ⟨C, k, rfl, own, hb2⟩
    clear own
    go_wp2_with fail
    go_ret
    exact ⟨ret_bool hbt.out, below_step hw1.out (Nat.le_refl _) hb2⟩

set_option maxRecDepth 100000 in
theorem lawSeqValid (A : Option Addr) (n c : Nat) (ss : List ByteArray) (B : Option Addr) (m d : Nat) (ts : List ByteArray) (w : World)
    (hA : ArgS w A n ss) (hn : n ≤ maxLen) (hB : ArgS w B m ts) (hm : m ≤ maxLen) :
    Calls Try.prog 10 #[.slice A n c, .slice B m d] w fun e w' => e = .returned (.bool true) ∧ Below w.heap.size w w' := by
  obtain rfl := hA.1.1
  obtain rfl := hB.1.1
  have hA' := Lib.hid hA
  have hB' := Lib.hid hB
  clear hA hB
  have hs : ∀ W A1 c1 B1 d1, ss.length ≤ 10000000 → ts.length ≤ 10000000 → RowS W A1 ss.length ss → RowS W B1 ts.length ts →
      Calls Try.prog 31 #[.slice A1 ss.length c1, .slice B1 ts.length d1] W fun e w' => e = .returned (.bool (validO (readSq ss ts))) ∧ Below W.heap.size W w' :=
    fun W A1 c1 B1 d1 h1 h2 r1 r2 => specSeqValid_any A1 B1 _ c1 _ d1 ss ts W r1 r2 h1 h2
  have hi : ∀ W A1 c1 B1 d1, ss.length ≤ 10000000 → ts.length ≤ 10000000 → RowS W A1 ss.length ss → RowS W B1 ts.length ts →
      Calls Try.prog 32 #[.slice A1 ss.length c1, .slice B1 ts.length d1] W fun e w' => e = .returned (.bool (validO (readSq ss ts))) ∧ Below W.heap.size W w' :=
    fun W A1 c1 B1 d1 h1 h2 r1 r2 => implSeqValid_any A1 B1 _ c1 _ d1 ss ts W r1 r2 h1 h2
  have hs' := Lib.hid hs
  have hi' := Lib.hid hi
  clear hs hi
  generalize validO (readSq ss ts) = z at *
  go_enter Try.func10, Try.ntmps10
  go_wp2_with fail
  refine (sz_any A _ c ss 1048576 _ hA'.out (by omega) (by omega) hn).mono ?_
  rintro e w' ⟨⟨r, rfl, h1, h2, h3⟩, rfl⟩
  by_cases hneg : r < 0
  · go_wp2_with fail
    go_ret
    exact ⟨rfl, (by repeat (with_reducible first | exact hbel | exact Below.refl _ _ | refine Below.drew ?_ | refine Below.drewN ?_ _ | refine Below.alloc ?_ (by first | (simp; done) | (simp; omega) | omega | (have := Below.size hbel; simp; omega) | (have := Below.size hbel; omega)) _ | refine Below.setCell ?_ (by first | (simp; done) | (simp; omega) | omega) _))⟩
  have hn7 : ss.length ≤ 10000000 := by have := h3 (by omega); omega
  clear h3
  go_wp2_with fail
  refine (sz_any B _ d ts r _ hB'.out (by omega) (by omega) hm).mono ?_
  rintro e w' ⟨⟨r2, rfl, h21, h22, h23⟩, rfl⟩
  by_cases hneg2 : r2 < 0
  · go_wp2_with fail
    go_ret
    exact ⟨rfl, (by repeat (with_reducible first | exact hbel | exact Below.refl _ _ | refine Below.drew ?_ | refine Below.drewN ?_ _ | refine Below.alloc ?_ (by first | (simp; done) | (simp; omega) | omega | (have := Below.size hbel; simp; omega) | (have := Below.size hbel; omega)) _ | refine Below.setCell ?_ (by first | (simp; done) | (simp; omega) | omega) _))⟩
  have hm7 : ts.length ≤ 10000000 := by have := h23 (by omega); omega
  clear h23
  go_wp2_with fail
  refine (toStr_any A _ c ss _ hA'.out.1 hn7).mono ?_
  rintro e w1 ⟨A1, c1, rfl, own1, hb1⟩
  have R1 := Lib.hid (RowS.of_own own1)
  clear own1
  go_wp2_with fail
  refine (toStr_any B _ d ts _ (hB'.out.1.below hb1) hm7).mono ?_
  rintro e w2 ⟨A2, c2, rfl, own2, hb2⟩
  have R2 := Lib.hid (RowS.of_own own2)
  have k2 : Below w.heap.size w w2 := below_step hb1 (Nat.le_refl _) hb2
  clear own2
  go_wp2_with fail
  refine (hs'.out w2 A1 c1 A2 c2 hn7 hm7 (R1.out.below hb2) R2.out).mono ?_
  rintro e w4 ⟨rfl, hb4⟩
  have k4 : Below w.heap.size w w4 := below_step k2 (Nat.le_refl _) hb4
  clear hb1 hb2 R1 R2 k2 hb4
  go_wp2_with fail
  refine (toStr_any A _ c ss _ (hA'.out.1.below k4) hn7).mono ?_
  rintro e w5 ⟨A5, c5, rfl, own5, hb5⟩
  have R5 := Lib.hid (RowS.of_own own5)
  have k5 : Below w.heap.size w w5 := below_step k4 (Nat.le_refl _) hb5
  clear own5
  go_wp2_with fail
  refine (toStr_any B _ d ts _ (hB'.out.1.below k5) hm7).mono ?_
  rintro e w7 ⟨A6, c6, rfl, own6, hb6⟩
  have R6' := Lib.hid (RowS.of_own own6)
  have k7 : Below w.heap.size w w7 := below_step k5 (Nat.le_refl _) hb6
  clear own6
  have R5' := Lib.hid (R5.out.below hb6)
  clear R5
  go_wp2_with fail
  refine (hi'.out w7 A5 c5 A6 c6 hn7 hm7 R5'.out R6'.out).mono ?_
  rintro e w8 ⟨rfl, hb8⟩
  have k8 : Below w.heap.size w w8 := below_step k7 (Nat.le_refl _) hb8
  go_wp2_with fail
  refine (toStr_any A _ c ss _ (hA'.out.1.below k8) hn7).mono ?_
  rintro e w9 ⟨A9, c9, rfl, own9, hb9⟩
  have R9 := Lib.hid (RowS.of_own own9)
  have k9 : Below w.heap.size w w9 := below_step k8 (Nat.le_refl _) hb9
  clear own9
  have j9 : Below w7.heap.size w7 w9 := below_step hb8 (Nat.le_refl _) hb9
  go_wp2_with fail
  refine (eq_any A5 A9 _ _ c5 c9 ss ss _ (R5'.out.below j9) R9.out (by omega)).mono ?_
  rintro e w10 ⟨rfl, hb10⟩
  rw [decide_eq_true rfl]
  have k10 : Below w.heap.size w w10 := below_step k9 (Nat.le_refl _) hb10
  have j10 : Below w7.heap.size w7 w10 := below_step j9 (Nat.le_refl _) hb10
  go_wp2_with fail
  refine (toStr_any B _ d ts _ (hB'.out.1.below k10) hm7).mono ?_
  rintro e w11 ⟨A11, c11, rfl, own11, hb11⟩
  have R11 := Lib.hid (RowS.of_own own11)
  have k11 : Below w.heap.size w w11 := below_step k10 (Nat.le_refl _) hb11
  have j11 : Below w7.heap.size w7 w11 := below_step j10 (Nat.le_refl _) hb11
  clear own11
  go_wp2_with fail
  refine (eq_any A6 A11 _ _ c6 c11 ts ts _ (R6'.out.below j11) R11.out (by omega)).mono ?_
  rintro e w12 ⟨rfl, hb12⟩
  rw [decide_eq_true rfl]
  go_wp2_with fail
  go_ret
  exact ⟨rfl, below_step k11 (Nat.le_refl _) hb12⟩

end Go.Proofs.Ytmnppkmgohpmaaa
