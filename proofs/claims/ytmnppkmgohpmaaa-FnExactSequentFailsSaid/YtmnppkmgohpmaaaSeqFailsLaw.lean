/- FnExactSequentFails as a call. -/
import Derived.Test.YtmnppkmgohpmaaaSeqFails
namespace Go.Proofs.Ytmnppkmgohpmaaa
open Go.RowKit

theorem failL_length (o : Option (List F × List F)) : (failL o).length ≤ 10 := by
  cases o with
  | none => simp [failL]
  | some q =>
    unfold failL
    simp only
    split
    · rename_i h
      unfold ffL
      split
      · rename_i b _
        exact Nat.le_trans (pick_length b _ 0) h
      · simp
    · simp

theorem own_diff {w w' : World} {base : Nat} {E : TypeId} {size : Nat} {v v2 : Value} {n : Nat} {xs : List Value} (h : w.ownsRow base E size v n xs) (hg : w.grownBy w' v2.ownBlock) (hne : ∀ k, v.ownBlock = some k → v2.ownBlock = some k → False) : w'.ownsRow base E size v n xs :=
  own_same h (fun j hj => hg.block j (h.lt j hj).2 (fun e => hne j hj e.symm))

theorem mark_next (A : Option Addr) (n c base k : Nat) (ss : List ByteArray) (w : World) (hown : w.ownsRow base 9 1 (.slice A n c) n (ss.map Value.string)) (hk2 : 1 + k + n ≤ 100000000) :
    Calls Try.prog 17 #[.slice A n c, .int .i64 (1 + (k : Int))] w fun e w' => e = .returned (.int .i64 (1 + (k : Int) + (n : Int))) ∧ w.grownBy w' (Value.slice A n c).ownBlock := by
  have h := mark_any A n c base (1 + k) ss w hown (by omega) hk2
  rw [show ((1 + k : Nat) : Int) = 1 + (k : Int) by omega, show ((1 + k + n : Nat) : Int) = 1 + (k : Int) + (n : Int) by omega] at h
  exact h.mono fun e w' ⟨h1, _, h3⟩ => ⟨h1, h3⟩

set_option maxRecDepth 100000 in
theorem lawSeqFails (A : Option Addr) (n c : Nat) (ss : List ByteArray) (B : Option Addr) (m d : Nat) (ts : List ByteArray) (w : World)
    (hA : ArgS w A n ss) (hn : n ≤ maxLen) (hB : ArgS w B m ts) (hm : m ≤ maxLen) :
    Calls Try.prog 11 #[.slice A n c, .slice B m d] w fun e w' => e = .returned (.bool true) ∧ Below w.heap.size w w' := by
  obtain rfl := hA.1.1
  obtain rfl := hB.1.1
  have hA' := Lib.hid hA
  have hB' := Lib.hid hB
  clear hA hB
  have hs : ∀ W A1 c1 B1 d1, ss.length ≤ 10000000 → ts.length ≤ 10000000 → RowS W A1 ss.length ss → RowS W B1 ts.length ts →
      Calls Try.prog 33 #[.slice A1 ss.length c1, .slice B1 ts.length d1] W (SRet (failL (readSq ss ts)) (failB (readSq ss ts)) W) :=
    fun W A1 c1 B1 d1 h1 h2 r1 r2 => specSeqFails_any A1 B1 _ c1 _ d1 ss ts W r1 r2 h1 h2
  have hi : ∀ W A1 c1 B1 d1, ss.length ≤ 10000000 → ts.length ≤ 10000000 → RowS W A1 ss.length ss → RowS W B1 ts.length ts →
      Calls Try.prog 34 #[.slice A1 ss.length c1, .slice B1 ts.length d1] W (SRet (failL (readSq ss ts)) (failB (readSq ss ts)) W) :=
    fun W A1 c1 B1 d1 h1 h2 r1 r2 => implSeqFails_any A1 B1 _ c1 _ d1 ss ts W r1 r2 h1 h2
  have hs' := Lib.hid hs
  have hi' := Lib.hid hi
  clear hs hi
  have hL10 := failL_length (readSq ss ts)
  generalize failL (readSq ss ts) = L at *
  generalize failB (readSq ss ts) = z at *
  go_enter Try.func11, Try.ntmps11
  go_wp2_with fail
  refine (sz_any A _ c ss 1048576 _ hA'.out (by omega) (by omega) hn).mono ?_
  rintro e w' ⟨⟨r, rfl, h1, h2, h3⟩, rfl⟩
  by_cases hneg : r < 0
  · go_wp2_with fail
    go_ret
    exact ⟨rfl, (by repeat (with_reducible first | exact hbel | exact Below.refl _ _ | refine Below.drew ?_ | refine Below.drewN ?_ _ | refine Below.alloc ?_ (by first | (simp; done) | (simp; omega) | omega | (have := Below.size hbel; simp; omega) | (have := Below.size hbel; omega)) _ | refine Below.setCell ?_ (by first | (simp; done) | (simp; omega) | omega) _))⟩
  have hn7 : ss.length ≤ 10000000 := by have := h3 (by omega); omega
  clear h3
  go_wp2_with fail
  refine (sz_any B _ d ts r _ hB'.out (by omega) (by omega) hm).mono ?_
  rintro e w' ⟨⟨r2, rfl, h21, h22, h23⟩, rfl⟩
  by_cases hneg2 : r2 < 0
  · go_wp2_with fail
    go_ret
    exact ⟨rfl, (by repeat (with_reducible first | exact hbel | exact Below.refl _ _ | refine Below.drew ?_ | refine Below.drewN ?_ _ | refine Below.alloc ?_ (by first | (simp; done) | (simp; omega) | omega | (have := Below.size hbel; simp; omega) | (have := Below.size hbel; omega)) _ | refine Below.setCell ?_ (by first | (simp; done) | (simp; omega) | omega) _))⟩
  have hm7 : ts.length ≤ 10000000 := by have := h23 (by omega); omega
  clear h23
  go_wp2_with fail
  refine (toStr_any A _ c ss _ hA'.out.1 hn7).mono ?_
  rintro e w1 ⟨A1, c1, rfl, own1, hb1⟩
  have R1 := Lib.hid (RowS.of_own own1)
  clear own1
  go_wp2_with fail
  refine (toStr_any B _ d ts _ (hB'.out.1.below hb1) hm7).mono ?_
  rintro e w2 ⟨A2, c2, rfl, own2, hb2⟩
  have R2 := Lib.hid (RowS.of_own own2)
  have k2 : Below w.heap.size w w2 := below_step hb1 (Nat.le_refl _) hb2
  clear own2
  go_wp2_with fail
  refine (hs'.out w2 A1 c1 A2 c2 hn7 hm7 (R1.out.below hb2) R2.out).mono ?_
  rintro e w4 ⟨A3, c3, rfl, own3, hb4⟩
  have k4 : Below w.heap.size w w4 := below_step k2 (Nat.le_refl _) hb4
  have W0 := Lib.hid own3
  clear hb1 hb2 R1 R2 k2 hb4 own3
  go_wp2_with fail
  refine (toStr_any A _ c ss _ (hA'.out.1.below k4) hn7).mono ?_
  rintro e w5 ⟨A5, c5, rfl, own5, hb5⟩
  have k5 : Below w.heap.size w w5 := below_step k4 (Nat.le_refl _) hb5
  have X0 := Lib.hid own5
  have W1 := Lib.hid (own_below W0.out hb5)
  clear own5
  go_wp2_with fail
  refine (toStr_any B _ d ts _ (hB'.out.1.below k5) hm7).mono ?_
  rintro e w7 ⟨A6, c6, rfl, own6, hb6⟩
  have k7 : Below w.heap.size w w7 := below_step k5 (Nat.le_refl _) hb6
  have X1 := Lib.hid own6
  have X0a := Lib.hid (own_below X0.out hb6)
  have W2 := Lib.hid (own_below W1.out hb6)
  clear own6
  go_wp2_with fail
  refine (hi'.out w7 A5 c5 A6 c6 hn7 hm7 (RowS.of_own X0a.out) (RowS.of_own X1.out)).mono ?_
  rintro e w8 ⟨A7, c7, rfl, own7, hb8⟩
  have k8 : Below w.heap.size w w8 := below_step k7 (Nat.le_refl _) hb8
  have G := Lib.hid own7
  have X1b := Lib.hid (own_below X1.out hb8)
  have X0b := Lib.hid (own_below X0a.out hb8)
  have W3 := Lib.hid (own_below W2.out hb8)
  clear own7
  have hs4 := hb5.size
  have hs5 := hb6.size
  have hs7 := hb8.size
  -- the blocks lie apart
  have dX0 : Hid (∀ k, (Value.slice A5 ss.length c5).ownBlock = some k → w4.heap.size ≤ k ∧ k < w5.heap.size) := Lib.hid (fun k hk => X0.out.lt k hk)
  have dX1 : Hid (∀ k, (Value.slice A6 ts.length c6).ownBlock = some k → w5.heap.size ≤ k ∧ k < w7.heap.size) := Lib.hid (fun k hk => X1.out.lt k hk)
  have dG : Hid (∀ k, (Value.slice A7 L.length c7).ownBlock = some k → w7.heap.size ≤ k ∧ k < w8.heap.size) := Lib.hid (fun k hk => G.out.lt k hk)
  have dW : Hid (∀ k, (Value.slice A3 L.length c3).ownBlock = some k → k < w4.heap.size) := Lib.hid (fun k hk => (W0.out.lt k hk).2)
  clear W0 W1 W2 X0 X0a X1
  go_wp2_with fail
  refine (eq_any A7 A3 _ _ c7 c3 L L _ (RowS.of_own G.out) (RowS.of_own W3.out) (by omega)).mono ?_
  rw [show decide (L = L) = true from by simp]
  rintro e w9 ⟨rfl, hb9⟩
  have k9 : Below w.heap.size w w9 := below_step k8 (Nat.le_refl _) hb9
  have Ga := Lib.hid (own_below G.out hb9)
  have X1c := Lib.hid (own_below X1b.out hb9)
  have X0c := Lib.hid (own_below X0b.out hb9)
  have W4 := Lib.hid (own_below W3.out hb9)
  clear G X1b X0b W3
  cases z
  all_goals
    go_wp2_with fail
    refine (toStr_any A _ c ss _ (hA'.out.1.below k9) hn7).mono ?_
    rintro e w10 ⟨A10, c10, rfl, own10, hb10⟩
    have k10 : Below w.heap.size w w10 := below_step k9 (Nat.le_refl _) hb10
    have R10 := Lib.hid (RowS.of_own own10)
    clear own10
    go_wp2_with fail
    refine (eq_any A5 A10 _ _ c5 c10 ss ss _ ((RowS.of_own X0c.out).below hb10) R10.out (by omega)).mono ?_
    rw [show decide (ss = ss) = true from by simp]
    rintro e w11 ⟨rfl, hb11⟩
    have k11 : Below w.heap.size w w11 := below_step k10 (Nat.le_refl _) hb11
    go_wp2_with fail
    refine (toStr_any B _ d ts _ (hB'.out.1.below k11) hm7).mono ?_
    rintro e w12 ⟨A12, c12, rfl, own12, hb12⟩
    have k12 : Below w.heap.size w w12 := below_step k11 (Nat.le_refl _) hb12
    have R12 := Lib.hid (RowS.of_own own12)
    clear own12
    have j12 : Below w9.heap.size w9 w12 := below_step (below_step hb10 (Nat.le_refl _) hb11) (Nat.le_refl _) hb12
    go_wp2_with fail
    refine (eq_any A6 A12 _ _ c6 c12 ts ts _ ((RowS.of_own X1c.out).below j12) R12.out (by omega)).mono ?_
    rw [show decide (ts = ts) = true from by simp]
    rintro e w13 ⟨rfl, hb13⟩
    have k13 : Below w.heap.size w w13 := below_step k12 (Nat.le_refl _) hb13
    have j13 : Below w9.heap.size w9 w13 := below_step j12 (Nat.le_refl _) hb13
    have Gb := Lib.hid (own_below Ga.out j13)
    have X1d := Lib.hid (own_below X1c.out j13)
    have X0d := Lib.hid (own_below X0c.out j13)
    have W5 := Lib.hid (own_below W4.out j13)
    go_wp2_with fail
    refine (mark_any A5 ss.length c5 _ 1 ss _ X0d.out (by omega) (by omega)).mono ?_
    rintro e w14 ⟨rfl, own14, gr14⟩
    have Gc := Lib.hid (own_diff Gb.out gr14 (fun k hk e => by have := dG.out k hk; have := dX0.out k e; omega))
    have X1e := Lib.hid (own_diff X1d.out gr14 (fun k hk e => by have := dX1.out k hk; have := dX0.out k e; omega))
    have W6 := Lib.hid (own_diff W5.out gr14 (fun k hk e => by have := dW.out k hk; have := dX0.out k e; omega))
    have k14 := Lib.hid (k13.grown gr14 k13.size (fun k hk => by have := dX0.out k hk; have := k4.size; omega))
    clear own14 gr14
    go_wp2_with fail
    refine (mark_next A6 ts.length c6 _ ss.length ts _ X1e.out (by omega)).mono ?_
    rintro e w15 ⟨rfl, gr15⟩
    have Gd := Lib.hid (own_diff Gc.out gr15 (fun k hk e => by have := dG.out k hk; have := dX1.out k e; omega))
    have W7 := Lib.hid (own_diff W6.out gr15 (fun k hk e => by have := dW.out k hk; have := dX1.out k e; omega))
    have k15 := Lib.hid (k14.out.grown gr15 k14.out.size (fun k hk => by have := dX1.out k hk; have := k5.size; omega))
    clear gr15
    go_wp2_with fail
    refine (eq_any A7 A3 _ _ c7 c3 L L _ (RowS.of_own Gd.out) (RowS.of_own W7.out) (by omega)).mono ?_
    rw [show decide (L = L) = true from by simp]
    rintro e w16 ⟨rfl, hb16⟩
    have Ge := Lib.hid (own_below Gd.out hb16)
    have W8 := Lib.hid (own_below W7.out hb16)
    have k16 := Lib.hid (below_step k15.out (Nat.le_refl _) hb16)
    clear hb16
    go_wp2_with fail
    refine (mark_any A7 L.length c7 _ 1 L _ Ge.out (by omega) (by omega)).mono ?_
    rintro e w17 ⟨rfl, own17, gr17⟩
    have Gf := Lib.hid own17
    have W9 := Lib.hid (own_diff W8.out gr17 (fun k hk e => by have := dW.out k hk; have := dG.out k e; omega))
    have k17 := Lib.hid (k16.out.grown gr17 k16.out.size (fun k hk => by have := dG.out k hk; have := k7.size; omega))
    clear own17 gr17
    go_wp2_with fail
    refine (held_any A7 L.length c7 1 _ (RowS.of_own Gf.out) (by omega) (by omega)).mono ?_
    rintro e w18 ⟨rfl, hb18⟩
    have k18 := Lib.hid (below_step k17.out (Nat.le_refl _) hb18)
    go_wp2_with fail
    refine (toStr_any A _ c ss _ (hA'.out.1.below k18.out) hn7).mono ?_
    rintro e w19 ⟨A19, c19, rfl, own19, hb19⟩
    have k19 := Lib.hid (below_step k18.out (Nat.le_refl _) hb19)
    have R19 := Lib.hid (RowS.of_own own19)
    clear own19
    go_wp2_with fail
    refine (toStr_any B _ d ts _ (hB'.out.1.below k19.out) hm7).mono ?_
    rintro e w20 ⟨A20, c20, rfl, own20, hb20⟩
    have k20 := Lib.hid (below_step k19.out (Nat.le_refl _) hb20)
    have R20 := Lib.hid (RowS.of_own own20)
    clear own20
    go_wp2_with fail
    refine (hi'.out w20 A19 c19 A20 c20 hn7 hm7 (R19.out.below hb20) R20.out).mono ?_
    rintro e w21 ⟨A21, c21, rfl, own21, hb21⟩
    have k21 := Lib.hid (below_step k20.out (Nat.le_refl _) hb21)
    have R21 := Lib.hid (RowS.of_own own21)
    have j21 : Below w17.heap.size w17 w21 := below_step (below_step (below_step hb18 (Nat.le_refl _) hb19) (Nat.le_refl _) hb20) (Nat.le_refl _) hb21
    clear own21
    go_wp2_with fail
    refine (eq_any A21 A3 _ _ c21 c3 L L _ R21.out ((RowS.of_own W9.out).below j21) (by omega)).mono ?_
    rw [show decide (L = L) = true from by simp]
    rintro e w22 ⟨rfl, hb22⟩
    have k22 := Lib.hid (below_step k21.out (Nat.le_refl _) hb22)
    have j22 : Below w17.heap.size w17 w22 := below_step j21 (Nat.le_refl _) hb22
    go_wp2_with fail
    refine (held_any A7 L.length c7 1 _ ((RowS.of_own Gf.out).below j22) (by omega) (by omega)).mono ?_
    rintro e w23 ⟨rfl, hb23⟩
    go_wp2_with fail
    go_ret
    exact ⟨rfl, below_step k22.out (Nat.le_refl _) hb23⟩

end Go.Proofs.Ytmnppkmgohpmaaa
