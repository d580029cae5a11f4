/- The law of TypeDual as a call. -/
import Derived.Test.YtdbdcfijeeelkaaTyDualI
import Derived.Test.YtdbdcfijeeelkaaTyDualS
import Derived.Test.YtdbdcfijeeelkaaTyVar
import Derived.Deep.RegionHeld3
namespace Go.Proofs.Ytdbdcfijeeelkaa
set_option linter.unusedVariables false
open Go.RowKit

set_option maxRecDepth 100000 in
set_option maxHeartbeats 4000000 in
theorem lawTypeDual (A : Option Addr) (n c : Nat) (ss : List ByteArray) (B : Option Addr) (m d : Nat) (ts : List ByteArray) (s : ByteArray) (w : World)
    (hA : ArgS w A n ss) (hB : ArgS w B m ts) (hs : s.size ≤ maxLen) (hn : n ≤ maxLen) (hm : m ≤ maxLen) :
    Calls Try.prog 3 #[tyV A n c B m d s] w fun e w' => e = .returned (.bool true) ∧ Below w.heap.size w w' := by
  have hS := Lib.hid (fun (n' m' : Nat) W A' c' B' d' hr hr' h1 h2 => specTypeDual_any A' n' c' ss B' m' d' ts s W hr hr' h1 h2)
  have hI := Lib.hid (fun (n' m' : Nat) W A' c' B' d' hr hr' h1 h2 => implTypeDual_any A' n' c' ss B' m' d' ts s W hr hr' h1 h2)
  have hln : (dN (readTy ss ts s)).length ≤ ss.length := dN_length
  have hlt : (dT (readTy ss ts s)).length ≤ ts.length := dT_length
  generalize dN (readTy ss ts s) = N at *
  generalize dT (readTy ss ts s) = T at *
  generalize dW (readTy ss ts s) = Z at *
  generalize (readTy ss ts s).isSome = b at *
  have hlA := Lib.hid hA.1.1
  have hlB := Lib.hid hB.1.1
  have hA' := Lib.hid (fun W (hW : Below w.heap.size w W) => hA.below hW)
  have hB' := Lib.hid (fun W (hW : Below w.heap.size w W) => hB.below hW)
  clear hA hB
  go_enter Try.func3, Try.ntmps3
  go_wp2_with fail
  have q0 := heap_alloc_new w (.cells #[.slice A n c, .slice B m d, .string s] 24)
  have hb0 : Below w.heap.size w (w.alloc (.cells #[.slice A n c, .slice B m d, .string s] 24)) := bb_alloc (Below.refl _ _) _
  have hz0 : (w.alloc (.cells #[.slice A n c, .slice B m d, .string s] 24)).heap.size = w.heap.size + 1 := by simp
  generalize w.alloc (.cells #[.slice A n c, .slice B m d, .string s] 24) = w0 at *
  have K := Lib.hid hb0
  have P := Lib.hid q0
  have hlo := (three_cells P.out).1
  have hsz := Lib.hid (szY_any A n c ss B m d ts s 1048576 w0 (hA'.out _ hb0) (hB'.out _ hb0) hs hn hm (by omega) (by omega))
  clear hb0 q0
  refine Calls.mono hsz.out ?_
  rintro e w1 ⟨⟨r, rfl, hr1, hr2, hr3⟩, hb1⟩
  have P := Lib.hid ((hb1.block w.heap.size hlo).trans P.out)
  have K := Lib.hid (below_step K.out (Nat.le_refl _) hb1)
  have hlo := (three_cells P.out).1
  obtain ⟨-, a0, a1, a2, -, -, -⟩ := three_cells P.out
  clear hb1 hsz
  by_cases hneg : r < 0
  · go_wp2_with fail
    go_ret
    exact ⟨rfl, K.out⟩
  obtain ⟨hn7, hm7⟩ := hr3 (by omega)
  have hTo := Lib.hid (fun W (hW : Below w.heap.size w W) => toY_any A n c ss B m d ts s W (hA'.out _ hW).1 (hB'.out _ hW).1 (by omega) (by omega))
  have hN7 : N.length ≤ 1048576 := by have := hlA.out; omega
  have hT7 : T.length ≤ 1048576 := by have := hlB.out; omega
  have hs7 : ss.length ≤ 1048576 := by have := hlA.out; omega
  have ht7 : ts.length ≤ 1048576 := by have := hlB.out; omega
  clear hr1 hr2 hr3
  go_wp2_with fail
  refine Calls.mono (hTo.out _ K.out) ?_
  rintro e w2 ⟨A1, c1, B1, d1, rfl, o1, hb2⟩
  have R1 := Lib.hid o1.rows
  have P := Lib.hid ((hb2.block w.heap.size hlo).trans P.out)
  have K := Lib.hid (below_step K.out (Nat.le_refl _) hb2)
  have hlo := (three_cells P.out).1
  clear o1 hb2 a0 a1 a2 hneg
  go_wp2_with fail
  refine Calls.mono (hS.out _ _ w2 A1 c1 B1 d1 R1.out.1 R1.out.2 (by omega) (by omega)) ?_
  rintro e w3 ⟨A3, c3, B3, d3, rfl, o3, hb3⟩
  have V4 := Lib.hid (tv_new o3 Z)
  have hl2 := hlo
  have P := Lib.hid ((hb3.block w.heap.size hlo).trans P.out)
  have K := Lib.hid (below_step K.out (Nat.le_refl _) hb3)
  have hlo := (three_cells P.out).1
  obtain ⟨-, a0, a1, a2, -, -, -⟩ := three_cells P.out
  have hs3 := hb3.size
  clear o3 hb3 R1
  go_wp2_with fail
  have hal : Below w3.heap.size w3 (w3.alloc (.cells #[.slice A3 N.length c3, .slice B3 T.length d3, .string Z] 26)) := bb_alloc (Below.refl _ _) _
  have hzw4 : (w3.alloc (.cells #[.slice A3 N.length c3, .slice B3 T.length d3, .string Z] 26)).heap.size = w3.heap.size + 1 := by simp
  have P := Lib.hid ((hal.block w.heap.size hlo).trans P.out)
  have K := Lib.hid (below_step K.out (Nat.le_refl _) hal)
  have hlo := (three_cells P.out).1
  generalize w3.alloc (.cells #[.slice A3 N.length c3, .slice B3 T.length d3, .string Z] 26) = w4 at *
  clear hal
  clear a0 a1 a2
  refine Calls.mono (hTo.out _ K.out) ?_
  rintro e w5 ⟨A5, c5, B5, d5, rfl, o5, hb5⟩
  have V4 := Lib.hid (V4.out.below hb5)
  have P := Lib.hid ((hb5.block w.heap.size hlo).trans P.out)
  have K := Lib.hid (below_step K.out (Nat.le_refl _) hb5)
  have hlo := (three_cells P.out).1
  have V6 := Lib.hid (tv_new o5 s)
  have hs5 := hb5.size
  clear o5 hb5
  go_wp2_with fail
  have hal : Below w5.heap.size w5 (w5.alloc (.cells #[.slice A5 ss.length c5, .slice B5 ts.length d5, .string s] 26)) := bb_alloc (Below.refl _ _) _
  have hzw6 : (w5.alloc (.cells #[.slice A5 ss.length c5, .slice B5 ts.length d5, .string s] 26)).heap.size = w5.heap.size + 1 := by simp
  have V4 := Lib.hid (V4.out.below hal)
  have P := Lib.hid ((hal.block w.heap.size hlo).trans P.out)
  have K := Lib.hid (below_step K.out (Nat.le_refl _) hal)
  have hlo := (three_cells P.out).1
  generalize w5.alloc (.cells #[.slice A5 ss.length c5, .slice B5 ts.length d5, .string s] 26) = w6 at *
  clear hal
  refine Calls.mono (hI.out _ _ w6 A5 c5 B5 d5 V6.out.rows.rows.1 V6.out.rows.rows.2 (by omega) (by omega)) ?_
  rintro e w7 ⟨A7, c7, B7, d7, rfl, o7, hb7⟩
  have V4 := Lib.hid (V4.out.below hb7)
  have V6 := Lib.hid (V6.out.below hb7)
  have P := Lib.hid ((hb7.block w.heap.size hlo).trans P.out)
  have K := Lib.hid (below_step K.out (Nat.le_refl _) hb7)
  have hlo := (three_cells P.out).1
  have V7 := Lib.hid (tv_new o7 Z)
  have hs7' := hb7.size
  clear o7 hb7
  obtain ⟨e0, e1, e2⟩ := V4.out.cells
  have el := V4.out.lt
  go_wp2_with fail
  have hal : Below w7.heap.size w7 (w7.alloc (.cells #[.slice A7 N.length c7, .slice B7 T.length d7, .string Z] 26)) := bb_alloc (Below.refl _ _) _
  have hzw8 : (w7.alloc (.cells #[.slice A7 N.length c7, .slice B7 T.length d7, .string Z] 26)).heap.size = w7.heap.size + 1 := by simp
  have V4 := Lib.hid (V4.out.below hal)
  have V6 := Lib.hid (V6.out.below hal)
  have P := Lib.hid ((hal.block w.heap.size hlo).trans P.out)
  have K := Lib.hid (below_step K.out (Nat.le_refl _) hal)
  have hlo := (three_cells P.out).1
  generalize w7.alloc (.cells #[.slice A7 N.length c7, .slice B7 T.length d7, .string Z] 26) = w8 at *
  clear hal
  clear e0 e1 e2
  refine Calls.mono (eqY_any A7 N.length c7 N B7 T.length d7 T Z A3 N.length c3 N B3 T.length d3 T w8 V7.out.rows.rows.1 V7.out.rows.rows.2 V4.out.rows.rows.1 V4.out.rows.rows.2 (by omega) (by omega)) ?_
  rintro e w9 ⟨rfl, hb9⟩
  have V4 := Lib.hid (V4.out.below hb9)
  have V6 := Lib.hid (V6.out.below hb9)
  have V7 := Lib.hid (V7.out.below hb9)
  have P := Lib.hid ((hb9.block w.heap.size hlo).trans P.out)
  have K := Lib.hid (below_step K.out (Nat.le_refl _) hb9)
  have hlo := (three_cells P.out).1
  have hs9 := hb9.size
  clear hb9
  have hS10 : Hid (∀ W, Below w9.heap.size w9 W → W.cell? ⟨w5.heap.size, 0, none⟩ = some (.slice A5 ss.length c5) ∧ W.cell? ⟨w5.heap.size, 1, none⟩ = some (.slice B5 ts.length d5) ∧ W.cell? ⟨w5.heap.size, 2, none⟩ = some (.string s) ∧ W.cell? ⟨w.heap.size, 0, none⟩ = some (.slice A n c) ∧ W.cell? ⟨w.heap.size, 1, none⟩ = some (.slice B m d) ∧ W.cell? ⟨w.heap.size, 2, none⟩ = some (.string s)) := Lib.hid fun W hW => by
    obtain ⟨r0, r1, r2⟩ := (V6.out.below hW).cells
    obtain ⟨-, r3, r4, r5, -⟩ := three_cells ((hW.block w.heap.size hlo).trans P.out)
    exact ⟨r0, r1, r2, r3, r4, r5⟩
  have hT10 := Lib.hid (fun W (hW : Below w9.heap.size w9 W) => hTo.out W (below_step K.out (Nat.le_refl _) hW))
  have hE10 := Lib.hid (fun (W W' : World) A' c' B' d' (hW : Below w9.heap.size w9 W) (o : TyO W' W.heap.size W'.heap.size A' ss.length c' B' ts.length d' ss ts) (hb : Below W.heap.size W W') => eqY_any A5 ss.length c5 ss B5 ts.length d5 ts s A' ss.length c' ss B' ts.length d' ts W' ((V6.out.below hW).below hb).rows.rows.1 ((V6.out.below hW).below hb).rows.rows.2 o.rows.1 o.rows.2 (by omega) (by omega))
  cases b
  all_goals
    go_wp2_with fail
    go_region_held3 (fun W => W.cell? ⟨w5.heap.size, 0, none⟩ = some (.slice A5 ss.length c5) ∧ W.cell? ⟨w5.heap.size, 1, none⟩ = some (.slice B5 ts.length d5) ∧ W.cell? ⟨w5.heap.size, 2, none⟩ = some (.string s) ∧ W.cell? ⟨w.heap.size, 0, none⟩ = some (.slice A n c) ∧ W.cell? ⟨w.heap.size, 1, none⟩ = some (.slice B m d) ∧ W.cell? ⟨w.heap.size, 2, none⟩ = some (.string s))
      (first | exact hS10.out _ (by repeat (with_reducible first | exact Below.refl _ _ | exact hbb | refine Below.drew ?_ | refine bb_alloc ?_ _ | refine below_step ?_ (Nat.le_refl _) hb1 | refine below_step ?_ (Nat.le_refl _) hb2 | refine below_step ?_ (Nat.le_refl _) hb3 | refine below_step ?_ (Nat.le_refl _) hb4)))
      (first
        | (go_at_call 7; refine Calls.mono (hT10.out _ (Below.refl _ _).drew) ?_; rintro e w10 ⟨A9, c9, B9, d9, rfl, o9, hb1⟩)
        | (go_at_call 9; refine Calls.mono (hE10.out _ w10 A9 c9 B9 d9 (Below.refl _ _).drew o9 hb1) ?_; rintro e w11 ⟨rfl, hb2⟩))
    have hb911 : Below w9.heap.size w9 w11 := (by repeat (with_reducible first | exact Below.refl _ _ | exact hbb | refine Below.drew ?_ | refine bb_alloc ?_ _ | refine below_step ?_ (Nat.le_refl _) hb1 | refine below_step ?_ (Nat.le_refl _) hb2 | refine below_step ?_ (Nat.le_refl _) hb3 | refine below_step ?_ (Nat.le_refl _) hb4))
    have V4 := Lib.hid (V4.out.below hb911)
    have V6 := Lib.hid (V6.out.below hb911)
    have V7 := Lib.hid (V7.out.below hb911)
    have P := Lib.hid ((hb911.block w.heap.size hlo).trans P.out)
    have K := Lib.hid (below_step K.out (Nat.le_refl _) hb911)
    have hlo := (three_cells P.out).1
    have hs11 := hb911.size
    clear hb911 hb1 hb2 o9 hS10 hT10 hE10
    obtain ⟨x0, x1, x2⟩ := V6.out.cells
    have xl := V6.out.lt
    go_wp2_with fail
    refine Calls.mono (markY_any 1 w4.heap.size w5.heap.size A5 ss.length c5 B5 ts.length d5 ss ts s w11 V6.out.rows (by omega) (by omega)) ?_
    rintro e w12 ⟨rfl, o12, hT12⟩
    have V4 := Lib.hid (V4.out.turn hT12 (by omega) (by omega))
    have V7 := Lib.hid (V7.out.turn hT12 (by omega) (by omega))
    have P := Lib.hid ((hT12.block w.heap.size hlo (by omega)).trans P.out)
    have K := Lib.hid (hT12.belows K.out (by omega))
    have hlo := (three_cells P.out).1
    clear o12 V6 x0 x1 x2 hT12
    obtain ⟨g0, g1, g2⟩ := V7.out.cells
    have gl := V7.out.lt
    obtain ⟨e0, e1, e2⟩ := V4.out.cells
    have el := V4.out.lt
    go_wp2_with fail
    refine Calls.mono (eqY_any A7 N.length c7 N B7 T.length d7 T Z A3 N.length c3 N B3 T.length d3 T w12 V7.out.rows.rows.1 V7.out.rows.rows.2 V4.out.rows.rows.1 V4.out.rows.rows.2 (by omega) (by omega)) ?_
    rintro e w13 ⟨rfl, hb13⟩
    clear g0 g1 g2 e0 e1 e2
    have V4 := Lib.hid (V4.out.below hb13)
    have V7 := Lib.hid (V7.out.below hb13)
    have P := Lib.hid ((hb13.block w.heap.size hlo).trans P.out)
    have K := Lib.hid (below_step K.out (Nat.le_refl _) hb13)
    have hlo := (three_cells P.out).1
    obtain ⟨g0, g1, g2⟩ := V7.out.cells
    have gl := V7.out.lt
    clear hb13
    go_wp2_with fail
    refine Calls.mono (markY_any 1 w6.heap.size w7.heap.size A7 N.length c7 B7 T.length d7 N T Z w13 V7.out.rows (by omega) (by omega)) ?_
    rintro e w14 ⟨rfl, o14, hT14⟩
    have V4 := Lib.hid (V4.out.turn hT14 (by omega) (by omega))
    have V7 := Lib.hid (TV.mk (s := Z) o14 ((hT14.block w7.heap.size V7.out.lt (by omega)).trans V7.out.box))
    have P := Lib.hid ((hT14.block w.heap.size hlo (by omega)).trans P.out)
    have K := Lib.hid (hT14.belows K.out (by omega))
    have hlo := (three_cells P.out).1
    clear o14 hT14 g0 g1 g2
    obtain ⟨g0, g1, g2⟩ := V7.out.cells
    have gl := V7.out.lt
    go_wp2_with fail
    refine Calls.mono (heldY_any 1 A7 N.length c7 B7 T.length d7 Z w14 V7.out.rows.rows.1 V7.out.rows.rows.2 (by omega) (by omega)) ?_
    rintro e w15 ⟨rfl, hb15⟩
    have V4 := Lib.hid (V4.out.below hb15)
    have V7 := Lib.hid (V7.out.below hb15)
    have P := Lib.hid ((hb15.block w.heap.size hlo).trans P.out)
    have K := Lib.hid (below_step K.out (Nat.le_refl _) hb15)
    have hlo := (three_cells P.out).1
    obtain ⟨-, a0, a1, a2, -, -, -⟩ := three_cells P.out
    clear hb15 g0 g1 g2
    go_wp2_with fail
    refine Calls.mono (hTo.out _ K.out) ?_
    rintro e w16 ⟨A16, c16, B16, d16, rfl, o16, hb16⟩
    have R16 := Lib.hid o16.rows
    have V4 := Lib.hid (V4.out.below hb16)
    have V7 := Lib.hid (V7.out.below hb16)
    have P := Lib.hid ((hb16.block w.heap.size hlo).trans P.out)
    have K := Lib.hid (below_step K.out (Nat.le_refl _) hb16)
    have hlo := (three_cells P.out).1
    clear o16 hb16 a0 a1 a2
    go_wp2_with fail
    refine Calls.mono (hI.out _ _ w16 A16 c16 B16 d16 R16.out.1 R16.out.2 (by omega) (by omega)) ?_
    rintro e w17 ⟨A17, c17, B17, d17, rfl, o17, hb17⟩
    have V4 := Lib.hid (V4.out.below hb17)
    have V7 := Lib.hid (V7.out.below hb17)
    have P := Lib.hid ((hb17.block w.heap.size hlo).trans P.out)
    have K := Lib.hid (below_step K.out (Nat.le_refl _) hb17)
    have hlo := (three_cells P.out).1
    have V12 := Lib.hid (tv_new o17 Z)
    clear o17 hb17 R16
    obtain ⟨e0, e1, e2⟩ := V4.out.cells
    have el := V4.out.lt
    go_wp2_with fail
    have hal : Below w17.heap.size w17 (w17.alloc (.cells #[.slice A17 N.length c17, .slice B17 T.length d17, .string Z] 26)) := bb_alloc (Below.refl _ _) _
    have hzw18 : (w17.alloc (.cells #[.slice A17 N.length c17, .slice B17 T.length d17, .string Z] 26)).heap.size = w17.heap.size + 1 := by simp
    have V4 := Lib.hid (V4.out.below hal)
    have V7 := Lib.hid (V7.out.below hal)
    have P := Lib.hid ((hal.block w.heap.size hlo).trans P.out)
    have K := Lib.hid (below_step K.out (Nat.le_refl _) hal)
    have hlo := (three_cells P.out).1
    generalize w17.alloc (.cells #[.slice A17 N.length c17, .slice B17 T.length d17, .string Z] 26) = w18 at *
    clear hal
    clear e0 e1 e2
    refine Calls.mono (eqY_any A17 N.length c17 N B17 T.length d17 T Z A3 N.length c3 N B3 T.length d3 T w18 V12.out.rows.rows.1 V12.out.rows.rows.2 V4.out.rows.rows.1 V4.out.rows.rows.2 (by omega) (by omega)) ?_
    rintro e w19 ⟨rfl, hb19⟩
    have V7 := Lib.hid (V7.out.below hb19)
    have P := Lib.hid ((hb19.block w.heap.size hlo).trans P.out)
    have K := Lib.hid (below_step K.out (Nat.le_refl _) hb19)
    have hlo := (three_cells P.out).1
    obtain ⟨g0, g1, g2⟩ := V7.out.cells
    have gl := V7.out.lt
    clear hb19
    go_wp2_with fail
    refine Calls.mono (heldY_any 1 A7 N.length c7 B7 T.length d7 Z w19 V7.out.rows.rows.1 V7.out.rows.rows.2 (by omega) (by omega)) ?_
    rintro e w20 ⟨rfl, hb20⟩
    have K := Lib.hid (below_step K.out (Nat.le_refl _) hb20)
    clear hb20 g0 g1 g2
    go_wp2_with fail
    go_ret
    exact ⟨rfl, K.out⟩

end Go.Proofs.Ytdbdcfijeeelkaa
