/- The law of TypeInstance as a call. -/
import Derived.Test.YtdbdcfijeeelkaaInstS
import Derived.Test.YtdbdcfijeeelkaaTyVar
import Derived.Deep.RegionHeld3
import Derived.Deep.Cut
import Derived.Deep.CutRange
import Derived.Deep.CutBlock
namespace Go.Proofs.Ytdbdcfijeeelkaa
set_option linter.unusedVariables false
open Go.RowKit

theorem row_cap {w : World} {base : Nat} {E : TypeId} {size : Nat} {A : Option Addr} {n c : Nat} {xs : List Value} (h : w.ownsRow base E size (.slice A n c) n xs) : n ≤ c := by
  rcases h.2 with ⟨e, h0⟩ | ⟨g, cap, cur, e, _, _, hc, _⟩
  · omega
  · injection e with _ _ e; omega
set_option maxRecDepth 100000 in
set_option maxHeartbeats 4000000 in
theorem lawTypeInstance (A : Option Addr) (n c : Nat) (ss : List ByteArray) (B : Option Addr) (m d : Nat) (ts : List ByteArray) (s : ByteArray) (A' : Option Addr) (n' c' : Nat) (ss' : List ByteArray) (B' : Option Addr) (m' d' : Nat) (ts' : List ByteArray) (s' : ByteArray) (w : World)
    (hA : ArgS w A n ss) (hB : ArgS w B m ts) (hs : s.size ≤ maxLen) (hn : n ≤ maxLen) (hm : m ≤ maxLen) (hA2 : ArgS w A' n' ss') (hB2 : ArgS w B' m' ts') (hs2 : s'.size ≤ maxLen) (hn2 : n' ≤ maxLen) (hm2 : m' ≤ maxLen) :
    Calls Try.prog 4 #[tyV A n c B m d s, tyV A' n' c' B' m' d' s'] w fun e w' => e = .returned (.bool true) ∧ Below w.heap.size w w' := by
  have hS := Lib.hid (fun W A1 c1 B1 d1 A2 c2 B2 d2 (r1 : ss.length ≤ 1100000) (r2 : ts.length ≤ 1100000) (r3 : ss'.length ≤ 1100000) (r4 : ts'.length ≤ 1100000) lo hi lo' hi' (o1 : TyO W lo hi A1 ss.length c1 B1 ts.length d1 ss ts) (o2 : TyO W lo' hi' A2 ss'.length c2 B2 ts'.length d2 ss' ts') =>
    specInst_any A1 ss.length c1 ss B1 ts.length d1 ts s A2 ss'.length c2 ss' B2 ts'.length d2 ts' s' W o1.rows.1 o1.rows.2 o2.rows.1 o2.rows.2 r1 r2 r3 r4 (row_cap o1.names) (row_cap o2.names))
  have hI := Lib.hid (fun W A1 c1 B1 d1 A2 c2 B2 d2 (r1 : ss.length ≤ 1100000) (r2 : ts.length ≤ 1100000) (r3 : ss'.length ≤ 1100000) (r4 : ts'.length ≤ 1100000) lo hi lo' hi' (o1 : TyO W lo hi A1 ss.length c1 B1 ts.length d1 ss ts) (o2 : TyO W lo' hi' A2 ss'.length c2 B2 ts'.length d2 ss' ts') =>
    implInst_any A1 ss.length c1 ss B1 ts.length d1 ts s A2 ss'.length c2 ss' B2 ts'.length d2 ts' s' W o1.rows.1 o1.rows.2 o2.rows.1 o2.rows.2 r1 r2 r3 r4)
  generalize instB (readTy ss ts s) (readTy ss' ts' s') = R at *
  have hlA := Lib.hid hA.1.1
  have hlB := Lib.hid hB.1.1
  have hlA2 := Lib.hid hA2.1.1
  have hlB2 := Lib.hid hB2.1.1
  have hA' := Lib.hid (fun W (hW : Below w.heap.size w W) => hA.below hW)
  have hB' := Lib.hid (fun W (hW : Below w.heap.size w W) => hB.below hW)
  have hA2' := Lib.hid (fun W (hW : Below w.heap.size w W) => hA2.below hW)
  have hB2' := Lib.hid (fun W (hW : Below w.heap.size w W) => hB2.below hW)
  clear hA hB hA2 hB2
  go_enter Try.func4, Try.ntmps4
  go_wp2_with fail
  have q0 := first_alloc w (.cells #[.slice A n c, .slice B m d, .string s] 24) (.cells #[.slice A' n' c', .slice B' m' d', .string s'] 24)
  have q1 := second_alloc w (.cells #[.slice A n c, .slice B m d, .string s] 24) (.cells #[.slice A' n' c', .slice B' m' d', .string s'] 24)
  have hb0 : Below w.heap.size w ((w.alloc (.cells #[.slice A n c, .slice B m d, .string s] 24)).alloc (.cells #[.slice A' n' c', .slice B' m' d', .string s'] 24)) := bb_alloc (bb_alloc (Below.refl _ _) _) _
  have hz : ((w.alloc (.cells #[.slice A n c, .slice B m d, .string s] 24)).alloc (.cells #[.slice A' n' c', .slice B' m' d', .string s'] 24)).heap.size = w.heap.size + 2 := by simp
  generalize ((w.alloc (.cells #[.slice A n c, .slice B m d, .string s] 24)).alloc (.cells #[.slice A' n' c', .slice B' m' d', .string s'] 24)) = w0 at *
  have K0 := Lib.hid hb0
  have hK : Hid (∀ W, Below w0.heap.size w0 W → W.cell? ⟨w.heap.size, 0, none⟩ = some (.slice A n c) ∧ W.cell? ⟨w.heap.size, 1, none⟩ = some (.slice B m d) ∧ W.cell? ⟨w.heap.size, 2, none⟩ = some (.string s) ∧
      W.cell? ⟨w.heap.size + 1, 0, none⟩ = some (.slice A' n' c') ∧ W.cell? ⟨w.heap.size + 1, 1, none⟩ = some (.slice B' m' d') ∧ W.cell? ⟨w.heap.size + 1, 2, none⟩ = some (.string s') ∧ w.heap.size + 1 < W.heap.size) := Lib.hid fun W hW => by
    obtain ⟨z0, a0, a1, a2, -⟩ := three_cells ((hW.block w.heap.size (by omega)).trans q0)
    obtain ⟨z1, e0, e1, e2, -⟩ := three_cells ((hW.block (w.heap.size + 1) (by omega)).trans q1)
    exact ⟨a0, a1, a2, e0, e1, e2, z1⟩
  have hsz := Lib.hid (szY_any A n c ss B m d ts s 1048576 w0 (hA'.out _ hb0) (hB'.out _ hb0) hs hn hm (by omega) (by omega))
  clear hb0 q0 q1
  refine Calls.mono hsz.out ?_
  rintro e w1 ⟨⟨r, rfl, hr1, hr2, hr3⟩, hb1⟩
  have K1 := Lib.hid hb1
  obtain ⟨a0, a1, a2, e0, e1, e2, esz⟩ := hK.out w1 hb1
  clear hb1 hsz
  by_cases hneg : r < 0
  · go_wp2_with fail
    go_ret
    exact ⟨rfl, below_step K0.out (Nat.le_refl _) K1.out⟩
  have h37 := hr3 (by omega)
  have hsz2 := Lib.hid (szY_any A' n' c' ss' B' m' d' ts' s' r w1 (hA2'.out _ (below_step K0.out (Nat.le_refl _) K1.out)) (hB2'.out _ (below_step K0.out (Nat.le_refl _) K1.out)) hs2 hn2 hm2 (by omega) (by omega))
  go_wp2_with fail
  refine Calls.mono hsz2.out ?_
  rintro e w2 ⟨⟨r2, rfl, hr12, hr22, hr32⟩, hb2⟩
  have K2 := Lib.hid (below_step K1.out (Nat.le_refl _) hb2)
  obtain ⟨a0, a1, a2, e0, e1, e2, esz⟩ := hK.out w2 K2.out
  clear hb2 hsz2
  by_cases hneg2 : r2 < 0
  · go_wp2_with fail
    go_ret
    exact ⟨rfl, below_step K0.out (Nat.le_refl _) K2.out⟩
  have h32 := hr32 (by omega)
  have l1 : ss.length ≤ 1100000 := by have := hlA.out; omega
  have l2 : ts.length ≤ 1100000 := by have := hlB.out; omega
  have l3 : ss'.length ≤ 1100000 := by have := hlA2.out; omega
  have l4 : ts'.length ≤ 1100000 := by have := hlB2.out; omega
  have hT1 := Lib.hid (fun W (hW : Below w0.heap.size w0 W) => toY_any A n c ss B m d ts s W (hA'.out _ (below_step K0.out (Nat.le_refl _) hW)).1 (hB'.out _ (below_step K0.out (Nat.le_refl _) hW)).1 (by omega) (by omega))
  have hT2 := Lib.hid (fun W (hW : Below w0.heap.size w0 W) => toY_any A' n' c' ss' B' m' d' ts' s' W (hA2'.out _ (below_step K0.out (Nat.le_refl _) hW)).1 (hB2'.out _ (below_step K0.out (Nat.le_refl _) hW)).1 (by omega) (by omega))
  clear hr1 hr2 hr3 hr12 hr22 hr32 h37 h32
  go_upto_region 8 with fail
  go_cut [6] from 20 to 24 (fun v wx => v = .bool R ∧ Below w0.heap.size w0 wx)
  case first =>
    have hS8 : Hid (∀ W, Below w2.heap.size w2 W → W.cell? ⟨w.heap.size, 0, none⟩ = some (.slice A n c) ∧ W.cell? ⟨w.heap.size, 1, none⟩ = some (.slice B m d) ∧ W.cell? ⟨w.heap.size, 2, none⟩ = some (.string s) ∧
      W.cell? ⟨w.heap.size + 1, 0, none⟩ = some (.slice A' n' c') ∧ W.cell? ⟨w.heap.size + 1, 1, none⟩ = some (.slice B' m' d') ∧ W.cell? ⟨w.heap.size + 1, 2, none⟩ = some (.string s')) := Lib.hid fun W hW => by
      obtain ⟨a0, a1, a2, e0, e1, e2, -⟩ := hK.out W (below_step K2.out (Nat.le_refl _) hW)
      exact ⟨a0, a1, a2, e0, e1, e2⟩
    go_region_held3 (fun W => W.cell? ⟨w.heap.size, 0, none⟩ = some (.slice A n c) ∧ W.cell? ⟨w.heap.size, 1, none⟩ = some (.slice B m d) ∧ W.cell? ⟨w.heap.size, 2, none⟩ = some (.string s) ∧
      W.cell? ⟨w.heap.size + 1, 0, none⟩ = some (.slice A' n' c') ∧ W.cell? ⟨w.heap.size + 1, 1, none⟩ = some (.slice B' m' d') ∧ W.cell? ⟨w.heap.size + 1, 2, none⟩ = some (.string s'))
      (first | exact hS8.out _ (by repeat (with_reducible first | exact Below.refl _ _ | exact hbb | refine Below.drew ?_ | refine bb_alloc ?_ _ | refine below_step ?_ (Nat.le_refl _) hb1 | refine below_step ?_ (Nat.le_refl _) hb2 | refine below_step ?_ (Nat.le_refl _) hb3 | refine below_step ?_ (Nat.le_refl _) hb4)))
      (first
        | (go_at_call_of 7 A; refine Calls.mono (hT1.out _ (below_step K2.out (Nat.le_refl _) (by repeat (with_reducible first | exact Below.refl _ _ | exact hbb | refine Below.drew ?_ | refine bb_alloc ?_ _ | refine below_step ?_ (Nat.le_refl _) hb1 | refine below_step ?_ (Nat.le_refl _) hb2 | refine below_step ?_ (Nat.le_refl _) hb3 | refine below_step ?_ (Nat.le_refl _) hb4)))) ?_; rintro e w3 ⟨A1, c1, B1, d1, rfl, o1, hb1⟩)
        | (go_at_call_of 7 A'; refine Calls.mono (hT2.out _ (below_step K2.out (Nat.le_refl _) (by repeat (with_reducible first | exact Below.refl _ _ | exact hbb | refine Below.drew ?_ | refine bb_alloc ?_ _ | refine below_step ?_ (Nat.le_refl _) hb1 | refine below_step ?_ (Nat.le_refl _) hb2 | refine below_step ?_ (Nat.le_refl _) hb3 | refine below_step ?_ (Nat.le_refl _) hb4)))) ?_; rintro e w4 ⟨A2, c2, B2, d2, rfl, o2, hb2⟩)
        | (go_at_call 12; refine Calls.mono (hS.out _ A1 c1 B1 d1 A2 c2 B2 d2 l1 l2 l3 l4 _ _ _ _ (by first | exact o1 | exact o1.below hb2) (by first | exact o2 | exact o2.below hb1)) ?_; rintro e w5 ⟨rfl, hb3⟩))
    all_goals
      go_wp2_with fail
      go_meet
      exact ⟨rfl, below_step K2.out (Nat.le_refl _) (by repeat (with_reducible first | exact Below.refl _ _ | exact hbb | refine Below.drew ?_ | refine bb_alloc ?_ _ | refine below_step ?_ (Nat.le_refl _) hb1 | refine below_step ?_ (Nat.le_refl _) hb2 | refine below_step ?_ (Nat.le_refl _) hb3 | refine below_step ?_ (Nat.le_refl _) hb4))⟩
  case rest =>
    obtain ⟨rfl, hbx⟩ := hcut
    have Kx := Lib.hid hbx
    obtain ⟨a0, a1, a2, e0, e1, e2, esz⟩ := hK.out _ hbx
    clear hbx
    go_wp2_with fail
    refine Calls.mono (hT1.out _ Kx.out) ?_
    rintro e w3 ⟨A5, c5, B5, d5, rfl, o5, hb5⟩
    have V5 := Lib.hid (tv_new o5 s)
    have K3 := Lib.hid (below_step Kx.out (Nat.le_refl _) hb5)
    obtain ⟨a0, a1, a2, e0, e1, e2, esz⟩ := hK.out w3 K3.out
    clear o5 hb5
    go_wp2_with fail
    have hal : Below w3.heap.size w3 (w3.alloc (.cells #[.slice A5 ss.length c5, .slice B5 ts.length d5, .string s] 26)) := bb_alloc (Below.refl _ _) _
    have K4 := Lib.hid (below_step K3.out (Nat.le_refl _) hal)
    have hz4 : (w3.alloc (.cells #[.slice A5 ss.length c5, .slice B5 ts.length d5, .string s] 26)).heap.size = w3.heap.size + 1 := by simp
    generalize w3.alloc (.cells #[.slice A5 ss.length c5, .slice B5 ts.length d5, .string s] 26) = w4 at *
    clear hal a0 a1 a2 e0 e1 e2
    refine Calls.mono (hT2.out w4 K4.out) ?_
    rintro e w5 ⟨A6, c6, B6, d6, rfl, o6, hb6⟩
    have V5 := Lib.hid (V5.out.below hb6)
    have V6 := Lib.hid (tv_new o6 s')
    have K5 := Lib.hid (below_step K4.out (Nat.le_refl _) hb6)
    have hs5 := hb6.size
    clear o6 hb6
    obtain ⟨e0, e1, e2⟩ := V5.out.cells
    have el := V5.out.lt
    go_wp2_with fail
    have hal : Below w5.heap.size w5 (w5.alloc (.cells #[.slice A6 ss'.length c6, .slice B6 ts'.length d6, .string s'] 26)) := bb_alloc (Below.refl _ _) _
    have V5 := Lib.hid (V5.out.below hal)
    have K6 := Lib.hid (below_step K5.out (Nat.le_refl _) hal)
    generalize w5.alloc (.cells #[.slice A6 ss'.length c6, .slice B6 ts'.length d6, .string s'] 26) = w6 at *
    clear hal e0 e1 e2
    refine Calls.mono (hI.out w6 A5 c5 B5 d5 A6 c6 B6 d6 l1 l2 l3 l4 _ _ _ _ V5.out.rows V6.out.rows) ?_
    rintro e w7 ⟨rfl, hb7⟩
    have V5 := Lib.hid (V5.out.below hb7)
    have V6 := Lib.hid (V6.out.below hb7)
    have K7 := Lib.hid (below_step K6.out (Nat.le_refl _) hb7)
    clear hb7
    have hS14 : Hid (∀ W, Below w7.heap.size w7 W → W.cell? ⟨w3.heap.size, 0, none⟩ = some (.slice A5 ss.length c5) ∧ W.cell? ⟨w3.heap.size, 1, none⟩ = some (.slice B5 ts.length d5) ∧ W.cell? ⟨w3.heap.size, 2, none⟩ = some (.string s) ∧
        W.cell? ⟨w.heap.size, 0, none⟩ = some (.slice A n c) ∧ W.cell? ⟨w.heap.size, 1, none⟩ = some (.slice B m d) ∧ W.cell? ⟨w.heap.size, 2, none⟩ = some (.string s)) := Lib.hid fun W hW => by
      obtain ⟨r0, r1, r2⟩ := (V5.out.below hW).cells
      obtain ⟨a0, a1, a2, -⟩ := hK.out W (below_step K7.out (Nat.le_refl _) hW)
      exact ⟨r0, r1, r2, a0, a1, a2⟩
    have hE14 := Lib.hid (fun (W W' : World) A9 c9 B9 d9 (hW : Below w7.heap.size w7 W) (o : TyO W' W.heap.size W'.heap.size A9 ss.length c9 B9 ts.length d9 ss ts) (hb : Below W.heap.size W W') => eqY_any A5 ss.length c5 ss B5 ts.length d5 ts s A9 ss.length c9 ss B9 ts.length d9 ts W' ((V5.out.below hW).below hb).rows.rows.1 ((V5.out.below hW).below hb).rows.rows.2 o.rows.1 o.rows.2 (by omega) (by omega))
    cases R
    all_goals
      go_wp2_with fail
      go_region_held3 (fun W => W.cell? ⟨w3.heap.size, 0, none⟩ = some (.slice A5 ss.length c5) ∧ W.cell? ⟨w3.heap.size, 1, none⟩ = some (.slice B5 ts.length d5) ∧ W.cell? ⟨w3.heap.size, 2, none⟩ = some (.string s) ∧
          W.cell? ⟨w.heap.size, 0, none⟩ = some (.slice A n c) ∧ W.cell? ⟨w.heap.size, 1, none⟩ = some (.slice B m d) ∧ W.cell? ⟨w.heap.size, 2, none⟩ = some (.string s))
        (first | exact hS14.out _ (by repeat (with_reducible first | exact Below.refl _ _ | exact hbb | refine Below.drew ?_ | refine bb_alloc ?_ _ | refine below_step ?_ (Nat.le_refl _) hb1 | refine below_step ?_ (Nat.le_refl _) hb2 | refine below_step ?_ (Nat.le_refl _) hb3 | refine below_step ?_ (Nat.le_refl _) hb4)))
        (first
          | (go_at_call 7; refine Calls.mono (hT1.out _ (below_step K7.out (Nat.le_refl _) (Below.refl _ _).drew)) ?_; rintro e w10 ⟨A9, c9, B9, d9, rfl, o9, hb1⟩)
          | (go_at_call 9; refine Calls.mono (hE14.out _ w10 A9 c9 B9 d9 (Below.refl _ _).drew o9 hb1) ?_; rintro e w11 ⟨rfl, hb2⟩))
      have hb711 : Below w7.heap.size w7 w11 := (by repeat (with_reducible first | exact Below.refl _ _ | exact hbb | refine Below.drew ?_ | refine bb_alloc ?_ _ | refine below_step ?_ (Nat.le_refl _) hb1 | refine below_step ?_ (Nat.le_refl _) hb2 | refine below_step ?_ (Nat.le_refl _) hb3 | refine below_step ?_ (Nat.le_refl _) hb4))
      have V6 := Lib.hid (V6.out.below hb711)
      have K11 := Lib.hid (below_step K7.out (Nat.le_refl _) hb711)
      clear hb711 hb1 hb2 o9 hS14 hE14
      have hS16 : Hid (∀ W, Below w11.heap.size w11 W → W.cell? ⟨w5.heap.size, 0, none⟩ = some (.slice A6 ss'.length c6) ∧ W.cell? ⟨w5.heap.size, 1, none⟩ = some (.slice B6 ts'.length d6) ∧ W.cell? ⟨w5.heap.size, 2, none⟩ = some (.string s') ∧
          W.cell? ⟨w.heap.size + 1, 0, none⟩ = some (.slice A' n' c') ∧ W.cell? ⟨w.heap.size + 1, 1, none⟩ = some (.slice B' m' d') ∧ W.cell? ⟨w.heap.size + 1, 2, none⟩ = some (.string s')) := Lib.hid fun W hW => by
        obtain ⟨r0, r1, r2⟩ := (V6.out.below hW).cells
        obtain ⟨-, -, -, a0, a1, a2, -⟩ := hK.out W (below_step K11.out (Nat.le_refl _) hW)
        exact ⟨r0, r1, r2, a0, a1, a2⟩
      have hE16 := Lib.hid (fun (W W' : World) A9 c9 B9 d9 (hW : Below w11.heap.size w11 W) (o : TyO W' W.heap.size W'.heap.size A9 ss'.length c9 B9 ts'.length d9 ss' ts') (hb : Below W.heap.size W W') => eqY_any A6 ss'.length c6 ss' B6 ts'.length d6 ts' s' A9 ss'.length c9 ss' B9 ts'.length d9 ts' W' ((V6.out.below hW).below hb).rows.rows.1 ((V6.out.below hW).below hb).rows.rows.2 o.rows.1 o.rows.2 (by omega) (by omega))
      go_wp2_with fail
      go_region_held3 (fun W => W.cell? ⟨w5.heap.size, 0, none⟩ = some (.slice A6 ss'.length c6) ∧ W.cell? ⟨w5.heap.size, 1, none⟩ = some (.slice B6 ts'.length d6) ∧ W.cell? ⟨w5.heap.size, 2, none⟩ = some (.string s') ∧
          W.cell? ⟨w.heap.size + 1, 0, none⟩ = some (.slice A' n' c') ∧ W.cell? ⟨w.heap.size + 1, 1, none⟩ = some (.slice B' m' d') ∧ W.cell? ⟨w.heap.size + 1, 2, none⟩ = some (.string s'))
        (first | exact hS16.out _ (by repeat (with_reducible first | exact Below.refl _ _ | exact hbb | refine Below.drew ?_ | refine bb_alloc ?_ _ | refine below_step ?_ (Nat.le_refl _) hb1 | refine below_step ?_ (Nat.le_refl _) hb2 | refine below_step ?_ (Nat.le_refl _) hb3 | refine below_step ?_ (Nat.le_refl _) hb4)))
        (first
          | (go_at_call 7; refine Calls.mono (hT2.out _ (below_step K11.out (Nat.le_refl _) (Below.refl _ _).drew)) ?_; rintro e w12 ⟨A9, c9, B9, d9, rfl, o9, hb1⟩)
          | (go_at_call 9; refine Calls.mono (hE16.out _ w12 A9 c9 B9 d9 (Below.refl _ _).drew o9 hb1) ?_; rintro e w13 ⟨rfl, hb2⟩))
      have hb1113 : Below w11.heap.size w11 w13 := (by repeat (with_reducible first | exact Below.refl _ _ | exact hbb | refine Below.drew ?_ | refine bb_alloc ?_ _ | refine below_step ?_ (Nat.le_refl _) hb1 | refine below_step ?_ (Nat.le_refl _) hb2 | refine below_step ?_ (Nat.le_refl _) hb3 | refine below_step ?_ (Nat.le_refl _) hb4))
      go_wp2_with fail
      go_ret
      exact ⟨rfl, below_step K0.out (Nat.le_refl _) (below_step K11.out (Nat.le_refl _) hb1113)⟩

end Go.Proofs.Ytdbdcfijeeelkaa
