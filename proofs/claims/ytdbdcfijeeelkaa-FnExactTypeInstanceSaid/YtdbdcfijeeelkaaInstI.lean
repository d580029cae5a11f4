/- impl.TypeInstance. -/
import Derived.Test.YtdbdcfijeeelkaaInst
import Derived.Test.YtdbdcfijeeelkaaInstN
import Derived.Deep.RegionHeld3
import Derived.Deep.Cut
import Derived.Deep.CutRange
import Derived.Deep.CutBlock
namespace Go.Proofs.Ytdbdcfijeeelkaa
set_option linter.unusedVariables false
open Go.RowKit Go.Maps

def preB : Option Ty → Option Ty → Bool
  | some y, some z => decide y.ns.Nodup && decide (y.ns = z.ns)
  | _, _ => false
theorem preB_some {o1 o2 : Option Ty} (h : preB o1 o2 = true) : ∃ y z, o1 = some y ∧ o2 = some z ∧ y.ns = z.ns ∧ instB o1 o2 = instTy y z := by
  cases o1 with
  | none => cases h
  | some y => cases o2 with
    | none => cases h
    | some z =>
      simp only [preB, Bool.and_eq_true, decide_eq_true_eq] at h
      exact ⟨y, z, rfl, rfl, h.2, by show (decide y.ns.Nodup && decide (y.ns = z.ns) && instTy y z) = _; rw [decide_eq_true h.1, decide_eq_true h.2]; rfl⟩
theorem preB_none {o1 o2 : Option Ty} (h : preB o1 o2 = false) : instB o1 o2 = false := by
  cases o1 with
  | none => rfl
  | some y => cases o2 with
    | none => rfl
    | some z =>
      simp only [preB] at h
      simp only [instB, h, Bool.false_and]
theorem isName_ne2 {x : Bs} (h : isName x = true) : x ≠ [] ∧ x.length ≤ 100 := by
  cases x with
  | nil => cases h
  | cons c d => exact ⟨by simp, by have := isName_len h; simp; omega⟩
theorem grown_drewI {w w' : World} {row : Option Nat} (h : w.grownBy w' row) : w.grownBy w'.drew row := ⟨h.os, h.tape, h.output, h.size, h.block⟩
theorem made_im (w : World) : IM (w.alloc (.map #[] 0)) w.heap.size [] := ⟨0, Nat.zero_le _, World.ownsMap_made (H := Unit) w Try.prog 9 (plainElem Try.prog 9)⟩

set_option maxRecDepth 100000 in
set_option maxHeartbeats 4000000 in
theorem implInst_any (A : Option Addr) (n c : Nat) (ss : List ByteArray) (B : Option Addr) (m d : Nat) (ts : List ByteArray) (s : ByteArray) (A' : Option Addr) (n' c' : Nat) (ss' : List ByteArray) (B' : Option Addr) (m' d' : Nat) (ts' : List ByteArray) (s' : ByteArray) (w : World)
    (hA : RowS w A n ss) (hB : RowS w B m ts) (hA2 : RowS w A' n' ss') (hB2 : RowS w B' m' ts') (hn : n ≤ 1100000) (hm : m ≤ 1100000) (hn' : n' ≤ 1100000) (hm' : m' ≤ 1100000) :
    Calls Try.prog 13 #[tyV A n c B m d s, tyV A' n' c' B' m' d' s'] w fun e w' => e = .returned (.bool (instB (readTy ss ts s) (readTy ss' ts' s'))) ∧ Below w.heap.size w w' := by
  have hr1 := Lib.hid (fun W (hW : Below w.heap.size w W) => readTyping_any A n c ss B m d ts s W (hA.below hW) (hB.below hW) (by omega) (by omega))
  have hr2 := Lib.hid (fun W (hW : Below w.heap.size w W) => readTyping_any A' n' c' ss' B' m' d' ts' s' W (hA2.below hW) (hB2.below hW) (by omega) (by omega))
  have hv1 := Lib.hid (fun y (h : readTy ss ts s = some y) => readTy_inv h)
  have hv2 := Lib.hid (fun y (h : readTy ss' ts' s' = some y) => readTy_inv h)
  have hla := Lib.hid hA.1
  have hla' := Lib.hid hA2.1
  generalize readTy ss ts s = o1 at *
  generalize readTy ss' ts' s' = o2 at *
  clear hA hB hA2 hB2
  go_enter Try.func13, Try.ntmps13
  go_upto_region 1 with fail
  have q0 := first_alloc w (.cells #[.slice A n c, .slice B m d, .string s] 26) (.cells #[.slice A' n' c', .slice B' m' d', .string s'] 26)
  have q1 := second_alloc w (.cells #[.slice A n c, .slice B m d, .string s] 26) (.cells #[.slice A' n' c', .slice B' m' d', .string s'] 26)
  have hb0 : Below w.heap.size w ((w.alloc (.cells #[.slice A n c, .slice B m d, .string s] 26)).alloc (.cells #[.slice A' n' c', .slice B' m' d', .string s'] 26)) := bb_alloc (bb_alloc (Below.refl _ _) _) _
  have hz : ((w.alloc (.cells #[.slice A n c, .slice B m d, .string s] 26)).alloc (.cells #[.slice A' n' c', .slice B' m' d', .string s'] 26)).heap.size = w.heap.size + 2 := by simp
  generalize ((w.alloc (.cells #[.slice A n c, .slice B m d, .string s] 26)).alloc (.cells #[.slice A' n' c', .slice B' m' d', .string s'] 26)) = w0 at *
  have hb0' := Lib.hid hb0
  obtain ⟨z0, a0, a1, a2, -, -, -⟩ := three_cells q0
  obtain ⟨z1, e0, e1, e2, -, -, -⟩ := three_cells q1
  clear hb0
  go_cut [5, 6] from 11 to 15 (fun p b wx => b = .bool o1.isSome ∧ ∃ (w1 : World) (A2 : Option Addr) (n2 c2 : Nat) (B2 : Option Addr) (m2 d2 : Nat) (wh : Option F), p = .pointer (some ⟨w1.heap.size, 0, none⟩) ∧ wx = w1.alloc (.cells #[.slice A2 n2 c2, .slice B2 m2 d2, fvO wh] 45) ∧
      Below w0.heap.size w0 w1 ∧ ∀ y, o1 = some y → TyIn w1 w0.heap.size y A2 n2 c2 B2 m2 d2 ∧ y.wh = wh)
  case first =>
    go_wp2_with fail
    refine Calls.mono (hr1.out w0 hb0'.out) ?_
    rintro e w1 ⟨hb1, A2, n2, c2, B2, m2, d2, wh, rfl, hty⟩
    have hb1' := Lib.hid hb1
    have hty' := Lib.hid hty
    clear hb1 hty
    cases wh with
    | none =>
      rw [show fvO none = .nilIface from rfl]
      go_wp2_with fail
      go_meet
      exact ⟨rfl, w1, A2, n2, c2, B2, m2, d2, none, rfl, rfl, hb1'.out, hty'.out⟩
    | some f =>
      rw [show fvO (some f) = .iface (ft f) (fi f) from rfl]
      go_wp2_with fail
      go_meet
      exact ⟨rfl, w1, A2, n2, c2, B2, m2, d2, some f, rfl, rfl, hb1'.out, hty'.out⟩
  case rest =>
    obtain ⟨rfl, w1, A2, n2, c2, B2, m2, d2, wh, rfl, rfl, hb1, hty⟩ := hcut
    have hbw1 := Lib.hid (below_step hb0'.out (Nat.le_refl _) hb1)
    have hs1 := hb1.size
    have hty1 := Lib.hid (fun W (hW : Below w1.heap.size w1 W) y (h : o1 = some y) => (show RowN W A2 n2 y.ns ∧ RowF w0.heap.size W B2 m2 y.fs ∧ y.wh = wh from ⟨(hty y h).1.1.below hW, (hty y h).1.2.below hW, (hty y h).2⟩))
    have p1 := (hb1.block (w.heap.size + 1) (by omega)).trans q1
    have hal : Below w1.heap.size w1 (w1.alloc (.cells #[.slice A2 n2 c2, .slice B2 m2 d2, fvO wh] 45)) := bb_alloc (Below.refl _ _) _
    have k5 := heap_alloc_new w1 (.cells #[.slice A2 n2 c2, .slice B2 m2 d2, fvO wh] 45)
    have hz2 : (w1.alloc (.cells #[.slice A2 n2 c2, .slice B2 m2 d2, fvO wh] 45)).heap.size = w1.heap.size + 1 := by simp
    have p2 := (hal.block (w.heap.size + 1) (by omega)).trans p1
    generalize w1.alloc (.cells #[.slice A2 n2 c2, .slice B2 m2 d2, fvO wh] 45) = w2 at *
    have hal' := Lib.hid hal
    have hbw2 := Lib.hid (below_step hbw1.out (Nat.le_refl _) hal)
    have k5' := Lib.hid k5
    clear q0 q1 hb1 hty hr1 a0 a1 a2 e0 e1 e2 p1 hal k5
    obtain ⟨z1, e0, e1, e2, -, -, -⟩ := three_cells p2
    go_upto_region 2 with fail
    go_cut [7, 8] from 16 to 20 (fun p b wx => b = .bool o2.isSome ∧ ∃ (w3 : World) (A3 : Option Addr) (n3 c3 : Nat) (B3 : Option Addr) (m3 d3 : Nat) (wh' : Option F), p = .pointer (some ⟨w3.heap.size, 0, none⟩) ∧ wx = w3.alloc (.cells #[.slice A3 n3 c3, .slice B3 m3 d3, fvO wh'] 45) ∧
        Below w2.heap.size w2 w3 ∧ ∀ y, o2 = some y → TyIn w3 w2.heap.size y A3 n3 c3 B3 m3 d3 ∧ y.wh = wh')
    case first =>
      go_wp2_with fail
      refine Calls.mono (hr2.out w2 hbw2.out) ?_
      rintro e w3 ⟨hb1, A3, n3, c3, B3, m3, d3, wh', rfl, hty⟩
      have hb1' := Lib.hid hb1
      have hty' := Lib.hid hty
      clear hb1 hty
      cases wh' with
      | none =>
        rw [show fvO none = .nilIface from rfl]
        go_wp2_with fail
        go_meet
        exact ⟨rfl, w3, A3, n3, c3, B3, m3, d3, none, rfl, rfl, hb1'.out, hty'.out⟩
      | some f =>
        rw [show fvO (some f) = .iface (ft f) (fi f) from rfl]
        go_wp2_with fail
        go_meet
        exact ⟨rfl, w3, A3, n3, c3, B3, m3, d3, some f, rfl, rfl, hb1'.out, hty'.out⟩
    case rest =>
      obtain ⟨rfl, w3, A3, n3, c3, B3, m3, d3, wh', rfl, rfl, hb3, hty⟩ := hcut
      have hs3 := hb3.size
      have hal : Below w3.heap.size w3 (w3.alloc (.cells #[.slice A3 n3 c3, .slice B3 m3 d3, fvO wh'] 45)) := bb_alloc (Below.refl _ _) _
      have k7 := heap_alloc_new w3 (.cells #[.slice A3 n3 c3, .slice B3 m3 d3, fvO wh'] 45)
      have hz4 : (w3.alloc (.cells #[.slice A3 n3 c3, .slice B3 m3 d3, fvO wh'] 45)).heap.size = w3.heap.size + 1 := by simp
      generalize w3.alloc (.cells #[.slice A3 n3 c3, .slice B3 m3 d3, fvO wh'] 45) = w4 at *
      have hb14 := below_step hal'.out (Nat.le_refl _) (below_step hb3 (Nat.le_refl _) hal)
      have hT1 := Lib.hid (hty1.out w4 hb14)
      have hT2 := Lib.hid (fun y (h : o2 = some y) => (show RowN w4 A3 n3 y.ns ∧ RowF w2.heap.size w4 B3 m3 y.fs ∧ y.wh = wh' from ⟨(hty y h).1.1.below hal, (hty y h).1.2.below hal, (hty y h).2⟩))
      have k5 := ((below_step hb3 (Nat.le_refl _) hal : Below w2.heap.size w2 w4).block w1.heap.size (by omega)).trans k5'.out
      have hbw4 := Lib.hid (below_step hbw2.out (Nat.le_refl _) (below_step hb3 (Nat.le_refl _) hal))
      have k5' := Lib.hid k5
      have k7' := Lib.hid k7
      obtain ⟨y5, a0, a1, a2, -, -, -⟩ := three_cells k5
      obtain ⟨y7, b0, b1, b2, -, -, -⟩ := three_cells k7
      clear hty1 hty hr2 e0 e1 e2 p2 hal hb3 hb14 k5 k7 hal' hbw1 hbw2
      go_upto_region 3 with fail
      go_cut [38] from 21 to 38 (fun b wx => b = .bool (!preB o1 o2) ∧ Below w4.heap.size w4 wx)
      case first =>
        cases o1 with
        | none =>
          rw [show (none : Option Ty).isSome = false from rfl]
          go_wp2_with fail
          go_meet
          exact ⟨rfl, Below.refl _ _⟩
        | some y =>
          rw [show (some y : Option Ty).isSome = true from rfl]
          cases o2 with
          | none =>
            rw [show (none : Option Ty).isSome = false from rfl]
            go_wp2_with fail
            go_meet
            exact ⟨rfl, Below.refl _ _⟩
          | some z =>
            rw [show (some z : Option Ty).isSome = true from rfl]
            obtain ⟨hN1, -, -⟩ := hT1.out y rfl
            obtain ⟨hN2, -, -⟩ := hT2.out z rfl
            obtain ⟨-, hq1, -, -⟩ := hv1.out y rfl
            obtain ⟨-, hq2, -, -⟩ := hv2.out z rfl
            have hl1 := Lib.hid (show n2 ≤ 10000000 by have := hN1.1; have := readNs_length hq1; have := hla.out; omega)
            have hl2 := Lib.hid (show n3 ≤ 10000000 by have := hN2.1; have := readNs_length hq2; have := hla'.out; omega)
            have hH := Lib.hid (hasTwice_any A2 n2 c2 y.ns B2 m2 d2 wh w4 hN1 hl1.out (fun x hx => isName_ne2 (readNs_ok hq1 x hx)))
            have hE := Lib.hid (fun W (hW : Below w4.heap.size w4 W) => equalN_any A2 n2 c2 y.ns A3 n3 c3 z.ns W (hN1.below hW) (hN2.below hW) hl1.out hl2.out (fun x hx => (isName_ne2 (readNs_ok hq1 x hx)).1) (fun x hx => (isName_ne2 (readNs_ok hq2 x hx)).1))
            have hpre : preB (some y) (some z) = (decide y.ns.Nodup && decide (y.ns = z.ns)) := rfl
            clear hN1 hN2 hq1 hq2
            cases hd : decide y.ns.Nodup
            · rw [hd] at hH hpre
              clear hd
              go_wp2_with (first | (go_at_call 30; refine Calls.mono hH.out ?_; rintro e w5 ⟨rfl, hb5⟩))
              go_meet
              exact ⟨by rw [hpre]; rfl, hb5⟩
            · rw [hd] at hH hpre
              clear hd
              cases he : decide (y.ns = z.ns)
              all_goals
                rw [he] at hE hpre
                clear he
                go_wp2_with (first | (go_at_call 30; refine Calls.mono hH.out ?_; rintro e w5 ⟨rfl, hb5⟩; obtain ⟨-, t0, t1, t2, -⟩ := three_cells ((hb5.block w1.heap.size y5).trans k5'.out); obtain ⟨-, t3, t4, t5, -⟩ := three_cells ((hb5.block w3.heap.size y7).trans k7'.out)) | (go_at_call 31; refine Calls.mono (hE.out _ hb5) ?_; rintro e w6 ⟨rfl, hb6⟩))
                go_meet
                exact ⟨by rw [hpre]; rfl, below_step hb5 (Nat.le_refl _) hb6⟩
      case rest =>
        obtain ⟨rfl, hb5⟩ := hcut
        have hbw5 := Lib.hid (below_step hbw4.out (Nat.le_refl _) hb5)
        have hs5 := hb5.size
        have k5 := (hb5.block w1.heap.size y5).trans k5'.out
        have k7 := (hb5.block w3.heap.size y7).trans k7'.out
        clear a0 a1 a2 b0 b1 b2 k5' k7'
        cases hp : preB o1 o2
        · have hr := Lib.hid (preB_none hp)
          clear hp
          go_wp2_with fail
          go_ret
          exact ⟨by rw [hr.out]; rfl, hbw5.out⟩
        · obtain ⟨y, z, rfl, rfl, hyz, hfin⟩ := preB_some hp
          obtain ⟨-, hF1, hw1⟩ := hT1.out y rfl
          obtain ⟨-, hF2, hw2⟩ := hT2.out z rfl
          obtain ⟨hj1, hq1, hq3, hq5⟩ := hv1.out y rfl
          obtain ⟨hj2, hq2, hq4, hq6⟩ := hv2.out z rfl
          have hln := Lib.hid (show y.fs.length = z.fs.length by rw [readFs_length hq3, readFs_length hq4, ← hj1, ← hj2, ← readNs_length hq1, ← readNs_length hq2, hyz])
          have hlm := Lib.hid (show m2 ≤ 1100000 by have := hF1.1; have := readFs_length hq3; have := readNs_length hq1; have := hla.out; omega)
          have ok1 := Lib.hid (readFs_ok hq3)
          have ok2 := Lib.hid (readFs_ok hq4)
          have okw1 := Lib.hid (fun f (h : y.wh = some f) => readWh_ok hq5 h)
          have okw2 := Lib.hid (fun f (h : z.wh = some f) => readWh_ok hq6 h)
          have hfin' := Lib.hid hfin
          have hm2 := Lib.hid hF1.1
          have hm3 := Lib.hid hF2.1
          have hF1' := Lib.hid (fun W (hW : Below w4.heap.size w4 W) => hF1.below hW)
          have hF2' := Lib.hid (fun W (hW : Below w4.heap.size w4 W) => hF2.below hW)
          have hF1b := Lib.hid (hF1.below hb5)
          have hF2b := Lib.hid (hF2.below hb5)
          subst hw1 hw2
          clear hp hyz hfin hj1 hq1 hq3 hq5 hj2 hq2 hq4 hq6 hT1 hT2 hv1 hv2 hF1 hF2
          have hmm := @run_makeMap Try.prog
          obtain ⟨x5, a0, a1, a2, -, -, -⟩ := three_cells k5
          obtain ⟨x7, b0, b1, b2, -, -, -⟩ := three_cells k7
          rw [show (some y : Option Ty).isSome = true from rfl, show (some z : Option Ty).isSome = true from rfl, show (!true) = false from rfl]
          go_wp2_with fail
          have him0 := made_im wc
          have hgA : Below wc.heap.size wc (wc.alloc (.map #[] 0)) := bb_alloc (Below.refl _ _) _
          have hzM : (wc.alloc (.map #[] 0)).heap.size = wc.heap.size + 1 := by simp
          generalize wc.alloc (.map #[] 0) = wM at *
          have hbwM := Lib.hid (below_step hbw5.out (Nat.le_refl _) hgA)
          have kM5 := Lib.hid ((hgA.block w1.heap.size x5).trans k5)
          have kM7 := Lib.hid ((hgA.block w3.heap.size x7).trans k7)
          have hFM1 := Lib.hid (hF1b.out.below hgA)
          have hFM2 := Lib.hid (hF2b.out.below hgA)
          clear k5 k7 a0 a1 a2 b0 b1 b2
          go_loopw [43] (fun i wr => ∃ (j : Nat) (M : AL), j ≤ m2 ∧ i = .int .i64 j ∧ instAll (y.fs.take j) (z.fs.take j) [] = some M ∧ M.length ≤ j * 60 ∧ IM wr wc.heap.size M ∧ wM.grownBy wr (some wc.heap.size))
            (fun i _ => m2 - (intOf i).toNat)
          case atStart => exact ⟨0, [], Nat.zero_le _, rfl, rfl, by simp, him0, grown_refl' _ _⟩
          case round =>
            obtain ⟨j, M, hj, rfl, hI, hM, him, hgr⟩ := hrel
            have hgs := hgr.size
            have hmb : m2 ≤ 1100000 := hlm.out
            obtain ⟨u5, a0, a1, a2, -, -, -⟩ := three_cells ((hgr.block w1.heap.size (by omega) (by simp; omega)).trans kM5.out)
            obtain ⟨u7, b0, b1, b2, -, -, -⟩ := three_cells ((hgr.block w3.heap.size (by omega) (by simp; omega)).trans kM7.out)
            have hgr' := Lib.hid hgr
            have him' := Lib.hid him
            have hI' := Lib.hid hI
            clear hgr him hI
            by_cases hlt : j < m2
            · obtain ⟨bf, of', hBe, hbf, hcf⟩ := hFM1.out.2 (by omega)
              obtain ⟨bg, og, hCe, hbg, hcg⟩ := hFM2.out.2 (by have := hm2.out; have := hm3.out; have := hln.out; omega)
              obtain ⟨bf4, of4, hBe4, hbf4, -⟩ := (hF1'.out w4 (Below.refl _ _)).2 (by omega)
              obtain ⟨bg4, og4, hCe4, hbg4, -⟩ := (hF2'.out w4 (Below.refl _ _)).2 (by have := hm2.out; have := hm3.out; have := hln.out; omega)
              subst hBe hCe
              injection hBe4 with h4
              injection h4 with h4 h4o
              injection hCe4 with h5
              injection h5 with h5 h5o
              subst h4 h5 h4o h5o
              have l1 : j < y.fs.length := by have := hm2.out; omega
              have l2 : j < z.fs.length := by have := hm2.out; have := hln.out; omega
              have hfn : y.fs[j]? = some y.fs[j] := List.getElem?_eq_getElem l1
              have hgn : z.fs[j]? = some z.fs[j] := List.getElem?_eq_getElem l2
              have hf1 := ok1.out _ (List.getElem_mem l1)
              have hg1 := ok2.out _ (List.getElem_mem l2)
              have xf := (World.cell?_of_block (a := ⟨bf, of' + j, none⟩) (hgr'.out.block bf hbf.2 (by simp; omega))).trans (hcf j _ hfn)
              have xg := (World.cell?_of_block (a := ⟨bg, og + j, none⟩) (hgr'.out.block bg hbg.2 (by simp; omega))).trans (hcg j _ hgn)
              have hstep := Lib.hid (instAll_step (m := []) hln.out hfn hgn)
              clear hcf hcg hfn hgn
              generalize y.fs[j] = f at *
              generalize z.fs[j] = g at *
              have hcall := Lib.hid (in_any f g M wc.heap.size wr.drew hf1.1 hg1.1 hg1.2 (by have := hlm.out; omega) (him'.out.below (Below.refl _ _).drew))
              have hlenM := Lib.hid (fun M' (h : inst f g M = some M') => inst_len h)
              have hf60 := hf1.2
              clear hf1 hg1
              rw [show fv f = .iface (ft f) (fi f) from rfl] at xf
              rw [show fv g = .iface (ft g) (fi g) from rfl] at xg
              have i1 : (j : Int) < (m2 : Int) := by omega
              have i2 : (j : Int) < (m3 : Int) := by have := hm2.out; have := hm3.out; have := hln.out; omega
              have i0 : (0 : Int) ≤ (j : Int) := by omega
              have hbfw : bf < wr.heap.size := by omega
              have hbgw : bg < wr.heap.size := by omega
              have xf' := Lib.hid xf
              have xg' := Lib.hid xg
              have a1' := Lib.hid a1
              have b1' := Lib.hid b1
              have hS : Hid (∀ W, wr.grownBy W (some wc.heap.size) → W.cell? ⟨w1.heap.size, 1, none⟩ = some (.slice (some ⟨bf, of', none⟩) m2 d2) ∧ W.cell? ⟨bf, of' + j, none⟩ = some (.iface (ft f) (fi f)) ∧ W.cell? ⟨w3.heap.size, 1, none⟩ = some (.slice (some ⟨bg, og, none⟩) m3 d3) ∧ W.cell? ⟨bg, og + j, none⟩ = some (.iface (ft g) (fi g))) := Lib.hid fun W hg =>
                ⟨(hg.cell_far ⟨w1.heap.size, 1, none⟩ u5 (by simp; omega)).trans a1'.out, (hg.cell_far ⟨bf, of' + j, none⟩ hbfw (by simp; omega)).trans xf'.out, (hg.cell_far ⟨w3.heap.size, 1, none⟩ u7 (by simp; omega)).trans b1'.out, (hg.cell_far ⟨bg, og + j, none⟩ hbgw (by simp; omega)).trans xg'.out⟩
              go_wp2_with fail
              go_region_held3 (fun W => W.cell? ⟨w1.heap.size, 1, none⟩ = some (.slice (some ⟨bf, of', none⟩) m2 d2) ∧ W.cell? ⟨bf, of' + j, none⟩ = some (.iface (ft f) (fi f)) ∧ W.cell? ⟨w3.heap.size, 1, none⟩ = some (.slice (some ⟨bg, og, none⟩) m3 d3) ∧ W.cell? ⟨bg, og + j, none⟩ = some (.iface (ft g) (fi g)))
                (first | exact hS.out _ (grown_trans' (grown_drewI (grown_refl' wr _)) hg6) | exact hS.out _ (grown_drewI (grown_refl' wr _)))
                (first | (go_at_call 32; refine Calls.mono hcall.out ?_; rintro e w6 ⟨rfl, hg6, hm6⟩))
              have hgr6 := Lib.hid (grown_trans' hgr'.out (grown_trans' (grown_drewI (grown_refl' wr (some wc.heap.size))) hg6))
              have hm6' := Lib.hid hm6
              clear hg6 hm6 hS
              cases ho : inst f g M with
              | none =>
                have hr : Hid (instTy y z = false) := Lib.hid (by
                  unfold instTy
                  rw [instAll_stop hln.out (j := j + 1) (by rw [hstep.out, hI'.out]; exact ho)])
                rw [show (none : Option AL).isSome = false from rfl]
                clear ho
                go_wp2_with fail
                go_ret
                exact ⟨by rw [hfin'.out, hr.out]; rfl, hbwM.out.grown hgr6.out (by have := hbwM.out.size; omega) (fun k hk => by injection hk with hk; have := hbw5.out.size; omega)⟩
              | some M' =>
                have hm7 := Lib.hid (hm6'.out M' ho)
                have hI7 : Hid (instAll (y.fs.take (j + 1)) (z.fs.take (j + 1)) [] = some M') := Lib.hid (by rw [hstep.out, hI'.out]; exact ho)
                have hl7 := hlenM.out M' ho
                rw [show (some M' : Option AL).isSome = true from rfl]
                clear ho
                go_wp2_with fail
                go_roundw
                case rel => exact ⟨j + 1, M', by omega, by go_num, hI7.out, by omega, hm7.out, hgr6.out⟩
                case measure => simp [intOf]; omega
            · obtain rfl : j = m2 := by omega
              have hI2 : Hid (instAll y.fs z.fs [] = some M) := Lib.hid (by
                have h := hI'.out
                rw [List.take_of_length_le (by have := hm2.out; omega), List.take_of_length_le (by have := hm2.out; have := hln.out; omega)] at h
                exact h)
              have hIT : Hid (instTy y z = instW y.wh z.wh M) := Lib.hid (by unfold instTy; rw [hI2.out])
              have hbelF := Lib.hid (hbwM.out.grown hgr'.out (by have := hbwM.out.size; omega) (fun k hk => by injection hk with hk; have := hbw5.out.size; omega))
              cases hw1 : y.wh with
              | none =>
                rw [hw1, show fvO none = .nilIface from rfl] at a2
                cases hw2 : z.wh with
                | none =>
                  rw [hw2, show fvO none = .nilIface from rfl] at b2
                  rw [hw1, hw2] at hIT
                  clear hw1 hw2
                  go_wp2_with fail
                  go_ret
                  exact ⟨by rw [hfin'.out, hIT.out]; rfl, hbelF.out⟩
                | some g =>
                  rw [hw2, show fvO (some g) = .iface (ft g) (fi g) from rfl] at b2
                  rw [hw1, hw2] at hIT
                  clear hw1 hw2
                  go_wp2_with fail
                  go_ret
                  exact ⟨by rw [hfin'.out, hIT.out]; rfl, hbelF.out⟩
              | some f =>
                rw [hw1, show fvO (some f) = .iface (ft f) (fi f) from rfl] at a2
                cases hw2 : z.wh with
                | none =>
                  rw [hw2, show fvO none = .nilIface from rfl] at b2
                  rw [hw1, hw2] at hIT
                  clear hw1 hw2
                  go_wp2_with fail
                  go_ret
                  exact ⟨by rw [hfin'.out, hIT.out]; rfl, hbelF.out⟩
                | some g =>
                  rw [hw2, show fvO (some g) = .iface (ft g) (fi g) from rfl] at b2
                  have hf1 := okw1.out f hw1
                  have hg1 := okw2.out g hw2
                  have hcall := Lib.hid (in_any f g M wc.heap.size wr hf1.1 hg1.1 hg1.2 (by have := hlm.out; omega) him'.out)
                  rw [hw1, hw2] at hIT
                  clear hw1 hw2 hf1 hg1
                  go_wp2_with fail
                  refine Calls.mono hcall.out ?_
                  rintro e w6 ⟨rfl, hg6, hm6⟩
                  have hgr6 := Lib.hid (grown_trans' hgr'.out hg6)
                  clear hg6 hm6
                  go_wp2_with fail
                  go_ret
                  exact ⟨by rw [hfin'.out, hIT.out]; rfl, hbwM.out.grown hgr6.out (by have := hbwM.out.size; omega) (fun k hk => by injection hk with hk; have := hbw5.out.size; omega)⟩

end Go.Proofs.Ytdbdcfijeeelkaa
