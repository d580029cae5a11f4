/- spec.TypeDual. -/
import Derived.Test.YtdbdcfijeeelkaaTyHelp
import Derived.Deep.RegionLaw
import Derived.Deep.Cut
import Derived.Deep.CutRange
import Derived.Deep.CutBlock
import Derived.Test.YtdbdcfijeeelkaaFlip
import Derived.Test.YtdbdcfijeeelkaaSpecV
import Derived.Test.YtdbdcfijeeelkaaValidS
import Derived.Test.YtdbdcfijeeelkaaDualS
namespace Go.Proofs.Ytdbdcfijeeelkaa
set_option linter.unusedVariables false
open Go.RowKit

/-- Do the lengths differ, or is the type of the whole none? -/
def badTy (ss ts : List ByteArray) (s : ByteArray) : Bool := !decide (ss.length = ts.length) || (readWh s).isNone
theorem badTy_none {ss ts : List ByteArray} {s : ByteArray} (h : badTy ss ts s = true) : readTy ss ts s = none := by
  unfold badTy at h
  rw [Bool.or_eq_true] at h
  rcases h with h | h
  · exact readTy_len (by simpa using h)
  · exact readTy_whole (by simpa using h)
theorem badTy_good {ss ts : List ByteArray} {s : ByteArray} (h : badTy ss ts s = false) : ss.length = ts.length ∧ ∃ wh, readWh s = some wh := by
  unfold badTy at h
  rw [Bool.or_eq_false_iff] at h
  refine ⟨by simpa using h.1, ?_⟩
  cases hw : readWh s with
  | none => rw [hw] at h; simp at h
  | some wh => exact ⟨wh, rfl⟩
theorem readFs_stop' {ss : List ByteArray} {j : Nat} {fs : List F} (hj : j < ss.length) (h : readFs (ss.take j) = some fs) (h0 : readF ss[j].data.toList = none) : readFs ss = none :=
  readFs_stop (j := j + 1) (by rw [readFs_step hj h, h0]; rfl)

theorem five_al (w : World) (X1 X2 X5 : Obj) (E : TypeId) :
    (((((w.alloc X1).alloc X2).alloc (.cells #[] E)).alloc (.cells #[] E)).alloc X5).heap[w.heap.size]? = some X1 ∧ (((((w.alloc X1).alloc X2).alloc (.cells #[] E)).alloc (.cells #[] E)).alloc X5).heap[w.heap.size + 1]? = some X2 ∧
    (((((w.alloc X1).alloc X2).alloc (.cells #[] E)).alloc (.cells #[] E)).alloc X5).heap[w.heap.size + 4]? = some X5 ∧
    (((((w.alloc X1).alloc X2).alloc (.cells #[] E)).alloc (.cells #[] E)).alloc X5).ownsRow (w.heap.size + 2) E 1 (.slice (some ⟨w.heap.size + 1 + 1, 0, none⟩) 0 0) 0 [] ∧
    (((((w.alloc X1).alloc X2).alloc (.cells #[] E)).alloc (.cells #[] E)).alloc X5).ownsRow (w.heap.size + 2) E 1 (.slice (some ⟨w.heap.size + 1 + 1 + 1, 0, none⟩) 0 0) 0 [] ∧
    Below w.heap.size w (((((w.alloc X1).alloc X2).alloc (.cells #[] E)).alloc (.cells #[] E)).alloc X5) ∧ (((((w.alloc X1).alloc X2).alloc (.cells #[] E)).alloc (.cells #[] E)).alloc X5).heap.size = w.heap.size + 5 := by
  have z2 : ((w.alloc X1).alloc X2).heap.size = w.heap.size + 2 := by simp
  have z3 : (((w.alloc X1).alloc X2).alloc (.cells #[] E)).heap.size = w.heap.size + 3 := by simp
  have z4 : ((((w.alloc X1).alloc X2).alloc (.cells #[] E)).alloc (.cells #[] E)).heap.size = w.heap.size + 4 := by simp
  refine ⟨?_, ?_, ?_, ?_, ?_, ?_, by simp⟩
  · exact (Below.heap_alloc _ _ _ (by rw [z4]; omega)).trans ((Below.heap_alloc _ _ _ (by rw [z3]; omega)).trans ((Below.heap_alloc _ _ _ (by rw [z2]; omega)).trans (first_alloc _ _ _)))
  · exact (Below.heap_alloc _ _ _ (by rw [z4]; omega)).trans ((Below.heap_alloc _ _ _ (by rw [z3]; omega)).trans ((Below.heap_alloc _ _ _ (by rw [z2]; omega)).trans (second_alloc _ _ _)))
  · have h := heap_alloc_new ((((w.alloc X1).alloc X2).alloc (.cells #[] E)).alloc (.cells #[] E)) X5
    rw [z4] at h
    exact h
  · have h := own_empty ((w.alloc X1).alloc X2) (w.heap.size + 2) (by omega) E
    rw [z2] at h
    exact own_below (own_below h (bb_alloc (Below.refl _ _) _)) (bb_alloc (Below.refl _ _) _)
  · have h := own_empty (((w.alloc X1).alloc X2).alloc (.cells #[] E)) (w.heap.size + 2) (by omega) E
    rw [z3] at h
    exact own_below h (bb_alloc (Below.refl _ _) _)
  · exact bb_alloc (bb_alloc (bb_alloc (bb_alloc (bb_alloc (Below.refl _ _) _) _) _) _) _

set_option maxRecDepth 100000 in
set_option maxHeartbeats 4000000 in
theorem specTypeDual_any (A : Option Addr) (n c : Nat) (ss : List ByteArray) (B : Option Addr) (m d : Nat) (ts : List ByteArray) (s : ByteArray) (w : World)
    (hA : RowS w A n ss) (hB : RowS w B m ts) (hn : n ≤ 10000000) (hm : m ≤ 10000000) :
    Calls Try.prog 6 #[tyV A n c B m d s] w (TyRet2 (dN (readTy ss ts s)) (dT (readTy ss ts s)) (dW (readTy ss ts s)) (readTy ss ts s).isSome w) := by
  obtain ⟨i0, hi0, hz0, hz1, hz2⟩ := info_parts infoStr
  have hlA := Lib.hid hA.1
  have hlB := Lib.hid hB.1
  have hA' := Lib.hid (fun W (hW : Below w.heap.size w W) => hA.below hW)
  have hB' := Lib.hid (fun W (hW : Below w.heap.size w W) => hB.below hW)
  have hno : Hid (readTy ss ts s = none → ∀ w', Below w.heap.size w w' → TyRet2 (dN (readTy ss ts s)) (dT (readTy ss ts s)) (dW (readTy ss ts s)) (readTy ss ts s).isSome w (.returned (.tuple #[tyV none 0 0 none 0 0 ⟨#[]⟩, .bool false])) w') := Lib.hid fun h w' hb => by
    rw [h]
    exact ⟨none, 0, none, 0, rfl, ⟨World.ownsRow_nil _ _ _ _, World.ownsRow_nil _ _ _ _, fun k hk => by simp [Value.ownBlock] at hk, fun k hk => by simp [Value.ownBlock] at hk, fun k hk => by simp [Value.ownBlock] at hk⟩, hb⟩
  clear hA hB
  go_enter Try.func6, Try.ntmps6
  go_upto_region 2 with fail
  obtain ⟨q0, q1, q4, oA, oB, hb5, hz5⟩ := five_al w (.cells #[.slice A n c, .slice B m d, .string s] 26) (.cells #[.slice none 0 0, .slice none 0 0, .string ⟨#[]⟩] 26) (.cells #[.slice (some ⟨w.heap.size + 1 + 1, 0, none⟩) 0 0, .slice (some ⟨w.heap.size + 1 + 1 + 1, 0, none⟩) 0 0, .string ⟨#[]⟩] 26) 9
  generalize (((((w.alloc (.cells #[.slice A n c, .slice B m d, .string s] 26)).alloc (.cells #[.slice none 0 0, .slice none 0 0, .string ⟨#[]⟩] 26)).alloc (.cells #[] 9)).alloc (.cells #[] 9)).alloc (.cells #[.slice (some ⟨w.heap.size + 1 + 1, 0, none⟩) 0 0, .slice (some ⟨w.heap.size + 1 + 1 + 1, 0, none⟩) 0 0, .string ⟨#[]⟩] 26)) = w5 at *
  have hb5' := Lib.hid hb5
  obtain ⟨z0, a0, a1, a2, -, -, -⟩ := three_cells q0
  obtain ⟨z1, b0, b1, b2, f0, f1, f2⟩ := three_cells q1
  have hV := Lib.hid (fun W => specValid_any s W)
  have hwh0 := Lib.hid (fun (h : s.size = 0) => readWh_empty h)
  have hwh1 := Lib.hid (fun (h : s.size ≠ 0) => readWh_full h)
  clear hb5
  have hbad : Hid (badTy ss ts s = (!decide (n = m) || (readWh s).isNone)) := Lib.hid (by rw [badTy, hlA.out, hlB.out])
  go_cut [28] from 11 to 28 (fun b wx => b = .bool (badTy ss ts s) ∧ Below w5.heap.size w5 wx)
  case first =>
    by_cases hnm : n = m
    · have hi : ((n : Int) != (m : Int)) = false := by rw [hnm]; simp
      by_cases hse : s.size = 0
      · have hsb : (s.toList == []) = true := by rw [Lib.toList_data, beq_iff_eq]; rw [ba_size] at hse; exact List.eq_nil_of_length_eq_zero hse
        have hr : Hid (badTy ss ts s = false) := Lib.hid (by rw [hbad.out, hwh0.out hse]; simp [hnm])
        clear hnm
        go_wp2_with fail
        go_meet
        exact ⟨by rw [hr.out], Below.refl _ _⟩
      · have hsb : (s.toList == []) = false := by rw [Lib.toList_data, beq_eq_false_iff_ne]; intro e; rw [ba_size, e] at hse; exact hse rfl
        cases hf : (readF s.data.toList).isSome
        · have hr : Hid (badTy ss ts s = true) := Lib.hid (by
            rw [hbad.out, hwh1.out hse]; cases h : readF s.data.toList with
            | none => simp
            | some f => rw [h] at hf; cases hf)
          rw [hf] at hV
          clear hnm hf hse
          go_wp2_with (first | (go_at_call 15; refine Calls.mono (hV.out _) ?_; rintro e w6 ⟨rfl, hb6⟩))
          go_meet
          exact ⟨by rw [hr.out], hb6⟩
        · have hr : Hid (badTy ss ts s = false) := Lib.hid (by
            rw [hbad.out, hwh1.out hse]; cases h : readF s.data.toList with
            | none => rw [h] at hf; cases hf
            | some f => simp [hnm])
          rw [hf] at hV
          clear hnm hf hse
          go_wp2_with (first | (go_at_call 15; refine Calls.mono (hV.out _) ?_; rintro e w6 ⟨rfl, hb6⟩))
          go_meet
          exact ⟨by rw [hr.out], hb6⟩
    · have hi : ((n : Int) != (m : Int)) = true := by rw [bne_iff_ne]; omega
      have hr : Hid (badTy ss ts s = true) := Lib.hid (by rw [hbad.out]; simp [hnm])
      clear hnm
      go_wp2_with fail
      go_meet
      exact ⟨by rw [hr.out], Below.refl _ _⟩
  case rest =>
    obtain ⟨rfl, hb6⟩ := hcut
    have p0 := Lib.hid ((hb6.block w.heap.size z0).trans q0)
    have p1 := Lib.hid ((hb6.block (w.heap.size + 1) z1).trans q1)
    have p4 := Lib.hid ((hb6.block (w.heap.size + 4) (by omega)).trans q4)
    have oA' := Lib.hid (own_below oA hb6)
    have oB' := Lib.hid (own_below oB hb6)
    have hbw := Lib.hid (below_step hb5'.out (Nat.le_refl _) hb6)
    have hs6 := hb6.size
    clear q0 q1 q4 oA oB hb6 a0 a1 a2 b0 b1 b2 f0 f1 f2
    obtain ⟨z0', a0, a1, a2, -, -, -⟩ := three_cells p0.out
    obtain ⟨z1', b0, b1, b2, f0, f1, f2⟩ := three_cells p1.out
    cases hbd : badTy ss ts s
    · obtain ⟨hnm, wh, hwh⟩ := badTy_good hbd
      have hnm' := Lib.hid hnm
      have hwh' := Lib.hid hwh
      clear hbd hnm hwh hbad
      go_wp2_with fail
      go_loopw [5] (fun i wr => ∃ (j : Nat) (l : List Bs) (fs : List F) (A1 : Option Addr) (c1 : Nat) (B1 : Option Addr) (d1 : Nat), j ≤ n ∧ i = .int .i64 j ∧ readNs (ss.take j) = some l ∧ readFs (ts.take j) = some fs ∧
          wr.ownsRow (w.heap.size + 2) 9 1 (.slice A1 j c1) j ((l.map (fun s => (⟨(swapB s).toArray⟩ : ByteArray))).map Value.string) ∧
          wr.ownsRow (w.heap.size + 2) 9 1 (.slice B1 j d1) j ((fs.map (fun f => (⟨f.dual.text.toArray⟩ : ByteArray))).map Value.string) ∧
          (∀ k, (Value.slice A1 j c1).ownBlock = some k → (Value.slice B1 j d1).ownBlock ≠ some k) ∧
          (∀ k, (Value.slice A1 j c1).ownBlock = some k → k ≠ w.heap.size + 4) ∧ (∀ k, (Value.slice B1 j d1).ownBlock = some k → k ≠ w.heap.size + 4) ∧
          wr.heap[w.heap.size]? = some (.cells #[.slice A n c, .slice B m d, .string s] 26 (0, 0)) ∧ wr.heap[w.heap.size + 1]? = some (.cells #[.slice none 0 0, .slice none 0 0, .string ⟨#[]⟩] 26 (0, 0)) ∧
          wr.heap[w.heap.size + 4]? = some (.cells #[.slice A1 j c1, .slice B1 j d1, .string ⟨#[]⟩] 26 (0, 0)) ∧ Below w.heap.size w wr)
        (fun i _ => n - (intOf i).toNat)
      case atStart => exact ⟨0, [], [], _, _, _, _, Nat.zero_le _, rfl, rfl, rfl, oA'.out, oB'.out, fun k hk e => by simp [Value.ownBlock] at hk e; omega, fun k hk => by simp [Value.ownBlock] at hk; omega, fun k hk => by simp [Value.ownBlock] at hk; omega, p0.out, p1.out, p4.out, hbw.out⟩
      case round =>
        obtain ⟨j, l, fs, A1, c1, B1, d1, hj, rfl, hrl, hrf, own1, own2, hap, hn4, hm4, h0, h1, h4, hbel⟩ := hrel
        clear a0 a1 a2 b0 b1 b2 f0 f1 f2
        obtain ⟨y0, a0, a1, a2, -, -, -⟩ := three_cells h0
        obtain ⟨y1, b0, b1, b2, f0, f1, f2⟩ := three_cells h1
        obtain ⟨y4, d0, d1', d2, g0, g1, g2⟩ := three_cells h4
        have own1' := Lib.hid own1
        have own2' := Lib.hid own2
        have hap' := Lib.hid hap
        have hn4' := Lib.hid hn4
        have hm4' := Lib.hid hm4
        have h0' := Lib.hid h0
        have h1' := Lib.hid h1
        have h4' := Lib.hid h4
        have hbel' := Lib.hid hbel
        clear own1 own2 hap hn4 hm4 h0 h1 h4 hbel
        have hmn : m = n := by have := hlA.out; have := hlB.out; have := hnm'.out; omega
        by_cases hlt : j < n
        · obtain ⟨bA, oA, hAe, hbA, hcA⟩ := (hA'.out wr hbel'.out).2 (by omega)
          obtain ⟨bB, oB, hBe, hbB, hcB⟩ := (hB'.out wr hbel'.out).2 (by omega)
          subst hAe
          subst hBe
          have lA : j < ss.length := by have := hlA.out; omega
          have lB : j < ts.length := by have := hlB.out; omega
          have xA := hcA j ss[j] (List.getElem?_eq_getElem lA)
          have xB := hcB j ts[j] (List.getElem?_eq_getElem lB)
          have hstepN := readNs_step lA hrl
          have hstepF := readFs_step lB hrf
          generalize ss[j] = t at xA hstepN
          generalize ts[j] = u at xB hstepF
          have i1 : (j : Int) < (n : Int) := by omega
          have i2 : (j : Int) < (m : Int) := by omega
          have i0' : (0 : Int) ≤ (j : Int) := by omega
          have hv := Lib.hid (fun W => l2Var_any t W)
          have hc := Lib.hid (fun W => l2Covar_any t W)
          have hu := Lib.hid (fun W => specValid_any u W)
          have hsn : isName t.data.toList = (isVar t.data.toList || isCov t.data.toList) := rfl
          have bad : Hid (isName t.data.toList = false ∨ readF u.data.toList = none → readTy ss ts s = none) := Lib.hid fun h => by
            rcases h with h | h
            · exact readTy_names (readNs_stop (j := j + 1) (by rw [hstepN, h]; rfl))
            · exact readTy_types (readFs_stop (j := j + 1) (by rw [hstepF, h]; rfl))
          have hK : Hid (∀ W, Below wr.heap.size wr W → W.heap[w.heap.size]? = some (.cells #[.slice (some ⟨bA, oA, none⟩) n c, .slice (some ⟨bB, oB, none⟩) m d, .string s] 26 (0, 0)) ∧ W.heap[w.heap.size + 1]? = some (.cells #[.slice none 0 0, .slice none 0 0, .string ⟨#[]⟩] 26 (0, 0)) ∧
              W.heap[w.heap.size + 4]? = some (.cells #[.slice A1 j c1, .slice B1 j d1, .string ⟨#[]⟩] 26 (0, 0)) ∧ W.cell? ⟨bA, oA + j, none⟩ = some (.string t) ∧ W.cell? ⟨bB, oB + j, none⟩ = some (.string u)) := Lib.hid fun W hW =>
            ⟨(hW.block _ y0).trans h0'.out, (hW.block _ y1).trans h1'.out, (hW.block _ y4).trans h4'.out, (hW.cell (p := ⟨bA, oA + j, none⟩) hbA).trans xA, (hW.cell (p := ⟨bB, oB + j, none⟩) hbB).trans xB⟩
          have hmn' := Lib.hid hmn
          clear hcA hcB hrl hrf hmn
          go_upto_region 7 with fail
          go_cut [61] from 30 to 88 (fun b wx => b = .bool (!isName t.data.toList || (readF u.data.toList).isNone) ∧ Below wr.heap.size wr wx)
          case first =>
            cases hv1 : isVar t.data.toList
            · rw [hv1] at hv hsn
              cases hc1 : isCov t.data.toList
              · rw [hc1] at hc hsn
                clear hv1 hc1
                go_wp2_with (first | (go_at_call 16; refine Calls.mono (hv.out _) ?_; rintro e w6 ⟨rfl, rfl⟩) | (go_at_call 17; refine Calls.mono (hc.out _) ?_; rintro e w6 ⟨rfl, rfl⟩))
                go_meet
                exact ⟨by rw [hsn]; rfl, Below.refl _ _⟩
              · rw [hc1] at hc hsn
                clear hv1 hc1
                cases hf : readF u.data.toList
                all_goals
                  rw [hf] at hu
                  first | rw [show (none : Option F).isSome = false from rfl] at hu | (rename_i f; rw [show (some f : Option F).isSome = true from rfl] at hu)
                  have hfh := Lib.hid hf
                  clear hf
                  go_wp2_with (first | (go_at_call 16; refine Calls.mono (hv.out _) ?_; rintro e w6 ⟨rfl, rfl⟩) | (go_at_call 17; refine Calls.mono (hc.out _) ?_; rintro e w6 ⟨rfl, rfl⟩) | (go_at_call 15; refine Calls.mono (hu.out _) ?_; rintro e w6 ⟨rfl, hb6⟩))
                  go_meet
                  exact ⟨by rw [hsn, hfh.out]; rfl, hb6⟩
            · rw [hv1] at hv hsn
              clear hv1
              cases hf : readF u.data.toList
              all_goals
                rw [hf] at hu
                first | rw [show (none : Option F).isSome = false from rfl] at hu | (rename_i f; rw [show (some f : Option F).isSome = true from rfl] at hu)
                have hfh := Lib.hid hf
                clear hf
                go_wp2_with (first | (go_at_call 16; refine Calls.mono (hv.out _) ?_; rintro e w6 ⟨rfl, rfl⟩) | (go_at_call 15; refine Calls.mono (hu.out _) ?_; rintro e w6 ⟨rfl, hb6⟩))
                go_meet
                exact ⟨by rw [hsn, hfh.out]; rfl, hb6⟩
          case rest =>
            obtain ⟨rfl, hb6⟩ := hcut
            have hb6' := Lib.hid hb6
            obtain ⟨k0, k1, k4, kA, kB⟩ := hK.out wc hb6
            have hs6 := hb6.size
            clear hb6 a0 a1 a2 b0 b1 b2 f0 f1 f2 d0 d1' d2 g0 g1 g2 xA xB
            obtain ⟨x0, a0, a1, a2, -, -, -⟩ := three_cells k0
            obtain ⟨x1, b0, b1, b2, f0, f1, f2⟩ := three_cells k1
            obtain ⟨x4, d0, d1', d2, g0, g1, g2⟩ := three_cells k4
            clear k0 k1 k4
            cases hbd : (!isName t.data.toList || (readF u.data.toList).isNone)
            · rw [Bool.or_eq_false_iff] at hbd
              obtain ⟨hb1, hb2⟩ := hbd
              rw [Bool.not_eq_false'] at hb1
              rw [hb1, if_pos rfl] at hstepN
              obtain ⟨f, hf⟩ : ∃ f, readF u.data.toList = some f := by cases h : readF u.data.toList with
                | none => rw [h] at hb2; cases hb2
                | some f => exact ⟨f, rfl⟩
              rw [hf] at hstepF
              have hD := Lib.hid (fun W => specDual_any u W)
              rw [hf, show dualS (some f) = ⟨f.dual.text.toArray⟩ from rfl, show (some f : Option F).isSome = true from rfl] at hD
              have hstepN' := Lib.hid hstepN
              have hstepF' := Lib.hid hstepF
              have hb1' := Lib.hid hb1
              clear hb1 hb2 hf hstepN hstepF hsn hv hc hu bad
              obtain ⟨cn, dn, htl⟩ : ∃ cn dn, t.data.toList = cn :: dn := by
                have h := hb1'.out
                cases hl : t.data.toList with
                | nil => rw [hl] at h; cases h
                | cons c d => exact ⟨c, d, rfl⟩
              obtain rfl : t = ⟨(cn :: dn).toArray⟩ := by rw [ba_mk t, htl]
              have hok : isName (cn :: dn) = true := hb1'.out
              have hstepN : readNs (ss.take (j + 1)) = some (l ++ [cn :: dn]) := hstepN'.out
              have hF := Lib.hid (fun W => flip_any cn dn (var_or hok) (by have := isName_len hok; omega) W)
              have hstepN2 := Lib.hid hstepN
              clear htl hok hstepN hstepN' hb1'
              go_wp2_with (first | (go_at_call 18; refine Calls.mono (hD.out _) ?_; rintro e w7 ⟨rfl, hb7⟩; have hb37 := below_step hb6'.out (Nat.le_refl _) hb7; obtain ⟨k0, k1, k4, kA7, kB7⟩ := hK.out w7 hb37; obtain ⟨v0, v1, v2, v3, -, -, -⟩ := three_cells k0; obtain ⟨v4, v5, v6, v7, -, -, -⟩ := three_cells k4))
              have hb37' := Lib.hid hb37
              have hs7 := hb37.size
              have hOwA := Lib.hid (fun W (hW : Below w7.heap.size w7 W) => own_below own1'.out (below_step hb37'.out (Nat.le_refl _) hW))
              have hS : Hid (∀ W, Below w7.heap.size w7 W → W.cell? ⟨w.heap.size + 4, 0, none⟩ = some (.slice A1 j c1) ∧ W.cell? ⟨w.heap.size, 0, none⟩ = some (.slice (some ⟨bA, oA, none⟩) n c) ∧ W.cell? ⟨bA, oA + j, none⟩ = some (str (cn :: dn))) := Lib.hid fun W hW => by
                obtain ⟨k0, -, k4, kA, -⟩ := hK.out W (below_step hb37'.out (Nat.le_refl _) hW)
                obtain ⟨-, r1, -⟩ := three_cells k0
                obtain ⟨-, r2, -⟩ := three_cells k4
                exact ⟨r2, r1, kA⟩
              have hB9 : Hid (∀ W W', Below w7.heap.size w7 W → W.grownBy W' (Value.slice A1 j c1).ownBlock → W'.heap[w.heap.size]? = some (.cells #[.slice (some ⟨bA, oA, none⟩) n c, .slice (some ⟨bB, oB, none⟩) m d, .string s] 26 (0, 0)) ∧ W'.heap[w.heap.size + 1]? = some (.cells #[.slice none 0 0, .slice none 0 0, .string ⟨#[]⟩] 26 (0, 0)) ∧
                  W'.heap[w.heap.size + 4]? = some (.cells #[.slice A1 j c1, .slice B1 j d1, .string ⟨#[]⟩] 26 (0, 0))) := Lib.hid fun W W' hW hg => by
                have hw := hW.size
                obtain ⟨k0, k1, k4, -, -⟩ := hK.out W (below_step hb37'.out (Nat.le_refl _) hW)
                exact ⟨(hg.block _ (by omega) (fun e => by have := (own1'.out.lt _ e.symm).1; omega)).trans k0, (hg.block _ (by omega) (fun e => by have := (own1'.out.lt _ e.symm).1; omega)).trans k1, (hg.block _ (by omega) (fun e => hn4'.out _ e.symm rfl)).trans k4⟩
              clear hb7 hb37 kA7 kB7 k0 k1 k4 a0 a1 a2 b0 b1 b2 f0 f1 f2 d0 d1' d2 g0 g1 g2
              obtain ⟨kk0, kk1, kk2⟩ := hS.out w7 (Below.refl _ _)
              go_cut [5] from 30 to 88 (fun i wx => i = .int .i64 j ∧ ∃ (g cap : Nat), wx.ownsRow (w.heap.size + 2) 9 1 (.slice (some ⟨g, 0, none⟩) (j + 1) cap) (j + 1) (((l ++ [cn :: dn]).map (fun s => (⟨(swapB s).toArray⟩ : ByteArray))).map Value.string) ∧ wx.ownsRow (w.heap.size + 2) 9 1 (.slice B1 j d1) j ((fs.map (fun f => (⟨f.dual.text.toArray⟩ : ByteArray))).map Value.string) ∧
                  (∀ k, (Value.slice (some ⟨g, 0, none⟩) (j + 1) cap).ownBlock = some k → (Value.slice B1 j d1).ownBlock ≠ some k) ∧ g ≠ w.heap.size + 4 ∧ wx.heap[w.heap.size]? = some (.cells #[.slice (some ⟨bA, oA, none⟩) n c, .slice (some ⟨bB, oB, none⟩) m d, .string s] 26 (0, 0)) ∧ wx.heap[w.heap.size + 1]? = some (.cells #[.slice none 0 0, .slice none 0 0, .string ⟨#[]⟩] 26 (0, 0)) ∧
                  wx.heap[w.heap.size + 4]? = some (.cells #[.slice (some ⟨g, 0, none⟩) (j + 1) cap, .slice B1 j d1, .string ⟨#[]⟩] 26 (0, 0)) ∧ Below w.heap.size w wx)
              case first =>
                rename_i hmeet
                clear hA' hB' hlA hlB hno hV hwh0 hwh1 hb5' p0 p1 p4 oA' oB' hbw hnm' hwh' hD hstepF' hmn' hb6' v0 v1 v2 v3 v4 v5 v6 v7
                go_region_law (first
                  | (go_simp; go_at_call 19; refine Calls.mono (hF.out _) ?_; rintro e w8 ⟨rfl, hb1⟩; obtain ⟨e1, e2, e3⟩ := hS.out w8 (by repeat (with_reducible first | exact Below.refl _ _ | exact hbb | refine Below.drew ?_ | refine bb_alloc ?_ _ | refine below_step ?_ (Nat.le_refl _) hb1 | refine below_step ?_ (Nat.le_refl _) hb2 | refine below_step ?_ (Nat.le_refl _) hb3 | refine below_step ?_ (Nat.le_refl _) hb4)); obtain ⟨e4, -, -⟩ := hS.out (w8.alloc (.cells #[str (swapC cn :: dn)] 9)) (by repeat (with_reducible first | exact Below.refl _ _ | exact hbb | refine Below.drew ?_ | refine bb_alloc ?_ _ | refine below_step ?_ (Nat.le_refl _) hb1 | refine below_step ?_ (Nat.le_refl _) hb2 | refine below_step ?_ (Nat.le_refl _) hb3 | refine below_step ?_ (Nat.le_refl _) hb4)))
                  | (refine step_append_lies _ (by rfl) _ _ _ (by rfl) (w.heap.size + 2) 9 i0 _ 1 16 Try.underlying22 hi0 hz0 hz1 hz2 rfl (by decide) (.slice A1 j c1) j _ (by rfl) (hOwA.out _ (by repeat (with_reducible first | exact Below.refl _ _ | exact hbb | refine Below.drew ?_ | refine bb_alloc ?_ _ | refine below_step ?_ (Nat.le_refl _) hb1 | refine below_step ?_ (Nat.le_refl _) hb2 | refine below_step ?_ (Nat.le_refl _) hb3 | refine below_step ?_ (Nat.le_refl _) hb4))) ⟨w8.heap.size, 0, none⟩ 1 1 [str (swapC cn :: dn)] (by rfl) rfl (World.news_of_block (cs := #[str (swapC cn :: dn)]) (heap_alloc_new w8 _)) (by intro u hu; simp at hu; rw [hu]; rfl) (by decide) (by unfold maxLen; omega) (by omega) (Nat.le_trans (show w.heap.size + 2 ≤ w7.heap.size by omega) (Below.size (B := w7.heap.size) (by repeat (with_reducible first | exact Below.refl _ _ | exact hbb | refine Below.drew ?_ | refine bb_alloc ?_ _ | refine below_step ?_ (Nat.le_refl _) hb1 | refine below_step ?_ (Nat.le_refl _) hb2 | refine below_step ?_ (Nat.le_refl _) hb3 | refine below_step ?_ (Nat.le_refl _) hb4)))) (w8.heap.size + 1) (by simp) ?_; intro g cap w9 own5 gr5 hat5 hlt5; obtain ⟨-, e9, -, -, e10, -, -⟩ := three_cells (hB9.out _ _ (by repeat (with_reducible first | exact Below.refl _ _ | exact hbb | refine Below.drew ?_ | refine bb_alloc ?_ _ | refine below_step ?_ (Nat.le_refl _) hb1 | refine below_step ?_ (Nat.le_refl _) hb2 | refine below_step ?_ (Nat.le_refl _) hb3 | refine below_step ?_ (Nat.le_refl _) hb4)) gr5).2.2))
                all_goals go_wp2_with fail
                all_goals go_meet
                all_goals
                  have T4 : Below w7.heap.size w7 (w8.alloc (.cells #[str (swapC cn :: dn)] 9)) := (by repeat (with_reducible first | exact Below.refl _ _ | exact hbb | refine Below.drew ?_ | refine bb_alloc ?_ _ | refine below_step ?_ (Nat.le_refl _) hb1 | refine below_step ?_ (Nat.le_refl _) hb2 | refine below_step ?_ (Nat.le_refl _) hb3 | refine below_step ?_ (Nat.le_refl _) hb4))
                  have T5 := below_step hb37'.out (Nat.le_refl _) T4
                  obtain ⟨c0, c1', c4⟩ := hB9.out _ _ (by repeat (with_reducible first | exact Below.refl _ _ | exact hbb | refine Below.drew ?_ | refine bb_alloc ?_ _ | refine below_step ?_ (Nat.le_refl _) hb1 | refine below_step ?_ (Nat.le_refl _) hb2 | refine below_step ?_ (Nat.le_refl _) hb3 | refine below_step ?_ (Nat.le_refl _) hb4)) gr5
                  have hT4s := T4.size
                  simp at hT4s
                  obtain ⟨f1, f2⟩ := app_facts own1'.out own2'.out hap'.out T5 gr5 (g := g) (n := j + 1) (cap := cap) (by rcases hat5 with h | h; exact .inl h; exact .inr (by omega))
                  have hg4 : g ≠ w.heap.size + 4 := by rcases hat5 with h | h; exact hn4'.out _ h; omega
                  refine ⟨rfl, g, cap, ?_, own_same f1 (fun k hk => Below.heap_setCell _ _ _ _ (by have := hm4'.out k hk; simp only; omega)), f2, hg4, (Below.heap_setCell _ _ _ _ (by simp only; omega)).trans c0, (Below.heap_setCell _ _ _ _ (by simp only; omega)).trans c1', set_first3 c4, ?_⟩
                  · rw [List.map_append, List.map_append]
                    exact own_same own5 (fun k hk => Below.heap_setCell _ _ _ _ (by have e : g = k := (by simpa [Value.ownBlock] using hk); simp only; omega))
                  · have hbel := (below_step hbel'.out (Nat.le_refl _) T5).grown gr5 (by have := hbel'.out.size; simp; omega) (fun k hk => by have := (own1'.out.lt k hk).1; omega)
                    exact (by repeat (with_reducible first | exact hbel | exact Below.refl _ _ | refine Below.drew ?_ | refine Below.drewN ?_ _ | refine Below.alloc ?_ (by first | (simp; done) | (simp; omega) | omega | (have := Below.size hbel; simp; omega) | (have := Below.size hbel; omega)) _ | refine Below.setCell ?_ (by first | (simp; done) | (simp; omega) | omega) _))
              case rest =>
                obtain ⟨rfl, gA, capA, o1, o2, hap2, hg4, k0, k1, k4, hbel2⟩ := hcut
                obtain ⟨c0, -, -, -, -, -, -⟩ := three_cells k0
                obtain ⟨c1', -, -, -, -, -, -⟩ := three_cells k1
                obtain ⟨c4, d0, d1', d2, g0, g1, g2⟩ := three_cells k4
                have o1' := Lib.hid o1
                have o2' := Lib.hid o2
                have hap2' := Lib.hid hap2
                have k0' := Lib.hid k0
                have k1' := Lib.hid k1
                have k4' := Lib.hid k4
                have hbel2' := Lib.hid hbel2
                clear hS hB9 hOwA hF hb37' hD own1' own2' hap' hn4' h0' h1' h4' hbel' o1 o2 hap2 k0 k1 k4 hbel2 v0 v1 v2 v3 v4 v5 v6 v7 kk0 kk1 kk2
                go_wp2_with (first
                  | (at_builtin; go_loud (refine wpList_append_lies _ rfl (.tmp 84) (.tmp 86) 22 rfl (w.heap.size + 2) 9 i0 _ 1 16 Try.underlying22 hi0 hz0 hz1 hz2 rfl (by decide) _ _ _ rfl (o2'.out.alloc _) ⟨wc.heap.size, 0, none⟩ 1 1 [.string ⟨f.dual.text.toArray⟩] rfl rfl ?c1 ?c2 (by decide) ?c3 ?c4 ?c5 _ rfl ?_))
                  | fail)
                case c1 => exact World.news_of_block (cs := #[.string ⟨f.dual.text.toArray⟩]) (heap_alloc_new _ _)
                case c2 => intro u hu; simp at hu; rw [hu]; rfl
                case c3 => unfold maxLen; omega
                case c4 => omega
                case c5 => simp; omega
                intro g cap w9 own5 gr5 hat5 hlt5
                have T4 : Below wc.heap.size wc (wc.alloc (.cells #[.string ⟨f.dual.text.toArray⟩] 9)) := bb_alloc (Below.refl _ _) _
                obtain ⟨f1, f2⟩ := app_facts o2'.out o1'.out (fun b hb e => hap2'.out b e hb) T4 gr5 (g := g) (n := j + 1) (cap := cap) (by rcases hat5 with h | h; exact .inl h; exact .inr (by (try simp at h); omega))
                have hg5 : g ≠ w.heap.size + 4 := by rcases hat5 with h | h; exact hm4'.out _ h; (try simp at h); omega
                have s0 := Lib.hid ((gr5.block w.heap.size (by simp; omega) (fun e => by have := (o2'.out.lt _ e.symm).1; omega)).trans ((Below.heap_alloc _ _ _ c0).trans k0'.out))
                have s1 := Lib.hid ((gr5.block (w.heap.size + 1) (by simp; omega) (fun e => by have := (o2'.out.lt _ e.symm).1; omega)).trans ((Below.heap_alloc _ _ _ c1').trans k1'.out))
                have s4 := Lib.hid ((gr5.block (w.heap.size + 4) (by simp; omega) (fun e => hm4'.out _ e.symm rfl)).trans ((Below.heap_alloc _ _ _ c4).trans k4'.out))
                have f1' := Lib.hid f1
                have own5' := Lib.hid (show w9.ownsRow (w.heap.size + 2) 9 1 (.slice (some ⟨g, 0, none⟩) (j + 1) cap) (j + 1) (((fs ++ [f]).map (fun f => (⟨f.dual.text.toArray⟩ : ByteArray))).map Value.string) by rw [List.map_append, List.map_append]; simpa using own5)
                have f2' := Lib.hid (fun b (hb : (Value.slice (some ⟨gA, 0, none⟩) (j + 1) capA).ownBlock = some b) (e : (Value.slice (some ⟨g, 0, none⟩) (j + 1) cap).ownBlock = some b) => f2 b e hb)
                have hb9 := Lib.hid ((bb_alloc hbel2'.out _).grown gr5 (by have := hbel2'.out.size; simp; omega) (fun k hk => by have := (o2'.out.lt k hk).1; omega) : Below w.heap.size w w9)
                clear own5 gr5 hat5 T4 f1 f2 d0 d1' d2 g0 g1 g2
                obtain ⟨-, d0, d1', d2, g0, g1, g2⟩ := three_cells s4.out
                go_wp2_with fail
                go_roundw
                case rel => exact ⟨j + 1, l ++ [cn :: dn], fs ++ [f], some ⟨gA, 0, none⟩, capA, some ⟨g, 0, none⟩, cap, by omega, by go_num, hstepN2.out, hstepF'.out,
                  own_same f1'.out (fun k hk => Below.heap_setCell _ _ _ _ (by have e : gA = k := (by simpa [Value.ownBlock] using hk); simp only; omega)),
                  (own_same own5'.out (fun k hk => Below.heap_setCell _ _ _ _ (by have e : g = k := (by simpa [Value.ownBlock] using hk); simp only; omega))),
                  f2'.out, fun k hk => (by have e : gA = k := (by simpa [Value.ownBlock] using hk); omega), fun k hk => (by have e : g = k := (by simpa [Value.ownBlock] using hk); omega),
                  (Below.heap_setCell _ _ _ _ (by simp only; omega)).trans s0.out, (Below.heap_setCell _ _ _ _ (by simp only; omega)).trans s1.out, set_second3 s4.out, by have hbel := hb9.out; exact (by repeat (with_reducible first | exact hbel | exact Below.refl _ _ | refine Below.drew ?_ | refine Below.drewN ?_ _ | refine Below.alloc ?_ (by first | (simp; done) | (simp; omega) | omega | (have := Below.size hbel; simp; omega) | (have := Below.size hbel; omega)) _ | refine Below.setCell ?_ (by first | (simp; done) | (simp; omega) | omega) _))⟩
                case measure => simp [intOf]; omega
            · have hN := Lib.hid (bad.out (by
                rw [Bool.or_eq_true] at hbd
                rcases hbd with h | h
                · exact .inl (by simpa using h)
                · exact .inr (by simpa using h)))
              clear hbd hstepN hstepF hsn
              go_wp2_with fail
              refine bodyPost_ret (v := .tuple #[tyV none 0 0 none 0 0 ⟨#[]⟩, .bool false]) (by simp [results, Try.results6, go_sem, b0, b1, b2]) rfl ?_
              have hbel := below_step hbel'.out (Nat.le_refl _) hb6'.out
              exact hno.out hN.out _ (by repeat (with_reducible first | exact hbel | exact Below.refl _ _ | refine Below.drew ?_ | refine Below.drewN ?_ _ | refine Below.alloc ?_ (by first | (simp; done) | (simp; omega) | omega | (have := Below.size hbel; simp; omega) | (have := Below.size hbel; omega)) _ | refine Below.setCell ?_ (by first | (simp; done) | (simp; omega) | omega) _))
        · obtain rfl : j = n := by omega
          rw [List.take_of_length_le (by have := hlA.out; omega)] at hrl
          rw [List.take_of_length_le (by have := hlB.out; omega)] at hrf
          have hty : Hid (readTy ss ts s = some ⟨l, fs, wh⟩) := Lib.hid (readTy_some hnm'.out hrl hrf hwh'.out)
          have hll := Lib.hid (readNs_length hrl)
          have hlf := Lib.hid (readFs_length hrf)
          have hfin : Hid (∀ W t, dW (some ⟨l, fs, wh⟩) = t → W.ownsRow (w.heap.size + 2) 9 1 (.slice A1 j c1) j ((l.map (fun s => (⟨(swapB s).toArray⟩ : ByteArray))).map Value.string) →
              W.ownsRow (w.heap.size + 2) 9 1 (.slice B1 j d1) j ((fs.map (fun f => (⟨f.dual.text.toArray⟩ : ByteArray))).map Value.string) → Below w.heap.size w W →
              TyRet2 (dN (readTy ss ts s)) (dT (readTy ss ts s)) (dW (readTy ss ts s)) (readTy ss ts s).isSome w (.returned (.tuple #[tyV A1 j c1 B1 j d1 t, .bool true])) W) := Lib.hid fun W t ht o1 o2 hb => by
            rw [hty.out]
            have e1 : (dN (some ⟨l, fs, wh⟩)).length = j := by simp [dN, Ty.dnames, hll.out]; have := hlA.out; omega
            have e2 : (dT (some ⟨l, fs, wh⟩)).length = j := by simp [dT, Ty.dtypes, hlf.out]; have := hlB.out; omega
            refine ⟨A1, c1, B1, d1, by rw [e1, e2, ht]; rfl, ?_, hb⟩
            rw [e1, e2]
            exact ⟨own_lower o1 (by omega), own_lower o2 (by omega), hap'.out, fun k hk => (o1.lt k hk).2, fun k hk => (o2.lt k hk).2⟩
          have hset : Hid (∀ (W : World) (k : Nat) (q o : Nat) (v : Value), (Value.slice A1 j c1).ownBlock = some k ∨ (Value.slice B1 j d1).ownBlock = some k → (q = w.heap.size + 4 ∨ q = w.heap.size + 1) → (W.setCell ⟨q, o, none⟩ v).heap[k]? = W.heap[k]?) := Lib.hid fun W k q o v hk hq => Below.heap_setCell _ _ _ _ (by
            simp only
            rcases hk with hk | hk
            · have := (own1'.out.lt k hk).1; have := hn4'.out k hk; omega
            · have := (own2'.out.lt k hk).1; have := hm4'.out k hk; omega)
          by_cases hse : s.size = 0
          · have hsb : (s.toList == []) = true := by rw [Lib.toList_data, beq_iff_eq]; rw [ba_size] at hse; exact List.eq_nil_of_length_eq_zero hse
            have hwn : Hid (dW (some ⟨l, fs, wh⟩) = ⟨#[]⟩) := Lib.hid (by
              have h := hwh0.out hse
              rw [hwh'.out] at h
              injection h with h; subst h
              rfl)
            clear hrl hrf hse
            go_wp2_with fail
            refine bodyPost_ret (v := .tuple #[tyV A1 j c1 B1 j d1 ⟨#[]⟩, .bool true]) (by simp [results, Try.results6, go_sem, b0, b1, b2]) rfl ?_
            refine hfin.out _ _ hwn.out (own_same own1'.out (fun k hk => ?_)) (own_same own2'.out (fun k hk => ?_)) (by have hbel := hbel'.out; exact (by repeat (with_reducible first | exact hbel | exact Below.refl _ _ | refine Below.drew ?_ | refine Below.drewN ?_ _ | refine Below.alloc ?_ (by first | (simp; done) | (simp; omega) | omega | (have := Below.size hbel; simp; omega) | (have := Below.size hbel; omega)) _ | refine Below.setCell ?_ (by first | (simp; done) | (simp; omega) | omega) _)))
            · rw [hset.out _ k _ _ _ (.inl hk) (.inr rfl), hset.out _ k _ _ _ (.inl hk) (.inr rfl), hset.out _ k _ _ _ (.inl hk) (.inr rfl)]
            · rw [hset.out _ k _ _ _ (.inr hk) (.inr rfl), hset.out _ k _ _ _ (.inr hk) (.inr rfl), hset.out _ k _ _ _ (.inr hk) (.inr rfl)]
          · have hsb : (s.toList == []) = false := by rw [Lib.toList_data, beq_eq_false_iff_ne]; intro e; rw [ba_size, e] at hse; exact hse rfl
            obtain ⟨f, hf, hwf⟩ : ∃ f, readF s.data.toList = some f ∧ wh = some f := by
              have h := hwh1.out hse
              rw [hwh'.out] at h
              cases hr : readF s.data.toList with
              | none => rw [hr] at h; cases h
              | some f => rw [hr] at h; injection h with h; exact ⟨f, rfl, h⟩
            have hD := Lib.hid (fun W => specDual_any s W)
            rw [hf, show dualS (some f) = ⟨f.dual.text.toArray⟩ from rfl, show (some f : Option F).isSome = true from rfl] at hD
            have hwn : Hid (dW (some ⟨l, fs, wh⟩) = ⟨f.dual.text.toArray⟩) := Lib.hid (by rw [hwf]; rfl)
            clear hrl hrf hse hf hwf
            go_wp2_with fail
            refine Calls.mono (hD.out _) ?_
            rintro e w7 ⟨rfl, hb7⟩
            obtain ⟨-, t2, t3, t4, t5, t6, t7⟩ := three_cells ((hb7.block (w.heap.size + 1) y1).trans h1'.out)
            obtain ⟨-, x2, x3, x4, x5, x6, x7⟩ := three_cells ((hb7.block (w.heap.size + 4) y4).trans h4'.out)
            have hb7' := Lib.hid hb7
            clear hb7 b0 b1 b2 f0 f1 f2 d0 d1' d2 g0 g1 g2
            go_wp2_with fail
            refine bodyPost_ret (v := .tuple #[tyV A1 j c1 B1 j d1 ⟨f.dual.text.toArray⟩, .bool true]) (by simp [results, Try.results6, go_sem, t2, t3, t4]) rfl ?_
            refine hfin.out _ _ hwn.out (own_same (own_below own1'.out hb7'.out) (fun k hk => ?_)) (own_same (own_below own2'.out hb7'.out) (fun k hk => ?_)) (by have hbel := below_step hbel'.out (Nat.le_refl _) hb7'.out; exact (by repeat (with_reducible first | exact hbel | exact Below.refl _ _ | refine Below.drew ?_ | refine Below.drewN ?_ _ | refine Below.alloc ?_ (by first | (simp; done) | (simp; omega) | omega | (have := Below.size hbel; simp; omega) | (have := Below.size hbel; omega)) _ | refine Below.setCell ?_ (by first | (simp; done) | (simp; omega) | omega) _)))
            · rw [hset.out _ k _ _ _ (.inl hk) (.inr rfl), hset.out _ k _ _ _ (.inl hk) (.inr rfl), hset.out _ k _ _ _ (.inl hk) (.inr rfl), hset.out _ k _ _ _ (.inl hk) (.inl rfl)]
            · rw [hset.out _ k _ _ _ (.inr hk) (.inr rfl), hset.out _ k _ _ _ (.inr hk) (.inr rfl), hset.out _ k _ _ _ (.inr hk) (.inr rfl), hset.out _ k _ _ _ (.inr hk) (.inl rfl)]
    · have hr := Lib.hid (badTy_none hbd)
      clear hbd hbad
      go_wp2_with fail
      refine bodyPost_ret (v := .tuple #[tyV none 0 0 none 0 0 ⟨#[]⟩, .bool false]) (by simp [results, Try.results6, go_sem, b0, b1, b2]) rfl ?_
      have hbel := hbw.out
      exact hno.out hr.out _ (by repeat (with_reducible first | exact hbel | exact Below.refl _ _ | refine Below.drew ?_ | refine Below.drewN ?_ _ | refine Below.alloc ?_ (by first | (simp; done) | (simp; omega) | omega | (have := Below.size hbel; simp; omega) | (have := Below.size hbel; omega)) _ | refine Below.setCell ?_ (by first | (simp; done) | (simp; omega) | omega) _))

end Go.Proofs.Ytdbdcfijeeelkaa
