/- spec.l3Names, spec.l3All. -/
import Derived.Test.YtdbdcfijeeelkaaTyHelp
import Derived.Test.YtdbdcfijeeelkaaSpecV
import Derived.Test.YtdbdcfijeeelkaaValidS
import Derived.Deep.RegionHeld3
import Derived.Deep.RegionWith
import Derived.StillTailTactics
import Derived.BigQuiet
import Derived.Deep.Cut
import Derived.Deep.CutRange
import Derived.Deep.CutBlock
namespace Go.Proofs.Ytdbdcfijeeelkaa
set_option linter.unusedVariables false
open Go.RowKit

/-- Are all texts names, each one once, and are there as many formulas? -/
def allN (ss ts : List ByteArray) : Bool := decide (ss.length = ts.length) && (readNs ss).isSome && (readFs ts).isSome && decide ss.Nodup

theorem nodupB_snoc {l : List ByteArray} {j : Nat} (hj : j < l.length) (hn : (l.take j).Nodup) (h : l[j] ∉ l.take j) : (l.take (j + 1)).Nodup := by
  rw [List.take_succ_eq_append_getElem hj, List.nodup_append]
  exact ⟨hn, by simp, fun a ha b hb e => by simp at hb; subst hb; exact h (e ▸ ha)⟩
theorem nodupB_not {l : List ByteArray} {j : Nat} (hj : j < l.length) (h : l[j] ∈ l.take j) : ¬ l.Nodup := fun hn => by
  have h1 : (l.take (j + 1)).Nodup := hn.sublist (List.take_sublist _ _)
  rw [List.take_succ_eq_append_getElem hj, List.nodup_append] at h1
  exact h1.2.2 _ h _ (by simp) rfl
theorem RowS.take {w : World} {A : Option Addr} {n : Nat} {ss : List ByteArray} (h : RowS w A n ss) {j : Nat} (hj : j ≤ n) : RowS w A j (ss.take j) := by
  refine ⟨by rw [List.length_take]; have := h.1; omega, fun h0 => ?_⟩
  obtain ⟨b, o, e, hlt, hc⟩ := h.2 (by omega)
  refine ⟨b, o, e, hlt, fun i s hi => hc i s ?_⟩
  rw [List.getElem?_take] at hi
  split at hi
  · exact hi
  · cases hi

set_option maxRecDepth 100000 in
set_option maxHeartbeats 1500000 in
theorem l3Names_any (A : Option Addr) (n c : Nat) (ss : List ByteArray) (B : Option Addr) (m d : Nat) (ts : List ByteArray) (w : World) (hA : RowS w A n ss) (hB : RowS w B m ts) (hn : n ≤ 10000000) (hm : m ≤ 10000000) (hnc : n ≤ c) :
    Calls Try.prog 41 #[.slice A n c, .slice B m d] w fun e w' => e = .returned (.bool (allN ss ts)) ∧ Below w.heap.size w w' := by
  have hlA := Lib.hid hA.1
  have hlB := Lib.hid hB.1
  have hA' := Lib.hid (fun W (hW : Below w.heap.size w W) => hA.below hW)
  have hB' := Lib.hid (fun W (hW : Below w.heap.size w W) => hB.below hW)
  clear hA hB
  by_cases hnm : n = m
  · have hi : ((n : Int) != (m : Int)) = false := by rw [hnm]; simp
    have hnm' := Lib.hid hnm
    clear hnm
    go_enter Try.func41, Try.ntmps41
    go_wp2_with fail
    go_loopw [5] (fun i wr => ∃ j : Nat, j ≤ n ∧ i = .int .i64 j ∧ (∃ l, readNs (ss.take j) = some l) ∧ (∃ fs, readFs (ts.take j) = some fs) ∧ (ss.take j).Nodup ∧ Below w.heap.size w wr) (fun i _ => n - (intOf i).toNat)
    case atStart => exact ⟨0, Nat.zero_le _, rfl, ⟨[], rfl⟩, ⟨[], rfl⟩, by simp, Below.refl _ _⟩
    case round =>
      obtain ⟨j, hj, rfl, ⟨l, hrl⟩, ⟨fs, hrf⟩, hnd, hbel⟩ := hrel
      have hbel' := Lib.hid hbel
      by_cases hlt : j < n
      · have hrA := hA'.out wr hbel
        obtain ⟨bA, oA, hAe, hbA, hcA⟩ := hrA.2 (by omega)
        obtain ⟨bB, oB, hBe, hbB, hcB⟩ := (hB'.out wr hbel).2 (by have := hnm'.out; omega)
        subst hAe hBe
        have lA : j < ss.length := by have := hlA.out; omega
        have lB : j < ts.length := by have := hlB.out; have := hnm'.out; omega
        have xA := hcA j ss[j] (List.getElem?_eq_getElem lA)
        have xB := hcB j ts[j] (List.getElem?_eq_getElem lB)
        have hstepN := readNs_step lA hrl
        have hstepF := readFs_step lB hrf
        have hin1 := Lib.hid (fun (h : ss[j] ∉ ss.take j) => nodupB_snoc lA hnd h)
        have hin2 := Lib.hid (fun (h : ss[j] ∈ ss.take j) => nodupB_not lA h)
        have hrT := hrA.take hj
        generalize ss[j] = t at *
        generalize ts[j] = u at *
        have i1 : (j : Int) < (n : Int) := by omega
        have i2 : (j : Int) < (m : Int) := by have := hnm'.out; omega
        have i3 : (j : Int) ≤ (c : Int) := by omega
        have i0 : (0 : Int) ≤ (j : Int) := by omega
        have hv := Lib.hid (fun W => l2Var_any t W)
        have hc := Lib.hid (fun W => l2Covar_any t W)
        have hh := Lib.hid (fun W (hW : Below wr.heap.size wr W) => has_any (some ⟨bA, oA, none⟩) j c (ss.take j) t W (hrT.below hW) (by omega))
        have hu := Lib.hid (fun W => specValid_any u W)
        have xA' := Lib.hid xA
        have xB' := Lib.hid xB
        have hsn : isName t.data.toList = (isVar t.data.toList || isCov t.data.toList) := rfl
        have hS : Hid (∀ W, Below wr.heap.size wr W → W.cell? ⟨bA, oA + j, none⟩ = some (.string t) ∧ W.cell? ⟨bB, oB + j, none⟩ = some (.string u)) := Lib.hid fun W hW => ⟨(hW.cell (p := ⟨bA, oA + j, none⟩) hbA).trans xA'.out, (hW.cell (p := ⟨bB, oB + j, none⟩) hbB).trans xB'.out⟩
        have bad : Hid (isName t.data.toList = false ∨ isIn t (ss.take j) = true ∨ readF u.data.toList = none → allN ss ts = false) := Lib.hid fun h => by
          unfold allN
          rcases h with h | h | h
          · rw [readNs_stop (j := j + 1) (by rw [hstepN, h]; rfl)]; simp
          · rw [decide_eq_false (hin2.out (isIn_iff.1 h))]; simp
          · rw [readFs_stop (j := j + 1) (by rw [hstepF, h]; rfl)]; simp
        clear hcA hcB hrl hrf hnd hrA hrT hbel
        go_upto_region 6 with fail
        go_cut [48] from 11 to 48 (fun b wx => b = .bool (!isName t.data.toList || isIn t (ss.take j) || (readF u.data.toList).isNone) ∧ Below wr.heap.size wr wx)
        case first =>
          have e0 := xA'.out
          have e1 := xB'.out
          cases hv1 : isVar t.data.toList
          · rw [hv1] at hv hsn
            cases hc1 : isCov t.data.toList
            · rw [hc1] at hc hsn
              clear hv1 hc1
              go_still_tail 29, (by kernel_rfl)
              with_reducible refine wpStill_step (fun K hK => ?_)
              go_simp
              refine ⟨_, ((hv.out _).mono (fun _ _ h => ⟨h.1, h.2.symm⟩)), ?_⟩
              with_reducible refine hK _ ?_
              clear hK K
              iterate 6 (with_reducible refine wpStill_step (fun K hK => ?_); go_simp; with_reducible refine hK _ ?_; clear hK K)
              with_reducible refine wpStill_step (fun K hK => ?_)
              go_simp
              refine ⟨_, ((hc.out _).mono (fun _ _ h => ⟨h.1, h.2.symm⟩)), ?_⟩
              with_reducible refine hK _ ?_
              clear hK K
              iterate 17 (with_reducible refine wpStill_step (fun K hK => ?_); go_simp; with_reducible refine hK _ ?_; clear hK K)
              with_reducible refine wpStill_nil ?_
              change wpList _ _ _ _ _ wr.drew
              go_wp2_with fail
              go_meet
              exact ⟨by rw [hsn]; rfl, (by repeat (with_reducible first | exact Below.refl _ _ | exact hbb | refine Below.drew ?_ | refine bb_alloc ?_ _ | refine below_step ?_ (Nat.le_refl _) hb1 | refine below_step ?_ (Nat.le_refl _) hb2 | refine below_step ?_ (Nat.le_refl _) hb3 | refine below_step ?_ (Nat.le_refl _) hb4))⟩
            · rw [hc1] at hc hsn
              clear hv1 hc1
              cases hi1 : isIn t (ss.take j)
              · rw [hi1] at hh
                have hih := Lib.hid hi1
                clear hi1
                cases hf : readF u.data.toList
                all_goals
                  rw [hf] at hu
                  first | rw [show (none : Option F).isSome = false from rfl] at hu | (rename_i f; rw [show (some f : Option F).isSome = true from rfl] at hu)
                  have hfh := Lib.hid hf
                  clear hf
                  go_still_tail 29, (by kernel_rfl)
                  with_reducible refine wpStill_step (fun K hK => ?_)
                  go_simp
                  refine ⟨_, ((hv.out _).mono (fun _ _ h => ⟨h.1, h.2.symm⟩)), ?_⟩
                  with_reducible refine hK _ ?_
                  clear hK K
                  iterate 6 (with_reducible refine wpStill_step (fun K hK => ?_); go_simp; with_reducible refine hK _ ?_; clear hK K)
                  with_reducible refine wpStill_step (fun K hK => ?_)
                  go_simp
                  refine ⟨_, ((hc.out _).mono (fun _ _ h => ⟨h.1, h.2.symm⟩)), ?_⟩
                  with_reducible refine hK _ ?_
                  clear hK K
                  iterate 10 (with_reducible refine wpStill_step (fun K hK => ?_); go_simp; with_reducible refine hK _ ?_; clear hK K)
                  with_reducible refine wpStill_step (fun K hK => ?_)
                  go_simp
                  refine ⟨_, ((hh.out _ (Below.refl _ _).drew).mono (fun _ _ h => ⟨h.1, h.2.symm⟩)), ?_⟩
                  with_reducible refine hK _ ?_
                  clear hK K
                  iterate 6 (with_reducible refine wpStill_step (fun K hK => ?_); go_simp; with_reducible refine hK _ ?_; clear hK K)
                  with_reducible refine wpStill_nil ?_
                  change wpList _ _ _ _ _ wr.drew
                  go_wp2_with (first | (go_at_call 15; refine Calls.mono (hu.out _) ?_; rintro e w7 ⟨rfl, hb1⟩))
                  go_meet
                  exact ⟨by rw [hsn, hih.out, hfh.out]; rfl, (by repeat (with_reducible first | exact Below.refl _ _ | exact hbb | refine Below.drew ?_ | refine bb_alloc ?_ _ | refine below_step ?_ (Nat.le_refl _) hb1 | refine below_step ?_ (Nat.le_refl _) hb2 | refine below_step ?_ (Nat.le_refl _) hb3 | refine below_step ?_ (Nat.le_refl _) hb4))⟩
              · rw [hi1] at hh
                have hih := Lib.hid hi1
                clear hi1
                go_still_tail 29, (by kernel_rfl)
                with_reducible refine wpStill_step (fun K hK => ?_)
                go_simp
                refine ⟨_, ((hv.out _).mono (fun _ _ h => ⟨h.1, h.2.symm⟩)), ?_⟩
                with_reducible refine hK _ ?_
                clear hK K
                iterate 6 (with_reducible refine wpStill_step (fun K hK => ?_); go_simp; with_reducible refine hK _ ?_; clear hK K)
                with_reducible refine wpStill_step (fun K hK => ?_)
                go_simp
                refine ⟨_, ((hc.out _).mono (fun _ _ h => ⟨h.1, h.2.symm⟩)), ?_⟩
                with_reducible refine hK _ ?_
                clear hK K
                iterate 10 (with_reducible refine wpStill_step (fun K hK => ?_); go_simp; with_reducible refine hK _ ?_; clear hK K)
                with_reducible refine wpStill_step (fun K hK => ?_)
                go_simp
                refine ⟨_, ((hh.out _ (Below.refl _ _).drew).mono (fun _ _ h => ⟨h.1, h.2.symm⟩)), ?_⟩
                with_reducible refine hK _ ?_
                clear hK K
                iterate 6 (with_reducible refine wpStill_step (fun K hK => ?_); go_simp; with_reducible refine hK _ ?_; clear hK K)
                with_reducible refine wpStill_nil ?_
                change wpList _ _ _ _ _ wr.drew
                go_wp2_with fail
                go_meet
                exact ⟨by rw [hsn, hih.out]; rfl, (by repeat (with_reducible first | exact Below.refl _ _ | exact hbb | refine Below.drew ?_ | refine bb_alloc ?_ _ | refine below_step ?_ (Nat.le_refl _) hb1 | refine below_step ?_ (Nat.le_refl _) hb2 | refine below_step ?_ (Nat.le_refl _) hb3 | refine below_step ?_ (Nat.le_refl _) hb4))⟩
          · rw [hv1] at hv hsn
            clear hv1
            cases hi1 : isIn t (ss.take j)
            · rw [hi1] at hh
              have hih := Lib.hid hi1
              clear hi1
              cases hf : readF u.data.toList
              all_goals
                rw [hf] at hu
                first | rw [show (none : Option F).isSome = false from rfl] at hu | (rename_i f; rw [show (some f : Option F).isSome = true from rfl] at hu)
                have hfh := Lib.hid hf
                clear hf
                go_still_tail 29, (by kernel_rfl)
                with_reducible refine wpStill_step (fun K hK => ?_)
                go_simp
                refine ⟨_, ((hv.out _).mono (fun _ _ h => ⟨h.1, h.2.symm⟩)), ?_⟩
                with_reducible refine hK _ ?_
                clear hK K
                iterate 17 (with_reducible refine wpStill_step (fun K hK => ?_); go_simp; with_reducible refine hK _ ?_; clear hK K)
                with_reducible refine wpStill_step (fun K hK => ?_)
                go_simp
                refine ⟨_, ((hh.out _ (Below.refl _ _).drew).mono (fun _ _ h => ⟨h.1, h.2.symm⟩)), ?_⟩
                with_reducible refine hK _ ?_
                clear hK K
                iterate 6 (with_reducible refine wpStill_step (fun K hK => ?_); go_simp; with_reducible refine hK _ ?_; clear hK K)
                with_reducible refine wpStill_nil ?_
                change wpList _ _ _ _ _ wr.drew
                go_wp2_with (first | (go_at_call 15; refine Calls.mono (hu.out _) ?_; rintro e w7 ⟨rfl, hb1⟩))
                go_meet
                exact ⟨by rw [hsn, hih.out, hfh.out]; rfl, (by repeat (with_reducible first | exact Below.refl _ _ | exact hbb | refine Below.drew ?_ | refine bb_alloc ?_ _ | refine below_step ?_ (Nat.le_refl _) hb1 | refine below_step ?_ (Nat.le_refl _) hb2 | refine below_step ?_ (Nat.le_refl _) hb3 | refine below_step ?_ (Nat.le_refl _) hb4))⟩
            · rw [hi1] at hh
              have hih := Lib.hid hi1
              clear hi1
              go_still_tail 29, (by kernel_rfl)
              with_reducible refine wpStill_step (fun K hK => ?_)
              go_simp
              refine ⟨_, ((hv.out _).mono (fun _ _ h => ⟨h.1, h.2.symm⟩)), ?_⟩
              with_reducible refine hK _ ?_
              clear hK K
              iterate 17 (with_reducible refine wpStill_step (fun K hK => ?_); go_simp; with_reducible refine hK _ ?_; clear hK K)
              with_reducible refine wpStill_step (fun K hK => ?_)
              go_simp
              refine ⟨_, ((hh.out _ (Below.refl _ _).drew).mono (fun _ _ h => ⟨h.1, h.2.symm⟩)), ?_⟩
              with_reducible refine hK _ ?_
              clear hK K
              iterate 6 (with_reducible refine wpStill_step (fun K hK => ?_); go_simp; with_reducible refine hK _ ?_; clear hK K)
              with_reducible refine wpStill_nil ?_
              change wpList _ _ _ _ _ wr.drew
              go_wp2_with fail
              go_meet
              exact ⟨by rw [hsn, hih.out]; rfl, (by repeat (with_reducible first | exact Below.refl _ _ | exact hbb | refine Below.drew ?_ | refine bb_alloc ?_ _ | refine below_step ?_ (Nat.le_refl _) hb1 | refine below_step ?_ (Nat.le_refl _) hb2 | refine below_step ?_ (Nat.le_refl _) hb3 | refine below_step ?_ (Nat.le_refl _) hb4))⟩
        case rest =>
          obtain ⟨rfl, hb6⟩ := hcut
          have hb6' := Lib.hid (below_step hbel'.out (Nat.le_refl _) hb6)
          clear hb6
          cases hbd : (!isName t.data.toList || isIn t (ss.take j) || (readF u.data.toList).isNone)
          · rw [Bool.or_eq_false_iff, Bool.or_eq_false_iff] at hbd
            obtain ⟨⟨hb1, hb2⟩, hb3⟩ := hbd
            rw [Bool.not_eq_false'] at hb1
            have h1 : Hid (∃ l, readNs (ss.take (j + 1)) = some l) := Lib.hid ⟨_, by rw [hstepN, hb1, if_pos rfl]⟩
            have h2 : Hid (∃ fs, readFs (ts.take (j + 1)) = some fs) := Lib.hid (by
              rw [hstepF]
              cases h : readF u.data.toList with
              | none => rw [h] at hb3; cases hb3
              | some f => exact ⟨_, rfl⟩)
            have h3 := Lib.hid (hin1.out (fun h => by rw [isIn_iff.2 h] at hb2; cases hb2))
            clear hb1 hb2 hb3 hstepN hstepF hsn
            go_wp2_with fail
            go_roundw
            case rel => exact ⟨j + 1, by omega, by go_num, h1.out, h2.out, h3.out, hb6'.out⟩
            case measure => simp [intOf]; omega
          · have hr := Lib.hid (bad.out (by
              rw [Bool.or_eq_true, Bool.or_eq_true] at hbd
              rcases hbd with (h | h) | h
              · exact .inl (by simpa using h)
              · exact .inr (.inl h)
              · exact .inr (.inr (by simpa using h))))
            clear hbd hstepN hstepF hsn
            go_wp2_with fail
            go_ret
            exact ⟨by rw [hr.out]; rfl, hb6'.out⟩
      · have hr : Hid (allN ss ts = true) := Lib.hid (by
          rw [List.take_of_length_le (by have := hlA.out; omega)] at hrl hnd
          rw [List.take_of_length_le (by have := hlB.out; have := hnm'.out; omega)] at hrf
          unfold allN
          rw [hrl, hrf, decide_eq_true hnd, decide_eq_true (by have := hlA.out; have := hlB.out; have := hnm'.out; omega)]
          rfl)
        clear hrl hrf hnd hbel
        go_wp2_with fail
        go_ret
        exact ⟨by rw [hr.out]; rfl, hbel'.out⟩
  · have hne : Hid (allN ss ts = false) := Lib.hid (by
      unfold allN
      rw [decide_eq_false (by have := hlA.out; have := hlB.out; omega)]; rfl)
    have hi : ((n : Int) != (m : Int)) = true := by rw [bne_iff_ne]; omega
    clear hnm
    go_enter Try.func41, Try.ntmps41
    go_wp2_with fail
    go_ret
    exact ⟨by rw [hne.out]; rfl, Below.refl _ _⟩

end Go.Proofs.Ytdbdcfijeeelkaa
