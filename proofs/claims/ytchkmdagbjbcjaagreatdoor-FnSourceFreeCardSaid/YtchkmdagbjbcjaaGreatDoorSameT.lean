/- laws.sameTexts, laws.hasText. -/
import Derived.Test.YtchkmdagbjbcjaaGreatDoorStrs
import Derived.Test.YtchkmdagbjbcjaaGreatDoorFrG
namespace Go.Proofs.YtchkmdagbjbcjaaGreatDoor
set_option linter.unusedVariables false
open Go.RowKit

theorem same_any (A B : Option Addr) (n m c d : Nat) (xs ys : List ByteArray) (w : World) (ha : RowS w A n xs) (hb : RowS w B m ys) (hn : n ≤ 100000000) :
    Calls Tryz.prog 8 #[.slice A n c, .slice B m d] w fun e w' => e = .returned (.bool (decide (xs = ys))) ∧ Below w.heap.size w w' := by
  by_cases hnm : n = m
  · subst hnm
    by_cases h0 : n = 0
    · subst h0
      have e1 : xs = [] := List.eq_nil_of_length_eq_zero ha.1.symm
      have e2 : ys = [] := List.eq_nil_of_length_eq_zero hb.1.symm
      subst e1 e2
      clear ha hb
      go_enter Tryz.func8, Tryz.ntmps8
      go_wp2_with fail
      go_loop [5] (fun i => i = .int .i64 0) (fun _ => 0)
      case atStart => rfl
      case round =>
        subst hrel
        go_wp2_with fail
        go_ret
        exact ⟨rfl, Below.refl _ _⟩
    · obtain ⟨b1, o1, rfl, hl1, hc1⟩ := ha.2 (by omega)
      obtain ⟨b2, o2, rfl, hl2, hc2⟩ := hb.2 (by omega)
      have ea := ha.1
      have eb := hb.1
      have ea' := Lib.hid ea
      have eb' := Lib.hid eb
      have hc1' := Lib.hid hc1
      have hc2' := Lib.hid hc2
      clear ha hb hc1 hc2 ea eb
      go_enter Tryz.func8, Tryz.ntmps8
      go_wp2_with fail
      go_loopw [5] (fun i wr => ∃ k : Nat, k ≤ n ∧ i = .int .i64 k ∧ xs.take k = ys.take k ∧ Below w.heap.size w wr) (fun i _ => n - (intOf i).toNat)
      case atStart => exact ⟨0, Nat.zero_le _, rfl, rfl, Below.refl _ _⟩
      case round =>
        obtain ⟨k, hk, rfl, heq, hbel⟩ := hrel
        have heq' := Lib.hid heq
        have hbel' := Lib.hid hbel
        clear heq
        by_cases hlt : k < n
        · have l1 : k < xs.length := by have := ea'.out; omega
          have l2 : k < ys.length := by have := eb'.out; omega
          have x1 := (hbel.cell (p := ⟨b1, o1 + k, none⟩) hl1).trans (hc1'.out k xs[k] (List.getElem?_eq_getElem l1))
          have x2 := (hbel.cell (p := ⟨b2, o2 + k, none⟩) hl2).trans (hc2'.out k ys[k] (List.getElem?_eq_getElem l2))
          have i1 : (k : Int) < (n : Int) := by omega
          have i0 : (0 : Int) ≤ (k : Int) := by omega
          generalize hs : xs[k] = s at x1
          generalize ht : ys[k] = t at x2
          have hs' := Lib.hid hs
          have ht' := Lib.hid ht
          clear hs ht hbel
          by_cases hst : s = t
          · have hb1 := strNe s t true (by simp [hst])
            have hst' := Lib.hid hst
            clear hst
            go_wp2_with fail
            go_region
            go_wp2_with fail
            go_roundw
            case rel =>
              refine ⟨k + 1, by omega, by go_num, ?_, hbel'.out.drew⟩
              rw [List.take_succ_eq_append_getElem l1, List.take_succ_eq_append_getElem l2, heq'.out, hs'.out, ht'.out, hst'.out]
            case measure => simp [intOf]; omega
          · have hb1 := strNe s t false (by simp [hst])
            have hne : Hid (decide (xs = ys) = false) := by
              show decide (xs = ys) = false
              rw [decide_eq_false_iff_not]
              intro e
              subst e
              exact hst (hs'.out.symm.trans ht'.out)
            clear hst
            go_wp2_with fail
            go_region
            go_wp2_with fail
            go_ret
            exact ⟨ret_bool hne.out.symm, hbel'.out.drew⟩
        · have hfin : Hid (decide (xs = ys) = true) := by
            have e1 := ea'.out
            have e2 := eb'.out
            have h := heq'.out
            rw [List.take_of_length_le (by omega), List.take_of_length_le (by omega)] at h
            exact decide_eq_true h
          go_wp2_with fail
          go_ret
          exact ⟨ret_bool hfin.out.symm, hbel'.out⟩
  · have hne : Hid (decide (xs = ys) = false) := by
      show decide (xs = ys) = false
      rw [decide_eq_false_iff_not]
      intro e
      rw [ha.1, hb.1, e] at hnm
      exact hnm rfl
    have hb1 : (((n : Int) != (m : Int))) = true := by rw [bne_iff_ne]; omega
    clear ha hb hnm
    go_enter Tryz.func8, Tryz.ntmps8
    go_wp2_with fail
    go_ret
    exact ⟨ret_bool hne.out.symm, Below.refl _ _⟩

/-- Does the list hold the text? -/
theorem hasT_any (A : Option Addr) (n c : Nat) (ss : List ByteArray) (s : ByteArray) (w : World) (hr : RowS w A n ss) (hn : n ≤ 100000000) :
    Calls Tryz.prog 9 #[.slice A n c, .string s] w fun e w' => e = .returned (.bool (isIn s ss)) ∧ w = w' := by
  by_cases h0 : n = 0
  · subst h0
    have e : ss = [] := List.eq_nil_of_length_eq_zero hr.1.symm
    subst e
    clear hr
    go_enter Tryz.func9, Tryz.ntmps9
    go_wp2_with fail
    go_loop [5] (fun i => i = .int .i64 0) (fun _ => 0)
    case atStart => rfl
    case round =>
      subst hrel
      go_wp2_with fail
      go_ret
      exact ⟨rfl, rfl⟩
  · obtain ⟨b, o, rfl, hblt, hc⟩ := hr.2 (by omega)
    have hl := Lib.hid hr.1
    have hc' := Lib.hid hc
    clear hr hc
    go_enter Tryz.func9, Tryz.ntmps9
    go_wp2_with fail
    go_loop [5] (fun i => ∃ k : Nat, k ≤ n ∧ i = .int .i64 k ∧ s ∉ ss.take k) (fun i => n - (intOf i).toNat)
    case atStart => exact ⟨0, Nat.zero_le _, rfl, by simp⟩
    case round =>
      obtain ⟨k, hk, rfl, hno⟩ := hrel
      have hno' := Lib.hid hno
      clear hno
      by_cases hlt : k < n
      · have l1 : k < ss.length := by have := hl.out; omega
        have x1 := hc'.out k ss[k] (List.getElem?_eq_getElem l1)
        have i1 : (k : Int) < (n : Int) := by omega
        have i0 : (0 : Int) ≤ (k : Int) := by omega
        generalize ht : ss[k] = t at x1
        have ht' := Lib.hid ht
        clear ht
        by_cases hst : t = s
        · have hb1 := strNe t s true (by simp [hst])
          have hin : Hid (isIn s ss = true) := by
            show isIn s ss = true
            rw [isIn_iff, ← hst, ← ht'.out]; exact List.getElem_mem l1
          clear hst
          go_wp2_with fail
          go_ret
          exact ⟨ret_bool hin.out.symm, rfl⟩
        · have hb1 := strNe t s false (by simp [hst])
          have hst' := Lib.hid hst
          clear hst
          go_wp2_with fail
          go_round
          case rel =>
            refine ⟨k + 1, by omega, by go_num, fun hm => ?_⟩
            rw [List.take_succ_eq_append_getElem l1, List.mem_append] at hm
            rcases hm with hm | hm
            · exact hno'.out hm
            · simp at hm; exact hst'.out (ht'.out.symm.trans hm.symm)
          case measure => simp [intOf]; omega
      · have hfin : Hid (isIn s ss = false) := by
          have h := hno'.out
          rw [List.take_of_length_le (by have := hl.out; omega)] at h
          exact isIn_not h
        go_wp2_with fail
        go_ret
        exact ⟨ret_bool hfin.out.symm, rfl⟩

end Go.Proofs.YtchkmdagbjbcjaaGreatDoor
