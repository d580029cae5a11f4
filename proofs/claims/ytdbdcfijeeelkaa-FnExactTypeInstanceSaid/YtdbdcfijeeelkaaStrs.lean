/- Slices of strings: what they read as; the laws' own helpers (eqStringS, szStringS, toStringS, markText, markStringS, heldStringS). -/
import Derived.Test.YtdbdcfijeeelkaaTree
import Derived.SliceStrings
import Derived.Deep.RegionHeld3
import Derived.Deep.QuietTactic
import Derived.BigQuiet
namespace Go.Proofs.Ytdbdcfijeeelkaa
open Go.RowKit

/-- The slice (A, n) reads as the texts ss. -/
def RowS (w : World) (A : Option Addr) (n : Nat) (ss : List ByteArray) : Prop :=
  n = ss.length ∧ (0 < n → ∃ b o, A = some ⟨b, o, none⟩ ∧ b < w.heap.size ∧ ∀ (i : Nat) (s : ByteArray), ss[i]? = some s → w.cell? ⟨b, o + i, none⟩ = some (.string s))

theorem RowS.below {w w' : World} {A : Option Addr} {n : Nat} {ss : List ByteArray} (h : RowS w A n ss) (hb : Below w.heap.size w w') : RowS w' A n ss := by
  refine ⟨h.1, fun hn => ?_⟩
  obtain ⟨b, o, e, hlt, hc⟩ := h.2 hn
  exact ⟨b, o, e, Nat.lt_of_lt_of_le hlt hb.size, fun i s hi => (hb.cell (p := ⟨b, o + i, none⟩) hlt).trans (hc i s hi)⟩

theorem RowS.of_own {w : World} {base : Nat} {E : TypeId} {A : Option Addr} {n c : Nat} {ss : List ByteArray} (h : w.ownsRow base E 1 (.slice A n c) n (ss.map Value.string)) : RowS w A n ss := by
  refine ⟨by have := h.1; simpa using this.symm, fun hn => ?_⟩
  obtain ⟨g, cap, hv, _, hlt⟩ := h.form hn
  have hA : A = some ⟨g, 0, none⟩ := by injection hv
  subst hA
  refine ⟨g, 0, rfl, hlt, fun i s hi => ?_⟩
  have h1 := h.cells (g := g) rfl i (.string s) (by rw [List.getElem?_map, hi]; rfl)
  have e : ({ block := g, off := 0, spot := none } : Addr).add i = ⟨g, 0 + i, none⟩ := by unfold Addr.add; split <;> simp_all
  rw [e] at h1
  exact h1

theorem strNe (s t : ByteArray) (b : Bool) (h : decide (s = t) = b) : (s.toList == t.toList) = b := by
  subst h
  rw [Bool.eq_iff_iff, Lib.toList_data, Lib.toList_data]
  simp only [beq_iff_eq, decide_eq_true_eq]
  constructor
  · intro h; exact ByteArray.ext (Array.toList_inj.1 h)
  · intro h; rw [h]

theorem eq_any (A B : Option Addr) (n m c d : Nat) (xs ys : List ByteArray) (w : World) (ha : RowS w A n xs) (hb : RowS w B m ys) (hn : n ≤ 100000000) :
    Calls Try.prog 24 #[.slice A n c, .slice B m d] w fun e w' => e = .returned (.bool (decide (xs = ys))) ∧ Below w.heap.size w w' := by
  by_cases hnm : n = m
  · subst hnm
    by_cases h0 : n = 0
    · subst h0
      have e1 : xs = [] := List.eq_nil_of_length_eq_zero ha.1.symm
      have e2 : ys = [] := List.eq_nil_of_length_eq_zero hb.1.symm
      subst e1 e2
      clear ha hb
      go_enter Try.func24, Try.ntmps24
      go_wp2_with fail
      go_loop [5] (fun i => i = .int .i64 0) (fun _ => 0)
      case atStart => rfl
      case round =>
        subst hrel
        go_wp2_with fail
        go_ret
        exact ⟨rfl, Below.refl _ _⟩
    · obtain ⟨b1, o1, rfl, hl1, hc1⟩ := ha.2 (by omega)
      obtain ⟨b2, o2, rfl, hl2, hc2⟩ := hb.2 (by omega)
      have ea := ha.1
      have eb := hb.1
      have ea' := Lib.hid ea
      have eb' := Lib.hid eb
      have hc1' := Lib.hid hc1
      have hc2' := Lib.hid hc2
      clear ha hb hc1 hc2 ea eb
      go_enter Try.func24, Try.ntmps24
      go_wp2_with fail
      go_loopw [5] (fun i wr => ∃ k : Nat, k ≤ n ∧ i = .int .i64 k ∧ xs.take k = ys.take k ∧ Below w.heap.size w wr) (fun i _ => n - (intOf i).toNat)
      case atStart => exact ⟨0, Nat.zero_le _, rfl, rfl, Below.refl _ _⟩
      case round =>
        obtain ⟨k, hk, rfl, heq, hbel⟩ := hrel
        have heq' := Lib.hid heq
        have hbel' := Lib.hid hbel
        clear heq
        by_cases hlt : k < n
        · have l1 : k < xs.length := by have := ea'.out; omega
          have l2 : k < ys.length := by have := eb'.out; omega
          have x1 := (hbel.cell (p := ⟨b1, o1 + k, none⟩) hl1).trans (hc1'.out k xs[k] (List.getElem?_eq_getElem l1))
          have x2 := (hbel.cell (p := ⟨b2, o2 + k, none⟩) hl2).trans (hc2'.out k ys[k] (List.getElem?_eq_getElem l2))
          have i1 : (k : Int) < (n : Int) := by omega
          have i0 : (0 : Int) ≤ (k : Int) := by omega
          generalize hs : xs[k] = s at x1
          generalize ht : ys[k] = t at x2
          have hs' := Lib.hid hs
          have ht' := Lib.hid ht
          clear hs ht hbel
          by_cases hst : s = t
          · have hb1 := strNe s t true (by simp [hst])
            have hst' := Lib.hid hst
            clear hst
            go_wp2_with fail
            go_region
            go_wp2_with fail
            go_roundw
            case rel =>
              refine ⟨k + 1, by omega, by go_num, ?_, hbel'.out.drew⟩
              rw [List.take_succ_eq_append_getElem l1, List.take_succ_eq_append_getElem l2, heq'.out, hs'.out, ht'.out, hst'.out]
            case measure => simp [intOf]; omega
          · have hb1 := strNe s t false (by simp [hst])
            have hne : Hid (decide (xs = ys) = false) := by
              show decide (xs = ys) = false
              rw [decide_eq_false_iff_not]
              intro e
              subst e
              exact hst (hs'.out.symm.trans ht'.out)
            clear hst
            go_wp2_with fail
            go_region
            go_wp2_with fail
            go_ret
            exact ⟨ret_bool hne.out.symm, hbel'.out.drew⟩
        · have hfin : Hid (decide (xs = ys) = true) := by
            have e1 := ea'.out
            have e2 := eb'.out
            have h := heq'.out
            rw [List.take_of_length_le (by omega), List.take_of_length_le (by omega)] at h
            exact decide_eq_true h
          go_wp2_with fail
          go_ret
          exact ⟨ret_bool hfin.out.symm, hbel'.out⟩
  · have hne : Hid (decide (xs = ys) = false) := by
      show decide (xs = ys) = false
      rw [decide_eq_false_iff_not]
      intro e
      rw [ha.1, hb.1, e] at hnm
      exact hnm rfl
    have hb1 : (((n : Int) != (m : Int))) = true := by rw [bne_iff_ne]; omega
    clear ha hb hnm
    go_enter Try.func24, Try.ntmps24
    go_wp2_with fail
    go_ret
    exact ⟨ret_bool hne.out.symm, Below.refl _ _⟩

end Go.Proofs.Ytdbdcfijeeelkaa
