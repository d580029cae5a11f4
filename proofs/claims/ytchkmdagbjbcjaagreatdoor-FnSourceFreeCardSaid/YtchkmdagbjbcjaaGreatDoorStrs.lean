/- Slices of strings: what they read as; the laws' own helpers (eqStringS, szStringS, toStringS, markText, markStringS, heldStringS). -/
import Derived.Test.YtchkmdagbjbcjaaGreatDoorTree
import Derived.SliceStrings
import Derived.Deep.RegionHeld3
import Derived.Deep.QuietTactic
import Derived.BigQuiet
namespace Go.Proofs.YtchkmdagbjbcjaaGreatDoor
set_option linter.unusedVariables false
open Go.RowKit

/-- The slice (A, n) reads as the texts ss. -/
def RowS (w : World) (A : Option Addr) (n : Nat) (ss : List ByteArray) : Prop :=
  n = ss.length ∧ (0 < n → ∃ b o, A = some ⟨b, o, none⟩ ∧ b < w.heap.size ∧ ∀ (i : Nat) (s : ByteArray), ss[i]? = some s → w.cell? ⟨b, o + i, none⟩ = some (.string s))

theorem RowS.below {w w' : World} {A : Option Addr} {n : Nat} {ss : List ByteArray} (h : RowS w A n ss) (hb : Below w.heap.size w w') : RowS w' A n ss := by
  refine ⟨h.1, fun hn => ?_⟩
  obtain ⟨b, o, e, hlt, hc⟩ := h.2 hn
  exact ⟨b, o, e, Nat.lt_of_lt_of_le hlt hb.size, fun i s hi => (hb.cell (p := ⟨b, o + i, none⟩) hlt).trans (hc i s hi)⟩

theorem RowS.of_own {w : World} {base : Nat} {E : TypeId} {A : Option Addr} {n c : Nat} {ss : List ByteArray} (h : w.ownsRow base E 1 (.slice A n c) n (ss.map Value.string)) : RowS w A n ss := by
  refine ⟨by have := h.1; simpa using this.symm, fun hn => ?_⟩
  obtain ⟨g, cap, hv, _, hlt⟩ := h.form hn
  have hA : A = some ⟨g, 0, none⟩ := by injection hv
  subst hA
  refine ⟨g, 0, rfl, hlt, fun i s hi => ?_⟩
  have h1 := h.cells (g := g) rfl i (.string s) (by rw [List.getElem?_map, hi]; rfl)
  have e : ({ block := g, off := 0, spot := none } : Addr).add i = ⟨g, 0 + i, none⟩ := by unfold Addr.add; split <;> simp_all
  rw [e] at h1
  exact h1

theorem strNe (s t : ByteArray) (b : Bool) (h : decide (s = t) = b) : (s.toList == t.toList) = b := by
  subst h
  rw [Bool.eq_iff_iff, Lib.toList_data, Lib.toList_data]
  simp only [beq_iff_eq, decide_eq_true_eq]
  constructor
  · intro h; exact ByteArray.ext (Array.toList_inj.1 h)
  · intro h; rw [h]

theorem grown_trans' {a b c : World} {row : Option Nat} (h : a.grownBy b row) (k : b.grownBy c row) : a.grownBy c row :=
  ⟨k.os.trans h.os, k.tape.trans h.tape, k.output.trans h.output, Nat.le_trans h.size k.size, fun i hi hne => (k.block i (Nat.lt_of_lt_of_le hi h.size) hne).trans (h.block i hi hne)⟩
theorem grown_refl' (a : World) (row : Option Nat) : a.grownBy a row := ⟨rfl, rfl, rfl, Nat.le_refl _, fun _ _ _ => rfl⟩

end Go.Proofs.YtchkmdagbjbcjaaGreatDoor
