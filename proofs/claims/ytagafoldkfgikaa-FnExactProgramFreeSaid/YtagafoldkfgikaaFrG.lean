/- Lists of free names that a call of the model grows. -/
import Derived.Test.YtagafoldkfgikaaWithS
import Derived.Test.YtagafoldkfgikaaHas
import Derived.Test.YtagafoldkfgikaaRowA
namespace Go.Proofs.Ytagafoldkfgikaa
set_option linter.unusedVariables false
open Go.RowKit

/-- The call hands back a row of its own with the names ss, grown out of v. -/
def FRet (base : Nat) (ss : List Bs) (v : Value) (w : World) (e : Ending) (w' : World) : Prop :=
  ∃ A c, e = .returned (.slice A ss.length c) ∧ w'.ownsRow base 9 1 (.slice A ss.length c) ss.length ((ss.map bs').map Value.string) ∧ w.grownBy w' v.ownBlock ∧ Moved (.slice A ss.length c) v w.heap.size

theorem isIn_bs (s : Bs) (l : List Bs) : isIn ⟨s.toArray⟩ (l.map bs') = decide (s ∈ l) := by
  rw [Bool.eq_iff_iff, isIn_iff, decide_eq_true_iff, List.mem_map]
  constructor
  · rintro ⟨x, hx, e⟩
    have : x = s := by
      have h := congrArg (fun b : ByteArray => b.data.toList) e
      exact h
    rw [← this]; exact hx
  · intro h; exact ⟨s, h, rfl⟩

theorem FRet.from {base : Nat} {ss : List Bs} {v : Value} {w W : World} {e : Ending} {w' : World} (hW : Below w.heap.size w W) (h : FRet base ss v W e w') : FRet base ss v w e w' := by
  obtain ⟨A, c, he, own, gr, mv⟩ := h
  refine ⟨A, c, he, own, grown_trans' (below_grown hW _) gr, ?_⟩
  rcases mv with h | ⟨g, hg, hle⟩
  · exact .inl h
  · exact .inr ⟨g, hg, Nat.le_trans hW.size hle⟩

end Go.Proofs.Ytagafoldkfgikaa
