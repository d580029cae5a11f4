/- Forms as trees. -/
import Derived.Test.YtaagbnbekfogiaaGreatDoorSpecL
import Derived.Test.YtaagbnbekfogiaaGreatDoorMathU
namespace Go.Proofs.YtaagbnbekfogiaaGreatDoor
set_option linter.unusedVariables false
open Go.RowKit

theorem IsForm.tree {p : P} {h : Bs} {ks : List P} (hf : IsForm p h ks) : p.tree = .node (.atom h :: ks.map P.tree) := by
  cases p with
  | nm s => exact absurd hf (by simp [IsForm])
  | bd s b => exact absurd hf (by simp [IsForm])
  | f1 h' p => obtain ⟨rfl, rfl⟩ := hf; rfl
  | f2 h' p q => obtain ⟨rfl, rfl⟩ := hf; rfl
theorem IsForm.noMu {p : P} {h : Bs} {ks : List P} (hf : IsForm p h ks) (hok : p.ok = true) : isMu h = false ∧ ∀ q ∈ ks, q.ok = true := by
  cases p with
  | nm s => exact absurd hf (by simp [IsForm])
  | bd s b => exact absurd hf (by simp [IsForm])
  | f1 h' p =>
    obtain ⟨rfl, rfl⟩ := hf
    rw [P.ok, Bool.and_eq_true, decide_eq_true_iff] at hok
    exact ⟨(hd1_ne hok.2).2, fun q hq => by simp at hq; subst hq; exact hok.1⟩
  | f2 h' p q =>
    obtain ⟨rfl, rfl⟩ := hf
    rw [P.ok, Bool.and_eq_true, Bool.and_eq_true, decide_eq_true_iff] at hok
    exact ⟨(hd2_ne hok.2).2, fun r hr => by simp at hr; rcases hr with rfl | rfl; exact hok.1.1; exact hok.1.2⟩

end Go.Proofs.YtaagbnbekfogiaaGreatDoor
