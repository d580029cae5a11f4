/- spec.l2Binds, spec.l2Uses. -/
import Derived.Test.YtagafoldkfgikaaFormT
import Derived.Test.YtagafoldkfgikaaMathU
namespace Go.Proofs.Ytagafoldkfgikaa
set_option linter.unusedVariables false
open Go.RowKit

theorem binds_any (s : Bs) (w : World) : Calls Try.prog 28 #[str s] w fun e w' => e = .returned (.bool (isMu s)) ∧ w = w' := by
  go_enter Try.func28, Try.ntmps28
  go_wp2_with fail
  all_goals
    go_ret
    refine ⟨ret_bool ?_, rfl⟩
    simp_all [isMu, muB, tmuB]

def countL (name : Bs) (l : List P) : Nat := sumL (l.map (P.count name))
theorem countL_take {name : Bs} {l : List P} {j : Nat} {q : P} (h : l[j]? = some q) : countL name (l.take (j + 1)) = countL name (l.take j) + q.count name := by
  unfold countL
  rw [List.map_take, List.map_take]
  exact sum_take (by rw [List.getElem?_map, h]; rfl)
theorem countL_take_le (name : Bs) (l : List P) (j : Nat) : countL name (l.take j) ≤ countL name l := by
  unfold countL
  rw [List.map_take]
  exact sum_take_le _ _
theorem P.count_le (name : Bs) (p : P) : p.count name ≤ p.size := by
  have := p.uses_count name; have := p.uses_len; omega

end Go.Proofs.Ytagafoldkfgikaa
