/- The model's look at heads: l2Shape. -/
import Derived.Test.YtagafoldkfgikaaSpecM
import Derived.Test.YtagafoldkfgikaaSpecV
namespace Go.Proofs.Ytagafoldkfgikaa
set_option linter.unusedVariables false
open Go.RowKit

theorem shS_none {h : Bs} (h0 : (h == [112, 97, 105, 114]) = false) (h1 : (h == [105, 110, 108]) = false) (h2 : (h == [105, 110, 114]) = false) (h3 : (h == [110, 111, 116]) = false) (h4 : (h == [109, 117]) = false) (h5 : (h == [99, 97, 115, 101]) = false) (h6 : (h == [102, 115, 116]) = false) (h7 : (h == [115, 110, 100]) = false) (h8 : (h == [110, 101, 103]) = false) (h9 : (h == [116, 109, 117]) = false) (h10 : (h == [99, 117, 116]) = false) : shS h = ([], []) := by
  rw [beq_eq_false_iff_ne] at h0 h1 h2 h3 h4 h5 h6 h7 h8 h9 h10
  unfold shS
  rw [if_neg h0, if_neg h1, if_neg h2, if_neg h3, if_neg h4, if_neg h5, if_neg h6, if_neg h7, if_neg h8, if_neg h9, if_neg h10]
theorem shS_pair : shS [112, 97, 105, 114] = ([116], [116, 116]) := by decide
theorem shS_inl : shS [105, 110, 108] = ([116], [116]) := by decide
theorem shS_inr : shS [105, 110, 114] = ([116], [116]) := by decide
theorem shS_not : shS [110, 111, 116] = ([116], [99]) := by decide
theorem shS_mu : shS [109, 117] = ([116], [97, 115]) := by decide
theorem shS_case : shS [99, 97, 115, 101] = ([99], [99, 99]) := by decide
theorem shS_fst : shS [102, 115, 116] = ([99], [99]) := by decide
theorem shS_snd : shS [115, 110, 100] = ([99], [99]) := by decide
theorem shS_neg : shS [110, 101, 103] = ([99], [116]) := by decide
theorem shS_tmu : shS [116, 109, 117] = ([99], [120, 115]) := by decide
theorem shS_cut : shS [99, 117, 116] = ([115], [116, 99]) := by decide

set_option maxRecDepth 100000 in
set_option maxHeartbeats 1000000 in
theorem l2Shape_any (a : ByteArray) (w : World) : Calls Try.prog 42 #[.string a] w fun e w' => e = .returned (.tuple #[.string ⟨(shS a.toList).1.toArray⟩, .string ⟨(shS a.toList).2.toArray⟩]) ∧ w = w' := by
  go_enter Try.func42, Try.ntmps42
  go_wp2
  all_goals first
    | (go_ret2
       rw [shS_none (h := a.toList) (by assumption) (by assumption) (by assumption) (by assumption) (by assumption) (by assumption) (by assumption) (by assumption) (by assumption) (by assumption) (by assumption)]
       exact ⟨rfl, rfl⟩)
    | (exfalso; simp_all; done)
    | (rename_i h
       have h' := eq_of_beq h
       go_ret2
       rw [h']
       first
         | (rw [shS_pair]; exact ⟨rfl, rfl⟩)
         | (rw [shS_inl]; exact ⟨rfl, rfl⟩)
         | (rw [shS_inr]; exact ⟨rfl, rfl⟩)
         | (rw [shS_not]; exact ⟨rfl, rfl⟩)
         | (rw [shS_mu]; exact ⟨rfl, rfl⟩)
         | (rw [shS_case]; exact ⟨rfl, rfl⟩)
         | (rw [shS_fst]; exact ⟨rfl, rfl⟩)
         | (rw [shS_snd]; exact ⟨rfl, rfl⟩)
         | (rw [shS_neg]; exact ⟨rfl, rfl⟩)
         | (rw [shS_tmu]; exact ⟨rfl, rfl⟩)
         | (rw [shS_cut]; exact ⟨rfl, rfl⟩))

end Go.Proofs.Ytagafoldkfgikaa
