/- Values and covalues, as plain mathematics. -/
import Derived.Test.YtaagbnbekfogiaaMathU
namespace Go.Proofs.Ytaagbnbekfogiaa
set_option linter.unusedVariables false

def inlB : Bs := [105, 110, 108]
def inrB : Bs := [105, 110, 114]
def notB : Bs := [110, 111, 116]
def pairB : Bs := [112, 97, 105, 114]
def fstB : Bs := [102, 115, 116]
def sndB : Bs := [115, 110, 100]
def negB : Bs := [110, 101, 103]
def caseB : Bs := [99, 97, 115, 101]

/-- A value. -/
def P.val : P → Bool
  | .nm s => firstIs varB s
  | .f1 h p => if h = inlB ∨ h = inrB then p.val else decide (h = notB)
  | .f2 h p q => decide (h = pairB) && (p.val && q.val)
  | .bd _ _ => false
/-- A covalue. -/
def P.cov : P → Bool
  | .nm s => !firstIs varB s
  | .f1 h p => if h = fstB ∨ h = sndB then p.cov else decide (h = negB)
  | .f2 h p q => decide (h = caseB) && (p.cov && q.cov)
  | .bd _ _ => false

theorem val_heads1 {h : Bs} {r : K × K} (e : hd1 h = some r) (b : Bool) : (if dword h = inlB ∨ dword h = inrB then b else decide (dword h = notB)) = (if h = fstB ∨ h = sndB then b else decide (h = negB)) ∧
    (if dword h = fstB ∨ dword h = sndB then b else decide (dword h = negB)) = (if h = inlB ∨ h = inrB then b else decide (h = notB)) := by
  unfold hd1 at e
  repeat' split at e
  all_goals first | (rename_i hh; subst hh; revert b; decide) | cases e
theorem val_heads2 {h : Bs} {r : K × K × K} (e : hd2 h = some r) (hc : h ≠ cutB) (b : Bool) : (decide (dword h = pairB) && b) = (decide (h = caseB) && b) ∧ (decide (dword h = caseB) && b) = (decide (h = pairB) && b) := by
  unfold hd2 at e
  repeat' split at e
  all_goals first | (rename_i hh; subst hh; first | exact absurd rfl hc | (revert b; decide)) | cases e
theorem P.val_dual : ∀ {p : P}, p.ok = true → p.dual.val = p.cov ∧ p.dual.cov = p.val
  | .nm s, h => by
    rw [P.ok] at h
    have := (swapB_name h).2
    rw [P.dual, P.val, P.cov, P.cov, P.val, this]
    simp
  | .bd s b, h => ⟨rfl, rfl⟩
  | .f1 x p, h => by
    rw [P.ok, Bool.and_eq_true, decide_eq_true_iff] at h
    obtain ⟨h1, h2⟩ := P.val_dual h.1
    rw [P.dual, P.val, P.cov, P.cov, P.val, h1, h2]
    exact ⟨(val_heads1 h.2 _).1, (val_heads1 h.2 _).2⟩
  | .f2 x p q, h => by
    rw [P.ok, Bool.and_eq_true, Bool.and_eq_true, decide_eq_true_iff] at h
    obtain ⟨h1, h2⟩ := P.val_dual h.1.1
    obtain ⟨h3, h4⟩ := P.val_dual h.1.2
    rw [P.dual]
    by_cases hc : x = cutB
    · subst hc; rw [if_pos rfl, P.val, P.cov, P.cov, P.val]; exact ⟨rfl, rfl⟩
    · rw [if_neg hc, P.val, P.cov, P.cov, P.val, h1, h2, h3, h4]
      exact ⟨(val_heads2 h.2 hc _).1, (val_heads2 h.2 hc _).2⟩

end Go.Proofs.Ytaagbnbekfogiaa
