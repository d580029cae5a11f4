/- Duals of programs, as plain mathematics. -/
import Derived.Test.YtagafoldkfgikaaMathR
namespace Go.Proofs.Ytagafoldkfgikaa
set_option linter.unusedVariables false

def swapC (c : UInt8) : UInt8 := if c = 120 then 107 else if c = 121 then 108 else if c = 122 then 109 else if c = 107 then 120 else if c = 108 then 121 else if c = 109 then 122 else c
def swapB : Bs → Bs
  | [] => []
  | c :: d => swapC c :: d
def cutB : Bs := [99, 117, 116]
def P.dual : P → P
  | .nm s => .nm (swapB s)
  | .f1 h p => .f1 (dword h) p.dual
  | .f2 h p q => if h = cutB then .f2 h q.dual p.dual else .f2 (dword h) p.dual q.dual
  | .bd s b => .bd (swapB s) b.dual
def K.dual : K → K
  | .t => .c
  | .c => .t
  | .s => .s

theorem swapC_swapC {c : UInt8} (h : varB c = true ∨ covB c = true) : swapC (swapC c) = c ∧ varB (swapC c) = covB c ∧ covB (swapC c) = varB c := by
  unfold varB covB at h
  simp only [Bool.or_eq_true, beq_iff_eq] at h
  rcases h with ((h | h) | h) | ((h | h) | h) <;> subst h <;> decide
theorem var_or {c : UInt8} {d : Bs} (h : isName (c :: d) = true) : varB c = true ∨ covB c = true := by
  simp only [isName, isVar, isCov, nameB, Bool.or_eq_true, Bool.and_eq_true] at h
  rcases h with h | h
  · exact .inl h.1.1
  · exact .inr h.1.1
theorem swapB_swapB {s : Bs} (h : isName s = true) : swapB (swapB s) = s := by
  cases s with
  | nil => rfl
  | cons c d => simp only [swapB]; rw [(swapC_swapC (var_or h)).1]
theorem swapB_name {s : Bs} (h : isName s = true) : isName (swapB s) = true ∧ firstIs varB (swapB s) = !firstIs varB s := by
  cases s with
  | nil => cases h
  | cons c d =>
    have hv := var_or h
    obtain ⟨-, h1, h2⟩ := swapC_swapC hv
    have hx : varB c = !covB c := by
      unfold varB covB at hv ⊢
      simp only [Bool.or_eq_true, beq_iff_eq] at hv
      rcases hv with ((h | h) | h) | ((h | h) | h) <;> subst h <;> decide
    simp only [isName, isVar, isCov, nameB, swapB, firstIs] at h ⊢
    rw [h1, h2]
    refine ⟨by rw [Bool.or_comm]; exact h, ?_⟩
    rw [hx]; simp

theorem dual_hd1 {h : Bs} {k l : K} (e : hd1 h = some (k, l)) : hd1 (dword h) = some (k.dual, l.dual) ∧ dword (dword h) = h := by
  unfold hd1 at e
  repeat' split at e
  all_goals first | (rename_i hh; subst hh; injection e with e; injection e with e1 e2; subst e1; subst e2; decide) | cases e
theorem dual_hd2 {h : Bs} {k l m : K} (e : hd2 h = some (k, l, m)) (hc : h ≠ cutB) : hd2 (dword h) = some (k.dual, l.dual, m.dual) ∧ dword (dword h) = h ∧ dword h ≠ cutB := by
  unfold hd2 at e
  repeat' split at e
  all_goals first | (rename_i hh; subst hh; injection e with e; injection e with e1 e2; injection e2 with e2 e3; subst e1; subst e2; subst e3; first | exact absurd rfl hc | decide) | cases e
theorem cut_hd2 {k l m : K} (e : hd2 cutB = some (k, l, m)) : k = .s ∧ l = .t ∧ m = .c := by
  rw [show hd2 cutB = some (.s, .t, .c) from by decide] at e
  injection e with e; injection e with e1 e2; injection e2 with e2 e3
  exact ⟨e1.symm, e2.symm, e3.symm⟩

theorem P.dual_kind : ∀ {p : P}, p.ok = true → p.dual.kind = p.kind.dual
  | .nm s, h => by
    rw [P.ok] at h
    rw [P.dual, P.kind, P.kind, (swapB_name h).2]
    cases firstIs varB s <;> rfl
  | .f1 x p, h => by
    rw [P.ok, Bool.and_eq_true, decide_eq_true_iff] at h
    have h1 := (dual_hd1 h.2).1
    rw [P.dual, P.kind, h1]
  | .f2 x p q, h => by
    rw [P.ok, Bool.and_eq_true, Bool.and_eq_true, decide_eq_true_iff] at h
    by_cases hc : x = cutB
    · subst hc
      obtain ⟨h1, -, -⟩ := cut_hd2 h.2
      rw [h1, P.dual, if_pos rfl, P.kind, show hd2 cutB = some (.s, .t, .c) from by decide]
      rfl
    · have h1 := (dual_hd2 h.2 hc).1
      rw [P.dual, if_neg hc, P.kind, h1]
  | .bd s b, h => by
    rw [P.ok, Bool.and_eq_true, Bool.and_eq_true, decide_eq_true_iff] at h
    rw [P.dual, P.kind, P.kind, (swapB_name h.1.1).2]
    cases firstIs varB s <;> rfl
theorem P.dual_ok : ∀ {p : P}, p.ok = true → p.dual.ok = true
  | .nm s, h => by
    rw [P.ok] at h
    rw [P.dual, P.ok, (swapB_name h).1]
  | .f1 x p, h => by
    have hk := P.dual_kind h
    rw [P.ok, Bool.and_eq_true, decide_eq_true_iff] at h
    have h1 := (dual_hd1 h.2).1
    rw [P.dual] at hk ⊢
    rw [P.ok, P.dual_ok h.1, hk, P.dual_kind h.1, h1]
    simp
  | .f2 x p q, h => by
    have hk := P.dual_kind h
    rw [P.ok, Bool.and_eq_true, Bool.and_eq_true, decide_eq_true_iff] at h
    by_cases hc : x = cutB
    · subst hc
      obtain ⟨h1, h2, h3⟩ := cut_hd2 h.2
      rw [P.dual, if_pos rfl] at hk ⊢
      rw [P.ok, P.dual_ok h.1.1, P.dual_ok h.1.2, hk, P.dual_kind h.1.1, P.dual_kind h.1.2, h1, h2, h3]
      decide
    · have h1 := (dual_hd2 h.2 hc).1
      rw [P.dual, if_neg hc] at hk ⊢
      rw [P.ok, P.dual_ok h.1.1, P.dual_ok h.1.2, hk, P.dual_kind h.1.1, P.dual_kind h.1.2, h1]
      simp
  | .bd s b, h => by
    rw [P.ok, Bool.and_eq_true, Bool.and_eq_true, decide_eq_true_iff] at h
    rw [P.dual, P.ok, (swapB_name h.1.1).1, P.dual_ok h.1.2, P.dual_kind h.1.2, h.2]
    rfl
theorem P.dual_size : ∀ p : P, p.dual.size = p.size
  | .nm s => rfl
  | .f1 h p => by rw [P.dual, P.size, P.size, p.dual_size]
  | .f2 h p q => by
    rw [P.dual]
    split
    · rw [P.size, P.size, p.dual_size, q.dual_size]; omega
    · rw [P.size, P.size, p.dual_size, q.dual_size]
  | .bd s b => by rw [P.dual, P.size, P.size, b.dual_size]
theorem P.dual_nest : ∀ p : P, p.dual.nest = p.nest
  | .nm s => rfl
  | .f1 h p => by rw [P.dual, P.nest, P.nest, p.dual_nest]
  | .f2 h p q => by
    rw [P.dual]
    split
    · rw [P.nest, P.nest, p.dual_nest, q.dual_nest, Nat.max_comm]
    · rw [P.nest, P.nest, p.dual_nest, q.dual_nest]
  | .bd s b => by rw [P.dual, P.nest, P.nest, b.dual_nest]
theorem P.dual_dual : ∀ {p : P}, p.ok = true → p.dual.dual = p
  | .nm s, h => by
    rw [P.ok] at h
    rw [P.dual, P.dual, swapB_swapB h]
  | .f1 x p, h => by
    rw [P.ok, Bool.and_eq_true, decide_eq_true_iff] at h
    rw [P.dual, P.dual, P.dual_dual h.1, (dual_hd1 h.2).2]
  | .f2 x p q, h => by
    rw [P.ok, Bool.and_eq_true, Bool.and_eq_true, decide_eq_true_iff] at h
    by_cases hc : x = cutB
    · rw [P.dual, if_pos hc, P.dual, if_pos hc, P.dual_dual h.1.1, P.dual_dual h.1.2]
    · obtain ⟨-, h1, h2⟩ := dual_hd2 h.2 hc
      rw [P.dual, if_neg hc, P.dual, if_neg h2, P.dual_dual h.1.1, P.dual_dual h.1.2, h1]
  | .bd s b, h => by
    rw [P.ok, Bool.and_eq_true, Bool.and_eq_true, decide_eq_true_iff] at h
    rw [P.dual, P.dual, P.dual_dual h.1.2, swapB_swapB h.1.1]

/-- The dual's text is read as the dual. -/
theorem readP_dual {s : Bs} {p : P} (h : readP s = some p) : readP p.dual.text = some p.dual := by
  obtain ⟨-, h2, h3, h4⟩ := readP_back h
  exact readP_text (P.dual_ok h3) (by rw [P.dual_size]; exact h4) (by rw [P.dual_nest]; exact h2)

end Go.Proofs.Ytagafoldkfgikaa
