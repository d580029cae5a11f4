/- Duals of programs, as plain mathematics. Free names of programs, as plain mathematics. -/
import Derived.Test.YtaagbnbekfogiaaGreatDoorMathR
namespace Go.Proofs.YtaagbnbekfogiaaGreatDoor
set_option linter.unusedVariables false

def swapC (c : UInt8) : UInt8 := if c = 120 then 107 else if c = 121 then 108 else if c = 122 then 109 else if c = 107 then 120 else if c = 108 then 121 else if c = 109 then 122 else c
def swapB : Bs → Bs
  | [] => []
  | c :: d => swapC c :: d
def cutB : Bs := [99, 117, 116]
def P.dual : P → P
  | .nm s => .nm (swapB s)
  | .f1 h p => .f1 (dword h) p.dual
  | .f2 h p q => if h = cutB then .f2 h q.dual p.dual else .f2 (dword h) p.dual q.dual
  | .bd s b => .bd (swapB s) b.dual
def K.dual : K → K
  | .t => .c
  | .c => .t
  | .s => .s

theorem swapC_swapC {c : UInt8} (h : varB c = true ∨ covB c = true) : swapC (swapC c) = c ∧ varB (swapC c) = covB c ∧ covB (swapC c) = varB c := by
  unfold varB covB at h
  simp only [Bool.or_eq_true, beq_iff_eq] at h
  rcases h with ((h | h) | h) | ((h | h) | h) <;> subst h <;> decide
theorem var_or {c : UInt8} {d : Bs} (h : isName (c :: d) = true) : varB c = true ∨ covB c = true := by
  simp only [isName, isVar, isCov, nameB, Bool.or_eq_true, Bool.and_eq_true] at h
  rcases h with h | h
  · exact .inl h.1.1
  · exact .inr h.1.1
theorem swapB_swapB {s : Bs} (h : isName s = true) : swapB (swapB s) = s := by
  cases s with
  | nil => rfl
  | cons c d => simp only [swapB]; rw [(swapC_swapC (var_or h)).1]
theorem swapB_name {s : Bs} (h : isName s = true) : isName (swapB s) = true ∧ firstIs varB (swapB s) = !firstIs varB s := by
  cases s with
  | nil => cases h
  | cons c d =>
    have hv := var_or h
    obtain ⟨-, h1, h2⟩ := swapC_swapC hv
    have hx : varB c = !covB c := by
      unfold varB covB at hv ⊢
      simp only [Bool.or_eq_true, beq_iff_eq] at hv
      rcases hv with ((h | h) | h) | ((h | h) | h) <;> subst h <;> decide
    simp only [isName, isVar, isCov, nameB, swapB, firstIs] at h ⊢
    rw [h1, h2]
    refine ⟨by rw [Bool.or_comm]; exact h, ?_⟩
    rw [hx]; simp

theorem dual_hd1 {h : Bs} {k l : K} (e : hd1 h = some (k, l)) : hd1 (dword h) = some (k.dual, l.dual) ∧ dword (dword h) = h := by
  unfold hd1 at e
  repeat' split at e
  all_goals first | (rename_i hh; subst hh; injection e with e; injection e with e1 e2; subst e1; subst e2; decide) | cases e
theorem dual_hd2 {h : Bs} {k l m : K} (e : hd2 h = some (k, l, m)) (hc : h ≠ cutB) : hd2 (dword h) = some (k.dual, l.dual, m.dual) ∧ dword (dword h) = h ∧ dword h ≠ cutB := by
  unfold hd2 at e
  repeat' split at e
  all_goals first | (rename_i hh; subst hh; injection e with e; injection e with e1 e2; injection e2 with e2 e3; subst e1; subst e2; subst e3; first | exact absurd rfl hc | decide) | cases e
theorem cut_hd2 {k l m : K} (e : hd2 cutB = some (k, l, m)) : k = .s ∧ l = .t ∧ m = .c := by
  rw [show hd2 cutB = some (.s, .t, .c) from by decide] at e
  injection e with e; injection e with e1 e2; injection e2 with e2 e3
  exact ⟨e1.symm, e2.symm, e3.symm⟩

theorem P.dual_kind : ∀ {p : P}, p.ok = true → p.dual.kind = p.kind.dual
  | .nm s, h => by
    rw [P.ok] at h
    rw [P.dual, P.kind, P.kind, (swapB_name h).2]
    cases firstIs varB s <;> rfl
  | .f1 x p, h => by
    rw [P.ok, Bool.and_eq_true, decide_eq_true_iff] at h
    have h1 := (dual_hd1 h.2).1
    rw [P.dual, P.kind, h1]
  | .f2 x p q, h => by
    rw [P.ok, Bool.and_eq_true, Bool.and_eq_true, decide_eq_true_iff] at h
    by_cases hc : x = cutB
    · subst hc
      obtain ⟨h1, -, -⟩ := cut_hd2 h.2
      rw [h1, P.dual, if_pos rfl, P.kind, show hd2 cutB = some (.s, .t, .c) from by decide]
      rfl
    · have h1 := (dual_hd2 h.2 hc).1
      rw [P.dual, if_neg hc, P.kind, h1]
  | .bd s b, h => by
    rw [P.ok, Bool.and_eq_true, Bool.and_eq_true, decide_eq_true_iff] at h
    rw [P.dual, P.kind, P.kind, (swapB_name h.1.1).2]
    cases firstIs varB s <;> rfl
theorem P.dual_ok : ∀ {p : P}, p.ok = true → p.dual.ok = true
  | .nm s, h => by
    rw [P.ok] at h
    rw [P.dual, P.ok, (swapB_name h).1]
  | .f1 x p, h => by
    have hk := P.dual_kind h
    rw [P.ok, Bool.and_eq_true, decide_eq_true_iff] at h
    have h1 := (dual_hd1 h.2).1
    rw [P.dual] at hk ⊢
    rw [P.ok, P.dual_ok h.1, hk, P.dual_kind h.1, h1]
    simp
  | .f2 x p q, h => by
    have hk := P.dual_kind h
    rw [P.ok, Bool.and_eq_true, Bool.and_eq_true, decide_eq_true_iff] at h
    by_cases hc : x = cutB
    · subst hc
      obtain ⟨h1, h2, h3⟩ := cut_hd2 h.2
      rw [P.dual, if_pos rfl] at hk ⊢
      rw [P.ok, P.dual_ok h.1.1, P.dual_ok h.1.2, hk, P.dual_kind h.1.1, P.dual_kind h.1.2, h1, h2, h3]
      decide
    · have h1 := (dual_hd2 h.2 hc).1
      rw [P.dual, if_neg hc] at hk ⊢
      rw [P.ok, P.dual_ok h.1.1, P.dual_ok h.1.2, hk, P.dual_kind h.1.1, P.dual_kind h.1.2, h1]
      simp
  | .bd s b, h => by
    rw [P.ok, Bool.and_eq_true, Bool.and_eq_true, decide_eq_true_iff] at h
    rw [P.dual, P.ok, (swapB_name h.1.1).1, P.dual_ok h.1.2, P.dual_kind h.1.2, h.2]
    rfl
theorem P.dual_size : ∀ p : P, p.dual.size = p.size
  | .nm s => rfl
  | .f1 h p => by rw [P.dual, P.size, P.size, p.dual_size]
  | .f2 h p q => by
    rw [P.dual]
    split
    · rw [P.size, P.size, p.dual_size, q.dual_size]; omega
    · rw [P.size, P.size, p.dual_size, q.dual_size]
  | .bd s b => by rw [P.dual, P.size, P.size, b.dual_size]
theorem P.dual_nest : ∀ p : P, p.dual.nest = p.nest
  | .nm s => rfl
  | .f1 h p => by rw [P.dual, P.nest, P.nest, p.dual_nest]
  | .f2 h p q => by
    rw [P.dual]
    split
    · rw [P.nest, P.nest, p.dual_nest, q.dual_nest, Nat.max_comm]
    · rw [P.nest, P.nest, p.dual_nest, q.dual_nest]
  | .bd s b => by rw [P.dual, P.nest, P.nest, b.dual_nest]
theorem P.dual_dual : ∀ {p : P}, p.ok = true → p.dual.dual = p
  | .nm s, h => by
    rw [P.ok] at h
    rw [P.dual, P.dual, swapB_swapB h]
  | .f1 x p, h => by
    rw [P.ok, Bool.and_eq_true, decide_eq_true_iff] at h
    rw [P.dual, P.dual, P.dual_dual h.1, (dual_hd1 h.2).2]
  | .f2 x p q, h => by
    rw [P.ok, Bool.and_eq_true, Bool.and_eq_true, decide_eq_true_iff] at h
    by_cases hc : x = cutB
    · rw [P.dual, if_pos hc, P.dual, if_pos hc, P.dual_dual h.1.1, P.dual_dual h.1.2]
    · obtain ⟨-, h1, h2⟩ := dual_hd2 h.2 hc
      rw [P.dual, if_neg hc, P.dual, if_neg h2, P.dual_dual h.1.1, P.dual_dual h.1.2, h1]
  | .bd s b, h => by
    rw [P.ok, Bool.and_eq_true, Bool.and_eq_true, decide_eq_true_iff] at h
    rw [P.dual, P.dual, P.dual_dual h.1.2, swapB_swapB h.1.1]

/-- The dual's text is read as the dual. -/
theorem readP_dual {s : Bs} {p : P} (h : readP s = some p) : readP p.dual.text = some p.dual := by
  obtain ⟨-, h2, h3, h4⟩ := readP_back h
  exact readP_text (P.dual_ok h3) (by rw [P.dual_size]; exact h4) (by rw [P.dual_nest]; exact h2)

end Go.Proofs.YtaagbnbekfogiaaGreatDoor

namespace Go.Proofs.YtaagbnbekfogiaaGreatDoor
set_option linter.unusedVariables false

def minus (l : List Bs) (s : Bs) : List Bs := l.filter fun x => decide (x ≠ s)
/-- The free names in the order of the text, each one as often as it stands free. -/
def P.uses : P → List Bs
  | .nm s => [s]
  | .f1 _ p => p.uses
  | .f2 _ p q => p.uses ++ q.uses
  | .bd s b => minus b.uses s
/-- How often a name stands free. -/
def P.count (n : Bs) : P → Nat
  | .nm s => if s = n then 1 else 0
  | .f1 _ p => p.count n
  | .f2 _ p q => p.count n + q.count n
  | .bd s b => if s = n then 0 else b.count n

theorem minus_append (a b : List Bs) (s : Bs) : minus (a ++ b) s = minus a s ++ minus b s := by simp [minus]
theorem minus_minus (a : List Bs) (s t : Bs) : minus (minus a s) t = minus (minus a t) s := by
  simp only [minus, List.filter_filter]
  congr 1; funext x; rw [Bool.and_comm]
theorem minus_same (a : List Bs) (s : Bs) : minus (minus a s) s = minus a s := by
  simp only [minus, List.filter_filter, Bool.and_self]
theorem mem_minus {a : List Bs} {s x : Bs} : x ∈ minus a s ↔ x ∈ a ∧ x ≠ s := by simp [minus]
theorem minus_len (a : List Bs) (s : Bs) : (minus a s).length ≤ a.length := List.length_filter_le _ _

theorem P.uses_count (n : Bs) : ∀ p : P, p.uses.length = (minus p.uses n).length + p.count n
  | .nm s => by
    by_cases h : s = n
    · simp [P.uses, P.count, minus, h]
    · simp [P.uses, P.count, minus, h]
  | .f1 _ p => by rw [P.uses, P.count]; exact p.uses_count n
  | .f2 _ p q => by
    have := p.uses_count n; have := q.uses_count n
    rw [P.uses, P.count, minus_append, List.length_append, List.length_append]; omega
  | .bd s b => by
    rw [P.uses, P.count]
    by_cases h : s = n
    · subst h; rw [minus_same, if_pos rfl]; omega
    · rw [if_neg h]
      have h1 := b.uses_count n
      -- count in the filtered list
      have key : ∀ l : List Bs, (minus l s).length + (l.filter fun x => decide (x = n)).length = (minus (minus l s) n).length + (l.filter fun x => decide (x = n)).length + (l.filter fun x => decide (x = n)).length := by
        intro l
        induction l with
        | nil => rfl
        | cons a l ih =>
          simp only [minus] at ih ⊢
          by_cases ha : a = s
          · subst ha; simp [h] at ih ⊢; omega
          · by_cases hn : a = n
            · subst hn; simp [ha] at ih ⊢; omega
            · simp [ha, hn] at ih ⊢; omega
      have key2 : ∀ l : List Bs, l.length = (minus l n).length + (l.filter fun x => decide (x = n)).length := by
        intro l
        induction l with
        | nil => rfl
        | cons a l ih =>
          simp only [minus] at ih ⊢
          by_cases hn : a = n
          · subst hn; simp at ih ⊢; omega
          · simp [hn] at ih ⊢; omega
      have := key b.uses; have := key2 b.uses
      omega
theorem P.uses_len : ∀ p : P, p.uses.length ≤ p.size
  | .nm s => by simp [P.uses, P.size]
  | .f1 _ p => by have := p.uses_len; rw [P.uses, P.size]; omega
  | .f2 _ p q => by have := p.uses_len; have := q.uses_len; rw [P.uses, P.size, List.length_append]; omega
  | .bd s b => by have := b.uses_len; have := minus_len b.uses s; rw [P.uses, P.size]; omega
theorem P.uses_name : ∀ {p : P}, p.ok = true → ∀ s ∈ p.uses, isName s = true
  | .nm s, h, x, hx => by rw [P.uses] at hx; rw [P.ok] at h; simp at hx; subst hx; exact h
  | .f1 _ p, h, x, hx => by rw [P.uses] at hx; rw [P.ok, Bool.and_eq_true] at h; exact P.uses_name h.1 x hx
  | .f2 _ p q, h, x, hx => by
    rw [P.uses, List.mem_append] at hx; rw [P.ok, Bool.and_eq_true, Bool.and_eq_true] at h
    rcases hx with hx | hx
    · exact P.uses_name h.1.1 x hx
    · exact P.uses_name h.1.2 x hx
  | .bd s b, h, x, hx => by
    rw [P.uses, mem_minus] at hx; rw [P.ok, Bool.and_eq_true, Bool.and_eq_true] at h
    exact P.uses_name h.1.2 x hx.1

/-- A name is added to a list that has it not. -/
def addN (acc : List Bs) (s : Bs) : List Bs := if s ∈ acc then acc else acc ++ [s]
/-- What the model adds to a list: free names that are not bound. -/
def P.free (bound : List Bs) (acc : List Bs) : P → List Bs
  | .nm s => if s ∈ bound then acc else addN acc s
  | .f1 _ p => p.free bound acc
  | .f2 _ p q => q.free bound (p.free bound acc)
  | .bd s b => b.free (bound ++ [s]) acc
def outer (bound : List Bs) (l : List Bs) : List Bs := l.filter fun x => decide (x ∉ bound)
theorem P.free_uses : ∀ (p : P) (bound acc : List Bs), p.free bound acc = (outer bound p.uses).foldl addN acc
  | .nm s, bound, acc => by
    rw [P.free, P.uses, outer]
    by_cases h : s ∈ bound <;> simp [h]
  | .f1 _ p, bound, acc => by rw [P.free, P.uses]; exact p.free_uses bound acc
  | .f2 _ p q, bound, acc => by
    rw [P.free, P.uses, p.free_uses, q.free_uses, outer, outer, outer, List.filter_append, List.foldl_append]
  | .bd s b, bound, acc => by
    rw [P.free, P.uses, b.free_uses]
    congr 1
    simp only [outer, minus, List.filter_filter]
    congr 1; funext x
    rw [Bool.eq_iff_iff]; simp
theorem P.free_top (p : P) : p.free [] [] = p.uses.foldl addN [] := by
  rw [P.free_uses]
  congr 1
  simp [outer]
theorem addN_mem {acc : List Bs} {s x : Bs} : x ∈ addN acc s ↔ x ∈ acc ∨ x = s := by
  unfold addN; split
  · constructor
    · exact .inl
    · rintro (h | h); exact h; subst h; assumption
  · simp
theorem foldl_mem (l : List Bs) : ∀ (acc : List Bs) (x : Bs), x ∈ l.foldl addN acc ↔ x ∈ acc ∨ x ∈ l := by
  induction l with
  | nil => intro acc x; simp
  | cons a l ih => intro acc x; rw [List.foldl_cons, ih, addN_mem]; simp [or_assoc]
theorem foldl_len (l : List Bs) : ∀ (acc : List Bs), (l.foldl addN acc).length ≤ acc.length + l.length := by
  induction l with
  | nil => intro acc; simp
  | cons a l ih =>
    intro acc
    rw [List.foldl_cons]
    have := ih (addN acc a)
    have : (addN acc a).length ≤ acc.length + 1 := by unfold addN; split <;> simp
    simp; omega
theorem P.free_len (p : P) (bound acc : List Bs) : (p.free bound acc).length ≤ acc.length + p.size := by
  rw [P.free_uses]
  have := foldl_len (outer bound p.uses) acc
  have := p.uses_len
  have : (outer bound p.uses).length ≤ p.uses.length := List.length_filter_le _ _
  omega

end Go.Proofs.YtaagbnbekfogiaaGreatDoor
