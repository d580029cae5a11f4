/- Free names of programs, as plain mathematics. -/
import Derived.Test.YtagafoldkfgikaaMathD
namespace Go.Proofs.Ytagafoldkfgikaa
set_option linter.unusedVariables false

def minus (l : List Bs) (s : Bs) : List Bs := l.filter fun x => decide (x ≠ s)
/-- The free names in the order of the text, each one as often as it stands free. -/
def P.uses : P → List Bs
  | .nm s => [s]
  | .f1 _ p => p.uses
  | .f2 _ p q => p.uses ++ q.uses
  | .bd s b => minus b.uses s
/-- How often a name stands free. -/
def P.count (n : Bs) : P → Nat
  | .nm s => if s = n then 1 else 0
  | .f1 _ p => p.count n
  | .f2 _ p q => p.count n + q.count n
  | .bd s b => if s = n then 0 else b.count n

theorem minus_append (a b : List Bs) (s : Bs) : minus (a ++ b) s = minus a s ++ minus b s := by simp [minus]
theorem minus_minus (a : List Bs) (s t : Bs) : minus (minus a s) t = minus (minus a t) s := by
  simp only [minus, List.filter_filter]
  congr 1; funext x; rw [Bool.and_comm]
theorem minus_same (a : List Bs) (s : Bs) : minus (minus a s) s = minus a s := by
  simp only [minus, List.filter_filter, Bool.and_self]
theorem mem_minus {a : List Bs} {s x : Bs} : x ∈ minus a s ↔ x ∈ a ∧ x ≠ s := by simp [minus]
theorem minus_len (a : List Bs) (s : Bs) : (minus a s).length ≤ a.length := List.length_filter_le _ _

theorem P.uses_count (n : Bs) : ∀ p : P, p.uses.length = (minus p.uses n).length + p.count n
  | .nm s => by
    by_cases h : s = n
    · simp [P.uses, P.count, minus, h]
    · simp [P.uses, P.count, minus, h]
  | .f1 _ p => by rw [P.uses, P.count]; exact p.uses_count n
  | .f2 _ p q => by
    have := p.uses_count n; have := q.uses_count n
    rw [P.uses, P.count, minus_append, List.length_append, List.length_append]; omega
  | .bd s b => by
    rw [P.uses, P.count]
    by_cases h : s = n
    · subst h; rw [minus_same, if_pos rfl]; omega
    · rw [if_neg h]
      have h1 := b.uses_count n
      -- count in the filtered list
      have key : ∀ l : List Bs, (minus l s).length + (l.filter fun x => decide (x = n)).length = (minus (minus l s) n).length + (l.filter fun x => decide (x = n)).length + (l.filter fun x => decide (x = n)).length := by
        intro l
        induction l with
        | nil => rfl
        | cons a l ih =>
          simp only [minus] at ih ⊢
          by_cases ha : a = s
          · subst ha; simp [h] at ih ⊢; omega
          · by_cases hn : a = n
            · subst hn; simp [ha] at ih ⊢; omega
            · simp [ha, hn] at ih ⊢; omega
      have key2 : ∀ l : List Bs, l.length = (minus l n).length + (l.filter fun x => decide (x = n)).length := by
        intro l
        induction l with
        | nil => rfl
        | cons a l ih =>
          simp only [minus] at ih ⊢
          by_cases hn : a = n
          · subst hn; simp at ih ⊢; omega
          · simp [hn] at ih ⊢; omega
      have := key b.uses; have := key2 b.uses
      omega
theorem P.uses_len : ∀ p : P, p.uses.length ≤ p.size
  | .nm s => by simp [P.uses, P.size]
  | .f1 _ p => by have := p.uses_len; rw [P.uses, P.size]; omega
  | .f2 _ p q => by have := p.uses_len; have := q.uses_len; rw [P.uses, P.size, List.length_append]; omega
  | .bd s b => by have := b.uses_len; have := minus_len b.uses s; rw [P.uses, P.size]; omega
theorem P.uses_name : ∀ {p : P}, p.ok = true → ∀ s ∈ p.uses, isName s = true
  | .nm s, h, x, hx => by rw [P.uses] at hx; rw [P.ok] at h; simp at hx; subst hx; exact h
  | .f1 _ p, h, x, hx => by rw [P.uses] at hx; rw [P.ok, Bool.and_eq_true] at h; exact P.uses_name h.1 x hx
  | .f2 _ p q, h, x, hx => by
    rw [P.uses, List.mem_append] at hx; rw [P.ok, Bool.and_eq_true, Bool.and_eq_true] at h
    rcases hx with hx | hx
    · exact P.uses_name h.1.1 x hx
    · exact P.uses_name h.1.2 x hx
  | .bd s b, h, x, hx => by
    rw [P.uses, mem_minus] at hx; rw [P.ok, Bool.and_eq_true, Bool.and_eq_true] at h
    exact P.uses_name h.1.2 x hx.1

/-- A name is added to a list that has it not. -/
def addN (acc : List Bs) (s : Bs) : List Bs := if s ∈ acc then acc else acc ++ [s]
/-- What the model adds to a list: free names that are not bound. -/
def P.free (bound : List Bs) (acc : List Bs) : P → List Bs
  | .nm s => if s ∈ bound then acc else addN acc s
  | .f1 _ p => p.free bound acc
  | .f2 _ p q => q.free bound (p.free bound acc)
  | .bd s b => b.free (bound ++ [s]) acc
def outer (bound : List Bs) (l : List Bs) : List Bs := l.filter fun x => decide (x ∉ bound)
theorem P.free_uses : ∀ (p : P) (bound acc : List Bs), p.free bound acc = (outer bound p.uses).foldl addN acc
  | .nm s, bound, acc => by
    rw [P.free, P.uses, outer]
    by_cases h : s ∈ bound <;> simp [h]
  | .f1 _ p, bound, acc => by rw [P.free, P.uses]; exact p.free_uses bound acc
  | .f2 _ p q, bound, acc => by
    rw [P.free, P.uses, p.free_uses, q.free_uses, outer, outer, outer, List.filter_append, List.foldl_append]
  | .bd s b, bound, acc => by
    rw [P.free, P.uses, b.free_uses]
    congr 1
    simp only [outer, minus, List.filter_filter]
    congr 1; funext x
    rw [Bool.eq_iff_iff]; simp
theorem P.free_top (p : P) : p.free [] [] = p.uses.foldl addN [] := by
  rw [P.free_uses]
  congr 1
  simp [outer]
theorem addN_mem {acc : List Bs} {s x : Bs} : x ∈ addN acc s ↔ x ∈ acc ∨ x = s := by
  unfold addN; split
  · constructor
    · exact .inl
    · rintro (h | h); exact h; subst h; assumption
  · simp
theorem foldl_mem (l : List Bs) : ∀ (acc : List Bs) (x : Bs), x ∈ l.foldl addN acc ↔ x ∈ acc ∨ x ∈ l := by
  induction l with
  | nil => intro acc x; simp
  | cons a l ih => intro acc x; rw [List.foldl_cons, ih, addN_mem]; simp [or_assoc]
theorem foldl_len (l : List Bs) : ∀ (acc : List Bs), (l.foldl addN acc).length ≤ acc.length + l.length := by
  induction l with
  | nil => intro acc; simp
  | cons a l ih =>
    intro acc
    rw [List.foldl_cons]
    have := ih (addN acc a)
    have : (addN acc a).length ≤ acc.length + 1 := by unfold addN; split <;> simp
    simp; omega
theorem P.free_len (p : P) (bound acc : List Bs) : (p.free bound acc).length ≤ acc.length + p.size := by
  rw [P.free_uses]
  have := foldl_len (outer bound p.uses) acc
  have := p.uses_len
  have : (outer bound p.uses).length ≤ p.uses.length := List.length_filter_le _ _
  omega

end Go.Proofs.Ytagafoldkfgikaa
