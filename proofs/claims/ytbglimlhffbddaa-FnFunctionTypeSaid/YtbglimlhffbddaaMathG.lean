/- Formulas: what is written is read again; one more not; values in assignments of duals and of what is pushed. Plain mathematics. -/
import Derived.Test.YtbglimlhffbddaaMathR
import Derived.Test.YtbglimlhffbddaaReadF
namespace Go.Proofs.Ytbglimlhffbddaa
set_option linter.unusedVariables false

theorem isLet_good {s : Bs} (h : isLet s = true) : (T.atom s).good = true := by
  have : s.length ≤ 4 ∧ s ≠ [] ∧ s.all atomB = true := by
    match s, h with
    | [a], h => simp [isLet] at h; refine ⟨by simp, by simp, ?_⟩; simp [atomB, h]
    | [a, b], h => simp [isLet] at h; refine ⟨by simp, by simp, ?_⟩; simp [atomB, h]
    | [a, b, c], h => simp [isLet] at h; refine ⟨by simp, by simp, ?_⟩; simp [atomB, h]
  exact good_atom this

theorem F.good_tree : ∀ {f : F}, f.ok = true → f.tree.good = true
  | .lt s, h => isLet_good h
  | .an a b, h => by
    rw [F.ok, Bool.and_eq_true] at h
    have h1 := F.good_tree h.1; have h2 := F.good_tree h.2
    simp [F.tree, T.good, goodAll, h1, h2]; decide
  | .or a b, h => by
    rw [F.ok, Bool.and_eq_true] at h
    have h1 := F.good_tree h.1; have h2 := F.good_tree h.2
    simp [F.tree, T.good, goodAll, h1, h2]; decide
  | .no a, h => by
    rw [F.ok] at h
    have h1 := F.good_tree h
    simp [F.tree, T.good, goodAll, h1]; decide

theorem F.nest_tree : ∀ f : F, f.tree.nest ≤ f.size
  | .lt s => by simp [F.tree, T.nest]
  | .an a b => by have := a.nest_tree; have := b.nest_tree; simp [F.tree, T.nest, nestAll, F.size]; omega
  | .or a b => by have := a.nest_tree; have := b.nest_tree; simp [F.tree, T.nest, nestAll, F.size]; omega
  | .no a => by have := a.nest_tree; simp [F.tree, T.nest, nestAll, F.size]; omega

theorem toF_of_tree : ∀ {f : F}, f.ok = true → toF f.tree = some f
  | .lt s, h => by
    rw [F.ok] at h
    rw [F.tree, toF_atom, if_pos h]
  | .an a b, h => by
    rw [F.ok, Bool.and_eq_true] at h
    rw [F.tree, toF_pair, toF_of_tree h.1, toF_of_tree h.2]; exact pairF_an a b rfl
  | .or a b, h => by
    rw [F.ok, Bool.and_eq_true] at h
    rw [F.tree, toF_pair, toF_of_tree h.1, toF_of_tree h.2]; exact pairF_or a b rfl rfl
  | .no a, h => by
    rw [F.ok] at h
    rw [F.tree, toF_not, if_pos (show atomOf (T.atom [45]) = [45] from rfl), toF_of_tree h]; rfl

/-- What is written is read again, if it is not too great. -/
theorem readF_text {f : F} (h : f.ok = true) (hs : f.size ≤ 200) : readF f.text = if f.size ≤ 60 then some f else none := by
  have hn := f.nest_tree
  have hl := F.text_length h
  have ht : readT f.text = some f.tree := by
    rw [← F.text_tree]
    refine readT_text (F.good_tree h) (by omega) ?_
    rw [F.text_tree]; omega
  unfold readF
  rw [ht]; simp only [toF_of_tree h]
theorem readF_back {s : Bs} {f : F} (h : readF s = some f) : s = f.text := by
  unfold readF at h
  split at h
  · cases h
  · rename_i t ht
    split at h
    · cases h
    · rename_i g hg
      split at h
      · injection h with h; subst h
        rw [(readT_back ht).1, (toF_tree hg).1, F.text_tree]
      · cases h
theorem readF_no {s : Bs} {f : F} (h : readF s = some f) : readF (40 :: 45 :: 32 :: (s ++ [41])) = if f.size ≤ 59 then some (.no f) else none := by
  have h1 := readF_size h; have h2 := readF_ok h
  have : 40 :: 45 :: 32 :: (s ++ [41]) = (F.no f).text := by rw [readF_back h]; rfl
  rw [this, readF_text (by rw [F.ok]; exact h2) (by rw [F.size]; omega), F.size]
  by_cases h3 : f.size ≤ 59
  · rw [if_pos h3, if_pos (by omega)]
  · rw [if_neg h3, if_neg (by omega)]

theorem F.dual_dual : ∀ f : F, f.dual.dual = f
  | .lt s => rfl
  | .an a b => by rw [F.dual, F.dual, a.dual_dual, b.dual_dual]
  | .or a b => by rw [F.dual, F.dual, a.dual_dual, b.dual_dual]
  | .no a => by rw [F.dual, F.dual, a.dual_dual]

/-- The value of a formula. -/
def F.ev (v : Bs → Bool) : F → Bool
  | .lt s => v s
  | .an a b => a.ev v && b.ev v
  | .or a b => a.ev v || b.ev v
  | .no a => !a.ev v
/-- Its letters, each as often as it stands there. -/
def F.lets : F → List Bs
  | .lt s => [s]
  | .an a b => a.lets ++ b.lets
  | .or a b => a.lets ++ b.lets
  | .no a => a.lets

theorem F.ev_eq {v u : Bs → Bool} : ∀ {f : F}, (∀ s ∈ f.lets, v s = u s) → f.ev v = f.ev u
  | .lt s, h => h s (List.mem_singleton.2 rfl)
  | .an a b, h => by rw [F.ev, F.ev, F.ev_eq fun s hs => h s (List.mem_append_left _ hs), F.ev_eq fun s hs => h s (List.mem_append_right _ hs)]
  | .or a b, h => by rw [F.ev, F.ev, F.ev_eq fun s hs => h s (List.mem_append_left _ hs), F.ev_eq fun s hs => h s (List.mem_append_right _ hs)]
  | .no a, h => by rw [F.ev, F.ev, F.ev_eq (f := a) h]
theorem F.ev_dual {v u : Bs → Bool} : ∀ {f : F}, (∀ s ∈ f.lets, v s = !u s) → f.dual.ev v = !f.ev u
  | .lt s, h => h s (List.mem_singleton.2 rfl)
  | .an a b, h => by rw [F.dual, F.ev, F.ev, F.ev_dual fun s hs => h s (List.mem_append_left _ hs), F.ev_dual fun s hs => h s (List.mem_append_right _ hs), Bool.not_and]
  | .or a b, h => by rw [F.dual, F.ev, F.ev, F.ev_dual fun s hs => h s (List.mem_append_left _ hs), F.ev_dual fun s hs => h s (List.mem_append_right _ hs), Bool.not_or]
  | .no a, h => by rw [F.dual, F.ev, F.ev, F.ev_dual (f := a) h]
theorem F.lets_dual : ∀ f : F, f.dual.lets = f.lets
  | .lt s => rfl
  | .an a b => by rw [F.dual, F.lets, F.lets, a.lets_dual, b.lets_dual]
  | .or a b => by rw [F.dual, F.lets, F.lets, a.lets_dual, b.lets_dual]
  | .no a => by rw [F.dual, F.lets, F.lets, a.lets_dual]
theorem F.ev_push (v : Bs → Bool) : ∀ (c : Bool) (f : F), (f.push c).ev v = (c != f.ev v)
  | false, .lt s => by simp [F.push, F.ev]
  | true, .lt s => by simp [F.push, F.ev]
  | false, .an a b => by rw [F.push, F.ev, F.ev, a.ev_push, b.ev_push]; simp
  | true, .an a b => by rw [F.push, F.ev, F.ev, a.ev_push, b.ev_push]; simp
  | false, .or a b => by rw [F.push, F.ev, F.ev, a.ev_push, b.ev_push]; simp
  | true, .or a b => by rw [F.push, F.ev, F.ev, a.ev_push, b.ev_push]; simp
  | c, .no a => by rw [F.push, F.ev, a.ev_push]; cases c <;> simp
theorem F.lets_push : ∀ (c : Bool) (f : F), (f.push c).lets = f.lets
  | false, .lt s => rfl
  | true, .lt s => rfl
  | false, .an a b => by rw [F.push, F.lets, F.lets, a.lets_push, b.lets_push]
  | true, .an a b => by rw [F.push, F.lets, F.lets, a.lets_push, b.lets_push]
  | false, .or a b => by rw [F.push, F.lets, F.lets, a.lets_push, b.lets_push]
  | true, .or a b => by rw [F.push, F.lets, F.lets, a.lets_push, b.lets_push]
  | c, .no a => by rw [F.push, F.lets, a.lets_push]
theorem F.push_push : ∀ (c : Bool) (f : F), (f.push c).push false = f.push c
  | false, .lt s => rfl
  | true, .lt s => rfl
  | false, .an a b => by rw [F.push, F.push, a.push_push, b.push_push]
  | true, .an a b => by rw [F.push, F.push, a.push_push, b.push_push]
  | false, .or a b => by rw [F.push, F.push, a.push_push, b.push_push]
  | true, .or a b => by rw [F.push, F.push, a.push_push, b.push_push]
  | c, .no a => by rw [F.push, a.push_push]
theorem F.lets_size : ∀ f : F, f.lets.length ≤ f.size
  | .lt s => by rw [F.lets, F.size]; simp
  | .an a b => by have := a.lets_size; have := b.lets_size; rw [F.lets, F.size, List.length_append]; omega
  | .or a b => by have := a.lets_size; have := b.lets_size; rw [F.lets, F.size, List.length_append]; omega
  | .no a => by have := a.lets_size; rw [F.lets, F.size]; omega
theorem F.lets_ok : ∀ {f : F}, f.ok = true → ∀ s ∈ f.lets, isLet s = true
  | .lt s, h, x, hx => by rw [F.lets, List.mem_singleton] at hx; subst hx; exact h
  | .an a b, h, x, hx => by
    rw [F.ok, Bool.and_eq_true] at h
    rw [F.lets, List.mem_append] at hx
    exact hx.elim (F.lets_ok h.1 x) (F.lets_ok h.2 x)
  | .or a b, h, x, hx => by
    rw [F.ok, Bool.and_eq_true] at h
    rw [F.lets, List.mem_append] at hx
    exact hx.elim (F.lets_ok h.1 x) (F.lets_ok h.2 x)
  | .no a, h, x, hx => by rw [F.ok] at h; exact F.lets_ok h x hx
theorem readF_let {s : Bs} (h : isLet s = true) : readF s = some (.lt s) := by
  have := readF_text (f := .lt s) h (by rw [F.size]; omega)
  rw [F.text, F.size] at this
  simpa using this

end Go.Proofs.Ytbglimlhffbddaa
