/- The texts of formulas and of what is read, their duals, and not moved inwards, as plain mathematics. -/
import Derived.Test.YtbglimlhffbddaaMathF
namespace Go.Proofs.Ytbglimlhffbddaa

def F.text : F → Bs
  | .lt s => s
  | .an a b => [40, 42, 32] ++ a.text ++ [32] ++ b.text ++ [41]
  | .or a b => [40, 43, 32] ++ a.text ++ [32] ++ b.text ++ [41]
  | .no a => [40, 45, 32] ++ a.text ++ [41]

mutual
def T.text : T → Bs
  | .atom s => s
  | .node ps => 40 :: textAll true ps ++ [41]
def textAll (first : Bool) : List T → Bs
  | [] => []
  | t :: ps => (if first then [] else [32]) ++ t.text ++ textAll false ps
end

theorem F.text_tree : ∀ f : F, f.tree.text = f.text
  | .lt s => by rw [F.tree, T.text, F.text]
  | .an a b => by simp [F.tree, T.text, textAll, F.text, a.text_tree, b.text_tree]
  | .or a b => by simp [F.tree, T.text, textAll, F.text, a.text_tree, b.text_tree]
  | .no a => by simp [F.tree, T.text, textAll, F.text, a.text_tree]

theorem isLet_length {s : Bs} (h : isLet s = true) : s.length ≤ 3 := by
  cases s with
  | nil => simp
  | cons c r => simp [isLet] at h; simp; omega

theorem F.text_length : ∀ {f : F}, f.ok = true → f.text.length ≤ 8 * f.size
  | .lt s, h => by have := isLet_length h; rw [F.text, F.size]; omega
  | .an a b, h => by
    rw [F.ok, Bool.and_eq_true] at h
    have := F.text_length h.1; have := F.text_length h.2
    simp [F.text, F.size]; omega
  | .or a b, h => by
    rw [F.ok, Bool.and_eq_true] at h
    have := F.text_length h.1; have := F.text_length h.2
    simp [F.text, F.size]; omega
  | .no a, h => by
    rw [F.ok] at h
    have := F.text_length h
    simp [F.text, F.size]; omega

theorem textAll_append (b : Bool) (ps : List T) (t : T) : textAll b (ps ++ [t]) = textAll b ps ++ ((if ps.isEmpty && b then [] else [32]) ++ t.text) := by
  induction ps generalizing b with
  | nil => simp [textAll]
  | cons p ps ih => simp [textAll, ih]
theorem textAll_take {ps : List T} {k : Nat} {t : T} (h : ps[k]? = some t) : textAll true (ps.take (k + 1)) = textAll true (ps.take k) ++ ((if k = 0 then [] else [32]) ++ t.text) := by
  rw [List.take_add_one, h, show (some t).toList = [t] from rfl, textAll_append]
  have hlt := (List.getElem?_eq_some_iff.1 h).1
  congr 2
  by_cases hk : k = 0
  · subst hk; simp
  · rw [if_neg hk, if_neg]
    simp
    exact ⟨hk, fun e => by rw [e] at hlt; simp at hlt⟩
theorem textAll_app_le (b : Bool) (xs ys : List T) : (textAll b xs).length ≤ (textAll b (xs ++ ys)).length := by
  induction xs generalizing b with
  | nil => simp [textAll]
  | cons x xs ih => have := ih false; simp [textAll]; omega
theorem textAll_take_le (ps : List T) (k : Nat) : (textAll true (ps.take k)).length ≤ (textAll true ps).length := by
  have h := textAll_app_le true (ps.take k) (ps.drop k)
  rw [List.take_append_drop] at h
  exact h

def F.dual : F → F
  | .lt s => .lt s
  | .an a b => .or a.dual b.dual
  | .or a b => .an a.dual b.dual
  | .no a => .no a.dual

theorem F.dual_ok : ∀ {f : F}, f.ok = true → f.dual.ok = true
  | .lt s, h => h
  | .an a b, h => by
    rw [F.ok, Bool.and_eq_true] at h
    rw [F.dual, F.ok, Bool.and_eq_true]; exact ⟨F.dual_ok h.1, F.dual_ok h.2⟩
  | .or a b, h => by
    rw [F.ok, Bool.and_eq_true] at h
    rw [F.dual, F.ok, Bool.and_eq_true]; exact ⟨F.dual_ok h.1, F.dual_ok h.2⟩
  | .no a, h => by rw [F.ok] at h; rw [F.dual, F.ok]; exact F.dual_ok h
theorem F.dual_size : ∀ f : F, f.dual.size = f.size
  | .lt s => rfl
  | .an a b => by rw [F.dual, F.size, F.size, a.dual_size, b.dual_size]
  | .or a b => by rw [F.dual, F.size, F.size, a.dual_size, b.dual_size]
  | .no a => by rw [F.dual, F.size, F.size, a.dual_size]

/-- Not is moved inwards; b: one not more stands ahead. -/
def F.push : Bool → F → F
  | false, .lt s => .lt s
  | true, .lt s => .no (.lt s)
  | false, .an a b => .an (a.push false) (b.push false)
  | true, .an a b => .or (a.push true) (b.push true)
  | false, .or a b => .or (a.push false) (b.push false)
  | true, .or a b => .an (a.push true) (b.push true)
  | c, .no a => a.push (!c)

theorem F.push_ok : ∀ (c : Bool) {f : F}, f.ok = true → (f.push c).ok = true
  | false, .lt s, h => h
  | true, .lt s, h => h
  | false, .an a b, h => by
    rw [F.ok, Bool.and_eq_true] at h
    rw [F.push, F.ok, Bool.and_eq_true]; exact ⟨F.push_ok _ h.1, F.push_ok _ h.2⟩
  | true, .an a b, h => by
    rw [F.ok, Bool.and_eq_true] at h
    rw [F.push, F.ok, Bool.and_eq_true]; exact ⟨F.push_ok _ h.1, F.push_ok _ h.2⟩
  | false, .or a b, h => by
    rw [F.ok, Bool.and_eq_true] at h
    rw [F.push, F.ok, Bool.and_eq_true]; exact ⟨F.push_ok _ h.1, F.push_ok _ h.2⟩
  | true, .or a b, h => by
    rw [F.ok, Bool.and_eq_true] at h
    rw [F.push, F.ok, Bool.and_eq_true]; exact ⟨F.push_ok _ h.1, F.push_ok _ h.2⟩
  | c, .no a, h => by rw [F.ok] at h; rw [F.push]; exact F.push_ok _ h
theorem F.push_size : ∀ (c : Bool) (f : F), (f.push c).size ≤ 2 * f.size
  | false, .lt s => by rw [F.push, F.size]; omega
  | true, .lt s => by simp [F.push, F.size]
  | false, .an a b => by have := a.push_size false; have := b.push_size false; rw [F.push, F.size, F.size]; omega
  | true, .an a b => by have := a.push_size true; have := b.push_size true; rw [F.push, F.size, F.size]; omega
  | false, .or a b => by have := a.push_size false; have := b.push_size false; rw [F.push, F.size, F.size]; omega
  | true, .or a b => by have := a.push_size true; have := b.push_size true; rw [F.push, F.size, F.size]; omega
  | c, .no a => by have := a.push_size (!c); rw [F.push, F.size]; omega

theorem ba_append (a b : Bs) : (⟨a.toArray⟩ ++ ⟨b.toArray⟩ : ByteArray) = ⟨(a ++ b).toArray⟩ := by
  apply ByteArray.ext
  rw [ByteArray.data_append]
  simp

end Go.Proofs.Ytbglimlhffbddaa
