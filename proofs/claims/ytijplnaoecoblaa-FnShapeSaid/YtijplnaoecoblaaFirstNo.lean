/- Where the first false of a list stands. -/
import Derived.Test.YtijplnaoecoblaaMathV
namespace Go.Proofs.Ytijplnaoecoblaa
set_option linter.unusedVariables false

def firstNo : List Bool → Int
  | [] => -1
  | b :: l => if b then (if firstNo l < 0 then -1 else firstNo l + 1) else 0
theorem firstNo_all : ∀ {l : List Bool}, (∀ b ∈ l, b = true) → firstNo l = -1
  | [], _ => rfl
  | b :: l, h => by
    rw [firstNo, h b (by simp), if_pos rfl, firstNo_all (fun b hb => h b (by simp [hb]))]; rfl
theorem firstNo_at : ∀ {l : List Bool} {j : Nat}, l[j]? = some false → (∀ i, i < j → l[i]? = some true) → firstNo l = j
  | [], j, h, _ => by simp at h
  | b :: l, 0, h, _ => by simp at h; rw [firstNo, h]; rfl
  | b :: l, j + 1, h, hb => by
    have h0 := hb 0 (by omega)
    simp at h h0
    have ih := firstNo_at h (fun i hi => by have := hb (i + 1) (by omega); simpa using this)
    rw [firstNo, h0, if_pos rfl, ih, if_neg (by omega)]; omega
theorem firstNo_bounds (l : List Bool) : -1 ≤ firstNo l ∧ firstNo l < l.length := by
  induction l with
  | nil => simp [firstNo]
  | cons b l ih =>
    rw [firstNo]
    cases b
    · simp
    · simp; split <;> omega
theorem firstNo_neg (l : List Bool) : firstNo l < 0 ↔ ∀ b ∈ l, b = true := by
  induction l with
  | nil => simp [firstNo]
  | cons b l ih =>
    rw [firstNo]
    cases b
    · simp
    · simp
      split
      · rename_i h; simp; simpa using ih.1 h
      · rename_i h; constructor
        · intro h'; omega
        · intro h'; exact absurd (ih.2 (by simpa using h')) h

/-- What a form answers, by what its head is called on the value's side. -/
def formVal (h : Bs) (l : List Bool) : Bool := if h = pairB ∨ h = inlB ∨ h = inrB then decide (firstNo l < 0) else decide (h = notB)

end Go.Proofs.Ytijplnaoecoblaa
