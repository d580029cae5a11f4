/- Shapes of values, as plain mathematics. -/
import Derived.Test.YtijplnaoecoblaaMathV
namespace Go.Proofs.Ytijplnaoecoblaa
set_option linter.unusedVariables false

def funB : Bs := [102, 117, 110]
def bothS (a b : Bs) : Bs := [40, 98, 111, 116, 104, 32] ++ (a ++ (32 :: (b ++ [41])))

/-- The shape that the model writes, also of what is no value, and whether it is one. -/
def P.sof : P → Bs × Bool
  | .nm s => (s, true)
  | .f1 h p => if h = notB then (funB, true) else ([], false)
  | .f2 h p q => if h = pairB then (bothS p.sof.1 q.sof.1, p.sof.2 && q.sof.2) else ([], false)
  | .bd _ _ => ([], false)
/-- The shape of a value. -/
def bothO (a b : Option Bs) : Option Bs := match a, b with
  | some a, some b => some (bothS a b)
  | _, _ => none
def P.shp : P → Option Bs
  | .nm s => if firstIs varB s then some s else none
  | .f1 h p => if h = notB then some funB else none
  | .f2 h p q => if h = pairB then bothO p.shp q.shp else none
  | .bd _ _ => none

theorem P.shp_val : ∀ {p : P} {a : Bs}, p.shp = some a → p.val = true
  | .nm s, a, h => by
    rw [P.shp] at h; rw [P.val]
    cases hv : firstIs varB s
    · rw [hv] at h; cases h
    · rfl
  | .bd s b, a, h => by cases h
  | .f1 x p, a, h => by
    rw [P.shp] at h; rw [P.val]
    by_cases hx : x = notB
    · subst hx; rfl
    · rw [if_neg hx] at h; cases h
  | .f2 x p q, a, h => by
    rw [P.shp] at h; rw [P.val]
    by_cases hx : x = pairB
    · rw [if_pos hx] at h
      cases h1 : p.shp with
      | none => rw [h1] at h; cases h
      | some b =>
        cases h2 : q.shp with
        | none => rw [h1, h2] at h; cases h
        | some c => rw [P.shp_val h1, P.shp_val h2]; simp [hx]
    · rw [if_neg hx] at h; cases h

theorem pair_kinds {p q : P} (hok : (P.f2 pairB p q).ok = true) : p.ok = true ∧ q.ok = true ∧ p.kind = .t ∧ q.kind = .t ∧ (P.f2 pairB p q).kind = .t := by
  rw [P.ok, Bool.and_eq_true, Bool.and_eq_true, decide_eq_true_iff] at hok
  have e := hok.2
  rw [show hd2 pairB = some (.t, .t, .t) from rfl] at e
  injection e with e
  injection e with e1 e2
  injection e2 with e2 e3
  exact ⟨hok.1.1, hok.1.2, e2.symm, e3.symm, e1.symm⟩

theorem P.shp_sof : ∀ {p : P}, p.ok = true → p.kind = .t → p.shp = if p.sof.2 then some p.sof.1 else none
  | .nm s, hok, hk => by
    rw [P.shp, P.sof]
    rw [P.kind] at hk
    cases hv : firstIs varB s
    · rw [hv] at hk; cases hk
    · rfl
  | .bd s b, _, _ => rfl
  | .f1 x p, _, _ => by
    rw [P.shp, P.sof]
    by_cases hx : x = notB
    · rw [if_pos hx, if_pos hx]; rfl
    · rw [if_neg hx, if_neg hx]; rfl
  | .f2 x p q, hok, hk => by
    rw [P.shp, P.sof]
    by_cases hx : x = pairB
    · subst hx
      obtain ⟨h1, h2, h3, h4, -⟩ := pair_kinds hok
      rw [if_pos rfl, if_pos rfl, P.shp_sof h1 h3, P.shp_sof h2 h4]
      cases p.sof.2 <;> cases q.sof.2 <;> rfl
    · rw [if_neg hx, if_neg hx]; rfl

theorem P.shp_kind {p : P} {a : Bs} (h : p.shp = some a) : p.ok = true → p.kind = .t := fun hok => by
  cases p with
  | nm s =>
    rw [P.shp] at h; rw [P.kind]
    cases hv : firstIs varB s
    · rw [hv] at h; cases h
    · simp
  | bd s b => cases h
  | f1 x p =>
    rw [P.shp] at h
    by_cases hx : x = notB
    · subst hx
      rfl
    · rw [if_neg hx] at h; cases h
  | f2 x p q =>
    rw [P.shp] at h
    by_cases hx : x = pairB
    · subst hx; exact (pair_kinds hok).2.2.2.2
    · rw [if_neg hx] at h; cases h

theorem bothS_length (a b : Bs) : (bothS a b).length = a.length + b.length + 8 := by simp [bothS]; omega

theorem P.sof_len : ∀ {p : P}, p.sof.1.length ≤ p.text.length
  | .nm s => by rw [P.sof, P.text, P.tree, T.text]; exact Nat.le_refl _
  | .bd s b => by rw [P.sof]; simp
  | .f1 x p => by
    rw [P.sof]
    by_cases hx : x = notB
    · subst hx
      rw [if_pos rfl]
      simp [P.text, P.tree, T.text, textAll, notB, funB]
    · rw [if_neg hx]; simp
  | .f2 x p q => by
    rw [P.sof]
    by_cases hx : x = pairB
    · subst hx
      have h1 := P.sof_len (p := p)
      have h2 := P.sof_len (p := q)
      rw [if_pos rfl]
      rw [P.text] at h1 h2
      simp [P.text, P.tree, T.text, textAll, pairB, bothS_length]; omega
    · rw [if_neg hx]; simp
theorem P.shp_len : ∀ {p : P} {a : Bs}, p.shp = some a → a.length ≤ p.text.length
  | .nm s, a, h => by
    rw [P.shp] at h; rw [P.text, P.tree, T.text]
    cases hv : firstIs varB s
    · rw [hv] at h; cases h
    · rw [hv] at h; injection h with h; subst h; exact Nat.le_refl _
  | .bd s b, a, h => by cases h
  | .f1 x p, a, h => by
    rw [P.shp] at h
    by_cases hx : x = notB
    · subst hx
      rw [if_pos rfl] at h; injection h with h; subst h
      simp [P.text, P.tree, T.text, textAll, notB, funB]
    · rw [if_neg hx] at h; cases h
  | .f2 x p q, a, h => by
    rw [P.shp] at h
    by_cases hx : x = pairB
    · subst hx
      rw [if_pos rfl] at h
      cases h1 : p.shp with
      | none => rw [h1] at h; cases h
      | some b =>
        cases h2 : q.shp with
        | none => rw [h1, h2] at h; cases h
        | some c =>
          rw [h1, h2] at h
          injection h with h; subst h
          have h3 := P.shp_len h1
          have h4 := P.shp_len h2
          rw [P.text] at h3 h4
          simp [P.text, P.tree, T.text, textAll, pairB, bothS_length]; omega
    · rw [if_neg hx] at h; cases h

/-- The shape of what a text is. -/
def shpO : Option P → Option Bs
  | none => none
  | some p => p.shp

theorem pair_text (p : P) : (P.f2 pairB p p).text = [40, 112, 97, 105, 114, 32] ++ (p.text ++ (32 :: (p.text ++ [41]))) := by
  simp [P.text, P.tree, T.text, textAll, pairB]

end Go.Proofs.Ytijplnaoecoblaa
