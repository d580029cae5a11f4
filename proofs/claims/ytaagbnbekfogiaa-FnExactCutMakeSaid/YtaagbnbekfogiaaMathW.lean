/- Steps of statements, one after another: plain mathematics. -/
import Derived.Test.YtaagbnbekfogiaaMathN
namespace Go.Proofs.Ytaagbnbekfogiaa
set_option linter.unusedVariables false

/-- Is the text of a program one again? -/
def writeB (p : P) : Bool := decide (p.size ≤ 500) && (readP p.text).isSome
def writeT (p : P) : Bs := if writeB p = true then p.text else []

/-- A statement of a program's size. -/
structure Stm (p : P) : Prop where
  ok : p.ok = true
  kd : p.kind = .s
  sz : p.size ≤ 500
theorem stm_cut {p : P} (h : Stm p) : ∃ m k, p = .f2 cutB m k ∧ MK m k := by
  obtain ⟨h1, h2, h3⟩ := h
  cases p with
  | nm s => simp only [P.kind] at h2; split at h2 <;> cases h2
  | bd s b => simp only [P.kind] at h2; split at h2 <;> cases h2
  | f1 x p =>
    exfalso
    rw [P.ok, Bool.and_eq_true, decide_eq_true_iff, h2] at h1
    have e := h1.2
    unfold hd1 at e
    repeat' split at e
    all_goals first | (injection e with e; injection e with e; cases e; done) | (cases e; done)
  | f2 x p q =>
    have h1' := h1
    rw [P.ok, Bool.and_eq_true, Bool.and_eq_true, decide_eq_true_iff, h2] at h1
    have e := h1.2
    have hx : x = cutB := by
      unfold hd2 at e
      repeat' split at e
      all_goals first | (injection e with e; injection e with e; cases e; done) | (cases e; done) | (rename_i hh; rw [hh]; rfl)
    subst hx
    exact ⟨p, q, rfl, MK.of h1' h3⟩

/-- The step to a canonical statement. -/
def canStep (v : Bool) (p : P) : Option P := (stepP v p).map P.canon
/-- What is behind one step. -/
theorem canStep_next {v : Bool} {p c : P} (h : Stm p) (e : canStep v p = some c) : c.nok = true ∧ c.size ≤ 64000 ∧ (c.size ≤ 500 → Stm c) := by
  obtain ⟨m, k, rfl, hmk⟩ := stm_cut h
  obtain ⟨q, hq, rfl⟩ := Option.map_eq_some_iff.1 e
  have hn := next_step hmk (v := v) (show stepC v m k = some q from by have := hq; rw [stepP, if_pos rfl] at this; exact this)
  have hsz := q.canon_size
  refine ⟨canon_nok hn.nok (by have := hn.size; omega), by rw [hsz]; exact hn.size, fun h5 => ?_⟩
  rw [hsz] at h5
  obtain ⟨h1, h2⟩ := hn.good h5
  obtain ⟨h3, h4⟩ := canon_ok h1 h5
  exact ⟨h3, h4.trans h2, by rw [hsz]; exact h5⟩
theorem writeB_size {p : P} (h : writeB p = true) : p.size ≤ 500 ∧ (readP p.text).isSome = true := by
  unfold writeB at h
  rw [Bool.and_eq_true, decide_eq_true_iff] at h
  exact h
theorem writeB_read {p : P} (hok : p.ok = true) (h : writeB p = true) : readP p.text = some p := by
  obtain ⟨h1, h2⟩ := writeB_size h
  cases e : readP p.text with
  | none => rw [e] at h2; cases h2
  | some q =>
    have h3 := readP_back e
    have e2 : p.tree.text = q.tree.text := h3.1
    have ht := fun (r : P) (hr : r.ok = true) (hn : r.tree.nest ≤ max p.tree.nest q.tree.nest) => rd_text (max p.tree.nest q.tree.nest) r.tree [] (P.good_tree hr) hn (fun c r h => by cases h)
    have h4 := ht p hok (Nat.le_max_left _ _)
    have h5 := ht q h3.2.2.1 (Nat.le_max_right _ _)
    rw [e2, h5] at h4
    injection h4 with h4
    injection h4 with h4 _
    have h6 := tree_toP h3.2.2.1
    rw [h4, tree_toP hok] at h6
    exact h6.symm

/-- At most so many steps: what is behind them, their number, and whether it is stuck. -/
def redu (v : Bool) : Nat → P → P × Nat × Bool
  | 0, p => (p, 0, (canStep v p).isNone)
  | n + 1, p => match canStep v p with
    | none => (p, 0, true)
    | some c => if writeB c then ((redu v n c).1, (redu v n c).2.1 + 1, (redu v n c).2.2) else (p, 0, false)
theorem redu_stm (v : Bool) : ∀ (n : Nat) (p : P), Stm p → Stm (redu v n p).1
  | 0, p, h => h
  | n + 1, p, h => by
    rw [redu]
    cases e : canStep v p with
    | none => exact h
    | some c =>
      simp only
      split
      · rename_i hw
        exact redu_stm v n c ((canStep_next h e).2.2 (writeB_size hw).1)
      · exact h
theorem redu_le (v : Bool) : ∀ (n : Nat) (p : P), (redu v n p).2.1 ≤ n
  | 0, p => Nat.le_refl _
  | n + 1, p => by
    rw [redu]
    cases e : canStep v p with
    | none => exact Nat.zero_le _
    | some c =>
      simp only
      split
      · have := redu_le v n c
        show (redu v n c).2.1 + 1 ≤ n + 1
        omega
      · exact Nat.zero_le _
/-- It is stuck if nothing is left to do. -/
theorem redu_stuck (v : Bool) : ∀ (n : Nat) (p : P), (redu v n p).2.2 = (canStep v (redu v n p).1).isNone
  | 0, p => rfl
  | n + 1, p => by
    rw [redu]
    cases e : canStep v p with
    | none => simp only; rw [e]; rfl
    | some c =>
      simp only
      split
      · exact redu_stuck v n c
      · simp only; rw [e]; rfl

/-- The kind of steps that a text is. -/
def kindOf (b : Bs) : Option Bool := if b = [110, 97, 109, 101] then some false else if b = [118, 97, 108, 117, 101] then some true else none
def kname (v : Bool) : Bs := if v then [118, 97, 108, 117, 101] else [110, 97, 109, 101]
theorem kindOf_some {b : Bs} {v : Bool} (h : kindOf b = some v) : b = kname v := by
  unfold kindOf at h
  split at h
  · rename_i e; injection h with h; subst h; exact e
  · split at h
    · rename_i e; injection h with h; subst h; exact e
    · cases h
/-- The statement that a text is. -/
def readS (b : Bs) : Option P := match readP b with
  | none => none
  | some p => if p.kind = .s then some p else none
theorem readS_stm {b : Bs} {p : P} (h : readS b = some p) : Stm p ∧ readP b = some p := by
  unfold readS at h
  cases e : readP b with
  | none => rw [e] at h; cases h
  | some q =>
    rw [e] at h
    simp only at h
    split at h
    · rename_i hk
      injection h with h; subst h
      exact ⟨⟨(readP_ok e).1, hk, (readP_ok e).2.1⟩, rfl⟩
    · cases h

end Go.Proofs.Ytaagbnbekfogiaa
