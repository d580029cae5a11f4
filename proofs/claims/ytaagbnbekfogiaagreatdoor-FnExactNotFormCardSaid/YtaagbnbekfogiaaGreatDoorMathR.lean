/- What is written is read again: texts of trees, as plain mathematics. -/
import Derived.Test.YtaagbnbekfogiaaGreatDoorMathP
namespace Go.Proofs.YtaagbnbekfogiaaGreatDoor
set_option linter.unusedVariables false

mutual
def T.nest : T → Nat
  | .atom _ => 0
  | .node ps => 1 + nestAll ps
def nestAll : List T → Nat
  | [] => 0
  | t :: ps => max t.nest (nestAll ps)
end
mutual
/-- Atoms are not empty, and nodes have parts. -/
def T.good : T → Bool
  | .atom s => !s.isEmpty && s.all atomB
  | .node ps => !ps.isEmpty && goodAll ps
def goodAll : List T → Bool
  | [] => true
  | t :: ps => t.good && goodAll ps
end

theorem goodAll_append (xs ys : List T) : goodAll (xs ++ ys) = (goodAll xs && goodAll ys) := by
  induction xs with
  | nil => simp [goodAll]
  | cons x xs ih => simp [goodAll, ih, Bool.and_assoc]
theorem nestAll_append (xs ys : List T) : nestAll (xs ++ ys) = max (nestAll xs) (nestAll ys) := by
  induction xs with
  | nil => simp [nestAll]
  | cons x xs ih => simp [nestAll, ih, Nat.max_assoc]

/-- What is behind an atom is not of it. -/
def Stop (q : Bs) : Prop := ∀ c r, q = c :: r → atomB c = false

theorem stop_tw {s q : Bs} (hs : s.all atomB = true) (hq : Stop q) : (s ++ q).takeWhile atomB = s ∧ (s ++ q).dropWhile atomB = q := by
  induction s with
  | nil =>
    cases q with
    | nil => exact ⟨rfl, rfl⟩
    | cons c r => have h := hq c r rfl; simp [h]
  | cons a s ih =>
    simp only [List.all_cons, Bool.and_eq_true] at hs
    obtain ⟨h1, h2⟩ := ih hs.2
    simp [hs.1, h1, h2]

theorem text_ne : ∀ {t : T}, t.good = true → t.text ≠ []
  | .atom s, h => by rw [T.good, Bool.and_eq_true] at h; rw [T.text]; intro e; subst e; simp at h
  | .node ps, h => by rw [T.text]; simp

theorem good_head {s q : Bs} (h : s.all atomB = true) (hs : s ≠ []) : headIs 40 (s ++ q) = false := by
  cases s with
  | nil => exact absurd rfl hs
  | cons c r =>
    simp only [List.all_cons, Bool.and_eq_true] at h
    simp only [headIs, List.cons_append, List.head?_cons]
    rw [beq_eq_false_iff_ne]
    intro e
    injection e with e
    subst e
    exact absurd h.1 (by decide)

mutual
theorem rd_text : ∀ (n : Nat) (t : T) (q : Bs), t.good = true → t.nest ≤ n → Stop q → rd n (t.text ++ q) = some (t, q)
  | n, .atom s, q, hg, _, hq => by
    rw [T.good, Bool.and_eq_true] at hg
    obtain ⟨h1, h2⟩ := hg
    have hne : s ≠ [] := by intro e; subst e; simp at h1
    obtain ⟨e1, e2⟩ := stop_tw h2 hq
    rw [T.text, rd_atom (good_head h2 hne), rdAtom, e1, if_neg hne, e2]
  | 0, .node ps, q, _, hn, _ => by rw [T.nest] at hn; omega
  | n + 1, .node ps, q, hg, hn, hq => by
    rw [T.nest] at hn
    rw [T.good, Bool.and_eq_true] at hg
    rw [T.text, rd_succ (by simp [headIs])]
    match ps, hg, hn with
    | [], hg, _ => simp at hg
    | p :: ps, hg, hn =>
      have e : (40 :: textAll true (p :: ps) ++ [41] ++ q).tail = p.text ++ (textAll false ps ++ 41 :: q) := by simp [textAll]
      rw [e, rdLoop_text n p ps q [] _ hg.2 (by omega) (by simp; have := ps_le ps; omega)]
      rfl
theorem ps_le : ∀ ps : List T, ps.length ≤ (textAll false ps).length
  | [] => by simp
  | p :: ps => by have := ps_le ps; simp [textAll]; omega
theorem rdLoop_text : ∀ (n : Nat) (p : T) (ps : List T) (q : Bs) (acc : List T) (k : Nat), goodAll (p :: ps) = true → nestAll (p :: ps) ≤ n → ps.length < k →
    rdLoop (rd n) k (p.text ++ (textAll false ps ++ 41 :: q)) acc = some (acc ++ p :: ps, q)
  | n, p, [], q, acc, 0, _, _, hk => by simp at hk
  | n, p, _ :: _, q, acc, 0, _, _, hk => by simp at hk
  | n, p, [], q, acc, k + 1, hg, hn, hk => by
    rw [goodAll, Bool.and_eq_true] at hg
    rw [nestAll] at hn
    have h := rd_text n p (41 :: q) hg.1 (by omega) (fun c r e => by injection e with e _; subst e; decide)
    rw [textAll, List.nil_append]
    exact rdLoop_close h
  | n, p, p' :: ps, q, acc, k + 1, hg, hn, hk => by
    rw [goodAll, Bool.and_eq_true] at hg
    rw [nestAll] at hn
    have h := rd_text n p (32 :: (p'.text ++ (textAll false ps ++ 41 :: q))) hg.1 (by omega) (fun c r e => by injection e with e _; subst e; decide)
    rw [show textAll false (p' :: ps) ++ 41 :: q = 32 :: (p'.text ++ (textAll false ps ++ 41 :: q)) from by simp [textAll]]
    rw [rdLoop_on h, rdLoop_text n p' ps q (acc ++ [p]) k hg.2 (by omega) (by simp at hk; omega)]
    simp
end

/-- What is read stands in the text so. -/
theorem rdAtom_back {s q : Bs} {t : T} (h : rdAtom s = some (t, q)) : s = t.text ++ q ∧ t.nest = 0 ∧ t.good = true := by
  unfold rdAtom at h
  split at h
  · cases h
  · rename_i hne
    injection h with h
    injection h with h1 h2
    subst h1; subst h2
    refine ⟨by rw [T.text]; exact (List.takeWhile_append_dropWhile).symm, by rw [T.nest], ?_⟩
    rw [T.good, Bool.and_eq_true]
    exact ⟨by simpa using hne, by simp⟩

theorem rdLoop_back {r : Bs → Option (T × Bs)} {n : Nat} (hr : ∀ s t q, r s = some (t, q) → s = t.text ++ q ∧ t.nest ≤ n ∧ t.good = true) :
    ∀ k s acc ps q, rdLoop r k s acc = some (ps, q) → ∃ p qs, ps = acc ++ p :: qs ∧ s = p.text ++ (textAll false qs ++ 41 :: q) ∧ nestAll (p :: qs) ≤ n ∧ goodAll (p :: qs) = true := by
  intro k
  induction k with
  | zero => intro s acc ps q h; cases h
  | succ k ih =>
    intro s acc ps q h
    rw [rdLoop] at h
    split at h
    · cases h
    · cases h
    · rename_i p c q' hrs
      obtain ⟨e1, e2, e3⟩ := hr _ _ _ hrs
      split at h
      · rename_i hc
        injection h with h
        injection h with h1 h2
        subst h1; subst h2; subst hc
        exact ⟨p, [], rfl, by rw [e1]; simp [textAll], by simp [nestAll]; exact e2, by simp [goodAll]; exact e3⟩
      · split at h
        · rename_i hc
          subst hc
          obtain ⟨p', qs, e4, e5, e6, e7⟩ := ih _ _ _ _ h
          refine ⟨p, p' :: qs, by rw [e4]; simp, by rw [e1, e5]; simp [textAll], ?_, ?_⟩
          · rw [nestAll]; omega
          · rw [goodAll, e3, e7]; rfl
        · cases h

theorem rd_back : ∀ n s t q, rd n s = some (t, q) → s = t.text ++ q ∧ t.nest ≤ n ∧ t.good = true := by
  intro n
  induction n with
  | zero =>
    intro s t q h
    rw [rd] at h
    split at h
    · cases h
    · obtain ⟨h1, h2, h3⟩ := rdAtom_back h
      exact ⟨h1, by omega, h3⟩
  | succ n ih =>
    intro s t q h
    rw [rd] at h
    split at h
    · rename_i hh
      unfold rdNode at h
      split at h
      · cases h
      · rename_i ps q' hl
        injection h with h
        injection h with h1 h2
        subst h1; subst h2
        obtain ⟨p, qs, e1, e2, e3, e4⟩ := rdLoop_back ih _ _ _ _ _ hl
        obtain ⟨s', rfl⟩ := headIs_cons hh
        rw [List.nil_append] at e1
        subst e1
        simp only [List.tail_cons] at e2
        refine ⟨by rw [e2, T.text]; simp [textAll], by rw [T.nest]; omega, by rw [T.good, e4]; rfl⟩
    · obtain ⟨h1, h2, h3⟩ := rdAtom_back h
      exact ⟨h1, by omega, h3⟩

theorem readT_back {s : Bs} {t : T} (h : readT s = some t) : s = t.text ∧ t.nest ≤ 200 ∧ t.good = true ∧ s.length ≤ 6000 := by
  unfold readT at h
  split at h
  · cases h
  · rename_i hl
    split at h
    · rename_i t' hr
      injection h with h
      subst h
      obtain ⟨h1, h2, h3⟩ := rd_back _ _ _ _ hr
      exact ⟨by simpa using h1, h2, h3, by omega⟩
    · cases h
theorem readT_text {t : T} (hg : t.good = true) (hn : t.nest ≤ 200) (hl : t.text.length ≤ 6000) : readT t.text = some t := by
  refine readT_some (by omega) ?_
  have h := rd_text 200 t [] hg hn (fun c r e => by cases e)
  simpa using h

/-! ### Programs -/
def P.text (p : P) : Bs := p.tree.text

theorem hd1_in {h : Bs} {r} (e : hd1 h = some r) : h.length ≤ 4 ∧ h ≠ [] ∧ h.all atomB = true := by
  unfold hd1 at e
  repeat' split at e
  all_goals first | (rename_i hh; subst hh; decide) | cases e
theorem hd2_in {h : Bs} {r} (e : hd2 h = some r) : h.length ≤ 4 ∧ h ≠ [] ∧ h.all atomB = true := by
  unfold hd2 at e
  repeat' split at e
  all_goals first | (rename_i hh; subst hh; decide) | cases e
theorem bhead_in (s : Bs) : (bhead s).length ≤ 4 ∧ bhead s ≠ [] ∧ (bhead s).all atomB = true := by unfold bhead; split <;> decide
theorem dig_atom {c : UInt8} (h : digB c = true) : atomB c = true := by simp [atomB, h]
theorem var_atom {c : UInt8} (h : varB c = true) : atomB c = true := by
  unfold varB at h
  simp only [Bool.or_eq_true, beq_iff_eq] at h
  rcases h with (h | h) | h <;> subst h <;> decide
theorem cov_atom {c : UInt8} (h : covB c = true) : atomB c = true := by
  unfold covB at h
  simp only [Bool.or_eq_true, beq_iff_eq] at h
  rcases h with (h | h) | h <;> subst h <;> decide
theorem isName_in {s : Bs} (h : isName s = true) : s.length ≤ 4 ∧ s ≠ [] ∧ s.all atomB = true := by
  cases s with
  | nil => cases h
  | cons c r =>
    simp only [isName, isVar, isCov, nameB, Bool.or_eq_true, Bool.and_eq_true, decide_eq_true_iff] at h
    have hc : atomB c = true := by rcases h with h | h; exact var_atom h.1.1; exact cov_atom h.1.1
    have hr : r.length ≤ 3 ∧ r.all digB = true := by rcases h with h | h; exact ⟨h.1.2, h.2⟩; exact ⟨h.1.2, h.2⟩
    refine ⟨by simp; omega, by simp, ?_⟩
    rw [List.all_cons, hc, Bool.true_and, List.all_eq_true]
    intro x hx
    exact dig_atom (List.all_eq_true.1 hr.2 x hx)

theorem good_atom {s : Bs} (h : s.length ≤ 4 ∧ s ≠ [] ∧ s.all atomB = true) : (T.atom s).good = true := by
  rw [T.good, h.2.2]; simp [h.2.1]

theorem P.good_tree : ∀ {p : P}, p.ok = true → p.tree.good = true
  | .nm s, h => by rw [P.ok] at h; exact good_atom (isName_in h)
  | .f1 x p, h => by
    rw [P.ok, Bool.and_eq_true, decide_eq_true_iff] at h
    have h1 := good_atom (hd1_in h.2)
    rw [P.tree, T.good, goodAll, goodAll, goodAll, P.good_tree h.1, h1]; rfl
  | .f2 x p q, h => by
    rw [P.ok, Bool.and_eq_true, Bool.and_eq_true, decide_eq_true_iff] at h
    have h1 := good_atom (hd2_in h.2)
    rw [P.tree, T.good, goodAll, goodAll, goodAll, goodAll, P.good_tree h.1.1, P.good_tree h.1.2, h1]; rfl
  | .bd s b, h => by
    rw [P.ok, Bool.and_eq_true, Bool.and_eq_true, decide_eq_true_iff] at h
    have h1 := good_atom (isName_in h.1.1)
    have h2 := good_atom (bhead_in s)
    rw [P.tree, T.good, goodAll, goodAll, goodAll, goodAll, P.good_tree h.1.2, h1, h2]; rfl

theorem P.text_length : ∀ {p : P}, p.ok = true → p.text.length ≤ 8 * p.size
  | .nm s, h => by
    rw [P.ok] at h
    have := (isName_in h).1
    rw [P.text, P.tree, T.text, P.size]; omega
  | .f1 x p, h => by
    rw [P.ok, Bool.and_eq_true, decide_eq_true_iff] at h
    have h1 := P.text_length h.1
    have := (hd1_in h.2).1
    rw [P.text] at h1
    simp [P.text, P.tree, T.text, textAll, P.size]; omega
  | .f2 x p q, h => by
    rw [P.ok, Bool.and_eq_true, Bool.and_eq_true, decide_eq_true_iff] at h
    have h1 := P.text_length h.1.1
    have h2 := P.text_length h.1.2
    have := (hd2_in h.2).1
    rw [P.text] at h1 h2
    simp [P.text, P.tree, T.text, textAll, P.size]; omega
  | .bd s b, h => by
    rw [P.ok, Bool.and_eq_true, Bool.and_eq_true, decide_eq_true_iff] at h
    have h1 := P.text_length h.1.2
    have := (isName_in h.1.1).1
    have := (bhead_in s).1
    rw [P.text] at h1
    simp [P.text, P.tree, T.text, textAll, P.size]; omega

theorem P.size_text : ∀ {p : P}, p.ok = true → p.size ≤ p.text.length
  | .nm s, h => by
    rw [P.ok] at h
    have := isName_ne h
    rw [P.text, P.tree, T.text, P.size]
    cases s with
    | nil => exact absurd rfl this
    | cons c d => simp
  | .f1 x p, h => by
    rw [P.ok, Bool.and_eq_true, decide_eq_true_iff] at h
    have h1 := P.size_text h.1
    rw [P.text] at h1
    simp [P.text, P.tree, T.text, textAll, P.size]; omega
  | .f2 x p q, h => by
    rw [P.ok, Bool.and_eq_true, Bool.and_eq_true, decide_eq_true_iff] at h
    have h1 := P.size_text h.1.1
    have h2 := P.size_text h.1.2
    rw [P.text] at h1 h2
    simp [P.text, P.tree, T.text, textAll, P.size]; omega
  | .bd s b, h => by
    rw [P.ok, Bool.and_eq_true, Bool.and_eq_true, decide_eq_true_iff] at h
    have h1 := P.size_text h.1.2
    rw [P.text] at h1
    simp [P.text, P.tree, T.text, textAll, P.size]; omega

def P.nest : P → Nat
  | .nm _ => 0
  | .f1 _ p => 1 + p.nest
  | .f2 _ p q => 1 + max p.nest q.nest
  | .bd _ b => 1 + b.nest
theorem P.nest_tree : ∀ p : P, p.tree.nest = p.nest
  | .nm s => by rw [P.tree, T.nest, P.nest]
  | .f1 h p => by simp [P.tree, T.nest, nestAll, P.nest, p.nest_tree]
  | .f2 h p q => by simp [P.tree, T.nest, nestAll, P.nest, p.nest_tree, q.nest_tree]
  | .bd s b => by simp [P.tree, T.nest, nestAll, P.nest, b.nest_tree]

/-- A program is read again. -/
theorem readP_text {p : P} (hok : p.ok = true) (hs : p.size ≤ 500) (hn : p.nest ≤ 200) : readP p.text = some p := by
  have hl := P.text_length hok
  refine readP_some (t := p.tree) ?_ (tree_toP hok) hs
  rw [P.text] at hl ⊢
  exact readT_text (P.good_tree hok) (by rw [P.nest_tree]; exact hn) (by omega)
theorem readP_back {s : Bs} {p : P} (h : readP s = some p) : s = p.text ∧ p.nest ≤ 200 ∧ p.ok = true ∧ p.size ≤ 500 := by
  obtain ⟨h1, h2, h3⟩ := readP_ok h
  obtain ⟨h4, h5, h6, -⟩ := readT_back h3
  exact ⟨h4, by rw [P.nest_tree] at h5; exact h5, h1, h2⟩

end Go.Proofs.YtaagbnbekfogiaaGreatDoor
