/- Formulas, as plain mathematics. The texts of formulas and of what is read, their duals, and not moved inwards, as plain mathematics. What is read as a formula is one. -/
import Derived.Test.YtaagbnbekfogiaaGreatDoorBytes
namespace Go.Proofs.YtaagbnbekfogiaaGreatDoor
set_option linter.unusedVariables false

inductive F where
  | lt (s : Bs)
  | an (a b : F)
  | or (a b : F)
  | no (a : F)
  deriving Inhabited

def atomOf : T → Bs
  | .atom s => s
  | .node _ => []

def anF : Option F → Option F → Option F
  | some a, some b => some (.an a b)
  | _, _ => none
def orF : Option F → Option F → Option F
  | some a, some b => some (.or a b)
  | _, _ => none
def noF : Option F → Option F
  | some a => some (.no a)
  | none => none

/-- The formula that what is read is. -/
def toF : T → Option F
  | .atom s => if isLet s then some (.lt s) else none
  | .node [h, a] => if atomOf h = [45] then noF (toF a) else none
  | .node [h, a, b] => if atomOf h = [42] then anF (toF a) (toF b) else if atomOf h = [43] then orF (toF a) (toF b) else none
  | .node _ => none

/-- What is read of a formula's text. -/
def F.tree : F → T
  | .lt s => .atom s
  | .an a b => .node [.atom [42], a.tree, b.tree]
  | .or a b => .node [.atom [43], a.tree, b.tree]
  | .no a => .node [.atom [45], a.tree]

def F.ok : F → Bool
  | .lt s => isLet s
  | .an a b => a.ok && b.ok
  | .or a b => a.ok && b.ok
  | .no a => a.ok

def F.size : F → Nat
  | .lt _ => 1
  | .an a b => 1 + a.size + b.size
  | .or a b => 1 + a.size + b.size
  | .no a => 1 + a.size

mutual
def T.atoms : T → Nat
  | .atom _ => 1
  | .node ps => atomsAll ps
def atomsAll : List T → Nat
  | [] => 0
  | t :: ps => t.atoms + atomsAll ps
end

/-- Atoms are never empty in what is read. -/
def headOk (h : T) (s : Bs) : Prop := atomOf h = s

theorem atomOf_eq {h : T} {s : Bs} (hs : s ≠ []) (e : atomOf h = s) : h = .atom s := by
  cases h with
  | atom s' => rw [atomOf] at e; rw [e]
  | node ps => rw [atomOf] at e; exact absurd e.symm hs

theorem toF_tree : ∀ {t : T} {f : F}, toF t = some f → t = f.tree ∧ f.ok = true
  | .atom s, f, h => by
    rw [toF] at h
    split at h
    · rename_i hl
      injection h with h; subst h
      exact ⟨rfl, hl⟩
    · cases h
  | .node [], f, h => by rw [toF] at h; cases h; all_goals simp
  | .node [_], f, h => by rw [toF] at h; cases h; all_goals simp
  | .node [x, a], f, h => by
    rw [toF] at h
    split at h
    · rename_i hx
      cases ha : toF a with
      | none => rw [ha] at h; cases h
      | some g =>
        rw [ha] at h
        injection h with h; subst h
        obtain ⟨h1, h2⟩ := toF_tree ha
        exact ⟨by rw [F.tree, atomOf_eq (by simp) hx, ← h1], h2⟩
    · cases h
  | .node [x, a, b], f, h => by
    rw [toF] at h
    split at h
    · rename_i hx
      cases ha : toF a with
      | none => rw [ha] at h; cases h
      | some g =>
        cases hb : toF b with
        | none => rw [ha, hb] at h; cases h
        | some k =>
          rw [ha, hb] at h
          injection h with h; subst h
          obtain ⟨h1, h2⟩ := toF_tree ha
          obtain ⟨h3, h4⟩ := toF_tree hb
          exact ⟨by rw [F.tree, atomOf_eq (by simp) hx, ← h1, ← h3], by rw [F.ok, h2, h4]; rfl⟩
    · split at h
      · rename_i hx
        cases ha : toF a with
        | none => rw [ha] at h; cases h
        | some g =>
          cases hb : toF b with
          | none => rw [ha, hb] at h; cases h
          | some k =>
            rw [ha, hb] at h
            injection h with h; subst h
            obtain ⟨h1, h2⟩ := toF_tree ha
            obtain ⟨h3, h4⟩ := toF_tree hb
            exact ⟨by rw [F.tree, atomOf_eq (by simp) hx, ← h1, ← h3], by rw [F.ok, h2, h4]; rfl⟩
      · cases h
  | .node (_ :: _ :: _ :: _ :: _), f, h => by rw [toF] at h; cases h; all_goals simp

theorem F.atoms_tree : ∀ f : F, f.tree.atoms = f.size
  | .lt s => by rw [F.tree, T.atoms, F.size]
  | .an a b => by simp [F.tree, T.atoms, atomsAll, F.size, a.atoms_tree, b.atoms_tree]; omega
  | .or a b => by simp [F.tree, T.atoms, atomsAll, F.size, a.atoms_tree, b.atoms_tree]; omega
  | .no a => by simp [F.tree, T.atoms, atomsAll, F.size, a.atoms_tree]

mutual
/-- A number that a part has less of. -/
def T.sz : T → Nat
  | .atom _ => 1
  | .node ps => 1 + szAll ps
def szAll : List T → Nat
  | [] => 0
  | t :: ps => t.sz + szAll ps
end
theorem szAll_part : ∀ {ps : List T} {i : Nat} {t : T}, ps[i]? = some t → t.sz ≤ szAll ps
  | [], i, t, h => by simp at h
  | p :: ps, 0, t, h => by simp at h; subst h; rw [szAll]; omega
  | p :: ps, i + 1, t, h => by
    have := szAll_part (ps := ps) (i := i) (t := t) (by simpa using h)
    rw [szAll]; omega
theorem T.sz_part {ps : List T} {i : Nat} {t : T} (h : ps[i]? = some t) : t.sz < (T.node ps).sz := by
  have := szAll_part h
  rw [T.sz.eq_2]; omega

theorem T.sz_pos (t : T) : 1 ≤ t.sz := by cases t <;> simp [T.sz]

def pairF (s : Bs) (a b : Option F) : Option F := if s = [42] then anF a b else if s = [43] then orF a b else none
theorem pairF_none_left (s : Bs) (b : Option F) : pairF s none b = none := by
  unfold pairF anF orF
  split
  · rfl
  · split <;> rfl
theorem pairF_none_right (s : Bs) (a : Option F) : pairF s a none = none := by
  cases a with
  | none => exact pairF_none_left s none
  | some a =>
    unfold pairF anF orF
    split
    · rfl
    · split <;> rfl
theorem pairF_an {s : Bs} (a b : F) (h : (s == [42]) = true) : pairF s (some a) (some b) = some (.an a b) := by
  rw [pairF, if_pos (by simpa using h)]; rfl
theorem pairF_or {s : Bs} (a b : F) (h0 : (s == [42]) = false) (h : (s == [43]) = true) : pairF s (some a) (some b) = some (.or a b) := by
  rw [pairF, if_neg (by simpa using h0), if_pos (by simpa using h)]; rfl
theorem pairF_bad {s : Bs} (a b : Option F) (h0 : (s == [42]) = false) (h : (s == [43]) = false) : pairF s a b = none := by
  rw [pairF, if_neg (by simpa using h0), if_neg (by simpa using h)]

theorem toF_pair (x a b : T) : toF (.node [x, a, b]) = pairF (atomOf x) (toF a) (toF b) := by rw [toF, pairF]
theorem toF_not (x a : T) : toF (.node [x, a]) = if atomOf x = [45] then noF (toF a) else none := by rw [toF]
theorem toF_nil : toF (.node []) = none := by rw [toF] <;> simp
theorem toF_one (x : T) : toF (.node [x]) = none := by rw [toF] <;> simp
theorem toF_many (x y z u : T) (r : List T) : toF (.node (x :: y :: z :: u :: r)) = none := by rw [toF] <;> simp
theorem toF_atom (s : Bs) : toF (.atom s) = if isLet s = true then some (.lt s) else none := by rw [toF]

def isT (t : T) : Bool := (toF t).isSome
theorem isT_atom (s : Bs) : isT (.atom s) = isLet s := by
  unfold isT; rw [toF_atom]; cases isLet s <;> rfl
theorem isT_not {x a : T} (h : atomOf x = [45]) : isT (.node [x, a]) = isT a := by
  unfold isT; rw [toF_not, if_pos h]; cases toF a <;> rfl
theorem isT_not_bad {x a : T} (h : atomOf x ≠ [45]) : isT (.node [x, a]) = false := by
  unfold isT; rw [toF_not, if_neg h]; rfl
theorem isT_pair {x a b : T} (h : atomOf x = [42] ∨ atomOf x = [43]) : isT (.node [x, a, b]) = (isT a && isT b) := by
  unfold isT; rw [toF_pair]; unfold pairF
  rcases h with h | h
  · rw [if_pos h]; cases toF a <;> cases toF b <;> rfl
  · rw [if_neg (by rw [h]; decide), if_pos h]; cases toF a <;> cases toF b <;> rfl
theorem isT_pair_bad {x a b : T} (h : atomOf x ≠ [42]) (h' : atomOf x ≠ [43]) : isT (.node [x, a, b]) = false := by
  unfold isT; rw [toF_pair, pairF, if_neg h, if_neg h']; rfl
theorem isT_nil : isT (.node []) = false := by unfold isT; rw [toF_nil]; rfl
theorem isT_one (x : T) : isT (.node [x]) = false := by unfold isT; rw [toF_one]; rfl
theorem isT_many (x y z u : T) (r : List T) : isT (.node (x :: y :: z :: u :: r)) = false := by unfold isT; rw [toF_many]; rfl
def headOf : List T → Bs
  | [] => []
  | x :: _ => atomOf x
theorem isT_len {ps : List T} (h2 : ps.length ≠ 2) (h3 : ps.length ≠ 3) : isT (.node ps) = false := by
  match ps with
  | [] => exact isT_nil
  | [x] => exact isT_one x
  | [_, _] => simp at h2
  | [_, _, _] => simp at h3
  | x :: y :: z :: u :: r => exact isT_many x y z u r
theorem isT_bad {ps : List T} (h : (headOf ps = [42] ∨ headOf ps = [43]) → ps.length ≠ 3) (h' : headOf ps = [45] → ps.length ≠ 2) : isT (.node ps) = false := by
  match ps with
  | [] => exact isT_nil
  | [x] => exact isT_one x
  | [x, a] => exact isT_not_bad fun e => h' e rfl
  | [x, a, b] => exact isT_pair_bad (fun e => h (.inl e) rfl) (fun e => h (.inr e) rfl)
  | x :: y :: z :: u :: r => exact isT_many x y z u r
/-- All parts from the second one on, up to k, are formulas. -/
def partsIs (ps : List T) (k : Nat) : Prop := ∀ (j : Nat) (t : T), 1 ≤ j → j < k → ps[j]? = some t → isT t = true
theorem isT_good {ps : List T} (h : (headOf ps = [42] ∨ headOf ps = [43]) ∧ ps.length = 3 ∨ headOf ps = [45] ∧ ps.length = 2) (hp : partsIs ps ps.length) : isT (.node ps) = true := by
  match ps, h, hp with
  | [], h, _ => simp at h
  | [x], h, _ => simp at h
  | [x, a], h, hp =>
    have hx : atomOf x = [45] := by simpa [headOf] using h
    rw [isT_not hx]; exact hp 1 a (by omega) (by simp) rfl
  | [x, a, b], h, hp =>
    have hx : atomOf x = [42] ∨ atomOf x = [43] := by simpa [headOf] using h
    rw [isT_pair hx, hp 1 a (by omega) (by simp) rfl, hp 2 b (by omega) (by simp) rfl]; rfl
  | x :: y :: z :: u :: r, h, _ => simp at h
theorem isT_part_bad {ps : List T} {j : Nat} {t : T} (hj : 1 ≤ j) (ht : ps[j]? = some t) (hb : isT t = false) : isT (.node ps) = false := by
  match ps, ht with
  | [], ht => simp at ht
  | [x], ht => exact isT_one x
  | [x, a], ht =>
    have hj' : j = 1 := by
      have := (List.getElem?_eq_some_iff.1 ht).1; simp at this; omega
    subst hj'; simp at ht; subst ht
    by_cases hx : atomOf x = [45]
    · rw [isT_not hx, hb]
    · exact isT_not_bad hx
  | [x, a, b], ht =>
    have hj' : j = 1 ∨ j = 2 := by
      have := (List.getElem?_eq_some_iff.1 ht).1; simp at this; omega
    by_cases hx : atomOf x = [42] ∨ atomOf x = [43]
    · rw [isT_pair hx]
      rcases hj' with rfl | rfl
      · simp at ht; subst ht; rw [hb]; rfl
      · simp at ht; subst ht; rw [hb, Bool.and_false]
    · exact isT_pair_bad (fun e => hx (.inl e)) (fun e => hx (.inr e))
  | x :: y :: z :: u :: r, ht => exact isT_many x y z u r

theorem atomsAll_append (ps qs : List T) : atomsAll (ps ++ qs) = atomsAll ps + atomsAll qs := by
  induction ps with
  | nil => simp [atomsAll]
  | cons p ps ih => simp [atomsAll, ih]; omega

theorem atomsAll_take {ps : List T} {k : Nat} {t : T} (h : ps[k]? = some t) : atomsAll (ps.take (k + 1)) = atomsAll (ps.take k) + t.atoms := by
  rw [List.take_add_one, h, atomsAll_append]; simp [atomsAll]
theorem atomsAll_take_le (ps : List T) (k : Nat) : atomsAll (ps.take k) ≤ atomsAll ps := by
  conv => rhs; rw [← List.take_append_drop k ps, atomsAll_append]
  omega
theorem atoms_part {ps : List T} {k : Nat} {t : T} (h : ps[k]? = some t) : t.atoms ≤ (T.node ps).atoms := by
  have h1 := atomsAll_take h
  have h2 := atomsAll_take_le ps (k + 1)
  rw [T.atoms.eq_2]; omega

theorem F.sz_tree : ∀ f : F, f.tree.sz ≤ 3 * f.size
  | .lt s => by rw [F.tree, T.sz, F.size]; omega
  | .an a b => by have := a.sz_tree; have := b.sz_tree; simp [F.tree, T.sz, szAll, F.size]; omega
  | .or a b => by have := a.sz_tree; have := b.sz_tree; simp [F.tree, T.sz, szAll, F.size]; omega
  | .no a => by have := a.sz_tree; simp [F.tree, T.sz, szAll, F.size]; omega

/-- What is read has no more atoms than the text has bytes. -/
theorem szAll_append (ps qs : List T) : szAll (ps ++ qs) = szAll ps + szAll qs := by
  induction ps with
  | nil => simp [szAll]
  | cons p ps ih => simp [szAll, ih]; omega
mutual
theorem T.atoms_sz : ∀ t : T, t.atoms ≤ t.sz
  | .atom _ => by rw [T.atoms, T.sz]; omega
  | .node ps => by
    have := atomsAll_sz ps
    rw [T.atoms, T.sz]; omega
theorem atomsAll_sz : ∀ ps : List T, atomsAll ps ≤ szAll ps
  | [] => by rw [atomsAll, szAll]; omega
  | t :: ps => by
    have := T.atoms_sz t
    have := atomsAll_sz ps
    rw [atomsAll, szAll]; omega
end
theorem length_sz (ps : List T) : ps.length ≤ szAll ps := by
  induction ps with
  | nil => simp
  | cons p ps ih => have := p.sz_pos; rw [szAll]; simp; omega
theorem rdLoop_sz {r : Bs → Option (T × Bs)} (hr : ∀ s t q, r s = some (t, q) → t.sz + q.length ≤ s.length) : ∀ k s acc ps q, rdLoop r k s acc = some (ps, q) → szAll ps + q.length ≤ szAll acc + s.length := by
  intro k
  induction k with
  | zero => intro s acc ps q h; cases h
  | succ k ih =>
    intro s acc ps q h
    rw [rdLoop] at h
    split at h
    · cases h
    · cases h
    · rename_i p c q' hrs
      have h1 := hr _ _ _ hrs
      simp only [List.length_cons] at h1
      split at h
      · injection h with h
        injection h with h2 h3
        subst h2; subst h3
        rw [szAll_append]; simp [szAll]; omega
      · split at h
        · have h2 := ih _ _ _ _ h
          rw [szAll_append] at h2
          simp [szAll] at h2
          omega
        · cases h

theorem rdAtom_sz {s : Bs} {t : T} {q : Bs} (h : rdAtom s = some (t, q)) : t.sz + q.length ≤ s.length := by
  have h0 := h
  unfold rdAtom at h
  split at h
  · cases h
  · injection h with h
    injection h with h1 h2
    subst h1
    obtain ⟨p, hp, hs⟩ := rdAtom_shorter _ _ _ h0
    have : p.length ≠ 0 := by simpa using hp
    rw [hs, List.length_append, T.sz]; omega

theorem rd_sz : ∀ n s t q, rd n s = some (t, q) → t.sz + q.length ≤ s.length := by
  intro n
  induction n with
  | zero =>
    intro s t q h
    rw [rd] at h
    split at h
    · cases h
    · exact rdAtom_sz h
  | succ n ih =>
    intro s t q h
    rw [rd] at h
    split at h
    · rename_i hh
      obtain ⟨s', hs'⟩ := headIs_cons hh
      subst hs'
      unfold rdNode at h
      split at h
      · cases h
      · rename_i ps q' hl
        injection h with h
        injection h with h1 h2
        subst h1; subst h2
        have h2 := rdLoop_sz ih _ _ _ _ _ hl
        rw [T.sz]
        simp [szAll] at h2
        rw [List.length_cons]
        omega
    · exact rdAtom_sz h

theorem readT_sz {s : Bs} {t : T} (h : readT s = some t) : t.sz ≤ 6000 := by
  unfold readT at h
  split at h
  · cases h
  · split at h
    · rename_i t' hr
      injection h with h; subst h
      have := rd_sz _ _ _ _ hr
      simp at this
      omega
    · cases h

theorem rdLoop_atoms {r : Bs → Option (T × Bs)} (hr : ∀ s t q, r s = some (t, q) → t.atoms + q.length ≤ s.length) : ∀ k s acc ps q, rdLoop r k s acc = some (ps, q) → atomsAll ps + q.length ≤ atomsAll acc + s.length := by
  intro k
  induction k with
  | zero => intro s acc ps q h; cases h
  | succ k ih =>
    intro s acc ps q h
    rw [rdLoop] at h
    split at h
    · cases h
    · cases h
    · rename_i p c q' hrs
      have h1 := hr _ _ _ hrs
      simp only [List.length_cons] at h1
      split at h
      · injection h with h
        injection h with h2 h3
        subst h2; subst h3
        rw [atomsAll_append]; simp [atomsAll]; omega
      · split at h
        · have h2 := ih _ _ _ _ h
          rw [atomsAll_append] at h2
          simp [atomsAll] at h2
          omega
        · cases h

theorem rdAtom_atoms {s : Bs} {t : T} {q : Bs} (h : rdAtom s = some (t, q)) : t.atoms + q.length ≤ s.length := by
  have h0 := h
  unfold rdAtom at h
  split at h
  · cases h
  · injection h with h
    injection h with h1 h2
    subst h1
    obtain ⟨p, hp, hs⟩ := rdAtom_shorter _ _ _ h0
    have : p.length ≠ 0 := by simpa using hp
    rw [hs, List.length_append, T.atoms]; omega

theorem rd_atoms : ∀ n s t q, rd n s = some (t, q) → t.atoms + q.length ≤ s.length := by
  intro n
  induction n with
  | zero =>
    intro s t q h
    rw [rd] at h
    split at h
    · cases h
    · exact rdAtom_atoms h
  | succ n ih =>
    intro s t q h
    rw [rd] at h
    split at h
    · unfold rdNode at h
      split at h
      · cases h
      · rename_i ps q' hl
        injection h with h
        injection h with h1 h2
        subst h1; subst h2
        have h2 := rdLoop_atoms ih _ _ _ _ _ hl
        rw [T.atoms]
        simp [atomsAll] at h2
        omega
    · exact rdAtom_atoms h

theorem readT_atoms {s : Bs} {t : T} (h : readT s = some t) : t.atoms ≤ 6000 := by
  unfold readT at h
  split at h
  · cases h
  · split at h
    · rename_i t' hr
      injection h with h; subst h
      have := rd_atoms _ _ _ _ hr
      simp at this
      omega
    · cases h

/-- The formula that a text is. -/
def readF (s : Bs) : Option F := match readT s with
  | none => none
  | some t => match toF t with
    | none => none
    | some f => if f.size ≤ 60 then some f else none

end Go.Proofs.YtaagbnbekfogiaaGreatDoor

namespace Go.Proofs.YtaagbnbekfogiaaGreatDoor
set_option linter.unusedVariables false

def F.text : F → Bs
  | .lt s => s
  | .an a b => [40, 42, 32] ++ a.text ++ [32] ++ b.text ++ [41]
  | .or a b => [40, 43, 32] ++ a.text ++ [32] ++ b.text ++ [41]
  | .no a => [40, 45, 32] ++ a.text ++ [41]

mutual
def T.text : T → Bs
  | .atom s => s
  | .node ps => 40 :: textAll true ps ++ [41]
def textAll (first : Bool) : List T → Bs
  | [] => []
  | t :: ps => (if first then [] else [32]) ++ t.text ++ textAll false ps
end

theorem F.text_tree : ∀ f : F, f.tree.text = f.text
  | .lt s => by rw [F.tree, T.text, F.text]
  | .an a b => by simp [F.tree, T.text, textAll, F.text, a.text_tree, b.text_tree]
  | .or a b => by simp [F.tree, T.text, textAll, F.text, a.text_tree, b.text_tree]
  | .no a => by simp [F.tree, T.text, textAll, F.text, a.text_tree]

theorem isLet_length {s : Bs} (h : isLet s = true) : s.length ≤ 3 := by
  cases s with
  | nil => simp
  | cons c r => simp [isLet] at h; simp; omega

theorem F.text_length : ∀ {f : F}, f.ok = true → f.text.length ≤ 8 * f.size
  | .lt s, h => by have := isLet_length h; rw [F.text, F.size]; omega
  | .an a b, h => by
    rw [F.ok, Bool.and_eq_true] at h
    have := F.text_length h.1; have := F.text_length h.2
    simp [F.text, F.size]; omega
  | .or a b, h => by
    rw [F.ok, Bool.and_eq_true] at h
    have := F.text_length h.1; have := F.text_length h.2
    simp [F.text, F.size]; omega
  | .no a, h => by
    rw [F.ok] at h
    have := F.text_length h
    simp [F.text, F.size]; omega

theorem textAll_append (b : Bool) (ps : List T) (t : T) : textAll b (ps ++ [t]) = textAll b ps ++ ((if ps.isEmpty && b then [] else [32]) ++ t.text) := by
  induction ps generalizing b with
  | nil => simp [textAll]
  | cons p ps ih => simp [textAll, ih]
theorem textAll_take {ps : List T} {k : Nat} {t : T} (h : ps[k]? = some t) : textAll true (ps.take (k + 1)) = textAll true (ps.take k) ++ ((if k = 0 then [] else [32]) ++ t.text) := by
  rw [List.take_add_one, h, show (some t).toList = [t] from rfl, textAll_append]
  have hlt := (List.getElem?_eq_some_iff.1 h).1
  congr 2
  by_cases hk : k = 0
  · subst hk; simp
  · rw [if_neg hk, if_neg]
    simp
    exact ⟨hk, fun e => by rw [e] at hlt; simp at hlt⟩
theorem textAll_app_le (b : Bool) (xs ys : List T) : (textAll b xs).length ≤ (textAll b (xs ++ ys)).length := by
  induction xs generalizing b with
  | nil => simp [textAll]
  | cons x xs ih => have := ih false; simp [textAll]; omega
theorem textAll_take_le (ps : List T) (k : Nat) : (textAll true (ps.take k)).length ≤ (textAll true ps).length := by
  have h := textAll_app_le true (ps.take k) (ps.drop k)
  rw [List.take_append_drop] at h
  exact h

def F.dual : F → F
  | .lt s => .lt s
  | .an a b => .or a.dual b.dual
  | .or a b => .an a.dual b.dual
  | .no a => .no a.dual

theorem F.dual_ok : ∀ {f : F}, f.ok = true → f.dual.ok = true
  | .lt s, h => h
  | .an a b, h => by
    rw [F.ok, Bool.and_eq_true] at h
    rw [F.dual, F.ok, Bool.and_eq_true]; exact ⟨F.dual_ok h.1, F.dual_ok h.2⟩
  | .or a b, h => by
    rw [F.ok, Bool.and_eq_true] at h
    rw [F.dual, F.ok, Bool.and_eq_true]; exact ⟨F.dual_ok h.1, F.dual_ok h.2⟩
  | .no a, h => by rw [F.ok] at h; rw [F.dual, F.ok]; exact F.dual_ok h
theorem F.dual_size : ∀ f : F, f.dual.size = f.size
  | .lt s => rfl
  | .an a b => by rw [F.dual, F.size, F.size, a.dual_size, b.dual_size]
  | .or a b => by rw [F.dual, F.size, F.size, a.dual_size, b.dual_size]
  | .no a => by rw [F.dual, F.size, F.size, a.dual_size]

/-- Not is moved inwards; b: one not more stands ahead. -/
def F.push : Bool → F → F
  | false, .lt s => .lt s
  | true, .lt s => .no (.lt s)
  | false, .an a b => .an (a.push false) (b.push false)
  | true, .an a b => .or (a.push true) (b.push true)
  | false, .or a b => .or (a.push false) (b.push false)
  | true, .or a b => .an (a.push true) (b.push true)
  | c, .no a => a.push (!c)

theorem F.push_ok : ∀ (c : Bool) {f : F}, f.ok = true → (f.push c).ok = true
  | false, .lt s, h => h
  | true, .lt s, h => h
  | false, .an a b, h => by
    rw [F.ok, Bool.and_eq_true] at h
    rw [F.push, F.ok, Bool.and_eq_true]; exact ⟨F.push_ok _ h.1, F.push_ok _ h.2⟩
  | true, .an a b, h => by
    rw [F.ok, Bool.and_eq_true] at h
    rw [F.push, F.ok, Bool.and_eq_true]; exact ⟨F.push_ok _ h.1, F.push_ok _ h.2⟩
  | false, .or a b, h => by
    rw [F.ok, Bool.and_eq_true] at h
    rw [F.push, F.ok, Bool.and_eq_true]; exact ⟨F.push_ok _ h.1, F.push_ok _ h.2⟩
  | true, .or a b, h => by
    rw [F.ok, Bool.and_eq_true] at h
    rw [F.push, F.ok, Bool.and_eq_true]; exact ⟨F.push_ok _ h.1, F.push_ok _ h.2⟩
  | c, .no a, h => by rw [F.ok] at h; rw [F.push]; exact F.push_ok _ h
theorem F.push_size : ∀ (c : Bool) (f : F), (f.push c).size ≤ 2 * f.size
  | false, .lt s => by rw [F.push, F.size]; omega
  | true, .lt s => by simp [F.push, F.size]
  | false, .an a b => by have := a.push_size false; have := b.push_size false; rw [F.push, F.size, F.size]; omega
  | true, .an a b => by have := a.push_size true; have := b.push_size true; rw [F.push, F.size, F.size]; omega
  | false, .or a b => by have := a.push_size false; have := b.push_size false; rw [F.push, F.size, F.size]; omega
  | true, .or a b => by have := a.push_size true; have := b.push_size true; rw [F.push, F.size, F.size]; omega
  | c, .no a => by have := a.push_size (!c); rw [F.push, F.size]; omega

theorem ba_append (a b : Bs) : (⟨a.toArray⟩ ++ ⟨b.toArray⟩ : ByteArray) = ⟨(a ++ b).toArray⟩ := by
  apply ByteArray.ext
  rw [ByteArray.data_append]
  simp

end Go.Proofs.YtaagbnbekfogiaaGreatDoor

namespace Go.Proofs.YtaagbnbekfogiaaGreatDoor
set_option linter.unusedVariables false
open Go.RowKit

theorem readF_size {s : Bs} {f : F} (h : readF s = some f) : f.size ≤ 60 := by
  unfold readF at h
  split at h
  · cases h
  · split at h
    · cases h
    · split at h
      · rename_i h60
        injection h with h; subst h; exact h60
      · cases h

theorem readF_ok {s : Bs} {f : F} (h : readF s = some f) : f.ok = true := by
  unfold readF at h
  split at h
  · cases h
  · split at h
    · cases h
    · rename_i g hg
      split at h
      · injection h with h; subst h; exact (toF_tree hg).2
      · cases h

end Go.Proofs.YtaagbnbekfogiaaGreatDoor
