/- Formulas, as plain mathematics. -/
import Derived.Test.YtbglimlhffbddaaMath
namespace Go.Proofs.Ytbglimlhffbddaa

inductive F where
  | lt (s : Bs)
  | an (a b : F)
  | or (a b : F)
  | no (a : F)
  deriving Inhabited

def atomOf : T → Bs
  | .atom s => s
  | .node _ => []

def anF : Option F → Option F → Option F
  | some a, some b => some (.an a b)
  | _, _ => none
def orF : Option F → Option F → Option F
  | some a, some b => some (.or a b)
  | _, _ => none
def noF : Option F → Option F
  | some a => some (.no a)
  | none => none

/-- The formula that what is read is. -/
def toF : T → Option F
  | .atom s => if isLet s then some (.lt s) else none
  | .node [h, a] => if atomOf h = [45] then noF (toF a) else none
  | .node [h, a, b] => if atomOf h = [42] then anF (toF a) (toF b) else if atomOf h = [43] then orF (toF a) (toF b) else none
  | .node _ => none

/-- What is read of a formula's text. -/
def F.tree : F → T
  | .lt s => .atom s
  | .an a b => .node [.atom [42], a.tree, b.tree]
  | .or a b => .node [.atom [43], a.tree, b.tree]
  | .no a => .node [.atom [45], a.tree]

def F.ok : F → Bool
  | .lt s => isLet s
  | .an a b => a.ok && b.ok
  | .or a b => a.ok && b.ok
  | .no a => a.ok

def F.size : F → Nat
  | .lt _ => 1
  | .an a b => 1 + a.size + b.size
  | .or a b => 1 + a.size + b.size
  | .no a => 1 + a.size

mutual
def T.atoms : T → Nat
  | .atom _ => 1
  | .node ps => atomsAll ps
def atomsAll : List T → Nat
  | [] => 0
  | t :: ps => t.atoms + atomsAll ps
end

/-- Atoms are never empty in what is read. -/
def headOk (h : T) (s : Bs) : Prop := atomOf h = s

theorem atomOf_eq {h : T} {s : Bs} (hs : s ≠ []) (e : atomOf h = s) : h = .atom s := by
  cases h with
  | atom s' => rw [atomOf] at e; rw [e]
  | node ps => rw [atomOf] at e; exact absurd e.symm hs

theorem toF_tree : ∀ {t : T} {f : F}, toF t = some f → t = f.tree ∧ f.ok = true
  | .atom s, f, h => by
    rw [toF] at h
    split at h
    · rename_i hl
      injection h with h; subst h
      exact ⟨rfl, hl⟩
    · cases h
  | .node [], f, h => by rw [toF] at h; cases h; all_goals simp
  | .node [_], f, h => by rw [toF] at h; cases h; all_goals simp
  | .node [x, a], f, h => by
    rw [toF] at h
    split at h
    · rename_i hx
      cases ha : toF a with
      | none => rw [ha] at h; cases h
      | some g =>
        rw [ha] at h
        injection h with h; subst h
        obtain ⟨h1, h2⟩ := toF_tree ha
        exact ⟨by rw [F.tree, atomOf_eq (by simp) hx, ← h1], h2⟩
    · cases h
  | .node [x, a, b], f, h => by
    rw [toF] at h
    split at h
    · rename_i hx
      cases ha : toF a with
      | none => rw [ha] at h; cases h
      | some g =>
        cases hb : toF b with
        | none => rw [ha, hb] at h; cases h
        | some k =>
          rw [ha, hb] at h
          injection h with h; subst h
          obtain ⟨h1, h2⟩ := toF_tree ha
          obtain ⟨h3, h4⟩ := toF_tree hb
          exact ⟨by rw [F.tree, atomOf_eq (by simp) hx, ← h1, ← h3], by rw [F.ok, h2, h4]; rfl⟩
    · split at h
      · rename_i hx
        cases ha : toF a with
        | none => rw [ha] at h; cases h
        | some g =>
          cases hb : toF b with
          | none => rw [ha, hb] at h; cases h
          | some k =>
            rw [ha, hb] at h
            injection h with h; subst h
            obtain ⟨h1, h2⟩ := toF_tree ha
            obtain ⟨h3, h4⟩ := toF_tree hb
            exact ⟨by rw [F.tree, atomOf_eq (by simp) hx, ← h1, ← h3], by rw [F.ok, h2, h4]; rfl⟩
      · cases h
  | .node (_ :: _ :: _ :: _ :: _), f, h => by rw [toF] at h; cases h; all_goals simp

theorem F.atoms_tree : ∀ f : F, f.tree.atoms = f.size
  | .lt s => by rw [F.tree, T.atoms, F.size]
  | .an a b => by simp [F.tree, T.atoms, atomsAll, F.size, a.atoms_tree, b.atoms_tree]; omega
  | .or a b => by simp [F.tree, T.atoms, atomsAll, F.size, a.atoms_tree, b.atoms_tree]; omega
  | .no a => by simp [F.tree, T.atoms, atomsAll, F.size, a.atoms_tree]

mutual
/-- A number that a part has less of. -/
def T.sz : T → Nat
  | .atom _ => 1
  | .node ps => 1 + szAll ps
def szAll : List T → Nat
  | [] => 0
  | t :: ps => t.sz + szAll ps
end
theorem szAll_part : ∀ {ps : List T} {i : Nat} {t : T}, ps[i]? = some t → t.sz ≤ szAll ps
  | [], i, t, h => by simp at h
  | p :: ps, 0, t, h => by simp at h; subst h; rw [szAll]; omega
  | p :: ps, i + 1, t, h => by
    have := szAll_part (ps := ps) (i := i) (t := t) (by simpa using h)
    rw [szAll]; omega
theorem T.sz_part {ps : List T} {i : Nat} {t : T} (h : ps[i]? = some t) : t.sz < (T.node ps).sz := by
  have := szAll_part h
  rw [T.sz.eq_2]; omega

theorem T.sz_pos (t : T) : 1 ≤ t.sz := by cases t <;> simp [T.sz]

def pairF (s : Bs) (a b : Option F) : Option F := if s = [42] then anF a b else if s = [43] then orF a b else none
theorem pairF_none_left (s : Bs) (b : Option F) : pairF s none b = none := by
  unfold pairF anF orF
  split
  · rfl
  · split <;> rfl
theorem pairF_none_right (s : Bs) (a : Option F) : pairF s a none = none := by
  cases a with
  | none => exact pairF_none_left s none
  | some a =>
    unfold pairF anF orF
    split
    · rfl
    · split <;> rfl
theorem pairF_an {s : Bs} (a b : F) (h : (s == [42]) = true) : pairF s (some a) (some b) = some (.an a b) := by
  rw [pairF, if_pos (by simpa using h)]; rfl
theorem pairF_or {s : Bs} (a b : F) (h0 : (s == [42]) = false) (h : (s == [43]) = true) : pairF s (some a) (some b) = some (.or a b) := by
  rw [pairF, if_neg (by simpa using h0), if_pos (by simpa using h)]; rfl
theorem pairF_bad {s : Bs} (a b : Option F) (h0 : (s == [42]) = false) (h : (s == [43]) = false) : pairF s a b = none := by
  rw [pairF, if_neg (by simpa using h0), if_neg (by simpa using h)]

theorem toF_pair (x a b : T) : toF (.node [x, a, b]) = pairF (atomOf x) (toF a) (toF b) := by rw [toF, pairF]
theorem toF_not (x a : T) : toF (.node [x, a]) = if atomOf x = [45] then noF (toF a) else none := by rw [toF]
theorem toF_nil : toF (.node []) = none := by rw [toF] <;> simp
theorem toF_one (x : T) : toF (.node [x]) = none := by rw [toF] <;> simp
theorem toF_many (x y z u : T) (r : List T) : toF (.node (x :: y :: z :: u :: r)) = none := by rw [toF] <;> simp
theorem toF_atom (s : Bs) : toF (.atom s) = if isLet s = true then some (.lt s) else none := by rw [toF]

def isT (t : T) : Bool := (toF t).isSome
theorem isT_atom (s : Bs) : isT (.atom s) = isLet s := by
  unfold isT; rw [toF_atom]; cases isLet s <;> rfl
theorem isT_not {x a : T} (h : atomOf x = [45]) : isT (.node [x, a]) = isT a := by
  unfold isT; rw [toF_not, if_pos h]; cases toF a <;> rfl
theorem isT_not_bad {x a : T} (h : atomOf x ≠ [45]) : isT (.node [x, a]) = false := by
  unfold isT; rw [toF_not, if_neg h]; rfl
theorem isT_pair {x a b : T} (h : atomOf x = [42] ∨ atomOf x = [43]) : isT (.node [x, a, b]) = (isT a && isT b) := by
  unfold isT; rw [toF_pair]; unfold pairF
  rcases h with h | h
  · rw [if_pos h]; cases toF a <;> cases toF b <;> rfl
  · rw [if_neg (by rw [h]; decide), if_pos h]; cases toF a <;> cases toF b <;> rfl
theorem isT_pair_bad {x a b : T} (h : atomOf x ≠ [42]) (h' : atomOf x ≠ [43]) : isT (.node [x, a, b]) = false := by
  unfold isT; rw [toF_pair, pairF, if_neg h, if_neg h']; rfl
theorem isT_nil : isT (.node []) = false := by unfold isT; rw [toF_nil]; rfl
theorem isT_one (x : T) : isT (.node [x]) = false := by unfold isT; rw [toF_one]; rfl
theorem isT_many (x y z u : T) (r : List T) : isT (.node (x :: y :: z :: u :: r)) = false := by unfold isT; rw [toF_many]; rfl
def headOf : List T → Bs
  | [] => []
  | x :: _ => atomOf x
theorem isT_len {ps : List T} (h2 : ps.length ≠ 2) (h3 : ps.length ≠ 3) : isT (.node ps) = false := by
  match ps with
  | [] => exact isT_nil
  | [x] => exact isT_one x
  | [_, _] => simp at h2
  | [_, _, _] => simp at h3
  | x :: y :: z :: u :: r => exact isT_many x y z u r
theorem isT_bad {ps : List T} (h : (headOf ps = [42] ∨ headOf ps = [43]) → ps.length ≠ 3) (h' : headOf ps = [45] → ps.length ≠ 2) : isT (.node ps) = false := by
  match ps with
  | [] => exact isT_nil
  | [x] => exact isT_one x
  | [x, a] => exact isT_not_bad fun e => h' e rfl
  | [x, a, b] => exact isT_pair_bad (fun e => h (.inl e) rfl) (fun e => h (.inr e) rfl)
  | x :: y :: z :: u :: r => exact isT_many x y z u r
/-- All parts from the second one on, up to k, are formulas. -/
def partsIs (ps : List T) (k : Nat) : Prop := ∀ (j : Nat) (t : T), 1 ≤ j → j < k → ps[j]? = some t → isT t = true
theorem isT_good {ps : List T} (h : (headOf ps = [42] ∨ headOf ps = [43]) ∧ ps.length = 3 ∨ headOf ps = [45] ∧ ps.length = 2) (hp : partsIs ps ps.length) : isT (.node ps) = true := by
  match ps, h, hp with
  | [], h, _ => simp at h
  | [x], h, _ => simp at h
  | [x, a], h, hp =>
    have hx : atomOf x = [45] := by simpa [headOf] using h
    rw [isT_not hx]; exact hp 1 a (by omega) (by simp) rfl
  | [x, a, b], h, hp =>
    have hx : atomOf x = [42] ∨ atomOf x = [43] := by simpa [headOf] using h
    rw [isT_pair hx, hp 1 a (by omega) (by simp) rfl, hp 2 b (by omega) (by simp) rfl]; rfl
  | x :: y :: z :: u :: r, h, _ => simp at h
theorem isT_part_bad {ps : List T} {j : Nat} {t : T} (hj : 1 ≤ j) (ht : ps[j]? = some t) (hb : isT t = false) : isT (.node ps) = false := by
  match ps, ht with
  | [], ht => simp at ht
  | [x], ht => exact isT_one x
  | [x, a], ht =>
    have hj' : j = 1 := by
      have := (List.getElem?_eq_some_iff.1 ht).1; simp at this; omega
    subst hj'; simp at ht; subst ht
    by_cases hx : atomOf x = [45]
    · rw [isT_not hx, hb]
    · exact isT_not_bad hx
  | [x, a, b], ht =>
    have hj' : j = 1 ∨ j = 2 := by
      have := (List.getElem?_eq_some_iff.1 ht).1; simp at this; omega
    by_cases hx : atomOf x = [42] ∨ atomOf x = [43]
    · rw [isT_pair hx]
      rcases hj' with rfl | rfl
      · simp at ht; subst ht; rw [hb]; rfl
      · simp at ht; subst ht; rw [hb, Bool.and_false]
    · exact isT_pair_bad (fun e => hx (.inl e)) (fun e => hx (.inr e))
  | x :: y :: z :: u :: r, ht => exact isT_many x y z u r

theorem atomsAll_append (ps qs : List T) : atomsAll (ps ++ qs) = atomsAll ps + atomsAll qs := by
  induction ps with
  | nil => simp [atomsAll]
  | cons p ps ih => simp [atomsAll, ih]; omega

theorem atomsAll_take {ps : List T} {k : Nat} {t : T} (h : ps[k]? = some t) : atomsAll (ps.take (k + 1)) = atomsAll (ps.take k) + t.atoms := by
  rw [List.take_add_one, h, atomsAll_append]; simp [atomsAll]
theorem atomsAll_take_le (ps : List T) (k : Nat) : atomsAll (ps.take k) ≤ atomsAll ps := by
  conv => rhs; rw [← List.take_append_drop k ps, atomsAll_append]
  omega
theorem atoms_part {ps : List T} {k : Nat} {t : T} (h : ps[k]? = some t) : t.atoms ≤ (T.node ps).atoms := by
  have h1 := atomsAll_take h
  have h2 := atomsAll_take_le ps (k + 1)
  rw [T.atoms.eq_2]; omega

theorem F.sz_tree : ∀ f : F, f.tree.sz ≤ 3 * f.size
  | .lt s => by rw [F.tree, T.sz, F.size]; omega
  | .an a b => by have := a.sz_tree; have := b.sz_tree; simp [F.tree, T.sz, szAll, F.size]; omega
  | .or a b => by have := a.sz_tree; have := b.sz_tree; simp [F.tree, T.sz, szAll, F.size]; omega
  | .no a => by have := a.sz_tree; simp [F.tree, T.sz, szAll, F.size]; omega

/-- What is read has no more atoms than the text has bytes. -/
theorem szAll_append (ps qs : List T) : szAll (ps ++ qs) = szAll ps + szAll qs := by
  induction ps with
  | nil => simp [szAll]
  | cons p ps ih => simp [szAll, ih]; omega
mutual
theorem T.atoms_sz : ∀ t : T, t.atoms ≤ t.sz
  | .atom _ => by rw [T.atoms, T.sz]; omega
  | .node ps => by
    have := atomsAll_sz ps
    rw [T.atoms, T.sz]; omega
theorem atomsAll_sz : ∀ ps : List T, atomsAll ps ≤ szAll ps
  | [] => by rw [atomsAll, szAll]; omega
  | t :: ps => by
    have := T.atoms_sz t
    have := atomsAll_sz ps
    rw [atomsAll, szAll]; omega
end
theorem length_sz (ps : List T) : ps.length ≤ szAll ps := by
  induction ps with
  | nil => simp
  | cons p ps ih => have := p.sz_pos; rw [szAll]; simp; omega
theorem rdLoop_sz {r : Bs → Option (T × Bs)} (hr : ∀ s t q, r s = some (t, q) → t.sz + q.length ≤ s.length) : ∀ k s acc ps q, rdLoop r k s acc = some (ps, q) → szAll ps + q.length ≤ szAll acc + s.length := by
  intro k
  induction k with
  | zero => intro s acc ps q h; cases h
  | succ k ih =>
    intro s acc ps q h
    rw [rdLoop] at h
    split at h
    · cases h
    · cases h
    · rename_i p c q' hrs
      have h1 := hr _ _ _ hrs
      simp only [List.length_cons] at h1
      split at h
      · injection h with h
        injection h with h2 h3
        subst h2; subst h3
        rw [szAll_append]; simp [szAll]; omega
      · split at h
        · have h2 := ih _ _ _ _ h
          rw [szAll_append] at h2
          simp [szAll] at h2
          omega
        · cases h

theorem rdAtom_sz {s : Bs} {t : T} {q : Bs} (h : rdAtom s = some (t, q)) : t.sz + q.length ≤ s.length := by
  have h0 := h
  unfold rdAtom at h
  split at h
  · cases h
  · injection h with h
    injection h with h1 h2
    subst h1
    obtain ⟨p, hp, hs⟩ := rdAtom_shorter _ _ _ h0
    have : p.length ≠ 0 := by simpa using hp
    rw [hs, List.length_append, T.sz]; omega

theorem rd_sz : ∀ n s t q, rd n s = some (t, q) → t.sz + q.length ≤ s.length := by
  intro n
  induction n with
  | zero =>
    intro s t q h
    rw [rd] at h
    split at h
    · cases h
    · exact rdAtom_sz h
  | succ n ih =>
    intro s t q h
    rw [rd] at h
    split at h
    · rename_i hh
      obtain ⟨s', hs'⟩ := headIs_cons hh
      subst hs'
      unfold rdNode at h
      split at h
      · cases h
      · rename_i ps q' hl
        injection h with h
        injection h with h1 h2
        subst h1; subst h2
        have h2 := rdLoop_sz ih _ _ _ _ _ hl
        rw [T.sz]
        simp [szAll] at h2
        rw [List.length_cons]
        omega
    · exact rdAtom_sz h

theorem readT_sz {s : Bs} {t : T} (h : readT s = some t) : t.sz ≤ 6000 := by
  unfold readT at h
  split at h
  · cases h
  · split at h
    · rename_i t' hr
      injection h with h; subst h
      have := rd_sz _ _ _ _ hr
      simp at this
      omega
    · cases h

theorem rdLoop_atoms {r : Bs → Option (T × Bs)} (hr : ∀ s t q, r s = some (t, q) → t.atoms + q.length ≤ s.length) : ∀ k s acc ps q, rdLoop r k s acc = some (ps, q) → atomsAll ps + q.length ≤ atomsAll acc + s.length := by
  intro k
  induction k with
  | zero => intro s acc ps q h; cases h
  | succ k ih =>
    intro s acc ps q h
    rw [rdLoop] at h
    split at h
    · cases h
    · cases h
    · rename_i p c q' hrs
      have h1 := hr _ _ _ hrs
      simp only [List.length_cons] at h1
      split at h
      · injection h with h
        injection h with h2 h3
        subst h2; subst h3
        rw [atomsAll_append]; simp [atomsAll]; omega
      · split at h
        · have h2 := ih _ _ _ _ h
          rw [atomsAll_append] at h2
          simp [atomsAll] at h2
          omega
        · cases h

theorem rdAtom_atoms {s : Bs} {t : T} {q : Bs} (h : rdAtom s = some (t, q)) : t.atoms + q.length ≤ s.length := by
  have h0 := h
  unfold rdAtom at h
  split at h
  · cases h
  · injection h with h
    injection h with h1 h2
    subst h1
    obtain ⟨p, hp, hs⟩ := rdAtom_shorter _ _ _ h0
    have : p.length ≠ 0 := by simpa using hp
    rw [hs, List.length_append, T.atoms]; omega

theorem rd_atoms : ∀ n s t q, rd n s = some (t, q) → t.atoms + q.length ≤ s.length := by
  intro n
  induction n with
  | zero =>
    intro s t q h
    rw [rd] at h
    split at h
    · cases h
    · exact rdAtom_atoms h
  | succ n ih =>
    intro s t q h
    rw [rd] at h
    split at h
    · unfold rdNode at h
      split at h
      · cases h
      · rename_i ps q' hl
        injection h with h
        injection h with h1 h2
        subst h1; subst h2
        have h2 := rdLoop_atoms ih _ _ _ _ _ hl
        rw [T.atoms]
        simp [atomsAll] at h2
        omega
    · exact rdAtom_atoms h

theorem readT_atoms {s : Bs} {t : T} (h : readT s = some t) : t.atoms ≤ 6000 := by
  unfold readT at h
  split at h
  · cases h
  · split at h
    · rename_i t' hr
      injection h with h; subst h
      have := rd_atoms _ _ _ _ hr
      simp at this
      omega
    · cases h

/-- The formula that a text is. -/
def readF (s : Bs) : Option F := match readT s with
  | none => none
  | some t => match toF t with
    | none => none
    | some f => if f.size ≤ 60 then some f else none

end Go.Proofs.Ytbglimlhffbddaa
