/- Source terms, as plain mathematics. -/
import Derived.Test.YtchkmdagbjbcjaaGreatDoorMathR
namespace Go.Proofs.YtchkmdagbjbcjaaGreatDoor
set_option linter.unusedVariables false

def lamB : Bs := [108, 97, 109]
def catchB : Bs := [99, 97, 116, 99, 104]
def throwB : Bs := [116, 104, 114, 111, 119]
def appB : Bs := [97, 112, 112]
def bothB : Bs := [98, 111, 116, 104]
def leftB : Bs := [108, 101, 102, 116]
def rightB : Bs := [114, 105, 103, 104, 116]

/-- A source term: a variable; a word with a name; a word with one part; a word with two. -/
inductive Src where
  | v (s : Bs)
  | nb (h s : Bs) (m : Src)
  | n1 (h : Bs) (m : Src)
  | n2 (h : Bs) (m n : Src)
  deriving Inhabited

def h1B (h : Bs) : Bool := h == leftB || h == rightB
def h2B (h : Bs) : Bool := h == appB || h == bothB
def isNb (h : Bs) : Bool := h == lamB || h == catchB || h == throwB
/-- Whether the name may stand behind the word. -/
def hnB (h s : Bs) : Bool := if h = lamB then isVar s else isCov s

def mkS2 (h : Bs) : Option Src → Option Src → Option Src
  | some m, some n => some (.n2 h m n)
  | _, _ => none
def mkSb (h s : Bs) : Option Src → Option Src
  | some m => if hnB h s = true then some (.nb h s m) else none
  | none => none
def mkS1 (h : Bs) : Option Src → Option Src
  | some m => some (.n1 h m)
  | none => none

/-- The source term that what is read is, of any size. -/
def toSrc : T → Option Src
  | .atom s => if isVar s then some (.v s) else none
  | .node [h, a] => if h1B (atomOf h) then mkS1 (atomOf h) (toSrc a) else none
  | .node [h, a, b] => if isNb (atomOf h) then mkSb (atomOf h) (atomOf a) (toSrc b) else if h2B (atomOf h) then mkS2 (atomOf h) (toSrc a) (toSrc b) else none
  | .node _ => none

theorem toSrc_atom (s : Bs) : toSrc (.atom s) = if isVar s = true then some (.v s) else none := by rw [toSrc]
theorem toSrc_nil : toSrc (.node []) = none := by rw [toSrc] <;> simp
theorem toSrc_one (x : T) : toSrc (.node [x]) = none := by rw [toSrc] <;> simp
theorem toSrc_two (x a : T) : toSrc (.node [x, a]) = if h1B (atomOf x) = true then mkS1 (atomOf x) (toSrc a) else none := by rw [toSrc]
theorem toSrc_three (x a b : T) : toSrc (.node [x, a, b]) = if isNb (atomOf x) = true then mkSb (atomOf x) (atomOf a) (toSrc b) else if h2B (atomOf x) = true then mkS2 (atomOf x) (toSrc a) (toSrc b) else none := by rw [toSrc]
theorem toSrc_many (x y z u : T) (r : List T) : toSrc (.node (x :: y :: z :: u :: r)) = none := by rw [toSrc] <;> simp

def Src.size : Src → Nat
  | .v _ => 1
  | .nb _ _ m => 2 + m.size
  | .n1 _ m => 1 + m.size
  | .n2 _ m n => 1 + m.size + n.size
def Src.tree : Src → T
  | .v s => .atom s
  | .nb h s m => .node [.atom h, .atom s, m.tree]
  | .n1 h m => .node [.atom h, m.tree]
  | .n2 h m n => .node [.atom h, m.tree, n.tree]
def Src.ok : Src → Bool
  | .v s => isVar s
  | .nb h s m => isNb h && hnB h s && m.ok
  | .n1 h m => h1B h && m.ok
  | .n2 h m n => h2B h && m.ok && n.ok
def Src.plain : Src → Bool
  | .v _ => true
  | .nb h _ m => h == lamB && m.plain
  | .n1 _ m => m.plain
  | .n2 _ m n => m.plain && n.plain

theorem Src.size_pos (m : Src) : 1 ≤ m.size := by cases m <;> simp [Src.size] <;> omega
theorem isNb_ne {h : Bs} (e : isNb h = true) : h ≠ [] := by intro e'; subst e'; simp [isNb, lamB, catchB, throwB] at e
theorem h1B_ne {h : Bs} (e : h1B h = true) : h ≠ [] := by intro e'; subst e'; simp [h1B, leftB, rightB] at e
theorem h2B_ne {h : Bs} (e : h2B h = true) : h ≠ [] := by intro e'; subst e'; simp [h2B, appB, bothB] at e
theorem h2B_nb {h : Bs} (e : h2B h = true) : isNb h = false := by
  simp only [h2B, Bool.or_eq_true, beq_iff_eq] at e
  rcases e with rfl | rfl <;> decide
theorem atom_of {x : T} {h : Bs} (e : atomOf x = h) (hne : h ≠ []) : x = .atom h := by
  cases x with
  | atom s => rw [← e]; rfl
  | node ps => exact absurd e.symm hne
theorem nameB_ne {p : UInt8 → Bool} {s : Bs} (h : nameB p s = true) : s ≠ [] := by intro e; subst e; cases h
theorem hnB_ne {h s : Bs} (e : hnB h s = true) : s ≠ [] := by
  unfold hnB at e
  split at e
  · exact nameB_ne e
  · exact nameB_ne e
theorem hnB_name {h s : Bs} (e : hnB h s = true) : isName s = true := by
  unfold hnB at e
  unfold isName
  split at e
  · rw [e]; rfl
  · rw [e]; simp

theorem toSrc_tree : ∀ {t : T} {m : Src}, toSrc t = some m → t = m.tree ∧ m.ok = true
  | .atom s, m, h => by
    rw [toSrc_atom] at h
    split at h
    · rename_i hs; injection h with h; subst h; exact ⟨rfl, hs⟩
    · cases h
  | .node [], m, h => by rw [toSrc_nil] at h; cases h
  | .node [x], m, h => by rw [toSrc_one] at h; cases h
  | .node [x, a], m, h => by
    rw [toSrc_two] at h
    split at h
    · rename_i hs
      cases ha : toSrc a with
      | none => rw [ha] at h; cases h
      | some n =>
        obtain ⟨e1, e2⟩ := toSrc_tree ha
        rw [ha] at h; injection h with h; subst h
        refine ⟨?_, by rw [Src.ok, hs, e2]; rfl⟩
        rw [Src.tree, ← e1, ← atom_of rfl (h1B_ne hs)]
    · cases h
  | .node [x, a, b], m, h => by
    rw [toSrc_three] at h
    split at h
    · rename_i hs
      cases hb : toSrc b with
      | none => rw [hb] at h; cases h
      | some n =>
        obtain ⟨e1, e2⟩ := toSrc_tree hb
        rw [hb] at h
        simp only [mkSb] at h
        split at h
        · rename_i hn
          injection h with h; subst h
          refine ⟨?_, by rw [Src.ok, hs, e2, hn]; rfl⟩
          rw [Src.tree, ← e1, ← atom_of rfl (isNb_ne hs), ← atom_of rfl (hnB_ne hn)]
        · cases h
    · split at h
      · rename_i hs
        cases ha : toSrc a with
        | none => rw [ha] at h; cases h
        | some n =>
          cases hb : toSrc b with
          | none => rw [ha, hb] at h; cases h
          | some n' =>
            obtain ⟨e1, e2⟩ := toSrc_tree ha
            obtain ⟨e3, e4⟩ := toSrc_tree hb
            rw [ha, hb] at h; injection h with h; subst h
            refine ⟨?_, by rw [Src.ok, hs, e2, e4]; rfl⟩
            rw [Src.tree, ← e1, ← e3, ← atom_of rfl (h2B_ne hs)]
      · cases h
  | .node (x :: y :: z :: u :: r), m, h => by rw [toSrc_many] at h; cases h
termination_by t => t.sz
decreasing_by
  all_goals first
    | (have := T.sz_part (ps := [x, a]) (i := 1) (t := a) rfl; omega)
    | (have := T.sz_part (ps := [x, a, b]) (i := 1) (t := a) rfl; omega)
    | (have := T.sz_part (ps := [x, a, b]) (i := 2) (t := b) rfl; omega)

theorem tree_toSrc : ∀ {m : Src}, m.ok = true → toSrc m.tree = some m
  | .v s, h => by rw [Src.ok] at h; rw [Src.tree, toSrc_atom, if_pos h]
  | .nb x s m, h => by
    rw [Src.ok, Bool.and_eq_true, Bool.and_eq_true] at h
    rw [Src.tree, toSrc_three, tree_toSrc h.2]
    simp [atomOf, mkSb, h.1.1, h.1.2]
  | .n1 x m, h => by
    rw [Src.ok, Bool.and_eq_true] at h
    rw [Src.tree, toSrc_two, tree_toSrc h.2]
    simp [atomOf, mkS1, h.1]
  | .n2 x m n, h => by
    rw [Src.ok, Bool.and_eq_true, Bool.and_eq_true] at h
    rw [Src.tree, toSrc_three, tree_toSrc h.1.2, tree_toSrc h.2]
    simp [atomOf, mkS2, h.1.1, h2B_nb h.1.1]

theorem Src.atoms_tree : ∀ m : Src, m.tree.atoms = m.size
  | .v s => by rw [Src.tree, T.atoms, Src.size]
  | .nb h s m => by simp [Src.tree, T.atoms, atomsAll, Src.size, m.atoms_tree]; omega
  | .n1 h m => by simp [Src.tree, T.atoms, atomsAll, Src.size, m.atoms_tree]
  | .n2 h m n => by simp [Src.tree, T.atoms, atomsAll, Src.size, m.atoms_tree, n.atoms_tree]; omega

/-- The source term that a text is. -/
def readSrc (s : Bs) : Option Src := match readT s with
  | none => none
  | some t => match toSrc t with
    | none => none
    | some m => if m.size ≤ 80 then some m else none
theorem readSrc_none {s : Bs} (h : readT s = none) : readSrc s = none := by unfold readSrc; rw [h]
theorem readSrc_bad {s : Bs} {t : T} (h : readT s = some t) (h' : toSrc t = none) : readSrc s = none := by unfold readSrc; rw [h]; simp only; rw [h']
theorem readSrc_big {s : Bs} {t : T} {m : Src} (h : readT s = some t) (h' : toSrc t = some m) (h5 : ¬ m.size ≤ 80) : readSrc s = none := by unfold readSrc; rw [h]; simp only; rw [h']; simp only; rw [if_neg h5]
theorem readSrc_some {s : Bs} {t : T} {m : Src} (h : readT s = some t) (h' : toSrc t = some m) (h5 : m.size ≤ 80) : readSrc s = some m := by unfold readSrc; rw [h]; simp only; rw [h']; simp only; rw [if_pos h5]
theorem readSrc_ok {s : Bs} {m : Src} (h : readSrc s = some m) : m.ok = true ∧ m.size ≤ 80 ∧ readT s = some m.tree := by
  unfold readSrc at h
  cases ht : readT s with
  | none => rw [ht] at h; cases h
  | some t =>
    rw [ht] at h
    simp only at h
    cases hp : toSrc t with
    | none => rw [hp] at h; cases h
    | some n =>
      rw [hp] at h
      simp only at h
      split at h
      · rename_i h5
        injection h with h; subst h
        obtain ⟨e1, e2⟩ := toSrc_tree hp
        exact ⟨e2, h5, by rw [e1]⟩
      · cases h

end Go.Proofs.YtchkmdagbjbcjaaGreatDoor
