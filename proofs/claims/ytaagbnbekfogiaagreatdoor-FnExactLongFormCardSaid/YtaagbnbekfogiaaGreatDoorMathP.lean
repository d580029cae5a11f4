/- Programs (terms, coterms, statements), as plain mathematics. -/
import Derived.Test.YtaagbnbekfogiaaGreatDoorReadF
namespace Go.Proofs.YtaagbnbekfogiaaGreatDoor
set_option linter.unusedVariables false

inductive K where
  | t
  | c
  | s
  deriving DecidableEq, Inhabited

/-- A name, a form of one part, a form of two parts, a binder. -/
inductive P where
  | nm (s : Bs)
  | f1 (h : Bs) (p : P)
  | f2 (h : Bs) (p q : P)
  | bd (s : Bs) (b : P)
  deriving Inhabited

def varB (c : UInt8) : Bool := c == 120 || c == 121 || c == 122
def covB (c : UInt8) : Bool := c == 107 || c == 108 || c == 109
def nameB (p : UInt8 → Bool) : Bs → Bool
  | [] => false
  | c :: r => p c && decide (r.length ≤ 3) && r.all digB
def isVar (s : Bs) : Bool := nameB varB s
def isCov (s : Bs) : Bool := nameB covB s
def isName (s : Bs) : Bool := isVar s || isCov s

/-- What a head makes, the head of its dual, and the kinds of its parts. -/
def hd1 (h : Bs) : Option (K × K) :=
  if h = [105, 110, 108] then some (.t, .t) else if h = [105, 110, 114] then some (.t, .t) else if h = [110, 111, 116] then some (.t, .c)
  else if h = [102, 115, 116] then some (.c, .c) else if h = [115, 110, 100] then some (.c, .c) else if h = [110, 101, 103] then some (.c, .t) else none
def hd2 (h : Bs) : Option (K × K × K) :=
  if h = [112, 97, 105, 114] then some (.t, .t, .t) else if h = [99, 97, 115, 101] then some (.c, .c, .c) else if h = [99, 117, 116] then some (.s, .t, .c) else none

def firstIs (p : UInt8 → Bool) : Bs → Bool
  | [] => false
  | c :: _ => p c
def muB : Bs := [109, 117]
def tmuB : Bs := [116, 109, 117]
/-- The head of a binder. -/
def bhead (s : Bs) : Bs := if firstIs varB s then tmuB else muB

def P.kind : P → K
  | .nm s => if firstIs varB s then .t else .c
  | .f1 h _ => match hd1 h with
    | some (k, _) => k
    | none => .s
  | .f2 h _ _ => match hd2 h with
    | some (k, _) => k
    | none => .s
  | .bd s _ => if firstIs varB s then .c else .t

def P.size : P → Nat
  | .nm _ => 1
  | .f1 _ p => 1 + p.size
  | .f2 _ p q => 1 + p.size + q.size
  | .bd _ b => 2 + b.size

def P.tree : P → T
  | .nm s => .atom s
  | .f1 h p => .node [.atom h, p.tree]
  | .f2 h p q => .node [.atom h, p.tree, q.tree]
  | .bd s b => .node [.atom (bhead s), .atom s, b.tree]

def P.ok : P → Bool
  | .nm s => isName s
  | .f1 h p => p.ok && decide (hd1 h = some ((P.f1 h p).kind, p.kind))
  | .f2 h p q => p.ok && q.ok && decide (hd2 h = some ((P.f2 h p q).kind, p.kind, q.kind))
  | .bd s b => isName s && b.ok && decide (b.kind = .s)

def mk1 (h : Bs) : Option P → Option P
  | some p => match hd1 h with
    | some (_, k) => if p.kind = k then some (.f1 h p) else none
    | none => none
  | none => none
def mk2 (h : Bs) : Option P → Option P → Option P
  | some p, some q => match hd2 h with
    | some (_, k, l) => if p.kind = k ∧ q.kind = l then some (.f2 h p q) else none
    | none => none
  | _, _ => none
/-- A binder; of the bound name the atom is given. -/
def mkb (h s : Bs) : Option P → Option P
  | some b => if isName s = true ∧ b.kind = .s ∧ bhead s = h then some (.bd s b) else none
  | none => none
def isMu (h : Bs) : Bool := h == muB || h == tmuB

/-- The program that what is read is, of any size. -/
def toP : T → Option P
  | .atom s => if isName s then some (.nm s) else none
  | .node [h, a] => if isMu (atomOf h) then none else mk1 (atomOf h) (toP a)
  | .node [h, a, b] => if isMu (atomOf h) then mkb (atomOf h) (atomOf a) (toP b) else mk2 (atomOf h) (toP a) (toP b)
  | .node _ => none

theorem toP_atom (s : Bs) : toP (.atom s) = if isName s = true then some (.nm s) else none := by rw [toP]
theorem toP_nil : toP (.node []) = none := by rw [toP] <;> simp
theorem toP_one (x : T) : toP (.node [x]) = none := by rw [toP] <;> simp
theorem toP_two (x a : T) : toP (.node [x, a]) = if isMu (atomOf x) = true then none else mk1 (atomOf x) (toP a) := by rw [toP]
theorem toP_three (x a b : T) : toP (.node [x, a, b]) = if isMu (atomOf x) = true then mkb (atomOf x) (atomOf a) (toP b) else mk2 (atomOf x) (toP a) (toP b) := by rw [toP]
theorem toP_many (x y z u : T) (r : List T) : toP (.node (x :: y :: z :: u :: r)) = none := by rw [toP] <;> simp

theorem hd1_ne {h : Bs} {r} (e : hd1 h = some r) : h ≠ [] ∧ isMu h = false := by
  unfold hd1 at e
  repeat' split at e
  all_goals first | (rename_i hh; subst hh; exact ⟨by decide, by decide⟩) | cases e
theorem hd2_ne {h : Bs} {r} (e : hd2 h = some r) : h ≠ [] ∧ isMu h = false := by
  unfold hd2 at e
  repeat' split at e
  all_goals first | (rename_i hh; subst hh; exact ⟨by decide, by decide⟩) | cases e

theorem mk1_some {h : Bs} {o : Option P} {r : P} (e : mk1 h o = some r) : ∃ p, o = some p ∧ r = .f1 h p ∧ hd1 h = some ((P.f1 h p).kind, p.kind) := by
  cases o with
  | none => simp [mk1] at e
  | some p =>
    cases hh : hd1 h with
    | none => simp [mk1, hh] at e
    | some kk =>
      obtain ⟨k1, k⟩ := kk
      simp [mk1, hh] at e
      refine ⟨p, rfl, e.2.symm, ?_⟩
      rw [P.kind, hh, e.1]
theorem mk2_some {h : Bs} {o o' : Option P} {r : P} (e : mk2 h o o' = some r) : ∃ p q, o = some p ∧ o' = some q ∧ r = .f2 h p q ∧ hd2 h = some ((P.f2 h p q).kind, p.kind, q.kind) := by
  cases o with
  | none => cases o' <;> simp [mk2] at e
  | some p =>
    cases o' with
    | none => simp [mk2] at e
    | some q =>
      cases hh : hd2 h with
      | none => simp [mk2, hh] at e
      | some kk =>
        obtain ⟨k1, k, l⟩ := kk
        simp [mk2, hh] at e
        refine ⟨p, q, rfl, rfl, e.2.symm, ?_⟩
        rw [P.kind, hh, e.1.1, e.1.2]
theorem mkb_some {h s : Bs} {o : Option P} {r : P} (e : mkb h s o = some r) : ∃ b, o = some b ∧ r = .bd s b ∧ isName s = true ∧ b.kind = .s ∧ bhead s = h := by
  cases o with
  | none => simp [mkb] at e
  | some b =>
    simp [mkb] at e
    exact ⟨b, rfl, e.2.symm, e.1⟩

theorem isName_ne {s : Bs} (h : isName s = true) : s ≠ [] := by
  intro e; subst e; cases h
theorem atomOf_name {a : T} (h : isName (atomOf a) = true) : a = .atom (atomOf a) := by
  cases a with
  | atom s => rfl
  | node ps => exact absurd rfl (isName_ne h)
theorem bhead_ne (s : Bs) : bhead s ≠ [] := by unfold bhead; split <;> decide
theorem bhead_mu (s : Bs) : isMu (bhead s) = true := by unfold bhead; split <;> decide

theorem toP_tree : ∀ {t : T} {p : P}, toP t = some p → t = p.tree ∧ p.ok = true
  | .atom s, p, h => by
    rw [toP_atom] at h
    split at h
    · rename_i hl
      injection h with h; subst h
      exact ⟨rfl, hl⟩
    · cases h
  | .node [], p, h => by rw [toP_nil] at h; cases h
  | .node [x], p, h => by rw [toP_one] at h; cases h
  | .node [x, a], r, h => by
    rw [toP_two] at h
    split at h
    · cases h
    · obtain ⟨p, hp, rfl, hk⟩ := mk1_some h
      obtain ⟨h1, h2⟩ := toP_tree hp
      refine ⟨by rw [P.tree, ← h1, ← atomOf_eq (hd1_ne hk).1 rfl], by rw [P.ok, h2, hk]; simp⟩
  | .node [x, a, b], r, h => by
    rw [toP_three] at h
    split at h
    · obtain ⟨q, hq, rfl, hn, hk, hb⟩ := mkb_some h
      obtain ⟨h1, h2⟩ := toP_tree hq
      refine ⟨?_, by rw [P.ok, hn, h2, hk]; rfl⟩
      rw [P.tree, ← h1, ← atomOf_name hn, hb, ← atomOf_eq (by rw [← hb]; exact bhead_ne _) rfl]
    · obtain ⟨p, q, hp, hq, rfl, hk⟩ := mk2_some h
      obtain ⟨h1, h2⟩ := toP_tree hp
      obtain ⟨h3, h4⟩ := toP_tree hq
      refine ⟨by rw [P.tree, ← h1, ← h3, ← atomOf_eq (hd2_ne hk).1 rfl], by rw [P.ok, h2, h4, hk]; simp⟩
  | .node (x :: y :: z :: u :: r), p, h => by rw [toP_many] at h; cases h

theorem tree_toP : ∀ {p : P}, p.ok = true → toP p.tree = some p
  | .nm s, h => by rw [P.ok] at h; rw [P.tree, toP_atom, if_pos h]
  | .f1 x p, h => by
    rw [P.ok, Bool.and_eq_true, decide_eq_true_iff] at h
    rw [P.tree, toP_two, show atomOf (.atom x) = x from rfl, (hd1_ne h.2).2, if_neg (by decide), tree_toP h.1, mk1, h.2]
    simp
  | .f2 x p q, h => by
    rw [P.ok, Bool.and_eq_true, Bool.and_eq_true, decide_eq_true_iff] at h
    rw [P.tree, toP_three, show atomOf (.atom x) = x from rfl, (hd2_ne h.2).2, if_neg (by decide), tree_toP h.1.1, tree_toP h.1.2, mk2, h.2]
    simp
  | .bd s b, h => by
    rw [P.ok, Bool.and_eq_true, Bool.and_eq_true, decide_eq_true_iff] at h
    rw [P.tree, toP_three, show atomOf (.atom (bhead s)) = bhead s from rfl, bhead_mu, if_pos rfl, tree_toP h.1.2, mkb, if_pos ⟨h.1.1, h.2, rfl⟩]
    rfl

theorem P.atoms_tree : ∀ p : P, p.tree.atoms = p.size
  | .nm s => by rw [P.tree, T.atoms, P.size]
  | .f1 h p => by simp [P.tree, T.atoms, atomsAll, P.size, p.atoms_tree]
  | .f2 h p q => by simp [P.tree, T.atoms, atomsAll, P.size, p.atoms_tree, q.atoms_tree]; omega
  | .bd s b => by simp [P.tree, T.atoms, atomsAll, P.size, b.atoms_tree]; omega

theorem P.sz_tree : ∀ p : P, p.tree.sz ≤ 3 * p.size
  | .nm s => by rw [P.tree, T.sz, P.size]; omega
  | .f1 h p => by have := p.sz_tree; simp [P.tree, T.sz, szAll, P.size]; omega
  | .f2 h p q => by have := p.sz_tree; have := q.sz_tree; simp [P.tree, T.sz, szAll, P.size]; omega
  | .bd s b => by have := b.sz_tree; simp [P.tree, T.sz, szAll, P.size]; omega

theorem P.size_pos (p : P) : 1 ≤ p.size := by cases p <;> simp [P.size] <;> omega

/-- The program that a text is. -/
def readP (s : Bs) : Option P := match readT s with
  | none => none
  | some t => match toP t with
    | none => none
    | some p => if p.size ≤ 500 then some p else none

theorem readP_ok {s : Bs} {p : P} (h : readP s = some p) : p.ok = true ∧ p.size ≤ 500 ∧ readT s = some p.tree := by
  unfold readP at h
  split at h
  · cases h
  · rename_i t ht
    split at h
    · cases h
    · rename_i q hq
      split at h
      · rename_i h5
        injection h with h; subst h
        obtain ⟨h1, h2⟩ := toP_tree hq
        exact ⟨h2, h5, by rw [ht, h1]⟩
      · cases h
theorem readP_none {s : Bs} (h : readT s = none) : readP s = none := by unfold readP; rw [h]
theorem readP_bad {s : Bs} {t : T} (h : readT s = some t) (h' : toP t = none) : readP s = none := by unfold readP; rw [h]; simp only; rw [h']
theorem readP_big {s : Bs} {t : T} {p : P} (h : readT s = some t) (h' : toP t = some p) (h5 : ¬ p.size ≤ 500) : readP s = none := by unfold readP; rw [h]; simp only; rw [h']; simp only; rw [if_neg h5]
theorem readP_some {s : Bs} {t : T} {p : P} (h : readT s = some t) (h' : toP t = some p) (h5 : p.size ≤ 500) : readP s = some p := by unfold readP; rw [h]; simp only; rw [h']; simp only; rw [if_pos h5]
theorem readP_atoms {s : Bs} {t : T} (h : readT s = some t) (h5 : 500 < t.atoms) : readP s = none := by
  cases hp : toP t with
  | none => exact readP_bad h hp
  | some p =>
    refine readP_big h hp ?_
    obtain ⟨h1, -⟩ := toP_tree hp
    rw [h1, P.atoms_tree] at h5
    omega

/-- The head of the dual. -/
def dword (h : Bs) : Bs :=
  if h = [112, 97, 105, 114] then [99, 97, 115, 101] else if h = [99, 97, 115, 101] then [112, 97, 105, 114]
  else if h = [105, 110, 108] then [102, 115, 116] else if h = [102, 115, 116] then [105, 110, 108]
  else if h = [105, 110, 114] then [115, 110, 100] else if h = [115, 110, 100] then [105, 110, 114]
  else if h = [110, 111, 116] then [110, 101, 103] else if h = [110, 101, 103] then [110, 111, 116]
  else if h = muB then tmuB else if h = tmuB then muB else h

end Go.Proofs.YtaagbnbekfogiaaGreatDoor
