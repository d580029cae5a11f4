/- Typings that are read, as plain mathematics. -/
import Derived.Test.YtdbdcfijeeelkaaMathD
import Derived.Test.YtdbdcfijeeelkaaForms
namespace Go.Proofs.Ytdbdcfijeeelkaa
set_option linter.unusedVariables false

/-- A typing: names, formulas, and perhaps a formula of the whole. -/
structure Ty where
  ns : List Bs
  fs : List F
  wh : Option F

def readNs : List ByteArray → Option (List Bs)
  | [] => some []
  | s :: ss => match isName s.data.toList, readNs ss with
    | true, some l => some (s.data.toList :: l)
    | _, _ => none
def readWh (z : ByteArray) : Option (Option F) := if z.size = 0 then some none else (readF z.data.toList).map some
def readTy (ns ts : List ByteArray) (z : ByteArray) : Option Ty :=
  if ns.length = ts.length then match readNs ns, readFs ts, readWh z with
    | some a, some b, some c => some ⟨a, b, c⟩
    | _, _, _ => none
  else none

theorem readNs_snoc {s : ByteArray} {ss : List ByteArray} {l : List Bs} (h : readNs ss = some l) : readNs (ss ++ [s]) = if isName s.data.toList = true then some (l ++ [s.data.toList]) else none := by
  induction ss generalizing l with
  | nil => cases h; simp only [List.nil_append, readNs]; cases isName s.data.toList <;> rfl
  | cons x xs ih =>
    simp only [readNs] at h
    split at h
    · rename_i f gs hf hg
      injection h with h; subst h
      simp only [List.cons_append, readNs, hf, ih hg]
      cases isName s.data.toList <;> rfl
    · cases h
theorem readNs_none {ss ts : List ByteArray} (h : readNs ss = none) : readNs (ss ++ ts) = none := by
  induction ss with
  | nil => cases h
  | cons x xs ih =>
    simp only [readNs] at h
    simp only [List.cons_append, readNs]
    cases hx : isName x.data.toList with
    | false => rfl
    | true =>
      cases hg : readNs xs with
      | none => rw [ih hg]
      | some gs => rw [hx, hg] at h; cases h
theorem readNs_length {ss : List ByteArray} {l : List Bs} (h : readNs ss = some l) : l.length = ss.length := by
  induction ss generalizing l with
  | nil => cases h; rfl
  | cons x xs ih =>
    simp only [readNs] at h
    split at h
    · rename_i f gs hf hg
      injection h with h; subst h
      simp [ih hg]
    · cases h
theorem readNs_map {ss : List ByteArray} {l : List Bs} (h : readNs ss = some l) : l = ss.map (fun s => s.data.toList) := by
  induction ss generalizing l with
  | nil => cases h; rfl
  | cons x xs ih =>
    simp only [readNs] at h
    split at h
    · rename_i gs hf hg
      injection h with h; subst h
      rw [ih hg]; rfl
    · cases h
theorem readNs_ok {ss : List ByteArray} {l : List Bs} (h : readNs ss = some l) : ∀ s ∈ l, isName s = true := by
  induction ss generalizing l with
  | nil => cases h; simp
  | cons x xs ih =>
    simp only [readNs] at h
    split at h
    · rename_i gs hf hg
      injection h with h; subst h
      intro s hs
      rcases List.mem_cons.1 hs with rfl | hs
      · assumption
      · exact ih hg s hs
    · cases h
theorem readNs_step {ss : List ByteArray} {j : Nat} (hj : j < ss.length) {l : List Bs} (h : readNs (ss.take j) = some l) : readNs (ss.take (j + 1)) = if isName ss[j].data.toList = true then some (l ++ [ss[j].data.toList]) else none := by
  rw [List.take_succ_eq_append_getElem hj]; exact readNs_snoc h
theorem readNs_stop {ss : List ByteArray} {j : Nat} (h : readNs (ss.take j) = none) : readNs ss = none := by
  rw [← List.take_append_drop j ss]; exact readNs_none h

theorem readTy_len {ns ts : List ByteArray} {z : ByteArray} (h : ns.length ≠ ts.length) : readTy ns ts z = none := by rw [readTy, if_neg h]
theorem readTy_names {ns ts : List ByteArray} {z : ByteArray} (h : readNs ns = none) : readTy ns ts z = none := by
  unfold readTy; split
  · rw [h]
  · rfl
theorem readTy_types {ns ts : List ByteArray} {z : ByteArray} (h : readFs ts = none) : readTy ns ts z = none := by
  unfold readTy; split
  · rw [h]; cases readNs ns <;> rfl
  · rfl
theorem readTy_whole {ns ts : List ByteArray} {z : ByteArray} (h : readWh z = none) : readTy ns ts z = none := by
  unfold readTy; split
  · rw [h]; cases readNs ns <;> cases readFs ts <;> rfl
  · rfl
theorem readTy_some {ns ts : List ByteArray} {z : ByteArray} {a : List Bs} {b : List F} {c : Option F} (h : ns.length = ts.length) (h1 : readNs ns = some a) (h2 : readFs ts = some b) (h3 : readWh z = some c) :
    readTy ns ts z = some ⟨a, b, c⟩ := by rw [readTy, if_pos h, h1, h2, h3]
theorem readTy_inv {ns ts : List ByteArray} {z : ByteArray} {y : Ty} (h : readTy ns ts z = some y) : ns.length = ts.length ∧ readNs ns = some y.ns ∧ readFs ts = some y.fs ∧ readWh z = some y.wh := by
  unfold readTy at h
  split at h
  · rename_i hl
    split at h
    · rename_i a b c h1 h2 h3
      injection h with h; subst h
      exact ⟨hl, h1, h2, h3⟩
    · cases h
  · cases h
theorem readWh_empty {z : ByteArray} (h : z.size = 0) : readWh z = some none := by rw [readWh, if_pos h]
theorem readWh_full {z : ByteArray} (h : z.size ≠ 0) : readWh z = (readF z.data.toList).map some := by rw [readWh, if_neg h]

/-- The texts of the dual of a typing. -/
def Ty.dnames (y : Ty) : List ByteArray := y.ns.map fun s => ⟨(swapB s).toArray⟩
def Ty.dtypes (y : Ty) : List ByteArray := y.fs.map fun f => ⟨f.dual.text.toArray⟩
def Ty.dwhole (y : Ty) : ByteArray := match y.wh with
  | none => ⟨#[]⟩
  | some f => ⟨f.dual.text.toArray⟩
def dN : Option Ty → List ByteArray
  | none => []
  | some y => y.dnames
def dT : Option Ty → List ByteArray
  | none => []
  | some y => y.dtypes
def dW : Option Ty → ByteArray
  | none => ⟨#[]⟩
  | some y => y.dwhole
theorem dN_length {ns ts : List ByteArray} {z : ByteArray} : (dN (readTy ns ts z)).length ≤ ns.length := by
  cases h : readTy ns ts z with
  | none => simp [dN]
  | some y =>
    obtain ⟨_, h1, _, _⟩ := readTy_inv h
    simp [dN, Ty.dnames, readNs_length h1]
theorem dT_length {ns ts : List ByteArray} {z : ByteArray} : (dT (readTy ns ts z)).length ≤ ts.length := by
  cases h : readTy ns ts z with
  | none => simp [dT]
  | some y =>
    obtain ⟨_, _, h1, _⟩ := readTy_inv h
    simp [dT, Ty.dtypes, readFs_length h1]

end Go.Proofs.Ytdbdcfijeeelkaa
