/- Instances of typings, as plain mathematics. -/
import Derived.Test.YtdbdcfijeeelkaaMathY
namespace Go.Proofs.Ytdbdcfijeeelkaa
set_option linter.unusedVariables false

/-- What is put for letters, the newest one first. -/
abbrev AL := List (Bs × Bs)
def aget (s : Bs) : AL → Option Bs
  | [] => none
  | (k, v) :: m => if k = s then some v else aget s m

def instL (s t : Bs) (m : AL) : Option AL := match aget s m with
  | none => some ((s, t) :: m)
  | some v => if v = t then some m else none

theorem instL_none {s t : Bs} {m : AL} (h : aget s m = none) : instL s t m = some ((s, t) :: m) := by rw [instL, h]
theorem instL_some {s t v : Bs} {m : AL} (h : aget s m = some v) : instL s t m = if v = t then some m else none := by rw [instL, h]
def inst : F → F → AL → Option AL
  | .lt s, f, m => instL s f.text m
  | .an a b, .an c d, m => (inst a c m).bind (inst b d)
  | .or a b, .or c d, m => (inst a c m).bind (inst b d)
  | .no a, .no c, m => inst a c m
  | _, _, _ => none

def instAll : List F → List F → AL → Option AL
  | f :: fs, g :: gs, m => (inst f g m).bind (instAll fs gs)
  | _, _, m => some m

def instW : Option F → Option F → AL → Bool
  | none, none, _ => true
  | some f, some g, m => (inst f g m).isSome
  | _, _, _ => false

def instTy (y z : Ty) : Bool := match instAll y.fs z.fs [] with
  | none => false
  | some m => instW y.wh z.wh m

/-- Is the second typing an instance of the first one? -/
def instB : Option Ty → Option Ty → Bool
  | some y, some z => decide y.ns.Nodup && decide (y.ns = z.ns) && instTy y z
  | _, _ => false

theorem instAll_snoc {f g : F} : ∀ {fs gs : List F} {m : AL}, fs.length = gs.length → instAll (fs ++ [f]) (gs ++ [g]) m = (instAll fs gs m).bind (inst f g)
  | [], [], m, _ => by simp [instAll]
  | a :: fs, b :: gs, m, h => by
    simp only [List.cons_append, instAll]
    cases inst a b m with
    | none => rfl
    | some m1 => simp only [Option.bind_some]; exact instAll_snoc (by simpa using h)
theorem instAll_none {xs ys : List F} : ∀ {fs gs : List F} {m : AL}, fs.length = gs.length → instAll fs gs m = none → instAll (fs ++ xs) (gs ++ ys) m = none
  | [], [], m, _, h => by cases h
  | a :: fs, b :: gs, m, hl, h => by
    simp only [List.cons_append, instAll] at h ⊢
    cases hi : inst a b m with
    | none => rfl
    | some m1 => rw [hi] at h; simp only [Option.bind_some] at h ⊢; exact instAll_none (by simpa using hl) h
theorem instAll_step {fs gs : List F} {m : AL} {j : Nat} {f g : F} (hl : fs.length = gs.length) (hf : fs[j]? = some f) (hg : gs[j]? = some g) :
    instAll (fs.take (j + 1)) (gs.take (j + 1)) m = (instAll (fs.take j) (gs.take j) m).bind (inst f g) := by
  rw [List.take_add_one, List.take_add_one, hf, hg]
  exact instAll_snoc (by simp [hl])
theorem instAll_stop {fs gs : List F} {m : AL} {j : Nat} (hl : fs.length = gs.length) (h : instAll (fs.take j) (gs.take j) m = none) : instAll fs gs m = none := by
  rw [← List.take_append_drop j fs, ← List.take_append_drop j gs]
  exact instAll_none (by simp [hl]) h

/-- The letters, and what is put for them, are short. -/
def ALok (m : AL) : Prop := ∀ p ∈ m, p.1.length ≤ 3 ∧ p.2.length ≤ 6000
theorem instL_len {s t : Bs} {m m' : AL} (h : instL s t m = some m') : m'.length ≤ m.length + 1 := by
  unfold instL at h
  split at h
  · injection h with h; subst h; simp
  · split at h
    · injection h with h; subst h; omega
    · cases h
theorem inst_len : ∀ {f g : F} {m m' : AL}, inst f g m = some m' → m'.length ≤ m.length + f.size
  | .lt s, g, m, m', h => by have := instL_len h; rw [F.size]; omega
  | .an a b, .an c d, m, m', h => by
    rw [inst] at h
    obtain ⟨m1, h1, h2⟩ := Option.bind_eq_some_iff.1 h
    have := inst_len h1
    have := inst_len h2
    rw [F.size]; omega
  | .or a b, .or c d, m, m', h => by
    rw [inst] at h
    obtain ⟨m1, h1, h2⟩ := Option.bind_eq_some_iff.1 h
    have := inst_len h1
    have := inst_len h2
    rw [F.size]; omega
  | .no a, .no c, m, m', h => by
    rw [inst] at h
    have := inst_len h
    rw [F.size]; omega
  | .an a b, .lt s, m, m', h => by simp [inst] at h
  | .an a b, .or c d, m, m', h => by simp [inst] at h
  | .an a b, .no c, m, m', h => by simp [inst] at h
  | .or a b, .lt s, m, m', h => by simp [inst] at h
  | .or a b, .an c d, m, m', h => by simp [inst] at h
  | .or a b, .no c, m, m', h => by simp [inst] at h
  | .no a, .lt s, m, m', h => by simp [inst] at h
  | .no a, .an c d, m, m', h => by simp [inst] at h
  | .no a, .or c d, m, m', h => by simp [inst] at h

theorem aget_none {s : Bs} : ∀ {m : AL}, aget s m = none ↔ s ∉ m.map Prod.fst
  | [] => by simp [aget]
  | (k, v) :: m => by
    simp only [aget, List.map_cons, List.mem_cons, not_or]
    by_cases h : k = s
    · simp [h]
    · rw [if_neg h, aget_none]
      simp [Ne.symm h]
theorem aget_some {s t : Bs} : ∀ {m : AL}, (m.map Prod.fst).Nodup → (s, t) ∈ m → aget s m = some t
  | (k, v) :: m, hn, h => by
    simp only [List.map_cons, List.nodup_cons] at hn
    simp only [aget]
    rcases List.mem_cons.1 h with e | h
    · cases e; rw [if_pos rfl]
    · rw [if_neg (fun e => hn.1 (by rw [e]; exact List.mem_map_of_mem (f := Prod.fst) h))]
      exact aget_some hn.2 h
theorem instL_ok {s t : Bs} {m m' : AL} (h : instL s t m = some m') (hn : (m.map Prod.fst).Nodup) : (m'.map Prod.fst).Nodup := by
  unfold instL at h
  split at h
  · rename_i h0
    injection h with h; subst h
    rw [List.map_cons, List.nodup_cons]
    exact ⟨aget_none.1 h0, hn⟩
  · split at h
    · injection h with h; subst h; exact hn
    · cases h

end Go.Proofs.Ytdbdcfijeeelkaa
