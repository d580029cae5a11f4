/- Programs in memory: the values of impl's types of programs. -/
import Derived.Test.YtaagbnbekfogiaaGreatDoorNames
import Derived.Test.YtaagbnbekfogiaaGreatDoorText
import Derived.Deep.RegionWith
import Derived.Deep.RegionHeld3
namespace Go.Proofs.YtaagbnbekfogiaaGreatDoor
set_option linter.unusedVariables false
open Go.RowKit

def pt : P → TypeId
  | .nm s => if firstIs varB s then 47 else 44
  | .f1 _ _ => 77
  | .f2 _ _ _ => 77
  | .bd _ _ => 46

/-- What is in the value of a program's interface type. -/
def PI (w : World) (D : Nat → Prop) : P → Value → Prop
  | .nm s, x => ∃ c d, s = c :: d ∧ x = nameV c d
  | .f1 h p, x => ∃ g n y, x = .agg #[str h, .slice (some ⟨g, 0, none⟩) 1 n] ∧ D g ∧ w.cell? ⟨g, 0, none⟩ = some (.iface (pt p) y) ∧ PI w D p y
  | .f2 h p q, x => ∃ g n y z, x = .agg #[str h, .slice (some ⟨g, 0, none⟩) 2 n] ∧ D g ∧ w.cell? ⟨g, 0, none⟩ = some (.iface (pt p) y) ∧ PI w D p y ∧ w.cell? ⟨g, 1, none⟩ = some (.iface (pt q) z) ∧ PI w D q z
  | .bd s b, x => ∃ c d y, s = c :: d ∧ x = .agg #[.int .u8 c.toNat, str d, .iface (pt b) y] ∧ PI w D b y

section
variable {w w' : World} {D D' : Nat → Prop}
theorem PI.keep (hw : ∀ g, D g → w'.heap[g]? = w.heap[g]?) (hD : ∀ g, D g → D' g) : ∀ (p : P) (x : Value), PI w D p x → PI w' D' p x
  | .nm s, x, h => h
  | .f1 h p, x, ⟨g, n, y, hx, hg, h0, hp⟩ => ⟨g, n, y, hx, hD g hg, (World.cell?_of_block (a := ⟨g, 0, none⟩) (hw g hg)).trans h0, PI.keep hw hD p y hp⟩
  | .f2 h p q, x, ⟨g, n, y, z, hx, hg, h0, hp, h1, hq⟩ => ⟨g, n, y, z, hx, hD g hg, (World.cell?_of_block (a := ⟨g, 0, none⟩) (hw g hg)).trans h0, PI.keep hw hD p y hp, (World.cell?_of_block (a := ⟨g, 1, none⟩) (hw g hg)).trans h1, PI.keep hw hD q z hq⟩
  | .bd s b, x, ⟨c, d, y, hs, hx, hb⟩ => ⟨c, d, y, hs, hx, PI.keep hw hD b y hb⟩
theorem PI.below {p : P} {x : Value} (h : PI w D p x) (hb : Below w.heap.size w w') (hD : ∀ g, D g → g < w.heap.size) : PI w' D p x :=
  PI.keep (fun g hg => hb.block g (hD g hg)) (fun _ h => h) _ _ h
theorem PI.to {p : P} {x : Value} (h : PI w D p x) (hD : ∀ g, D g → D' g) : PI w D' p x := PI.keep (fun _ _ => rfl) hD _ _ h
end

/-- A form, its head and its parts. -/
def IsForm : P → Bs → List P → Prop
  | .f1 h p, h', ks => h' = h ∧ ks = [p]
  | .f2 h p q, h', ks => h' = h ∧ ks = [p, q]
  | _, _, _ => False
def sumL (l : List Nat) : Nat := l.foldr (· + ·) 0

theorem PI.form {w : World} {D : Nat → Prop} {p : P} {x : Value} {h : Bs} {ks : List P} (hf : IsForm p h ks) (hp : PI w D p x) :
    ∃ g n, x = .agg #[str h, .slice (some ⟨g, 0, none⟩) ks.length n] ∧ D g ∧ ∀ (i : Nat) (q : P), ks[i]? = some q → ∃ y, w.cell? ⟨g, i, none⟩ = some (.iface (pt q) y) ∧ PI w D q y := by
  cases p with
  | nm s => exact absurd hf (by simp [IsForm])
  | bd s b => exact absurd hf (by simp [IsForm])
  | f1 h' p =>
    obtain ⟨rfl, rfl⟩ := hf
    obtain ⟨g, n, y, hx, hg, h0, hp⟩ := hp
    refine ⟨g, n, hx, hg, fun i q hi => ?_⟩
    match i, hi with
    | 0, hi => simp at hi; subst hi; exact ⟨y, h0, hp⟩
    | i + 1, hi => simp at hi
  | f2 h' p q =>
    obtain ⟨rfl, rfl⟩ := hf
    obtain ⟨g, n, y, z, hx, hg, h0, hp, h1, hq⟩ := hp
    refine ⟨g, n, hx, hg, fun i q hi => ?_⟩
    match i, hi with
    | 0, hi => simp at hi; subst hi; exact ⟨y, h0, hp⟩
    | 1, hi => simp at hi; subst hi; exact ⟨z, h1, hq⟩
    | i + 2, hi => simp at hi
theorem PI.ofForm {w : World} {D : Nat → Prop} {p : P} {h : Bs} {ks : List P} {g n : Nat} (hf : IsForm p h ks) (hg : D g) (hk : ∀ (i : Nat) (q : P), ks[i]? = some q → ∃ y, w.cell? ⟨g, i, none⟩ = some (.iface (pt q) y) ∧ PI w D q y) :
    PI w D p (.agg #[str h, .slice (some ⟨g, 0, none⟩) ks.length n]) ∧ pt p = 77 := by
  cases p with
  | nm s => exact absurd hf (by simp [IsForm])
  | bd s b => exact absurd hf (by simp [IsForm])
  | f1 h' p =>
    obtain ⟨rfl, rfl⟩ := hf
    obtain ⟨y, h0, hp⟩ := hk 0 p rfl
    exact ⟨⟨g, n, y, rfl, hg, h0, hp⟩, rfl⟩
  | f2 h' p q =>
    obtain ⟨rfl, rfl⟩ := hf
    obtain ⟨y, h0, hp⟩ := hk 0 p rfl
    obtain ⟨z, h1, hq⟩ := hk 1 q rfl
    exact ⟨⟨g, n, y, z, rfl, hg, h0, hp, h1, hq⟩, rfl⟩

/-- The function that a method of a program's type is. -/
def mfn (name form binder variable_ covariable_ : FuncId) : P → FuncId
  | .nm s => if firstIs varB s then variable_ else covariable_
  | .f1 _ _ => form
  | .f2 _ _ _ => form
  | .bd _ _ => binder
abbrev sizePFn (p : P) : FuncId := mfn 0 205 198 190 190 p
abbrev kindFn (p : P) : FuncId := mfn 0 136 196 202 194 p
abbrev textPFn (p : P) : FuncId := mfn 0 206 199 191 191 p
abbrev usesFn (p : P) : FuncId := mfn 0 207 200 192 192 p
abbrev renamedFn (p : P) : FuncId := mfn 0 204 197 189 189 p

theorem size_m {p : P} {x : Value} {w0 : World} {D : Nat → Prop} (h : PI w0 D p x) (w : World) : (method 297 (pt p) x "loop.example/classicalcontrol/impl.size").run Tryz.prog w = .ok (sizePFn p, x) w := by
  cases p with
  | nm s => obtain ⟨c, d, rfl, rfl⟩ := h; cases hv : firstIs varB (c :: d) <;> simp only [pt, sizePFn, mfn, hv, if_true, if_false, Bool.false_eq_true] <;> kernel_rfl
  | _ => kernel_rfl
theorem kind_m {p : P} {x : Value} {w0 : World} {D : Nat → Prop} (h : PI w0 D p x) (w : World) : (method 297 (pt p) x "loop.example/classicalcontrol/impl.kind").run Tryz.prog w = .ok (kindFn p, x) w := by
  cases p with
  | nm s => obtain ⟨c, d, rfl, rfl⟩ := h; cases hv : firstIs varB (c :: d) <;> simp only [pt, kindFn, mfn, hv, if_true, if_false, Bool.false_eq_true] <;> kernel_rfl
  | _ => kernel_rfl
theorem text_m {p : P} {x : Value} {w0 : World} {D : Nat → Prop} (h : PI w0 D p x) (w : World) : (method 297 (pt p) x "loop.example/classicalcontrol/impl.text").run Tryz.prog w = .ok (textPFn p, x) w := by
  cases p with
  | nm s => obtain ⟨c, d, rfl, rfl⟩ := h; cases hv : firstIs varB (c :: d) <;> simp only [pt, textPFn, mfn, hv, if_true, if_false, Bool.false_eq_true] <;> kernel_rfl
  | _ => kernel_rfl
theorem uses_m {p : P} {x : Value} {w0 : World} {D : Nat → Prop} (h : PI w0 D p x) (w : World) : (method 297 (pt p) x "loop.example/classicalcontrol/impl.uses").run Tryz.prog w = .ok (usesFn p, x) w := by
  cases p with
  | nm s => obtain ⟨c, d, rfl, rfl⟩ := h; cases hv : firstIs varB (c :: d) <;> simp only [pt, usesFn, mfn, hv, if_true, if_false, Bool.false_eq_true] <;> kernel_rfl
  | _ => kernel_rfl
theorem renamed_m {p : P} {x : Value} {w0 : World} {D : Nat → Prop} (h : PI w0 D p x) (w : World) : (method 297 (pt p) x "loop.example/classicalcontrol/impl.renamed").run Tryz.prog w = .ok (renamedFn p, x) w := by
  cases p with
  | nm s => obtain ⟨c, d, rfl, rfl⟩ := h; cases hv : firstIs varB (c :: d) <;> simp only [pt, renamedFn, mfn, hv, if_true, if_false, Bool.false_eq_true] <;> kernel_rfl
  | _ => kernel_rfl
set_option maxRecDepth 100000
theorem mfn_call {n f b v c : FuncId} (hf : ∀ x w, (callFunc f x).run Tryz.prog w = .ok (.enter f x) w) (hb : ∀ x w, (callFunc b x).run Tryz.prog w = .ok (.enter b x) w)
    (hv : ∀ x w, (callFunc v x).run Tryz.prog w = .ok (.enter v x) w) (hc : ∀ x w, (callFunc c x).run Tryz.prog w = .ok (.enter c x) w) (p : P) (x : Array Value) (w : World) :
    (callFunc (mfn n f b v c p) x).run Tryz.prog w = .ok (.enter (mfn n f b v c p) x) w := by
  cases p with
  | nm s =>
    cases hh : firstIs varB s
    · rw [show mfn n f b v c (.nm s) = c from by simp [mfn, hh]]; exact hc x w
    · rw [show mfn n f b v c (.nm s) = v from by simp [mfn, hh]]; exact hv x w
  | f1 _ _ => exact hf x w
  | f2 _ _ _ => exact hf x w
  | bd _ _ => exact hb x w
theorem size_c (p : P) (x : Array Value) (w : World) : (callFunc (sizePFn p) x).run Tryz.prog w = .ok (.enter (sizePFn p) x) w := mfn_call (fun x w => by kernel_rfl) (fun x w => by kernel_rfl) (fun x w => by kernel_rfl) (fun x w => by kernel_rfl) p x w
theorem kind_c (p : P) (x : Array Value) (w : World) : (callFunc (kindFn p) x).run Tryz.prog w = .ok (.enter (kindFn p) x) w := mfn_call (fun x w => by kernel_rfl) (fun x w => by kernel_rfl) (fun x w => by kernel_rfl) (fun x w => by kernel_rfl) p x w

end Go.Proofs.YtaagbnbekfogiaaGreatDoor
