/- Source terms as values, and what makeSource hands back. -/
import Derived.Test.YtjbfchmlhaidfaaDoorNamO
import Derived.Test.YtjbfchmlhaidfaaDoorMathE
import Derived.Test.YtjbfchmlhaidfaaDoorListT
import Derived.Deep.RegionWith
import Derived.Deep.RegionHeld3
namespace Go.Proofs.YtjbfchmlhaidfaaDoor
set_option linter.unusedVariables false
open Go.RowKit

def sty : Src → TypeId
  | .v _ => 102
  | .nb h _ _ => if h = lamB then 106 else if h = catchB then 108 else 110
  | .n1 h _ => if h = leftB then 155 else 156
  | .n2 h _ _ => if h = appB then 152 else 153
/-- A name with a term behind it. -/
def nbV : Bs → Value → Value
  | c :: d, x => .agg #[.int .u8 c.toNat, str d, x]
  | [], x => .agg #[.int .u8 0, .string ⟨#[]⟩, x]
def sv : Src → Value
  | .v s => nameO s
  | .nb _ s m => nbV s (.iface (sty m) (sv m))
  | .n1 _ m => .agg #[.iface (sty m) (sv m)]
  | .n2 _ m n => .agg #[.iface (sty m) (sv m), .iface (sty n) (sv n)]

/-- An interface value, or none. -/
def IfV (x : Value) : Prop := x = .nilIface ∨ ∃ ty v, x = .iface ty v

/-- A source term and no error, or an error. -/
def MSP (o : Option Src) (w : World) (e : Ending) (w' : World) : Prop :=
  Below w.heap.size w w' ∧ ∃ x y, e = .returned (.tuple #[x, y]) ∧ IfV x ∧ match o with
    | some m => x = .iface (sty m) (sv m) ∧ y = .nilIface
    | none => EV w' (New w.heap.size w') y

def MS (k : Nat) : Prop := ∀ (t : T) (w : World) (D : Nat → Prop) (a : ByteArray) (p : Option Addr) (n c : Nat), t.sz ≤ k → t.good = true → TC w D t a p n c → (∀ g, D g → g < w.heap.size) →
  Calls Tryd.prog 44 #[.agg #[.string a, .slice p n c]] w (MSP (toSrc t) w)

theorem MSP.no {w w' : World} {x : Value} (a : ByteArray) (hb : Below w.heap.size w w') (hx : IfV x) : MSP none w (.returned (.tuple #[x, .iface 90 (.agg #[.string a])])) w' :=
  ⟨hb, _, _, rfl, hx, .wrong a⟩
/-- The error of what was made, if it is none where that is right. -/
theorem MSP.eo {o : Option Src} {w w' : World} {x y : Value} (h : match o with
    | some m => x = .iface (sty m) (sv m) ∧ y = .nilIface
    | none => EV w' (New w.heap.size w') y) : EO w' (New w.heap.size w') o.isSome y := by
  cases o with
  | none => exact h
  | some m => exact h.2

theorem TC.textA {w : World} {D : Nat → Prop} {t : T} {a : ByteArray} {p : Option Addr} {n c : Nat} (h : TC w D t a p n c) : a = ⟨(atomOf t).toArray⟩ := by
  cases t with
  | atom s => rw [TC] at h; obtain ⟨_, rfl, _⟩ := h; rfl
  | node ps => rw [TC] at h; obtain ⟨rfl, _⟩ := h; rfl

/-- The bytes of what is good are no runes of many bytes. -/
theorem good_bytes {t : T} (h : t.good = true) {a : ByteArray} (ha : a = ⟨(atomOf t).toArray⟩) : ∀ (i : Nat) (hi : i < a.size), (a[i]'hi).toNat < 128 := by
  subst ha
  intro i hi
  cases t with
  | node ps => exact absurd hi (by simp [atomOf, ByteArray.size])
  | atom s =>
    rw [T.good, Bool.and_eq_true] at h
    have h1 : s.all atomB = true := by first | exact h.1 | exact h.2
    have hi' : i < s.length := hi
    have := List.all_eq_true.1 h1 s[i] (List.getElem_mem hi')
    show (s[i]).toNat < 128
    revert this
    generalize s[i] = c
    simp only [atomB, lowB, digB, Bool.or_eq_true, Bool.and_eq_true, decide_eq_true_eq]
    omega

end Go.Proofs.YtjbfchmlhaidfaaDoor
