/- Source terms as values, and what makeSource hands back. Type assertions and the method inner of source terms. -/
import Derived.Test.YtchkmdagbjbcjaaGreatDoorNamO
import Derived.Test.YtchkmdagbjbcjaaGreatDoorMathE
import Derived.Test.YtchkmdagbjbcjaaGreatDoorListT
import Derived.Deep.RegionWith
import Derived.Deep.RegionHeld3
namespace Go.Proofs.YtchkmdagbjbcjaaGreatDoor
set_option linter.unusedVariables false
open Go.RowKit

def sty : Src → TypeId
  | .v _ => 81
  | .nb h _ _ => if h = lamB then 85 else if h = catchB then 87 else 89
  | .n1 h _ => if h = leftB then 125 else 126
  | .n2 h _ _ => if h = appB then 131 else 132
/-- A name with a term behind it. -/
def nbV : Bs → Value → Value
  | c :: d, x => .agg #[.int .u8 c.toNat, str d, x]
  | [], x => .agg #[.int .u8 0, .string ⟨#[]⟩, x]
def sv : Src → Value
  | .v s => nameO s
  | .nb _ s m => nbV s (.iface (sty m) (sv m))
  | .n1 _ m => .agg #[.iface (sty m) (sv m)]
  | .n2 _ m n => .agg #[.iface (sty m) (sv m), .iface (sty n) (sv n)]

/-- An interface value, or none. -/
def IfV (x : Value) : Prop := x = .nilIface ∨ ∃ ty v, x = .iface ty v

/-- A source term and no error, or an error. -/
def MSP (o : Option Src) (w : World) (e : Ending) (w' : World) : Prop :=
  Below w.heap.size w w' ∧ ∃ x y, e = .returned (.tuple #[x, y]) ∧ IfV x ∧ match o with
    | some m => x = .iface (sty m) (sv m) ∧ y = .nilIface
    | none => EV w' (New w.heap.size w') y

def MS (k : Nat) : Prop := ∀ (t : T) (w : World) (D : Nat → Prop) (a : ByteArray) (p : Option Addr) (n c : Nat), t.sz ≤ k → t.good = true → TC w D t a p n c → (∀ g, D g → g < w.heap.size) →
  Calls Tryz.prog 29 #[.agg #[.string a, .slice p n c]] w (MSP (toSrc t) w)

theorem MSP.no {w w' : World} {x : Value} (a : ByteArray) (hb : Below w.heap.size w w') (hx : IfV x) : MSP none w (.returned (.tuple #[x, .iface 71 (.agg #[.string a])])) w' :=
  ⟨hb, _, _, rfl, hx, .wrong a⟩
/-- The error of what was made, if it is none where that is right. -/
theorem MSP.eo {o : Option Src} {w w' : World} {x y : Value} (h : match o with
    | some m => x = .iface (sty m) (sv m) ∧ y = .nilIface
    | none => EV w' (New w.heap.size w') y) : EO w' (New w.heap.size w') o.isSome y := by
  cases o with
  | none => exact h
  | some m => exact h.2

theorem TC.textA {w : World} {D : Nat → Prop} {t : T} {a : ByteArray} {p : Option Addr} {n c : Nat} (h : TC w D t a p n c) : a = ⟨(atomOf t).toArray⟩ := by
  cases t with
  | atom s => rw [TC] at h; obtain ⟨_, rfl, _⟩ := h; rfl
  | node ps => rw [TC] at h; obtain ⟨rfl, _⟩ := h; rfl

/-- The bytes of what is good are no runes of many bytes. -/
theorem good_bytes {t : T} (h : t.good = true) {a : ByteArray} (ha : a = ⟨(atomOf t).toArray⟩) : ∀ (i : Nat) (hi : i < a.size), (a[i]'hi).toNat < 128 := by
  subst ha
  intro i hi
  cases t with
  | node ps => exact absurd hi (by simp [atomOf, ByteArray.size])
  | atom s =>
    rw [T.good, Bool.and_eq_true] at h
    have h1 : s.all atomB = true := by first | exact h.1 | exact h.2
    have hi' : i < s.length := hi
    have := List.all_eq_true.1 h1 s[i] (List.getElem_mem hi')
    show (s[i]).toNat < 128
    revert this
    generalize s[i] = c
    simp only [atomB, lowB, digB, Bool.or_eq_true, Bool.and_eq_true, decide_eq_true_eq]
    omega

end Go.Proofs.YtchkmdagbjbcjaaGreatDoor

namespace Go.Proofs.YtchkmdagbjbcjaaGreatDoor
set_option linter.unusedVariables false
open Go.RowKit

theorem sa_mention_mention (v : Value) (w : World) : (Instr.typeAssert (.iface 81 v) 36 81 true).run Tryz.prog w = .ok (.tuple #[v, .bool true]) w := by kernel_rfl
theorem sa_mention_lambda (v : Value) (w : World) : (Instr.typeAssert (.iface 81 v) 36 85 true).run Tryz.prog w = .ok (.tuple #[.agg #[.int .u8 0, .string ⟨#[]⟩, .nilIface], .bool false]) w := by kernel_rfl
theorem sa_mention_catch (v : Value) (w : World) : (Instr.typeAssert (.iface 81 v) 36 87 true).run Tryz.prog w = .ok (.tuple #[.agg #[.int .u8 0, .string ⟨#[]⟩, .nilIface], .bool false]) w := by kernel_rfl
theorem sa_mention_throw (v : Value) (w : World) : (Instr.typeAssert (.iface 81 v) 36 89 true).run Tryz.prog w = .ok (.tuple #[.agg #[.int .u8 0, .string ⟨#[]⟩, .nilIface], .bool false]) w := by kernel_rfl
theorem sa_mention_application (v : Value) (w : World) : (Instr.typeAssert (.iface 81 v) 36 131 true).run Tryz.prog w = .ok (.tuple #[.agg #[.nilIface, .nilIface], .bool false]) w := by kernel_rfl
theorem sa_mention_both (v : Value) (w : World) : (Instr.typeAssert (.iface 81 v) 36 132 true).run Tryz.prog w = .ok (.tuple #[.agg #[.nilIface, .nilIface], .bool false]) w := by kernel_rfl
theorem sa_mention_leftPart (v : Value) (w : World) : (Instr.typeAssert (.iface 81 v) 36 125 true).run Tryz.prog w = .ok (.tuple #[.agg #[.nilIface], .bool false]) w := by kernel_rfl
theorem sa_mention_rightPart (v : Value) (w : World) : (Instr.typeAssert (.iface 81 v) 36 126 true).run Tryz.prog w = .ok (.tuple #[.agg #[.nilIface], .bool false]) w := by kernel_rfl
theorem sa_lambda_mention (v : Value) (w : World) : (Instr.typeAssert (.iface 85 v) 36 81 true).run Tryz.prog w = .ok (.tuple #[.agg #[.int .u8 0, .string ⟨#[]⟩], .bool false]) w := by kernel_rfl
theorem sa_lambda_lambda (v : Value) (w : World) : (Instr.typeAssert (.iface 85 v) 36 85 true).run Tryz.prog w = .ok (.tuple #[v, .bool true]) w := by kernel_rfl
theorem sa_lambda_catch (v : Value) (w : World) : (Instr.typeAssert (.iface 85 v) 36 87 true).run Tryz.prog w = .ok (.tuple #[.agg #[.int .u8 0, .string ⟨#[]⟩, .nilIface], .bool false]) w := by kernel_rfl
theorem sa_lambda_throw (v : Value) (w : World) : (Instr.typeAssert (.iface 85 v) 36 89 true).run Tryz.prog w = .ok (.tuple #[.agg #[.int .u8 0, .string ⟨#[]⟩, .nilIface], .bool false]) w := by kernel_rfl
theorem sa_lambda_application (v : Value) (w : World) : (Instr.typeAssert (.iface 85 v) 36 131 true).run Tryz.prog w = .ok (.tuple #[.agg #[.nilIface, .nilIface], .bool false]) w := by kernel_rfl
theorem sa_lambda_both (v : Value) (w : World) : (Instr.typeAssert (.iface 85 v) 36 132 true).run Tryz.prog w = .ok (.tuple #[.agg #[.nilIface, .nilIface], .bool false]) w := by kernel_rfl
theorem sa_lambda_leftPart (v : Value) (w : World) : (Instr.typeAssert (.iface 85 v) 36 125 true).run Tryz.prog w = .ok (.tuple #[.agg #[.nilIface], .bool false]) w := by kernel_rfl
theorem sa_lambda_rightPart (v : Value) (w : World) : (Instr.typeAssert (.iface 85 v) 36 126 true).run Tryz.prog w = .ok (.tuple #[.agg #[.nilIface], .bool false]) w := by kernel_rfl
theorem sa_catch_mention (v : Value) (w : World) : (Instr.typeAssert (.iface 87 v) 36 81 true).run Tryz.prog w = .ok (.tuple #[.agg #[.int .u8 0, .string ⟨#[]⟩], .bool false]) w := by kernel_rfl
theorem sa_catch_lambda (v : Value) (w : World) : (Instr.typeAssert (.iface 87 v) 36 85 true).run Tryz.prog w = .ok (.tuple #[.agg #[.int .u8 0, .string ⟨#[]⟩, .nilIface], .bool false]) w := by kernel_rfl
theorem sa_catch_catch (v : Value) (w : World) : (Instr.typeAssert (.iface 87 v) 36 87 true).run Tryz.prog w = .ok (.tuple #[v, .bool true]) w := by kernel_rfl
theorem sa_catch_throw (v : Value) (w : World) : (Instr.typeAssert (.iface 87 v) 36 89 true).run Tryz.prog w = .ok (.tuple #[.agg #[.int .u8 0, .string ⟨#[]⟩, .nilIface], .bool false]) w := by kernel_rfl
theorem sa_catch_application (v : Value) (w : World) : (Instr.typeAssert (.iface 87 v) 36 131 true).run Tryz.prog w = .ok (.tuple #[.agg #[.nilIface, .nilIface], .bool false]) w := by kernel_rfl
theorem sa_catch_both (v : Value) (w : World) : (Instr.typeAssert (.iface 87 v) 36 132 true).run Tryz.prog w = .ok (.tuple #[.agg #[.nilIface, .nilIface], .bool false]) w := by kernel_rfl
theorem sa_catch_leftPart (v : Value) (w : World) : (Instr.typeAssert (.iface 87 v) 36 125 true).run Tryz.prog w = .ok (.tuple #[.agg #[.nilIface], .bool false]) w := by kernel_rfl
theorem sa_catch_rightPart (v : Value) (w : World) : (Instr.typeAssert (.iface 87 v) 36 126 true).run Tryz.prog w = .ok (.tuple #[.agg #[.nilIface], .bool false]) w := by kernel_rfl
theorem sa_throw_mention (v : Value) (w : World) : (Instr.typeAssert (.iface 89 v) 36 81 true).run Tryz.prog w = .ok (.tuple #[.agg #[.int .u8 0, .string ⟨#[]⟩], .bool false]) w := by kernel_rfl
theorem sa_throw_lambda (v : Value) (w : World) : (Instr.typeAssert (.iface 89 v) 36 85 true).run Tryz.prog w = .ok (.tuple #[.agg #[.int .u8 0, .string ⟨#[]⟩, .nilIface], .bool false]) w := by kernel_rfl
theorem sa_throw_catch (v : Value) (w : World) : (Instr.typeAssert (.iface 89 v) 36 87 true).run Tryz.prog w = .ok (.tuple #[.agg #[.int .u8 0, .string ⟨#[]⟩, .nilIface], .bool false]) w := by kernel_rfl
theorem sa_throw_throw (v : Value) (w : World) : (Instr.typeAssert (.iface 89 v) 36 89 true).run Tryz.prog w = .ok (.tuple #[v, .bool true]) w := by kernel_rfl
theorem sa_throw_application (v : Value) (w : World) : (Instr.typeAssert (.iface 89 v) 36 131 true).run Tryz.prog w = .ok (.tuple #[.agg #[.nilIface, .nilIface], .bool false]) w := by kernel_rfl
theorem sa_throw_both (v : Value) (w : World) : (Instr.typeAssert (.iface 89 v) 36 132 true).run Tryz.prog w = .ok (.tuple #[.agg #[.nilIface, .nilIface], .bool false]) w := by kernel_rfl
theorem sa_throw_leftPart (v : Value) (w : World) : (Instr.typeAssert (.iface 89 v) 36 125 true).run Tryz.prog w = .ok (.tuple #[.agg #[.nilIface], .bool false]) w := by kernel_rfl
theorem sa_throw_rightPart (v : Value) (w : World) : (Instr.typeAssert (.iface 89 v) 36 126 true).run Tryz.prog w = .ok (.tuple #[.agg #[.nilIface], .bool false]) w := by kernel_rfl
theorem sa_application_mention (v : Value) (w : World) : (Instr.typeAssert (.iface 131 v) 36 81 true).run Tryz.prog w = .ok (.tuple #[.agg #[.int .u8 0, .string ⟨#[]⟩], .bool false]) w := by kernel_rfl
theorem sa_application_lambda (v : Value) (w : World) : (Instr.typeAssert (.iface 131 v) 36 85 true).run Tryz.prog w = .ok (.tuple #[.agg #[.int .u8 0, .string ⟨#[]⟩, .nilIface], .bool false]) w := by kernel_rfl
theorem sa_application_catch (v : Value) (w : World) : (Instr.typeAssert (.iface 131 v) 36 87 true).run Tryz.prog w = .ok (.tuple #[.agg #[.int .u8 0, .string ⟨#[]⟩, .nilIface], .bool false]) w := by kernel_rfl
theorem sa_application_throw (v : Value) (w : World) : (Instr.typeAssert (.iface 131 v) 36 89 true).run Tryz.prog w = .ok (.tuple #[.agg #[.int .u8 0, .string ⟨#[]⟩, .nilIface], .bool false]) w := by kernel_rfl
theorem sa_application_application (v : Value) (w : World) : (Instr.typeAssert (.iface 131 v) 36 131 true).run Tryz.prog w = .ok (.tuple #[v, .bool true]) w := by kernel_rfl
theorem sa_application_both (v : Value) (w : World) : (Instr.typeAssert (.iface 131 v) 36 132 true).run Tryz.prog w = .ok (.tuple #[.agg #[.nilIface, .nilIface], .bool false]) w := by kernel_rfl
theorem sa_application_leftPart (v : Value) (w : World) : (Instr.typeAssert (.iface 131 v) 36 125 true).run Tryz.prog w = .ok (.tuple #[.agg #[.nilIface], .bool false]) w := by kernel_rfl
theorem sa_application_rightPart (v : Value) (w : World) : (Instr.typeAssert (.iface 131 v) 36 126 true).run Tryz.prog w = .ok (.tuple #[.agg #[.nilIface], .bool false]) w := by kernel_rfl
theorem sa_both_mention (v : Value) (w : World) : (Instr.typeAssert (.iface 132 v) 36 81 true).run Tryz.prog w = .ok (.tuple #[.agg #[.int .u8 0, .string ⟨#[]⟩], .bool false]) w := by kernel_rfl
theorem sa_both_lambda (v : Value) (w : World) : (Instr.typeAssert (.iface 132 v) 36 85 true).run Tryz.prog w = .ok (.tuple #[.agg #[.int .u8 0, .string ⟨#[]⟩, .nilIface], .bool false]) w := by kernel_rfl
theorem sa_both_catch (v : Value) (w : World) : (Instr.typeAssert (.iface 132 v) 36 87 true).run Tryz.prog w = .ok (.tuple #[.agg #[.int .u8 0, .string ⟨#[]⟩, .nilIface], .bool false]) w := by kernel_rfl
theorem sa_both_throw (v : Value) (w : World) : (Instr.typeAssert (.iface 132 v) 36 89 true).run Tryz.prog w = .ok (.tuple #[.agg #[.int .u8 0, .string ⟨#[]⟩, .nilIface], .bool false]) w := by kernel_rfl
theorem sa_both_application (v : Value) (w : World) : (Instr.typeAssert (.iface 132 v) 36 131 true).run Tryz.prog w = .ok (.tuple #[.agg #[.nilIface, .nilIface], .bool false]) w := by kernel_rfl
theorem sa_both_both (v : Value) (w : World) : (Instr.typeAssert (.iface 132 v) 36 132 true).run Tryz.prog w = .ok (.tuple #[v, .bool true]) w := by kernel_rfl
theorem sa_both_leftPart (v : Value) (w : World) : (Instr.typeAssert (.iface 132 v) 36 125 true).run Tryz.prog w = .ok (.tuple #[.agg #[.nilIface], .bool false]) w := by kernel_rfl
theorem sa_both_rightPart (v : Value) (w : World) : (Instr.typeAssert (.iface 132 v) 36 126 true).run Tryz.prog w = .ok (.tuple #[.agg #[.nilIface], .bool false]) w := by kernel_rfl
theorem sa_leftPart_mention (v : Value) (w : World) : (Instr.typeAssert (.iface 125 v) 36 81 true).run Tryz.prog w = .ok (.tuple #[.agg #[.int .u8 0, .string ⟨#[]⟩], .bool false]) w := by kernel_rfl
theorem sa_leftPart_lambda (v : Value) (w : World) : (Instr.typeAssert (.iface 125 v) 36 85 true).run Tryz.prog w = .ok (.tuple #[.agg #[.int .u8 0, .string ⟨#[]⟩, .nilIface], .bool false]) w := by kernel_rfl
theorem sa_leftPart_catch (v : Value) (w : World) : (Instr.typeAssert (.iface 125 v) 36 87 true).run Tryz.prog w = .ok (.tuple #[.agg #[.int .u8 0, .string ⟨#[]⟩, .nilIface], .bool false]) w := by kernel_rfl
theorem sa_leftPart_throw (v : Value) (w : World) : (Instr.typeAssert (.iface 125 v) 36 89 true).run Tryz.prog w = .ok (.tuple #[.agg #[.int .u8 0, .string ⟨#[]⟩, .nilIface], .bool false]) w := by kernel_rfl
theorem sa_leftPart_application (v : Value) (w : World) : (Instr.typeAssert (.iface 125 v) 36 131 true).run Tryz.prog w = .ok (.tuple #[.agg #[.nilIface, .nilIface], .bool false]) w := by kernel_rfl
theorem sa_leftPart_both (v : Value) (w : World) : (Instr.typeAssert (.iface 125 v) 36 132 true).run Tryz.prog w = .ok (.tuple #[.agg #[.nilIface, .nilIface], .bool false]) w := by kernel_rfl
theorem sa_leftPart_leftPart (v : Value) (w : World) : (Instr.typeAssert (.iface 125 v) 36 125 true).run Tryz.prog w = .ok (.tuple #[v, .bool true]) w := by kernel_rfl
theorem sa_leftPart_rightPart (v : Value) (w : World) : (Instr.typeAssert (.iface 125 v) 36 126 true).run Tryz.prog w = .ok (.tuple #[.agg #[.nilIface], .bool false]) w := by kernel_rfl
theorem sa_rightPart_mention (v : Value) (w : World) : (Instr.typeAssert (.iface 126 v) 36 81 true).run Tryz.prog w = .ok (.tuple #[.agg #[.int .u8 0, .string ⟨#[]⟩], .bool false]) w := by kernel_rfl
theorem sa_rightPart_lambda (v : Value) (w : World) : (Instr.typeAssert (.iface 126 v) 36 85 true).run Tryz.prog w = .ok (.tuple #[.agg #[.int .u8 0, .string ⟨#[]⟩, .nilIface], .bool false]) w := by kernel_rfl
theorem sa_rightPart_catch (v : Value) (w : World) : (Instr.typeAssert (.iface 126 v) 36 87 true).run Tryz.prog w = .ok (.tuple #[.agg #[.int .u8 0, .string ⟨#[]⟩, .nilIface], .bool false]) w := by kernel_rfl
theorem sa_rightPart_throw (v : Value) (w : World) : (Instr.typeAssert (.iface 126 v) 36 89 true).run Tryz.prog w = .ok (.tuple #[.agg #[.int .u8 0, .string ⟨#[]⟩, .nilIface], .bool false]) w := by kernel_rfl
theorem sa_rightPart_application (v : Value) (w : World) : (Instr.typeAssert (.iface 126 v) 36 131 true).run Tryz.prog w = .ok (.tuple #[.agg #[.nilIface, .nilIface], .bool false]) w := by kernel_rfl
theorem sa_rightPart_both (v : Value) (w : World) : (Instr.typeAssert (.iface 126 v) 36 132 true).run Tryz.prog w = .ok (.tuple #[.agg #[.nilIface, .nilIface], .bool false]) w := by kernel_rfl
theorem sa_rightPart_leftPart (v : Value) (w : World) : (Instr.typeAssert (.iface 126 v) 36 125 true).run Tryz.prog w = .ok (.tuple #[.agg #[.nilIface], .bool false]) w := by kernel_rfl
theorem sa_rightPart_rightPart (v : Value) (w : World) : (Instr.typeAssert (.iface 126 v) 36 126 true).run Tryz.prog w = .ok (.tuple #[v, .bool true]) w := by kernel_rfl

theorem in_mention (x : Value) (w : World) : (method 309 81 x "loop.example/classicalcontrol/impl.inner").run Tryz.prog w = .ok (109, x) w := by kernel_rfl
theorem in_lambda (n d x : Value) (w : World) : (method 309 85 (.agg #[n, d, x]) "loop.example/classicalcontrol/impl.inner").run Tryz.prog w = .ok (110, .agg #[x]) w := by kernel_rfl
theorem in_catch (n d x : Value) (w : World) : (method 309 87 (.agg #[n, d, x]) "loop.example/classicalcontrol/impl.inner").run Tryz.prog w = .ok (110, .agg #[x]) w := by kernel_rfl
theorem in_throw (n d x : Value) (w : World) : (method 309 89 (.agg #[n, d, x]) "loop.example/classicalcontrol/impl.inner").run Tryz.prog w = .ok (110, .agg #[x]) w := by kernel_rfl
theorem in_application (x y : Value) (w : World) : (method 309 131 (.agg #[x, y]) "loop.example/classicalcontrol/impl.inner").run Tryz.prog w = .ok (114, .agg #[x, y]) w := by kernel_rfl
theorem in_both (x y : Value) (w : World) : (method 309 132 (.agg #[x, y]) "loop.example/classicalcontrol/impl.inner").run Tryz.prog w = .ok (114, .agg #[x, y]) w := by kernel_rfl
theorem in_leftPart (x : Value) (w : World) : (method 309 125 (.agg #[x]) "loop.example/classicalcontrol/impl.inner").run Tryz.prog w = .ok (110, .agg #[x]) w := by kernel_rfl
theorem in_rightPart (x : Value) (w : World) : (method 309 126 (.agg #[x]) "loop.example/classicalcontrol/impl.inner").run Tryz.prog w = .ok (110, .agg #[x]) w := by kernel_rfl

set_option maxRecDepth 100000 in
theorem inner_none (c : UInt8) (d : Bs) (w : World) : Calls Tryz.prog 109 #[.agg #[.int .u8 c.toNat, str d]] w fun e w' => e = .returned (.slice none 0 0) ∧ Below w.heap.size w w' := by
  go_enter Tryz.func109, Tryz.ntmps109
  go_wp2_with fail
  go_ret
  exact ⟨rfl, (by repeat (with_reducible first | exact hbel | exact Below.refl _ _ | refine Below.drew ?_ | refine Below.drewN ?_ _ | refine Below.alloc ?_ (by first | (simp; done) | (simp; omega) | omega | (have := Below.size hbel; simp; omega) | (have := Below.size hbel; omega)) _ | refine Below.setCell ?_ (by first | (simp; done) | (simp; omega) | omega) _))⟩
set_option maxRecDepth 100000 in
theorem inner_one (t : TypeId) (x : Value) (w : World) : Calls Tryz.prog 110 #[.agg #[.iface t x]] w fun e w' => ∃ g, e = .returned (.slice (some ⟨g, 0, none⟩) 1 1) ∧ Below w.heap.size w w' ∧ g < w'.heap.size ∧ w'.cell? ⟨g, 0, none⟩ = some (.iface t x) := by
  go_enter Tryz.func110, Tryz.ntmps110
  go_wp2_with fail
  go_ret
  exact ⟨_, rfl, (by repeat (with_reducible first | exact hbel | exact Below.refl _ _ | refine Below.drew ?_ | refine Below.drewN ?_ _ | refine Below.alloc ?_ (by first | (simp; done) | (simp; omega) | omega | (have := Below.size hbel; simp; omega) | (have := Below.size hbel; omega)) _ | refine Below.setCell ?_ (by first | (simp; done) | (simp; omega) | omega) _)), by simp, by simp⟩
set_option maxRecDepth 100000 in
theorem inner_two (t u : TypeId) (x y : Value) (w : World) : Calls Tryz.prog 114 #[.agg #[.iface t x, .iface u y]] w fun e w' => ∃ g, e = .returned (.slice (some ⟨g, 0, none⟩) 2 2) ∧ Below w.heap.size w w' ∧ g < w'.heap.size ∧ w'.cell? ⟨g, 0, none⟩ = some (.iface t x) ∧ w'.cell? ⟨g, 1, none⟩ = some (.iface u y) := by
  go_enter Tryz.func114, Tryz.ntmps114
  go_wp2_with fail
  go_ret
  exact ⟨_, rfl, (by repeat (with_reducible first | exact hbel | exact Below.refl _ _ | refine Below.drew ?_ | refine Below.drewN ?_ _ | refine Below.alloc ?_ (by first | (simp; done) | (simp; omega) | omega | (have := Below.size hbel; simp; omega) | (have := Below.size hbel; omega)) _ | refine Below.setCell ?_ (by first | (simp; done) | (simp; omega) | omega) _)), by simp, by simp, by simp⟩

end Go.Proofs.YtchkmdagbjbcjaaGreatDoor
