/- impl.freeNames and impl.ProgramFree. -/
import Derived.Test.YtagafoldkfgikaaUses
import Derived.Test.YtagafoldkfgikaaOnce
import Derived.Test.YtagafoldkfgikaaHas
namespace Go.Proofs.Ytagafoldkfgikaa
set_option linter.unusedVariables false
open Go.RowKit

def freeL (p : P) : List Bs := p.uses.foldl addN []
set_option maxRecDepth 100000 in
theorem freeNames_any {p : P} (hok : p.ok = true) (hs : p.size ≤ 1000) (w : World) (D : Nat → Prop) (x : Value) (hx : PI w D p x) (hD : ∀ g, D g → g < w.heap.size) :
    Calls Try.prog 16 #[.iface (pt p) x] w (UPost (freeL p) w) := by
  have mq := fun w => uses_m hx w
  have cq := fun x w => uses_c p x w
  have hul := p.uses_len
  have hne := Lib.hid (P.uses_ne hok)
  have hU := Lib.hid (fun W (hW : Below w.heap.size w W) => uses_any hok hs W D x (hx.below hW hD) (fun g hg => Nat.lt_of_lt_of_le (hD g hg) hW.size))
  unfold freeL
  clear hx hD
  generalize p.uses = l at *
  go_enter Try.func16, Try.ntmps16
  go_wp2_with fail
  refine Calls.mono (hU.out _ (Below.refl _ _)) ?_
  rintro e w1 ⟨A, c, rfl, own, hb1⟩
  have hr' := Lib.hid (RowN.of_own own)
  have hb1' := Lib.hid hb1
  clear own hb1
  go_wp2_with fail
  refine Calls.mono (eachOnce_any A _ c l hne.out (by omega) _ hr'.out) ?_
  rintro e w2 ⟨A2, c2, rfl, own2, hb2⟩
  go_wp2_with fail
  go_ret
  exact ⟨A2, c2, rfl, World.ownsRow.mono own2 hb1'.out.size, below_step hb1'.out (Nat.le_refl _) hb2⟩

end Go.Proofs.Ytagafoldkfgikaa
