/- impl.writeProgram. -/
import Derived.Test.YtaagbnbekfogiaaTextP
import Derived.Test.YtaagbnbekfogiaaMathW
namespace Go.Proofs.Ytaagbnbekfogiaa
set_option linter.unusedVariables false
open Go.RowKit

set_option maxRecDepth 100000 in
theorem write_any {p : P} (hok : p.size ≤ 500 → p.ok = true) (hs : p.size ≤ 900000) (w : World) (D : Nat → Prop) (x : Value) (hx : PI w D p x) (hD : ∀ g, D g → g < w.heap.size) :
    Calls Try.prog 15 #[.iface (pt p) x] w fun e w' => e = .returned (.tuple #[str (writeT p), .bool (writeB p)]) ∧ Below w.heap.size w w' := by
  have mq := fun w => size_m hx w
  have cq := fun x w => size_c p x w
  have mt := fun w => text_m hx w
  have ct := fun x w => text_c p x w
  have hsz := Lib.hid (fun W (hW : Below w.heap.size w W) => sizeP_any p hs W D x (hx.below hW hD) (fun g hg => Nat.lt_of_lt_of_le (hD g hg) hW.size))
  by_cases h5 : p.size ≤ 500
  · have htx := Lib.hid (fun W (hW : Below w.heap.size w W) => textP_any (hok h5) (by omega) W D x (hx.below hW hD) (fun g hg => Nat.lt_of_lt_of_le (hD g hg) hW.size))
    cases hr : readP p.text with
    | none =>
      have e1 : writeB p = false := by simp [writeB, hr]
      have e2 : writeT p = [] := by simp [writeT, e1]
      have hrd := Lib.hid (fun W => readProgram_any ⟨p.text.toArray⟩ W)
      rw [show (⟨p.text.toArray⟩ : ByteArray).data.toList = p.text from rfl, hr] at hrd
      rw [e1, e2]
      clear hr e1 e2 hx hD
      go_enter Try.func15, Try.ntmps15
      go_wp2_with fail
      refine Calls.mono (hsz.out _ (Below.refl _ _)) ?_
      rintro e w1 ⟨rfl, hb1⟩
      have hb1' := Lib.hid hb1
      clear hb1
      go_wp2_with fail
      refine Calls.mono (htx.out _ hb1'.out) ?_
      rintro e w2 ⟨rfl, hb2⟩
      have hb2' := Lib.hid (below_step hb1'.out (Nat.le_refl _) hb2)
      clear hb2
      go_wp2_with fail
      refine Calls.mono (hrd.out _) ?_
      rintro e w3 ⟨hb3, rfl⟩
      have hb3' := Lib.hid (below_step hb2'.out (Nat.le_refl _) hb3)
      clear hb3
      go_wp2_with fail
      go_ret2
      exact ⟨rfl, hb3'.out⟩
    | some q =>
      have e1 : writeB p = true := by simp [writeB, hr, h5]
      have e2 : writeT p = p.text := by simp [writeT, e1]
      have hrd := Lib.hid (fun W => readProgram_any ⟨p.text.toArray⟩ W)
      rw [show (⟨p.text.toArray⟩ : ByteArray).data.toList = p.text from rfl, hr] at hrd
      rw [e1, e2]
      clear hr e1 e2 hx hD
      go_enter Try.func15, Try.ntmps15
      go_wp2_with fail
      refine Calls.mono (hsz.out _ (Below.refl _ _)) ?_
      rintro e w1 ⟨rfl, hb1⟩
      have hb1' := Lib.hid hb1
      clear hb1
      go_wp2_with fail
      refine Calls.mono (htx.out _ hb1'.out) ?_
      rintro e w2 ⟨rfl, hb2⟩
      have hb2' := Lib.hid (below_step hb1'.out (Nat.le_refl _) hb2)
      clear hb2
      go_wp2_with fail
      refine Calls.mono (hrd.out _) ?_
      rintro e w3 ⟨hb3, y, rfl, hy⟩
      have hb3' := Lib.hid (below_step hb2'.out (Nat.le_refl _) hb3)
      clear hb3 hy
      go_wp2_with fail
      go_ret2
      exact ⟨rfl, hb3'.out⟩
  · have e1 : writeB p = false := by simp [writeB, h5]
    have e2 : writeT p = [] := by simp [writeT, e1]
    rw [e1, e2]
    clear e1 e2 hx hD
    go_enter Try.func15, Try.ntmps15
    go_wp2_with fail
    refine Calls.mono (hsz.out _ (Below.refl _ _)) ?_
    rintro e w1 ⟨rfl, hb1⟩
    have hb1' := Lib.hid hb1
    clear hb1
    go_wp2_with fail
    go_ret2
    exact ⟨rfl, hb1'.out⟩

end Go.Proofs.Ytaagbnbekfogiaa
