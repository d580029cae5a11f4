/- impl.writeProgram. impl.readStatement, impl.formOf. -/
import Derived.Test.YtaagbnbekfogiaaGreatDoorTextP
import Derived.Test.YtaagbnbekfogiaaGreatDoorMathW
namespace Go.Proofs.YtaagbnbekfogiaaGreatDoor
set_option linter.unusedVariables false
open Go.RowKit

set_option maxRecDepth 100000 in
theorem write_any {p : P} (hok : p.size ≤ 500 → p.ok = true) (hs : p.size ≤ 900000) (w : World) (D : Nat → Prop) (x : Value) (hx : PI w D p x) (hD : ∀ g, D g → g < w.heap.size) :
    Calls Tryz.prog 26 #[.iface (pt p) x] w fun e w' => e = .returned (.tuple #[str (writeT p), .bool (writeB p)]) ∧ Below w.heap.size w w' := by
  have mq := fun w => size_m hx w
  have cq := fun x w => size_c p x w
  have mt := fun w => text_m hx w
  have ct := fun x w => text_c p x w
  have hsz := Lib.hid (fun W (hW : Below w.heap.size w W) => sizeP_any p hs W D x (hx.below hW hD) (fun g hg => Nat.lt_of_lt_of_le (hD g hg) hW.size))
  by_cases h5 : p.size ≤ 500
  · have htx := Lib.hid (fun W (hW : Below w.heap.size w W) => textP_any (hok h5) (by omega) W D x (hx.below hW hD) (fun g hg => Nat.lt_of_lt_of_le (hD g hg) hW.size))
    cases hr : readP p.text with
    | none =>
      have e1 : writeB p = false := by simp [writeB, hr]
      have e2 : writeT p = [] := by simp [writeT, e1]
      have hrd := Lib.hid (fun W => readProgram_any ⟨p.text.toArray⟩ W)
      rw [show (⟨p.text.toArray⟩ : ByteArray).data.toList = p.text from rfl, hr] at hrd
      rw [e1, e2]
      clear hr e1 e2 hx hD
      go_enter Tryz.func26, Tryz.ntmps26
      go_wp2_with fail
      refine Calls.mono (hsz.out _ (Below.refl _ _)) ?_
      rintro e w1 ⟨rfl, hb1⟩
      have hb1' := Lib.hid hb1
      clear hb1
      go_wp2_with fail
      refine Calls.mono (htx.out _ hb1'.out) ?_
      rintro e w2 ⟨rfl, hb2⟩
      have hb2' := Lib.hid (below_step hb1'.out (Nat.le_refl _) hb2)
      clear hb2
      go_wp2_with fail
      refine Calls.mono (hrd.out _) ?_
      rintro e w3 ⟨hb3, rfl⟩
      have hb3' := Lib.hid (below_step hb2'.out (Nat.le_refl _) hb3)
      clear hb3
      go_wp2_with fail
      go_ret2
      exact ⟨rfl, hb3'.out⟩
    | some q =>
      have e1 : writeB p = true := by simp [writeB, hr, h5]
      have e2 : writeT p = p.text := by simp [writeT, e1]
      have hrd := Lib.hid (fun W => readProgram_any ⟨p.text.toArray⟩ W)
      rw [show (⟨p.text.toArray⟩ : ByteArray).data.toList = p.text from rfl, hr] at hrd
      rw [e1, e2]
      clear hr e1 e2 hx hD
      go_enter Tryz.func26, Tryz.ntmps26
      go_wp2_with fail
      refine Calls.mono (hsz.out _ (Below.refl _ _)) ?_
      rintro e w1 ⟨rfl, hb1⟩
      have hb1' := Lib.hid hb1
      clear hb1
      go_wp2_with fail
      refine Calls.mono (htx.out _ hb1'.out) ?_
      rintro e w2 ⟨rfl, hb2⟩
      have hb2' := Lib.hid (below_step hb1'.out (Nat.le_refl _) hb2)
      clear hb2
      go_wp2_with fail
      refine Calls.mono (hrd.out _) ?_
      rintro e w3 ⟨hb3, y, rfl, hy⟩
      have hb3' := Lib.hid (below_step hb2'.out (Nat.le_refl _) hb3)
      clear hb3 hy
      go_wp2_with fail
      go_ret2
      exact ⟨rfl, hb3'.out⟩
  · have e1 : writeB p = false := by simp [writeB, h5]
    have e2 : writeT p = [] := by simp [writeT, e1]
    rw [e1, e2]
    clear e1 e2 hx hD
    go_enter Tryz.func26, Tryz.ntmps26
    go_wp2_with fail
    refine Calls.mono (hsz.out _ (Below.refl _ _)) ?_
    rintro e w1 ⟨rfl, hb1⟩
    have hb1' := Lib.hid hb1
    clear hb1
    go_wp2_with fail
    go_ret2
    exact ⟨rfl, hb1'.out⟩

end Go.Proofs.YtaagbnbekfogiaaGreatDoor

namespace Go.Proofs.YtaagbnbekfogiaaGreatDoor
set_option linter.unusedVariables false
open Go.RowKit
set_option maxRecDepth 100000

/-- What a function answers that writes a program, if there is one. -/
def wrT : Option P → Bs
  | some p => writeT p
  | none => []
def wrB : Option P → Bool
  | some p => writeB p
  | none => false
def WPost (o : Option P) (w : World) (e : Ending) (w' : World) : Prop := e = .returned (.tuple #[str (wrT o), .bool (wrB o)]) ∧ Below w.heap.size w w'

theorem readStatement_any (s : ByteArray) (w : World) : Calls Tryz.prog 22 #[.string s] w (MPost (readS s.data.toList) w) := by
  have hrp := Lib.hid (fun w => readProgram_any s w)
  cases hrd : readP s.data.toList with
  | none =>
    rw [show readS s.data.toList = none from by unfold readS; rw [hrd]]
    rw [hrd] at hrp
    clear hrd
    show Calls _ _ _ _ fun e w' => Below w.heap.size w w' ∧ e = .returned (.tuple #[.nilIface, .bool false])
    go_enter Tryz.func22, Tryz.ntmps22
    go_wp2_with fail
    refine Calls.mono (hrp.out _) ?_
    rintro e w1 ⟨hb1, rfl⟩
    have hb1' := Lib.hid hb1
    clear hb1
    go_wp2_with fail
    go_ret2
    exact ⟨hb1'.out, rfl⟩
  | some p =>
    have hok := (readP_ok hrd).1
    have hkd := Lib.hid (fun W y (hy : PI W (New w.heap.size W) p y) => kind_any hok W _ y hy)
    cases hk : decide (p.kind = .s)
    · have hne : (p.kind.name == [115, 116, 97, 116, 101, 109, 101, 110, 116]) = false := by
        have h := of_decide_eq_false hk
        revert h; cases p.kind <;> decide
      rw [show readS s.data.toList = none from by unfold readS; rw [hrd]; simp only; rw [if_neg (of_decide_eq_false hk)]]
      rw [hrd] at hrp
      clear hrd hk hok
      show Calls _ _ _ _ fun e w' => Below w.heap.size w w' ∧ e = .returned (.tuple #[.nilIface, .bool false])
      go_enter Tryz.func22, Tryz.ntmps22
      go_wp2_with fail
      refine Calls.mono (hrp.out _) ?_
      rintro e w1 ⟨hb1, y, rfl, hy⟩
      have mq := fun w => kind_m hy w
      have cq := fun x w => kind_c p x w
      have hkc := Lib.hid (hkd.out w1 y hy)
      have hb1' := Lib.hid hb1
      clear hb1 hy
      generalize p.kind.name = nm at *
      go_wp2_with (refine Calls.mono hkc.out ?_; rintro e w2 ⟨rfl, hb2⟩)
      go_ret2
      exact ⟨below_step hb1'.out (Nat.le_refl _) hb2, rfl⟩
    · have hk' : p.kind = .s := of_decide_eq_true hk
      rw [show readS s.data.toList = some p from by unfold readS; rw [hrd]; simp only; rw [if_pos hk']]
      rw [hrd] at hrp
      have hfin : Hid (∀ w1 y w2, Below w.heap.size w w1 → PI w1 (New w.heap.size w1) p y → Below w1.heap.size w1 w2 → MPost (some p) w (.returned (.tuple #[.iface (pt p) y, .bool true])) w2) := Lib.hid fun w1 y w2 h1 h2 h3 =>
        ⟨below_step h1 (Nat.le_refl _) h3, y, rfl, (h2.below h3 (fun g hg => hg.2)).to (fun g hg => ⟨hg.1, Nat.lt_of_lt_of_le hg.2 h3.size⟩)⟩
      rw [hk'] at hkd
      rw [show K.s.name = [115, 116, 97, 116, 101, 109, 101, 110, 116] from rfl] at hkd
      clear hrd hk hok hk'
      go_enter Tryz.func22, Tryz.ntmps22
      go_wp2_with fail
      refine Calls.mono (hrp.out _) ?_
      rintro e w1 ⟨hb1, y, rfl, hy⟩
      have mq := fun w => kind_m hy w
      have cq := fun x w => kind_c p x w
      have hkc := Lib.hid (hkd.out w1 y hy)
      have hb1' := Lib.hid hb1
      have hy' := Lib.hid hy
      clear hb1 hy
      go_wp2_with (refine Calls.mono hkc.out ?_; rintro e w2 ⟨rfl, hb2⟩)
      go_ret2
      exact hfin.out w1 y w2 hb1'.out hy'.out hb2

theorem formOf_any (h : Bs) (p : Option Addr) (n c : Nat) (w : World) : Calls Tryz.prog 23 #[str h, .slice p n c] w fun e w' => e = .returned (.iface 77 (.agg #[str h, .slice p n c])) ∧ Below w.heap.size w w' := by
  go_enter Tryz.func23, Tryz.ntmps23
  go_wp2_with fail
  go_ret
  exact ⟨rfl, (by repeat (with_reducible first | exact hbel | exact Below.refl _ _ | refine Below.drew ?_ | refine Below.drewN ?_ _ | refine Below.alloc ?_ (by first | (simp; done) | (simp; omega) | omega | (have := Below.size hbel; simp; omega) | (have := Below.size hbel; omega)) _ | refine Below.setCell ?_ (by first | (simp; done) | (simp; omega) | omega) _))⟩

end Go.Proofs.YtaagbnbekfogiaaGreatDoor
