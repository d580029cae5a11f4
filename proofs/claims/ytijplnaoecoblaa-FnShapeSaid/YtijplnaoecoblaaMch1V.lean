/- A machine's exchanged and head. -/
import Derived.Test.YtijplnaoecoblaaMakeP
import Derived.Test.YtijplnaoecoblaaMathV
namespace Go.Proofs.Ytijplnaoecoblaa
set_option linter.unusedVariables false
open Go.RowKit
set_option maxRecDepth 100000

theorem kind0V (w : World) : Calls Try.prog 86 #[.agg #[.int .u8 0, .string ⟨#[]⟩]] w fun e w' => e = .returned (str [116, 101, 114, 109]) ∧ Below w.heap.size w w' := by
  go_enter Try.func86, Try.ntmps86
  go_wp2_with fail
  go_ret
  exact ⟨rfl, (by repeat (with_reducible first | exact hbel | exact Below.refl _ _ | refine Below.drew ?_ | refine Below.drewN ?_ _ | refine Below.alloc ?_ (by first | (simp; done) | (simp; omega) | omega | (have := Below.size hbel; simp; omega) | (have := Below.size hbel; omega)) _ | refine Below.setCell ?_ (by first | (simp; done) | (simp; omega) | omega) _))⟩
theorem km0V (w : World) : (method 229 52 (.agg #[.int .u8 0, .string ⟨#[]⟩]) "loop.example/classicalcontrol/impl.kind").run Try.prog w = .ok (86, .agg #[.int .u8 0, .string ⟨#[]⟩]) w := by kernel_rfl
theorem kc0V (x : Array Value) (w : World) : (callFunc 86 x).run Try.prog w = .ok (.enter 86 x) w := by kernel_rfl

theorem exchangedV (M0 M1 : Value) (w : World) : Calls Try.prog 41 #[.agg #[M0, M1]] w fun e w' => e = .returned (.bool false) ∧ Below w.heap.size w w' := by
  have km := km0V
  have kc := kc0V
  have kk := Lib.hid (fun W => kind0V W)
  go_enter Try.func41, Try.ntmps41
  go_wp2_with (refine Calls.mono (kk.out _) ?_; rintro e w1 ⟨rfl, hb1⟩)
  go_ret
  exact ⟨rfl, below_step (by repeat (with_reducible first | exact hbel | exact Below.refl _ _ | refine Below.drew ?_ | refine Below.drewN ?_ _ | refine Below.alloc ?_ (by first | (simp; done) | (simp; omega) | omega | (have := Below.size hbel; simp; omega) | (have := Below.size hbel; omega)) _ | refine Below.setCell ?_ (by first | (simp; done) | (simp; omega) | omega) _)) (by simp) hb1⟩

theorem headV (M0 M1 : Value) (h : ByteArray) (w : World) : Calls Try.prog 29 #[.agg #[M0, M1], .string h] w fun e w' => e = .returned (.string h) ∧ Below w.heap.size w w' := by
  have ke := Lib.hid (fun W => exchangedV M0 M1 W)
  go_enter Try.func29, Try.ntmps29
  go_wp2_with (go_at_call 41; refine Calls.mono (ke.out _) ?_; rintro e w1 ⟨rfl, hb1⟩)
  go_ret
  exact ⟨rfl, below_step (by repeat (with_reducible first | exact hbel | exact Below.refl _ _ | refine Below.drew ?_ | refine Below.drewN ?_ _ | refine Below.alloc ?_ (by first | (simp; done) | (simp; omega) | omega | (have := Below.size hbel; simp; omega) | (have := Below.size hbel; omega)) _ | refine Below.setCell ?_ (by first | (simp; done) | (simp; omega) | omega) _)) (by simp) hb1⟩

end Go.Proofs.Ytijplnaoecoblaa
