/- A machine's exchanged and head. -/
import Derived.Test.YtaihmfmfaejhiaaMakeP
import Derived.Test.YtaihmfmfaejhiaaMathV
namespace Go.Proofs.Ytaihmfmfaejhiaa
set_option linter.unusedVariables false
open Go.RowKit
set_option maxRecDepth 100000

theorem kind0N (w : World) : Calls Try.prog 87 #[.agg #[.int .u8 0, .string ⟨#[]⟩]] w fun e w' => e = .returned (str [99, 111, 116, 101, 114, 109]) ∧ Below w.heap.size w w' := by
  go_enter Try.func87, Try.ntmps87
  go_wp2_with fail
  go_ret
  exact ⟨rfl, (by repeat (with_reducible first | exact hbel | exact Below.refl _ _ | refine Below.drew ?_ | refine Below.drewN ?_ _ | refine Below.alloc ?_ (by first | (simp; done) | (simp; omega) | omega | (have := Below.size hbel; simp; omega) | (have := Below.size hbel; omega)) _ | refine Below.setCell ?_ (by first | (simp; done) | (simp; omega) | omega) _))⟩
theorem km0N (w : World) : (method 217 40 (.agg #[.int .u8 0, .string ⟨#[]⟩]) "loop.example/classicalcontrol/impl.kind").run Try.prog w = .ok (87, .agg #[.int .u8 0, .string ⟨#[]⟩]) w := by kernel_rfl
theorem kc0N (x : Array Value) (w : World) : (callFunc 87 x).run Try.prog w = .ok (.enter 87 x) w := by kernel_rfl

theorem exchangedN (M0 M1 : Value) (w : World) : Calls Try.prog 41 #[.agg #[M0, M1]] w fun e w' => e = .returned (.bool true) ∧ Below w.heap.size w w' := by
  have km := km0N
  have kc := kc0N
  have kk := Lib.hid (fun W => kind0N W)
  go_enter Try.func41, Try.ntmps41
  go_wp2_with (refine Calls.mono (kk.out _) ?_; rintro e w1 ⟨rfl, hb1⟩)
  go_ret
  exact ⟨rfl, below_step (by repeat (with_reducible first | exact hbel | exact Below.refl _ _ | refine Below.drew ?_ | refine Below.drewN ?_ _ | refine Below.alloc ?_ (by first | (simp; done) | (simp; omega) | omega | (have := Below.size hbel; simp; omega) | (have := Below.size hbel; omega)) _ | refine Below.setCell ?_ (by first | (simp; done) | (simp; omega) | omega) _)) (by simp) hb1⟩

/-- What a head is called on the other side; nothing for what is no head of a form. -/
def dhead (h : Bs) : Bs := match shapeL h with
  | none => []
  | some (_, d, _) => d
theorem field_dual' (a b c : Value) (w : World) : (Instr.field 73 (.agg #[a, b, c]) 1).run Try.prog w = .ok b w := by kernel_rfl
theorem headN (M0 M1 : Value) (h : Bs) (w : World) : Calls Try.prog 26 #[.agg #[M0, M1], str h] w fun e w' => e = .returned (str (dhead h)) ∧ Below w.heap.size w w' := by
  have ke := Lib.hid (fun W => exchangedN M0 M1 W)
  have call := fun W => shapeOf_any ⟨h.toArray⟩ W
  rw [Lib.toList_data] at call
  unfold ShPost at call
  rw [show (⟨h.toArray⟩ : ByteArray).data.toList = h from rfl] at call
  have hf := field_dual'
  cases hs : shapeL h with
  | none =>
    rw [hs] at call
    have call' := Lib.hid call
    rw [show dhead h = [] from by rw [dhead, hs]]
    clear call hs
    go_enter Try.func26, Try.ntmps26
    go_wp2_with (first
      | (go_at_call 41; refine Calls.mono (ke.out _) ?_; rintro e w1 ⟨rfl, hb1⟩)
      | (go_at_call 38; refine Calls.mono (call'.out _) ?_; rintro e w2 ⟨hb2, rfl⟩))
    go_ret
    exact ⟨rfl, below_step (below_step (by repeat (with_reducible first | exact hbel | exact Below.refl _ _ | refine Below.drew ?_ | refine Below.drewN ?_ _ | refine Below.alloc ?_ (by first | (simp; done) | (simp; omega) | omega | (have := Below.size hbel; simp; omega) | (have := Below.size hbel; omega)) _ | refine Below.setCell ?_ (by first | (simp; done) | (simp; omega) | omega) _)) (by simp) hb1) (Nat.le_refl _) hb2⟩
  | some r =>
    obtain ⟨k, d, ks⟩ := r
    rw [hs] at call
    have call' := Lib.hid call
    rw [show dhead h = d from by rw [dhead, hs]]
    clear call hs
    go_enter Try.func26, Try.ntmps26
    go_wp2_with (first
      | (go_at_call 41; refine Calls.mono (ke.out _) ?_; rintro e w1 ⟨rfl, hb1⟩)
      | (go_at_call 38; refine Calls.mono (call'.out _) ?_; rintro e w2 ⟨hb2, g, n, rfl, -, -⟩))
    go_ret
    exact ⟨rfl, below_step (below_step (by repeat (with_reducible first | exact hbel | exact Below.refl _ _ | refine Below.drew ?_ | refine Below.drewN ?_ _ | refine Below.alloc ?_ (by first | (simp; done) | (simp; omega) | omega | (have := Below.size hbel; simp; omega) | (have := Below.size hbel; omega)) _ | refine Below.setCell ?_ (by first | (simp; done) | (simp; omega) | omega) _)) (by simp) hb1) (Nat.le_refl _) hb2⟩

end Go.Proofs.Ytaihmfmfaejhiaa
