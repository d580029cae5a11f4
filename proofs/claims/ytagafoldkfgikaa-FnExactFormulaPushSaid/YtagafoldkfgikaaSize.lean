/- The sizes of formulas: impl's methods 'size', the model's l1Atoms. -/
import Derived.Test.YtagafoldkfgikaaForm
namespace Go.Proofs.Ytagafoldkfgikaa
set_option linter.unusedVariables false
open Go.RowKit

/-- The method 'size' of a formula's type. -/
def sizeFn : F → FuncId
  | .lt _ => 108
  | .an _ _ => 96
  | .or _ _ => 100
  | .no _ => 104

def SZ (f : F) : Prop := ∀ w : World, Calls Try.prog (sizeFn f) #[fi f] w fun e w' => e = .returned (.int .i64 f.size) ∧ Below w.heap.size w w'

theorem size_method (f : F) (w : World) : (method 244 (ft f) (fi f) "loop.example/classicalcontrol/impl.size").run Try.prog w = .ok (sizeFn f, fi f) w := by
  cases f <;> kernel_rfl

theorem size_call (f : F) (x : Value) (w : World) : (callFunc (sizeFn f) #[x]).run Try.prog w = .ok (.enter (sizeFn f) #[x]) w := by
  cases f <;> kernel_rfl

/-- A box of two cells is kept by what makes memory alone. -/
theorem two_kept (w : World) (x y : Value) (E : TypeId) : Hid (∀ W', Below (w.heap.size + 1) (w.alloc (.cells #[x, y] E)) W' → W'.cell? ⟨w.heap.size, 0, none⟩ = some x ∧ W'.cell? ⟨w.heap.size, 1, none⟩ = some y) := by
  intro W' hb
  obtain ⟨-, e0, e1, -, -⟩ := two_cells (heap_alloc_new w (.cells #[x, y] E))
  exact ⟨(hb.cell (p := ⟨w.heap.size, 0, none⟩) (by simp)).trans e0, (hb.cell (p := ⟨w.heap.size, 1, none⟩) (by simp)).trans e1⟩

theorem size_an (a b : F) (ha : Hid (SZ a)) (hb : Hid (SZ b)) (hs : a.size + b.size ≤ 9000) : SZ (.an a b) := by
  intro w
  show Calls Try.prog 96 #[.agg #[.iface (ft a) (fi a), .iface (ft b) (fi b)]] w fun e w' => e = .returned (.int .i64 ((1 + a.size + b.size : Nat) : Int)) ∧ _
  have ma := fun w => size_method a w
  have mb := fun w => size_method b w
  have ca := fun x w => size_call a x w
  have cb := fun x w => size_call b x w
  have hS := two_kept w (.iface (ft a) (fi a)) (.iface (ft b) (fi b)) 74
  have s1 : IntKind.i64.wrap (1 + (a.size : Int)) = 1 + (a.size : Int) := IntWalk.i64_in _ (by omega)
  have s2 : IntKind.i64.wrap (1 + (a.size : Int) + (b.size : Int)) = 1 + (a.size : Int) + (b.size : Int) := IntWalk.i64_in _ (by omega)
  go_enter Try.func96, Try.ntmps96
  go_wp2_with fail
  go_region_held3 (fun w' => w'.cell? ⟨w.heap.size, 0, none⟩ = some (.iface (ft a) (fi a)) ∧ w'.cell? ⟨w.heap.size, 1, none⟩ = some (.iface (ft b) (fi b)))
    (first | exact keep0 hS.out | exact keep1 hS.out hb1 | exact keep1 hS.out hb2 | exact keep2 hS.out hb1 hb2 | exact keep2 hS.out hb2 hb1)
    (first | (refine Calls.mono (ha.out _) ?_; rintro e w1 ⟨rfl, hb1⟩) | (refine Calls.mono (hb.out _) ?_; rintro e w2 ⟨rfl, hb2⟩))
  all_goals
    go_wp2_with fail
    go_ret
    exact ⟨ret_int (by omega), (by first | exact below_step (below_step ((Below.refl _ _).alloc (Nat.le_refl _) _).drew (by simp) hb1) (by simp) hb2 | exact below_step (below_step ((Below.refl _ _).alloc (Nat.le_refl _) _).drew (by simp) hb2) (by simp) hb1)⟩

theorem size_or (a b : F) (ha : Hid (SZ a)) (hb : Hid (SZ b)) (hs : a.size + b.size ≤ 9000) : SZ (.or a b) := by
  intro w
  show Calls Try.prog 100 #[.agg #[.iface (ft a) (fi a), .iface (ft b) (fi b)]] w fun e w' => e = .returned (.int .i64 ((1 + a.size + b.size : Nat) : Int)) ∧ _
  have ma := fun w => size_method a w
  have mb := fun w => size_method b w
  have ca := fun x w => size_call a x w
  have cb := fun x w => size_call b x w
  have hS := two_kept w (.iface (ft a) (fi a)) (.iface (ft b) (fi b)) 75
  have s1 : IntKind.i64.wrap (1 + (a.size : Int)) = 1 + (a.size : Int) := IntWalk.i64_in _ (by omega)
  have s2 : IntKind.i64.wrap (1 + (a.size : Int) + (b.size : Int)) = 1 + (a.size : Int) + (b.size : Int) := IntWalk.i64_in _ (by omega)
  go_enter Try.func100, Try.ntmps100
  go_wp2_with fail
  go_region_held3 (fun w' => w'.cell? ⟨w.heap.size, 0, none⟩ = some (.iface (ft a) (fi a)) ∧ w'.cell? ⟨w.heap.size, 1, none⟩ = some (.iface (ft b) (fi b)))
    (first | exact keep0 hS.out | exact keep1 hS.out hb1 | exact keep1 hS.out hb2 | exact keep2 hS.out hb1 hb2 | exact keep2 hS.out hb2 hb1)
    (first | (refine Calls.mono (ha.out _) ?_; rintro e w1 ⟨rfl, hb1⟩) | (refine Calls.mono (hb.out _) ?_; rintro e w2 ⟨rfl, hb2⟩))
  all_goals
    go_wp2_with fail
    go_ret
    exact ⟨ret_int (by omega), (by first | exact below_step (below_step ((Below.refl _ _).alloc (Nat.le_refl _) _).drew (by simp) hb1) (by simp) hb2 | exact below_step (below_step ((Below.refl _ _).alloc (Nat.le_refl _) _).drew (by simp) hb2) (by simp) hb1)⟩

theorem size_no (a : F) (ha : Hid (SZ a)) (hs : a.size ≤ 9000) : SZ (.no a) := by
  intro w
  show Calls Try.prog 104 #[.agg #[.iface (ft a) (fi a)]] w fun e w' => e = .returned (.int .i64 ((1 + a.size : Nat) : Int)) ∧ _
  have ma := fun w => size_method a w
  have ca := fun x w => size_call a x w
  go_enter Try.func104, Try.ntmps104
  go_wp2_with (refine Calls.mono (ha.out _) ?_; rintro e w1 ⟨rfl, hb1⟩)
  go_ret
  exact ⟨ret_int (by omega), below_step ((Below.refl _ _).alloc (Nat.le_refl _) _) (by simp) hb1⟩

theorem size_lt (s : Bs) : SZ (.lt s) := by
  intro w
  show Calls Try.prog 108 #[str s] w fun e w' => e = .returned (.int .i64 1) ∧ _
  go_enter Try.func108, Try.ntmps108
  go_wp2_with fail
  go_ret
  exact ⟨rfl, (by repeat (with_reducible first | exact hbel | exact Below.refl _ _ | refine Below.drew ?_ | refine Below.drewN ?_ _ | refine Below.alloc ?_ (by first | (simp; done) | (simp; omega) | omega | (have := Below.size hbel; simp; omega) | (have := Below.size hbel; omega)) _ | refine Below.setCell ?_ (by first | (simp; done) | (simp; omega) | omega) _))⟩

theorem size_any : ∀ f : F, f.size ≤ 9000 → SZ f
  | .lt s, _ => size_lt s
  | .an a b, h => by rw [F.size] at h; exact size_an a b (size_any a (by omega)) (size_any b (by omega)) (by omega)
  | .or a b, h => by rw [F.size] at h; exact size_or a b (size_any a (by omega)) (size_any b (by omega)) (by omega)
  | .no a, h => by rw [F.size] at h; exact size_no a (size_any a (by omega)) (by omega)

end Go.Proofs.Ytagafoldkfgikaa
