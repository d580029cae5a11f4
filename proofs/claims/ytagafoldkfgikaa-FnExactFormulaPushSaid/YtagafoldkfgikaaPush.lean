/- Not moved inwards: impl.push and impl.pushOpposite, the model's l1Push. -/
import Derived.Test.YtagafoldkfgikaaDualS
import Derived.Test.YtagafoldkfgikaaReadF
import Derived.Test.YtagafoldkfgikaaListT
import Derived.Test.YtagafoldkfgikaaTextF
import Derived.Test.YtagafoldkfgikaaSizeLaw
namespace Go.Proofs.Ytagafoldkfgikaa
set_option linter.unusedVariables false
open Go.RowKit

/-! ### What the type switch asks -/
theorem as_conjunction_conjunction (v : Value) (w : World) : (Instr.typeAssert (.iface 74 v) 50 74 true).run Try.prog w = .ok (.tuple #[v, .bool true]) w := by kernel_rfl
theorem as_disjunction_conjunction (v : Value) (w : World) : (Instr.typeAssert (.iface 75 v) 50 74 true).run Try.prog w = .ok (.tuple #[.agg #[.nilIface, .nilIface], .bool false]) w := by kernel_rfl
theorem as_opposite_conjunction (v : Value) (w : World) : (Instr.typeAssert (.iface 77 v) 50 74 true).run Try.prog w = .ok (.tuple #[.agg #[.nilIface, .nilIface], .bool false]) w := by kernel_rfl
theorem as_letter_conjunction (v : Value) (w : World) : (Instr.typeAssert (.iface 89 v) 50 74 true).run Try.prog w = .ok (.tuple #[.agg #[.nilIface, .nilIface], .bool false]) w := by kernel_rfl
theorem as_conjunction_disjunction (v : Value) (w : World) : (Instr.typeAssert (.iface 74 v) 50 75 true).run Try.prog w = .ok (.tuple #[.agg #[.nilIface, .nilIface], .bool false]) w := by kernel_rfl
theorem as_disjunction_disjunction (v : Value) (w : World) : (Instr.typeAssert (.iface 75 v) 50 75 true).run Try.prog w = .ok (.tuple #[v, .bool true]) w := by kernel_rfl
theorem as_opposite_disjunction (v : Value) (w : World) : (Instr.typeAssert (.iface 77 v) 50 75 true).run Try.prog w = .ok (.tuple #[.agg #[.nilIface, .nilIface], .bool false]) w := by kernel_rfl
theorem as_letter_disjunction (v : Value) (w : World) : (Instr.typeAssert (.iface 89 v) 50 75 true).run Try.prog w = .ok (.tuple #[.agg #[.nilIface, .nilIface], .bool false]) w := by kernel_rfl
theorem as_conjunction_opposite (v : Value) (w : World) : (Instr.typeAssert (.iface 74 v) 50 77 true).run Try.prog w = .ok (.tuple #[.agg #[.nilIface], .bool false]) w := by kernel_rfl
theorem as_disjunction_opposite (v : Value) (w : World) : (Instr.typeAssert (.iface 75 v) 50 77 true).run Try.prog w = .ok (.tuple #[.agg #[.nilIface], .bool false]) w := by kernel_rfl
theorem as_opposite_opposite (v : Value) (w : World) : (Instr.typeAssert (.iface 77 v) 50 77 true).run Try.prog w = .ok (.tuple #[v, .bool true]) w := by kernel_rfl
theorem as_letter_opposite (v : Value) (w : World) : (Instr.typeAssert (.iface 89 v) 50 77 true).run Try.prog w = .ok (.tuple #[.agg #[.nilIface], .bool false]) w := by kernel_rfl

def pushFn : Bool → FuncId
  | false => 24
  | true => 38
/-- The formula g is what the program's push (c: with one not more ahead) answers for f. -/
def PU (c : Bool) (f g : F) : Prop := ∀ w : World, Calls Try.prog (pushFn c) #[.iface (ft f) (fi f)] w fun e w' => e = .returned (.iface (ft g) (fi g)) ∧ Below w.heap.size w w'

set_option maxRecDepth 100000 in
theorem push_an_false (a b a' b' : F) (ha : Hid (PU false a a')) (hb : Hid (PU false b b')) : PU false (.an a b) (.an a' b') := by
  intro w
  show Calls Try.prog 24 #[.iface 74 (.agg #[.iface (ft a) (fi a), .iface (ft b) (fi b)])] w fun e w' => e = .returned (.iface 74 (.agg #[.iface (ft a') (fi a'), .iface (ft b') (fi b')])) ∧ _
  have hS := two_kept w (.iface (ft a) (fi a)) (.iface (ft b) (fi b)) 74
  have q_conjunction := fun v w => as_conjunction_conjunction v w
  have q_disjunction := fun v w => as_conjunction_disjunction v w
  have q_opposite := fun v w => as_conjunction_opposite v w
  go_enter Try.func24, Try.ntmps24
  go_wp2_with fail
  go_region_held3 (fun w' => w'.cell? ⟨w.heap.size, 0, none⟩ = some (.iface (ft a) (fi a)) ∧ w'.cell? ⟨w.heap.size, 1, none⟩ = some (.iface (ft b) (fi b)))
    (first | exact keep0 hS.out | exact keep1 hS.out hb1 | exact keep1 hS.out hb2 | exact keep2 hS.out hb1 hb2 | exact keep2 hS.out hb2 hb1)
    (first | (go_at_call_of 24 (fi a); refine Calls.mono (ha.out _) ?_; rintro e w1 ⟨rfl, hb1⟩) | (go_at_call_of 24 (fi b); refine Calls.mono (hb.out _) ?_; rintro e w2 ⟨rfl, hb2⟩))
  all_goals
    go_wp2_with fail
    go_ret
    exact ⟨rfl, (by first | exact below_step (below_step ((Below.refl _ _).alloc (Nat.le_refl _) _).drew (by simp) hb1) (by simp) hb2 | exact below_step (below_step ((Below.refl _ _).alloc (Nat.le_refl _) _).drew (by simp) hb2) (by simp) hb1)⟩

set_option maxRecDepth 100000 in
theorem push_an_true (a b a' b' : F) (ha : Hid (PU true a a')) (hb : Hid (PU true b b')) : PU true (.an a b) (.or a' b') := by
  intro w
  show Calls Try.prog 38 #[.iface 74 (.agg #[.iface (ft a) (fi a), .iface (ft b) (fi b)])] w fun e w' => e = .returned (.iface 75 (.agg #[.iface (ft a') (fi a'), .iface (ft b') (fi b')])) ∧ _
  have hS := two_kept w (.iface (ft a) (fi a)) (.iface (ft b) (fi b)) 74
  have q_conjunction := fun v w => as_conjunction_conjunction v w
  have q_disjunction := fun v w => as_conjunction_disjunction v w
  have q_opposite := fun v w => as_conjunction_opposite v w
  go_enter Try.func38, Try.ntmps38
  go_wp2_with fail
  go_region_held3 (fun w' => w'.cell? ⟨w.heap.size, 0, none⟩ = some (.iface (ft a) (fi a)) ∧ w'.cell? ⟨w.heap.size, 1, none⟩ = some (.iface (ft b) (fi b)))
    (first | exact keep0 hS.out | exact keep1 hS.out hb1 | exact keep1 hS.out hb2 | exact keep2 hS.out hb1 hb2 | exact keep2 hS.out hb2 hb1)
    (first | (go_at_call_of 38 (fi a); refine Calls.mono (ha.out _) ?_; rintro e w1 ⟨rfl, hb1⟩) | (go_at_call_of 38 (fi b); refine Calls.mono (hb.out _) ?_; rintro e w2 ⟨rfl, hb2⟩))
  all_goals
    go_wp2_with fail
    go_ret
    exact ⟨rfl, (by first | exact below_step (below_step ((Below.refl _ _).alloc (Nat.le_refl _) _).drew (by simp) hb1) (by simp) hb2 | exact below_step (below_step ((Below.refl _ _).alloc (Nat.le_refl _) _).drew (by simp) hb2) (by simp) hb1)⟩

set_option maxRecDepth 100000 in
theorem push_or_false (a b a' b' : F) (ha : Hid (PU false a a')) (hb : Hid (PU false b b')) : PU false (.or a b) (.or a' b') := by
  intro w
  show Calls Try.prog 24 #[.iface 75 (.agg #[.iface (ft a) (fi a), .iface (ft b) (fi b)])] w fun e w' => e = .returned (.iface 75 (.agg #[.iface (ft a') (fi a'), .iface (ft b') (fi b')])) ∧ _
  have hS := two_kept w (.iface (ft a) (fi a)) (.iface (ft b) (fi b)) 75
  have q_conjunction := fun v w => as_disjunction_conjunction v w
  have q_disjunction := fun v w => as_disjunction_disjunction v w
  have q_opposite := fun v w => as_disjunction_opposite v w
  go_enter Try.func24, Try.ntmps24
  go_wp2_with fail
  go_region_held3 (fun w' => w'.cell? ⟨w.heap.size, 0, none⟩ = some (.iface (ft a) (fi a)) ∧ w'.cell? ⟨w.heap.size, 1, none⟩ = some (.iface (ft b) (fi b)))
    (first | exact keep0 hS.out | exact keep1 hS.out hb1 | exact keep1 hS.out hb2 | exact keep2 hS.out hb1 hb2 | exact keep2 hS.out hb2 hb1)
    (first | (go_at_call_of 24 (fi a); refine Calls.mono (ha.out _) ?_; rintro e w1 ⟨rfl, hb1⟩) | (go_at_call_of 24 (fi b); refine Calls.mono (hb.out _) ?_; rintro e w2 ⟨rfl, hb2⟩))
  all_goals
    go_wp2_with fail
    go_ret
    exact ⟨rfl, (by first | exact below_step (below_step ((Below.refl _ _).alloc (Nat.le_refl _) _).drew (by simp) hb1) (by simp) hb2 | exact below_step (below_step ((Below.refl _ _).alloc (Nat.le_refl _) _).drew (by simp) hb2) (by simp) hb1)⟩

set_option maxRecDepth 100000 in
theorem push_or_true (a b a' b' : F) (ha : Hid (PU true a a')) (hb : Hid (PU true b b')) : PU true (.or a b) (.an a' b') := by
  intro w
  show Calls Try.prog 38 #[.iface 75 (.agg #[.iface (ft a) (fi a), .iface (ft b) (fi b)])] w fun e w' => e = .returned (.iface 74 (.agg #[.iface (ft a') (fi a'), .iface (ft b') (fi b')])) ∧ _
  have hS := two_kept w (.iface (ft a) (fi a)) (.iface (ft b) (fi b)) 75
  have q_conjunction := fun v w => as_disjunction_conjunction v w
  have q_disjunction := fun v w => as_disjunction_disjunction v w
  have q_opposite := fun v w => as_disjunction_opposite v w
  go_enter Try.func38, Try.ntmps38
  go_wp2_with fail
  go_region_held3 (fun w' => w'.cell? ⟨w.heap.size, 0, none⟩ = some (.iface (ft a) (fi a)) ∧ w'.cell? ⟨w.heap.size, 1, none⟩ = some (.iface (ft b) (fi b)))
    (first | exact keep0 hS.out | exact keep1 hS.out hb1 | exact keep1 hS.out hb2 | exact keep2 hS.out hb1 hb2 | exact keep2 hS.out hb2 hb1)
    (first | (go_at_call_of 38 (fi a); refine Calls.mono (ha.out _) ?_; rintro e w1 ⟨rfl, hb1⟩) | (go_at_call_of 38 (fi b); refine Calls.mono (hb.out _) ?_; rintro e w2 ⟨rfl, hb2⟩))
  all_goals
    go_wp2_with fail
    go_ret
    exact ⟨rfl, (by first | exact below_step (below_step ((Below.refl _ _).alloc (Nat.le_refl _) _).drew (by simp) hb1) (by simp) hb2 | exact below_step (below_step ((Below.refl _ _).alloc (Nat.le_refl _) _).drew (by simp) hb2) (by simp) hb1)⟩

set_option maxRecDepth 100000 in
theorem push_no_false (a a' : F) (ha : Hid (PU true a a')) : PU false (.no a) a' := by
  intro w
  show Calls Try.prog 24 #[.iface 77 (.agg #[.iface (ft a) (fi a)])] w _
  have q_conjunction := fun v w => as_opposite_conjunction v w
  have q_disjunction := fun v w => as_opposite_disjunction v w
  have q_opposite := fun v w => as_opposite_opposite v w
  go_enter Try.func24, Try.ntmps24
  go_wp2_with fail
  refine Calls.mono (ha.out _) ?_
  rintro e w1 ⟨rfl, hb1⟩
  go_wp2_with fail
  go_ret
  exact ⟨rfl, below_step ((Below.refl _ _).alloc (Nat.le_refl _) _) (by simp) hb1⟩

set_option maxRecDepth 100000 in
theorem push_no_true (a a' : F) (ha : Hid (PU false a a')) : PU true (.no a) a' := by
  intro w
  show Calls Try.prog 38 #[.iface 77 (.agg #[.iface (ft a) (fi a)])] w _
  have q_conjunction := fun v w => as_opposite_conjunction v w
  have q_disjunction := fun v w => as_opposite_disjunction v w
  have q_opposite := fun v w => as_opposite_opposite v w
  go_enter Try.func38, Try.ntmps38
  go_wp2_with fail
  refine Calls.mono (ha.out _) ?_
  rintro e w1 ⟨rfl, hb1⟩
  go_wp2_with fail
  go_ret
  exact ⟨rfl, below_step ((Below.refl _ _).alloc (Nat.le_refl _) _) (by simp) hb1⟩

set_option maxRecDepth 100000 in
theorem push_lt_false (s : Bs) : PU false (.lt s) (.lt s) := by
  intro w
  show Calls Try.prog 24 #[.iface 89 (.string ⟨s.toArray⟩)] w fun e w' => e = .returned (.iface 89 (.string ⟨s.toArray⟩)) ∧ _
  have q_conjunction := fun v w => as_letter_conjunction v w
  have q_disjunction := fun v w => as_letter_disjunction v w
  have q_opposite := fun v w => as_letter_opposite v w
  go_enter Try.func24, Try.ntmps24
  go_wp2_with fail
  go_ret
  exact ⟨rfl, (by repeat (with_reducible first | exact hbel | exact Below.refl _ _ | refine Below.drew ?_ | refine Below.drewN ?_ _ | refine Below.alloc ?_ (by first | (simp; done) | (simp; omega) | omega | (have := Below.size hbel; simp; omega) | (have := Below.size hbel; omega)) _ | refine Below.setCell ?_ (by first | (simp; done) | (simp; omega) | omega) _))⟩

set_option maxRecDepth 100000 in
theorem push_lt_true (s : Bs) : PU true (.lt s) (.no (.lt s)) := by
  intro w
  show Calls Try.prog 38 #[.iface 89 (.string ⟨s.toArray⟩)] w fun e w' => e = .returned (.iface 77 (.agg #[.iface 89 (.string ⟨s.toArray⟩)])) ∧ _
  have q_conjunction := fun v w => as_letter_conjunction v w
  have q_disjunction := fun v w => as_letter_disjunction v w
  have q_opposite := fun v w => as_letter_opposite v w
  go_enter Try.func38, Try.ntmps38
  go_wp2_with fail
  go_ret
  exact ⟨rfl, (by repeat (with_reducible first | exact hbel | exact Below.refl _ _ | refine Below.drew ?_ | refine Below.drewN ?_ _ | refine Below.alloc ?_ (by first | (simp; done) | (simp; omega) | omega | (have := Below.size hbel; simp; omega) | (have := Below.size hbel; omega)) _ | refine Below.setCell ?_ (by first | (simp; done) | (simp; omega) | omega) _))⟩

theorem push_of : ∀ (c : Bool) (f : F), PU c f (f.push c)
  | false, .lt s => push_lt_false s
  | true, .lt s => push_lt_true s
  | false, .an a b => push_an_false a b _ _ (push_of _ a) (push_of _ b)
  | true, .an a b => push_an_true a b _ _ (push_of _ a) (push_of _ b)
  | false, .or a b => push_or_false a b _ _ (push_of _ a) (push_of _ b)
  | true, .or a b => push_or_true a b _ _ (push_of _ a) (push_of _ b)
  | false, .no a => push_no_false a _ (push_of true a)
  | true, .no a => push_no_true a _ (push_of false a)

end Go.Proofs.Ytagafoldkfgikaa
