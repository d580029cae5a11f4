/- The texts of formulas: impl's methods 'text', the model's l1Text. -/
import Derived.Test.YtagafoldkfgikaaTextT
import Derived.Test.YtagafoldkfgikaaFormula
import Derived.Test.YtagafoldkfgikaaReadF
namespace Go.Proofs.Ytagafoldkfgikaa
set_option linter.unusedVariables false
open Go.RowKit

def textFn : F → FuncId
  | .lt _ => 109
  | .an _ _ => 97
  | .or _ _ => 101
  | .no _ => 105
theorem text_method (f : F) (w : World) : (method 244 (ft f) (fi f) "loop.example/classicalcontrol/impl.text").run Try.prog w = .ok (textFn f, fi f) w := by
  cases f <;> kernel_rfl
theorem text_call (f : F) (x : Value) (w : World) : (callFunc (textFn f) #[x]).run Try.prog w = .ok (.enter (textFn f) #[x]) w := by
  cases f <;> kernel_rfl

/-- The text A is what the method answers. -/
def TX (f : F) (A : ByteArray) : Prop := ∀ w : World, Calls Try.prog (textFn f) #[fi f] w fun e w' => e = .returned (.string A) ∧ Below w.heap.size w w'

theorem text_no (a : F) (A : ByteArray) (ha : Hid (TX a A)) (hl : A.size ≤ 9000) : TX (.no a) (⟨#[40, 45, 32]⟩ ++ A ++ ⟨#[41]⟩) := by
  intro w
  show Calls Try.prog 105 #[.agg #[.iface (ft a) (fi a)]] w _
  have ma := fun w => text_method a w
  have ca := fun x w => text_call a x w
  go_enter Try.func105, Try.ntmps105
  go_wp2_with (refine Calls.mono (ha.out _) ?_; rintro e w1 ⟨rfl, hb1⟩)
  go_ret
  exact ⟨rfl, below_step ((Below.refl _ _).alloc (Nat.le_refl _) _) (by simp) hb1⟩

theorem text_lt (s : Bs) : TX (.lt s) ⟨s.toArray⟩ := by
  intro w
  show Calls Try.prog 109 #[str s] w _
  go_enter Try.func109, Try.ntmps109
  go_wp2_with fail
  go_ret
  exact ⟨rfl, (by repeat (with_reducible first | exact hbel | exact Below.refl _ _ | refine Below.drew ?_ | refine Below.drewN ?_ _ | refine Below.alloc ?_ (by first | (simp; done) | (simp; omega) | omega | (have := Below.size hbel; simp; omega) | (have := Below.size hbel; omega)) _ | refine Below.setCell ?_ (by first | (simp; done) | (simp; omega) | omega) _))⟩

theorem text_an (a b : F) (A B : ByteArray) (ha : Hid (TX a A)) (hb : Hid (TX b B)) (hA : A.size ≤ 9000) (hB : B.size ≤ 9000) : TX (.an a b) (⟨#[40, 42, 32]⟩ ++ A ++ ⟨#[32]⟩ ++ B ++ ⟨#[41]⟩) := by
  intro w
  show Calls Try.prog 97 #[.agg #[.iface (ft a) (fi a), .iface (ft b) (fi b)]] w _
  have ma := fun w => text_method a w
  have mb := fun w => text_method b w
  have ca := fun x w => text_call a x w
  have cb := fun x w => text_call b x w
  have hS := two_kept w (.iface (ft a) (fi a)) (.iface (ft b) (fi b)) 74
  have k1 := fun (w : World) => run_string_add_sum (P := Try.prog) w ⟨#[40, 42, 32]⟩ A (by show 3 + _ ≤ _; omega)
  have k2 := fun (w : World) => run_string_add_sum (P := Try.prog) w (⟨#[40, 42, 32]⟩ ++ A) ⟨#[32]⟩ (by rw [ByteArray.size_append]; show 3 + _ + 1 ≤ _; omega)
  have k3 := fun (w : World) => run_string_add_sum (P := Try.prog) w (⟨#[40, 42, 32]⟩ ++ A ++ ⟨#[32]⟩) B (by rw [ByteArray.size_append, ByteArray.size_append]; show 3 + _ + 1 + _ ≤ _; omega)
  have k4 := fun (w : World) => run_string_add_sum (P := Try.prog) w (⟨#[40, 42, 32]⟩ ++ A ++ ⟨#[32]⟩ ++ B) ⟨#[41]⟩ (by rw [ByteArray.size_append, ByteArray.size_append, ByteArray.size_append]; show 3 + _ + 1 + _ + 1 ≤ _; omega)
  go_enter Try.func97, Try.ntmps97
  go_wp2_with fail
  go_region_held3 (fun w' => w'.cell? ⟨w.heap.size, 0, none⟩ = some (.iface (ft a) (fi a)) ∧ w'.cell? ⟨w.heap.size, 1, none⟩ = some (.iface (ft b) (fi b)))
    (first | exact keep0 hS.out | exact keep1 hS.out hb1 | exact keep1 hS.out hb2 | exact keep2 hS.out hb1 hb2 | exact keep2 hS.out hb2 hb1)
    (first | (refine Calls.mono (ha.out _) ?_; rintro e w1 ⟨rfl, hb1⟩) | (refine Calls.mono (hb.out _) ?_; rintro e w2 ⟨rfl, hb2⟩))
  all_goals
    go_wp2_with fail
    go_ret
    exact ⟨rfl, (by first | exact below_step (below_step ((Below.refl _ _).alloc (Nat.le_refl _) _).drew (by simp) hb1) (by simp) hb2 | exact below_step (below_step ((Below.refl _ _).alloc (Nat.le_refl _) _).drew (by simp) hb2) (by simp) hb1)⟩

theorem text_or (a b : F) (A B : ByteArray) (ha : Hid (TX a A)) (hb : Hid (TX b B)) (hA : A.size ≤ 9000) (hB : B.size ≤ 9000) : TX (.or a b) (⟨#[40, 43, 32]⟩ ++ A ++ ⟨#[32]⟩ ++ B ++ ⟨#[41]⟩) := by
  intro w
  show Calls Try.prog 101 #[.agg #[.iface (ft a) (fi a), .iface (ft b) (fi b)]] w _
  have ma := fun w => text_method a w
  have mb := fun w => text_method b w
  have ca := fun x w => text_call a x w
  have cb := fun x w => text_call b x w
  have hS := two_kept w (.iface (ft a) (fi a)) (.iface (ft b) (fi b)) 75
  have k1 := fun (w : World) => run_string_add_sum (P := Try.prog) w ⟨#[40, 43, 32]⟩ A (by show 3 + _ ≤ _; omega)
  have k2 := fun (w : World) => run_string_add_sum (P := Try.prog) w (⟨#[40, 43, 32]⟩ ++ A) ⟨#[32]⟩ (by rw [ByteArray.size_append]; show 3 + _ + 1 ≤ _; omega)
  have k3 := fun (w : World) => run_string_add_sum (P := Try.prog) w (⟨#[40, 43, 32]⟩ ++ A ++ ⟨#[32]⟩) B (by rw [ByteArray.size_append, ByteArray.size_append]; show 3 + _ + 1 + _ ≤ _; omega)
  have k4 := fun (w : World) => run_string_add_sum (P := Try.prog) w (⟨#[40, 43, 32]⟩ ++ A ++ ⟨#[32]⟩ ++ B) ⟨#[41]⟩ (by rw [ByteArray.size_append, ByteArray.size_append, ByteArray.size_append]; show 3 + _ + 1 + _ + 1 ≤ _; omega)
  go_enter Try.func101, Try.ntmps101
  go_wp2_with fail
  go_region_held3 (fun w' => w'.cell? ⟨w.heap.size, 0, none⟩ = some (.iface (ft a) (fi a)) ∧ w'.cell? ⟨w.heap.size, 1, none⟩ = some (.iface (ft b) (fi b)))
    (first | exact keep0 hS.out | exact keep1 hS.out hb1 | exact keep1 hS.out hb2 | exact keep2 hS.out hb1 hb2 | exact keep2 hS.out hb2 hb1)
    (first | (refine Calls.mono (ha.out _) ?_; rintro e w1 ⟨rfl, hb1⟩) | (refine Calls.mono (hb.out _) ?_; rintro e w2 ⟨rfl, hb2⟩))
  all_goals
    go_wp2_with fail
    go_ret
    exact ⟨rfl, (by first | exact below_step (below_step ((Below.refl _ _).alloc (Nat.le_refl _) _).drew (by simp) hb1) (by simp) hb2 | exact below_step (below_step ((Below.refl _ _).alloc (Nat.le_refl _) _).drew (by simp) hb2) (by simp) hb1)⟩

theorem text_of : ∀ f : F, f.ok = true → f.size ≤ 1000 → TX f ⟨f.text.toArray⟩
  | .lt s, _, _ => text_lt s
  | .an a b, h, hs => by
    rw [F.ok, Bool.and_eq_true] at h
    rw [F.size] at hs
    have h1 := F.text_length h.1
    have h2 := F.text_length h.2
    have h3 := text_an a b _ _ (text_of a h.1 (by omega)) (text_of b h.2 (by omega)) (by show a.text.length ≤ _; omega) (by show b.text.length ≤ _; omega)
    have e : (⟨(F.an a b).text.toArray⟩ : ByteArray) = ⟨[40, 42, 32].toArray⟩ ++ ⟨a.text.toArray⟩ ++ ⟨[32].toArray⟩ ++ ⟨b.text.toArray⟩ ++ ⟨[41].toArray⟩ := by simp only [ba_append]; rfl
    rw [e]; exact h3
  | .or a b, h, hs => by
    rw [F.ok, Bool.and_eq_true] at h
    rw [F.size] at hs
    have h1 := F.text_length h.1
    have h2 := F.text_length h.2
    have h3 := text_or a b _ _ (text_of a h.1 (by omega)) (text_of b h.2 (by omega)) (by show a.text.length ≤ _; omega) (by show b.text.length ≤ _; omega)
    have e : (⟨(F.or a b).text.toArray⟩ : ByteArray) = ⟨[40, 43, 32].toArray⟩ ++ ⟨a.text.toArray⟩ ++ ⟨[32].toArray⟩ ++ ⟨b.text.toArray⟩ ++ ⟨[41].toArray⟩ := by simp only [ba_append]; rfl
    rw [e]; exact h3
  | .no a, h, hs => by
    rw [F.ok] at h
    rw [F.size] at hs
    have h1 := F.text_length h
    have h3 := text_no a _ (text_of a h (by omega)) (by show a.text.length ≤ _; omega)
    have e : (⟨(F.no a).text.toArray⟩ : ByteArray) = ⟨[40, 45, 32].toArray⟩ ++ ⟨a.text.toArray⟩ ++ ⟨[41].toArray⟩ := by simp only [ba_append]; rfl
    rw [e]; exact h3

/-! ### The model's text of what is read -/
/-- The model's text of a formula. -/
theorem text_calls {w : World} {D : Nat → Prop} {f : F} {a : ByteArray} {p : Option Addr} {n c : Nat} (hok : f.ok = true) (hf : f.size ≤ 1000) (ht : TC w D f.tree a p n c) (hD : ∀ g, D g → g < w.heap.size) :
    Calls Try.prog 21 #[.agg #[.string a, .slice p n c]] w fun e w' => e = .returned (.string ⟨f.text.toArray⟩) ∧ Below w.heap.size w w' := by
  have h := text_all 9000 (by omega) f.tree w D a p n c (by have := f.sz_tree; omega) (by rw [F.text_tree]; have := F.text_length hok; omega) ht hD
  rw [F.text_tree] at h
  exact h

end Go.Proofs.Ytagafoldkfgikaa
