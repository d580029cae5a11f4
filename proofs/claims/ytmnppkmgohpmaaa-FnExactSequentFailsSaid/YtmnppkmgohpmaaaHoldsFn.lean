/- FormulaHolds of the model and of the program. -/
import Derived.Test.YtmnppkmgohpmaaaHoldsSpec
import Derived.Test.YtmnppkmgohpmaaaDualLaw
namespace Go.Proofs.Ytmnppkmgohpmaaa
open Go.RowKit

def holdsO (L : List ByteArray) : Option F → Bool
  | none => false
  | some f => f.holds L

theorem specHolds_any (s : ByteArray) (A : Option Addr) (n c : Nat) (L : List ByteArray) (w : World) (hr : RowS w A n L) (hn : n ≤ 10000000) :
    Calls Try.prog 22 #[.string s, .slice A n c] w fun e w' => e = .returned (.bool (holdsO L (readF s.data.toList))) ∧ Below w.heap.size w w' := by
  generalize hb : holdsO L (readF s.data.toList) = z
  have hb' := Lib.hid hb
  have hr' := Lib.hid hr
  clear hb hr
  go_enter Try.func22, Try.ntmps22
  go_wp2_with fail
  refine (l1Formula_any s _).mono ?_
  rintro e w1 ⟨hb1, hp⟩
  have hb1' := Lib.hid hb1
  rcases hp with ⟨f, a, p, l, c, hrd, rfl, htc⟩ | ⟨a, p, l, c, hrd, rfl⟩
  · have hbt : Hid (f.holds L = z) := by have h := hb'.out; rw [hrd] at h; exact h
    have htc' := Lib.hid htc
    clear hrd htc hb1
    go_wp2_with fail
    refine (hs_any f _ _ _ _ _ _ _ _ _ L (htc'.out.below (by repeat (with_reducible first | exact hbel | exact Below.refl _ _ | refine Below.drew ?_ | refine Below.drewN ?_ _ | refine Below.alloc ?_ (by first | (simp; done) | (simp; omega) | omega | (have := Below.size hbel; simp; omega) | (have := Below.size hbel; omega)) _ | refine Below.setCell ?_ (by first | (simp; done) | (simp; omega) | omega) _)) (fun g hg => hg.2)) (fun g hg => by have := hg.2; simp; omega) (hr'.out.below (bb_alloc hb1'.out _)) (by omega)).mono ?_
    rintro e w2 ⟨rfl, hb2⟩
    go_wp2_with fail
    go_ret
    exact ⟨ret_bool hbt.out, below_step hb1'.out (Nat.le_refl _) (below_step ((Below.refl _ _).alloc (Nat.le_refl _) _) (by simp) hb2)⟩
  · have hbt : Hid (false = z) := by have h := hb'.out; rw [hrd] at h; exact h
    clear hrd hb1
    go_wp2_with fail
    go_ret
    have hbel := hb1'.out
    exact ⟨ret_bool hbt.out, (by repeat (with_reducible first | exact hbel | exact Below.refl _ _ | refine Below.drew ?_ | refine Below.drewN ?_ _ | refine Below.alloc ?_ (by first | (simp; done) | (simp; omega) | omega | (have := Below.size hbel; simp; omega) | (have := Below.size hbel; omega)) _ | refine Below.setCell ?_ (by first | (simp; done) | (simp; omega) | omega) _))⟩

theorem holds_ahead (f : F) (w : World) : (nilAhead 213 (ft f) (fi f) "loop.example/classicalcontrol/impl.holds").run Try.prog w = .ok (some false) w := by
  cases f <;> kernel_rfl

set_option maxRecDepth 100000 in
theorem implHolds_any (s : ByteArray) (A : Option Addr) (n c : Nat) (L : List ByteArray) (w : World) (hr : ArgS w A n L) (hn : n ≤ 10000000) :
    Calls Try.prog 24 #[.string s, .slice A n c] w fun e w' => e = .returned (.bool (holdsO L (readF s.data.toList))) ∧ Below w.heap.size w w' := by
  generalize hb : holdsO L (readF s.data.toList) = z
  have hb' := Lib.hid hb
  have hr' := Lib.hid hr
  clear hb hr
  go_enter Try.func24, Try.ntmps24
  go_wp2_with fail
  refine (readFormula_any s _).mono ?_
  rintro e w1 ⟨hb1, rfl⟩
  have hb1' := Lib.hid hb1
  clear hb1
  cases hrd : readF s.data.toList with
  | none =>
    have hbt : Hid (false = z) := by have h := hb'.out; rw [hrd] at h; exact h
    clear hrd
    rw [show fvO none = .nilIface from rfl, show (none : Option F).isSome = false from rfl]
    go_wp2_with fail
    go_region
    go_wp2_with fail
    go_ret
    exact ⟨ret_bool hbt.out, hb1'.out.drew⟩
  | some f =>
    have hbt : Hid (f.holds L = z) := by have h := hb'.out; rw [hrd] at h; exact h
    have hok := readF_ok hrd
    have hm := fun w => holds_method f w
    have hc := fun x y w => holds_call f x y w
    clear hrd
    rw [show fvO (some f) = .iface (ft f) (fi f) from rfl, show (some f).isSome = true from rfl]
    have hah := fun w => holds_ahead f w
    have hmf : ∀ (fn : Fn) (first cap : Array Value) (w : World), (Instr.makeFunc fn first cap).run Try.prog w = .ok (.func fn first cap) w := fun _ _ _ _ => rfl
    have ht := Lib.hid (fun W hW => truths_any A n c L W (hr'.out.below (w' := W) hW) hn)
    have hd := Lib.hid (hd_any f hok)
    go_wp2_with fail
    go_region_with (first
      | (go_at_call 42; refine Calls.mono (ht.out _ hb1'.out.drew) ?_; rintro e w2 ⟨m, rfl, hm2, tr, hb2⟩)
      | (refine Calls.mono (hd.out L m _ tr) ?_; rintro e w3 ⟨rfl, hb3⟩))
    all_goals
      go_wp2_with fail
      go_ret
      exact ⟨ret_bool hbt.out, below_step (below_step hb1'.out.drew (Nat.le_refl _) hb2) (Nat.le_refl _) hb3⟩

end Go.Proofs.Ytmnppkmgohpmaaa
