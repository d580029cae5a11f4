/- impl.makeOne. -/
import Derived.Test.YtjbfchmlhaidfaaDoorSrcV
namespace Go.Proofs.YtjbfchmlhaidfaaDoor
set_option linter.unusedVariables false
open Go.RowKit
set_option maxRecDepth 100000

theorem EV.up {w w' W : World} {e : Value} (h : EV W (New w.heap.size W) e) (hb : Below W.heap.size W w') (hW : w.heap.size ≤ W.heap.size) : EV w' (New w.heap.size w') e :=
  h.keep (fun g hg => hb.block g hg.2) (fun g hg => ⟨hg.1, Nat.lt_of_lt_of_le hg.2 hb.size⟩)

/-- What a call has made is new behind what was before it. -/
theorem EV.new {w W w1 : World} {e : Value} (h : EV w1 (New W.heap.size w1) e) (hW : w.heap.size ≤ W.heap.size) : EV w1 (New w.heap.size w1) e :=
  h.to (fun g hg => ⟨Nat.le_trans hW hg.1, hg.2⟩)

theorem MSP.one {o : Option Src} {w W w1 : World} {x y : Value} (h : Bs) (hW : Below w.heap.size w W) (hb : Below W.heap.size W w1) (ho : match o with
    | some m => x = .iface (sty m) (sv m) ∧ y = .nilIface
    | none => EV w1 (New W.heap.size w1) y) : MSP (mkS1 h o) w (.returned (.tuple #[.iface (if h = leftB then 155 else 156) (.agg #[x]), y])) w1 := by
  refine ⟨below_step hW (Nat.le_refl _) hb, _, _, rfl, .inr ⟨_, _, rfl⟩, ?_⟩
  cases o with
  | none => exact ho.new hW.size
  | some m =>
    obtain ⟨rfl, rfl⟩ := ho
    exact ⟨rfl, rfl⟩

set_option maxHeartbeats 2000000 in
theorem makeOne_any (k : Nat) (H : Hid (MS k)) (h : Bs) (t : T) (w : World) (D : Nat → Prop) (a : ByteArray) (p : Option Addr) (n c : Nat) (hk : t.sz ≤ k) (hg : t.good = true) (ht : TC w D t a p n c) (hD : ∀ g, D g → g < w.heap.size) :
    Calls Tryd.prog 63 #[str h, .agg #[.string a, .slice p n c]] w (MSP (if h1B h = true then mkS1 h (toSrc t) else none) w) := by
  have hcall := Lib.hid (fun W (hW : Below w.heap.size w W) => H.out t W D a p n c hk hg (ht.below hW hD) (fun g hg => Nat.lt_of_lt_of_le (hD g hg) hW.size))
  clear H ht hD hg hk
  generalize toSrc t = o at *
  have hW0 := Lib.hid (fun X => ((Below.refl w.heap.size w).alloc (Nat.le_refl _) X))
  by_cases hl : h = [108, 101, 102, 116]
  · subst hl
    rw [show h1B [108, 101, 102, 116] = true from rfl, if_pos rfl]
    go_enter Tryd.func63, Tryd.ntmps63
    go_wp2_with fail
    refine Calls.mono (hcall.out _ (by repeat (with_reducible first | exact hbel | exact Below.refl _ _ | refine Below.drew ?_ | refine Below.drewN ?_ _ | refine Below.alloc ?_ (by first | (simp; done) | (simp; omega) | omega | (have := Below.size hbel; simp; omega) | (have := Below.size hbel; omega)) _ | refine Below.setCell ?_ (by first | (simp; done) | (simp; omega) | omega) _))) ?_
    rintro e w1 ⟨hb1, x, y, rfl, hx, ho⟩
    have hfin := Lib.hid (MSP.one [108, 101, 102, 116] (hW0.out _) hb1 ho)
    clear hb1 ho
    rcases hx with rfl | ⟨ty, v, rfl⟩
    all_goals
      go_wp2_with fail
      go_ret2
      exact hfin.out
  · have e1 : (h == [108, 101, 102, 116]) = false := by rw [beq_eq_false_iff_ne]; exact hl
    by_cases hr : h = [114, 105, 103, 104, 116]
    · subst hr
      rw [show h1B [114, 105, 103, 104, 116] = true from rfl, if_pos rfl]
      go_enter Tryd.func63, Tryd.ntmps63
      go_wp2_with fail
      refine Calls.mono (hcall.out _ (by repeat (with_reducible first | exact hbel | exact Below.refl _ _ | refine Below.drew ?_ | refine Below.drewN ?_ _ | refine Below.alloc ?_ (by first | (simp; done) | (simp; omega) | omega | (have := Below.size hbel; simp; omega) | (have := Below.size hbel; omega)) _ | refine Below.setCell ?_ (by first | (simp; done) | (simp; omega) | omega) _))) ?_
      rintro e w1 ⟨hb1, x, y, rfl, hx, ho⟩
      have hfin := Lib.hid (MSP.one [114, 105, 103, 104, 116] (hW0.out _) hb1 ho)
      clear hb1 ho
      rcases hx with rfl | ⟨ty, v, rfl⟩
      all_goals
        go_wp2_with fail
        go_ret2
        exact hfin.out
    · have e2 : (h == [114, 105, 103, 104, 116]) = false := by rw [beq_eq_false_iff_ne]; exact hr
      rw [if_neg (by simp [h1B, leftB, rightB, e1, e2])]
      clear hl hr
      go_enter Tryd.func63, Tryd.ntmps63
      go_wp2_with fail
      refine Calls.mono (hcall.out _ (by repeat (with_reducible first | exact hbel | exact Below.refl _ _ | refine Below.drew ?_ | refine Below.drewN ?_ _ | refine Below.alloc ?_ (by first | (simp; done) | (simp; omega) | omega | (have := Below.size hbel; simp; omega) | (have := Below.size hbel; omega)) _ | refine Below.setCell ?_ (by first | (simp; done) | (simp; omega) | omega) _))) ?_
      rintro e w1 ⟨hb1, x, y, rfl, hx, ho⟩
      have hfin := Lib.hid (MSP.no (w := w) ⟨h.toArray⟩ (below_step (hW0.out _) (Nat.le_refl _) hb1) (.inl rfl))
      clear hb1 ho
      rcases hx with rfl | ⟨ty, v, rfl⟩
      all_goals
        go_wp2_with fail
        go_ret2
        exact hfin.out

end Go.Proofs.YtjbfchmlhaidfaaDoor
