/- The methods 'dual' of programs. -/
import Derived.Test.YtcdagenocmmidaaDualP
namespace Go.Proofs.Ytcdagenocmmidaa
set_option linter.unusedVariables false
open Go.RowKit

/-- Each program's type answers with the dual. -/
def DUP (p : P) : Prop := ∀ (w : World) (D : Nat → Prop) (x : Value), PI w D p x → (∀ g, D g → g < w.heap.size) →
  Calls Try.prog (dualFn p) #[x] w fun e w' => ∃ y, e = .returned (.iface (pt p.dual) y) ∧ PI w' (New w.heap.size w') p.dual y ∧ Below w.heap.size w w'

set_option maxRecDepth 100000
theorem dualP_nm (s : Bs) (hs : isName s = true) : DUP (.nm s) := by
  intro w D x h _
  obtain ⟨c, d, rfl, rfl⟩ := h
  have hv := var_or hs
  have hsw := (swapB_name hs).2
  rw [show swapB (c :: d) = swapC c :: d from rfl] at hsw
  have hpi : ∀ w' : World, PI w' (New w.heap.size w') (P.nm (c :: d)).dual (nameV (swapC c) d) := fun w' => ⟨_, _, rfl, rfl⟩
  cases hf : firstIs varB (c :: d)
  · rw [show dualFn (.nm (c :: d)) = 131 from by simp [dualFn, mfn, hf]]
    have hpt : pt (P.nm (c :: d)).dual = 98 := by rw [P.dual, pt, show swapB (c :: d) = swapC c :: d from rfl, hsw, hf]; rfl
    rw [hpt]
    have hpi' := Lib.hid hpi
    clear hpi hsw hf hpt
    go_enter Try.func131, Try.ntmps131
    go_wp2_with (go_at_call 130; refine Calls.mono (swapped_any c d hv _) ?_; rintro e w1 ⟨rfl, hb1⟩)
    go_ret
    exact ⟨_, rfl, hpi'.out _, below_step (by repeat (with_reducible first | exact hbel | exact Below.refl _ _ | refine Below.drew ?_ | refine Below.drewN ?_ _ | refine Below.alloc ?_ (by first | (simp; done) | (simp; omega) | omega | (have := Below.size hbel; simp; omega) | (have := Below.size hbel; omega)) _ | refine Below.setCell ?_ (by first | (simp; done) | (simp; omega) | omega) _)) (by simp) hb1⟩
  · rw [show dualFn (.nm (c :: d)) = 128 from by simp [dualFn, mfn, hf]]
    have hpt : pt (P.nm (c :: d)).dual = 99 := by rw [P.dual, pt, show swapB (c :: d) = swapC c :: d from rfl, hsw, hf]; rfl
    rw [hpt]
    have hpi' := Lib.hid hpi
    clear hpi hsw hf hpt
    go_enter Try.func128, Try.ntmps128
    go_wp2_with (go_at_call 130; refine Calls.mono (swapped_any c d hv _) ?_; rintro e w1 ⟨rfl, hb1⟩)
    go_ret
    exact ⟨_, rfl, hpi'.out _, below_step (by repeat (with_reducible first | exact hbel | exact Below.refl _ _ | refine Below.drew ?_ | refine Below.drewN ?_ _ | refine Below.alloc ?_ (by first | (simp; done) | (simp; omega) | omega | (have := Below.size hbel; simp; omega) | (have := Below.size hbel; omega)) _ | refine Below.setCell ?_ (by first | (simp; done) | (simp; omega) | omega) _)) (by simp) hb1⟩

theorem dualP_bd (s : Bs) (b : P) (hs : isName s = true) (hb : Hid (DUP b)) : DUP (.bd s b) := by
  intro w D x h hD
  obtain ⟨c, d, y, rfl, rfl, hy⟩ := h
  have hv := var_or hs
  show Calls _ 133 _ _ _
  rw [show pt (P.bd (c :: d) b).dual = 123 from rfl]
  have mb := fun w => dual_m hy w
  have cb := fun x w => dual_c b x w
  have hy' := Lib.hid hy
  have hD' := Lib.hid hD
  have hS := three_kept w (.int .u8 c.toNat) (str d) (.iface (pt b) y) 123
  clear hy hD hs
  go_enter Try.func133, Try.ntmps133
  go_wp2_with fail
  go_region_held3 (fun w' => w'.cell? ⟨w.heap.size, 0, none⟩ = some (.int .u8 c.toNat) ∧ w'.cell? ⟨w.heap.size, 1, none⟩ = some (str d) ∧ w'.cell? ⟨w.heap.size, 2, none⟩ = some (.iface (pt b) y))
    (first | exact keep0 hS.out | exact keep1 hS.out hb1 | exact keep1 hS.out hb2 | exact keep2 hS.out hb1 hb2 | exact keep2 hS.out hb2 hb1)
    (first
      | (go_at_call 130; refine Calls.mono (swapped_any c d hv _) ?_; rintro e w1 ⟨rfl, hb1⟩)
      | (refine Calls.mono (hb.out _ D _ (hy'.out.below (by repeat (with_reducible first | exact hbel | exact Below.refl _ _ | refine Below.drew ?_ | refine Below.drewN ?_ _ | refine Below.alloc ?_ (by first | (simp; done) | (simp; omega) | omega | (have := Below.size hbel; simp; omega) | (have := Below.size hbel; omega)) _ | refine Below.setCell ?_ (by first | (simp; done) | (simp; omega) | omega) _)) hD'.out) (fun g hg => by have := hD'.out g hg; simp; omega)) ?_; rintro e w2 ⟨z, rfl, hz, hb2⟩)
      | (refine Calls.mono (hb.out _ D _ (hy'.out.below (below_step (by repeat (with_reducible first | exact hbel | exact Below.refl _ _ | refine Below.drew ?_ | refine Below.drewN ?_ _ | refine Below.alloc ?_ (by first | (simp; done) | (simp; omega) | omega | (have := Below.size hbel; simp; omega) | (have := Below.size hbel; omega)) _ | refine Below.setCell ?_ (by first | (simp; done) | (simp; omega) | omega) _)) (by simp) hb1) hD'.out) (fun g hg => Nat.lt_of_lt_of_le (hD'.out g hg) (below_step (by repeat (with_reducible first | exact hbel | exact Below.refl _ _ | refine Below.drew ?_ | refine Below.drewN ?_ _ | refine Below.alloc ?_ (by first | (simp; done) | (simp; omega) | omega | (have := Below.size hbel; simp; omega) | (have := Below.size hbel; omega)) _ | refine Below.setCell ?_ (by first | (simp; done) | (simp; omega) | omega) _)) (by simp) hb1 : Below w.heap.size w _).size)) ?_; rintro e w2 ⟨z, rfl, hz, hb2⟩))
  go_wp2_with fail
  go_ret
  have hbw : Below w.heap.size w w1 := below_step ((Below.refl _ _).alloc (Nat.le_refl _) _).drew (by simp) hb1
  exact ⟨_, rfl, ⟨_, _, _, rfl, rfl, hz.to (fun g hg => ⟨Nat.le_trans hbw.size hg.1, hg.2⟩)⟩, below_step hbw (Nat.le_refl _) hb2⟩

/-- Block g holds u and v at its first two places; all else is as in w. -/
structure Two (w : World) (g : Nat) (u v : Value) (W : World) : Prop where
  c0 : W.cell? ⟨g, 0, none⟩ = some u
  c1 : W.cell? ⟨g, 1, none⟩ = some v
  f0 : W.frozen? ⟨g, 0, none⟩ = false
  f1 : W.frozen? ⟨g, 1, none⟩ = false
  lt : g < W.heap.size
  grown : w.grownBy W (some g)
theorem Two.drew {w W : World} {g : Nat} {u v : Value} (h : Two w g u v W) : Two w g u v W.drew := ⟨h.c0, h.c1, h.f0, h.f1, h.lt, ⟨h.grown.os, h.grown.tape, h.grown.output, h.grown.size, h.grown.block⟩⟩
theorem two_set {w W : World} {g : Nat} {u v x y : Value} (h : Two w g u v W) : Two w g x y ((W.setCell ⟨g, 0, none⟩ x).setCell ⟨g, 1, none⟩ y) := by
  have hc : (W.setCell ⟨g, 0, none⟩ x).cell? ⟨g, 1, none⟩ = some v := (World.cell?_setCell_other W ⟨g, 0, none⟩ ⟨g, 1, none⟩ x (by simp)).trans h.c1
  refine ⟨?_, World.cell?_setCell_same _ _ _ hc, ?_, ?_, by simpa using h.lt, ⟨h.grown.os, h.grown.tape, h.grown.output, by simpa using h.grown.size, fun k hk hne => ?_⟩⟩
  · rw [World.cell?_setCell_other _ ⟨g, 1, none⟩ ⟨g, 0, none⟩ y (by simp)]
    exact World.cell?_setCell_same _ _ _ h.c0
  · rw [World.frozen?_setCell, World.frozen?_setCell]; exact h.f0
  · rw [World.frozen?_setCell, World.frozen?_setCell]; exact h.f1
  · rw [same_set _ _ _ _ _ (fun e => hne (by rw [e])), h.grown.block k hk hne]
theorem two_set' {w W : World} {g : Nat} {u v x y : Value} (h : Two w g u v W) : Two w g x y ((W.setCell ⟨g, 1, none⟩ y).setCell ⟨g, 0, none⟩ x) := by
  have hc : (W.setCell ⟨g, 1, none⟩ y).cell? ⟨g, 0, none⟩ = some u := (World.cell?_setCell_other W ⟨g, 1, none⟩ ⟨g, 0, none⟩ y (by simp)).trans h.c0
  refine ⟨World.cell?_setCell_same _ _ _ hc, ?_, ?_, ?_, by simpa using h.lt, ⟨h.grown.os, h.grown.tape, h.grown.output, by simpa using h.grown.size, fun k hk hne => ?_⟩⟩
  · rw [World.cell?_setCell_other _ ⟨g, 0, none⟩ ⟨g, 1, none⟩ x (by simp)]
    exact World.cell?_setCell_same _ _ _ h.c1
  · rw [World.frozen?_setCell, World.frozen?_setCell]; exact h.f0
  · rw [World.frozen?_setCell, World.frozen?_setCell]; exact h.f1
  · rw [Below.heap_setCell _ _ _ _ (fun e => hne (by rw [e])), Below.heap_setCell _ _ _ _ (fun e => hne (by rw [e])), h.grown.block k hk hne]

set_option maxHeartbeats 1000000 in
theorem reverse2_any (g cap : Nat) (tu tv : TypeId) (xu xv : Value) (w : World) (h : Two w g (.iface tu xu) (.iface tv xv) w) :
    Calls Try.prog 159 #[.slice (some ⟨g, 0, none⟩) 2 cap] w fun e w' => (∃ r, e = .returned r) ∧ Two w g (.iface tv xv) (.iface tu xu) w' := by
  have h' := Lib.hid h
  clear h
  go_enter Try.func159, Try.ntmps159
  go_wp2_with fail
  go_loopw [2, 3] (fun i j wr => (i = .int .i64 0 ∧ j = .int .i64 1 ∧ Two w g (.iface tu xu) (.iface tv xv) wr) ∨ (i = .int .i64 1 ∧ j = .int .i64 0 ∧ Two w g (.iface tv xv) (.iface tu xu) wr)) (fun i _ _ => 1 - (intOf i).toNat)
  case atStart => exact .inl ⟨rfl, rfl, h'.out⟩
  case round =>
    rcases hrel with ⟨rfl, rfl, ht⟩ | ⟨rfl, rfl, ht⟩
    · have ht' := Lib.hid ht
      obtain ⟨c0, c1, f0, f1, hl, -⟩ := ht
      go_wp2_with fail
      go_region
      all_goals
        go_wp2_with fail
        exact ⟨.inr ⟨rfl, rfl, (two_set ht'.out).drew⟩, by decide⟩
    · have ht' := Lib.hid ht
      clear ht
      go_wp2_with fail
      exact ⟨rfl, .tuple #[], by simp [results, Try.results159, go_sem], ⟨_, rfl⟩, ht'.out⟩

end Go.Proofs.Ytcdagenocmmidaa
