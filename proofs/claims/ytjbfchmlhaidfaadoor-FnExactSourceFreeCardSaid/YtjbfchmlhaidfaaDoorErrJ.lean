/- errors.Join of two errors. -/
import Derived.Test.YtjbfchmlhaidfaaDoorErrA
import Derived.Test.YtjbfchmlhaidfaaDoorRowA
namespace Go.Proofs.YtjbfchmlhaidfaaDoor
set_option linter.unusedVariables false
open Go.RowKit Go.Extern.Stop Go.Stop Go.Extern
set_option maxRecDepth 100000

theorem infoError : (Tryd.prog.info? 86).map (fun i => (i.zero, i.size, i.bytes)) = some (some .nilIface, 1, 16) := by kernel_rfl

theorem mk_one (w : World) : (Instr.makeSlice 177 (.int .i64 0) (.int .i64 1)).run Tryd.prog w = .ok (.slice (some ⟨w.heap.size, 0, none⟩) 0 1) (w.alloc (.cells #[.nilIface] 86)) := by
  obtain ⟨i0, hi0, hz0, hz1, hz2⟩ := info_parts infoError
  have h := run_makeSlice (P := Tryd.prog) (w := w) 177 86 i0 .nilIface Tryd.underlying177 hi0 hz0 .i64 .i64 0 1 (by omega) (by omega) (by rw [hz1]; decide) (by rw [hz2]; decide) (by omega)
  rw [hz1, show madeCells Value.nilIface.cells (Int.toNat 1 * 1) = #[.nilIface] from by kernel_rfl] at h
  exact h
theorem mk_two (w : World) : (Instr.makeSlice 177 (.int .i64 0) (.int .i64 2)).run Tryd.prog w = .ok (.slice (some ⟨w.heap.size, 0, none⟩) 0 2) (w.alloc (.cells #[.nilIface, .nilIface] 86)) := by
  obtain ⟨i0, hi0, hz0, hz1, hz2⟩ := info_parts infoError
  have h := run_makeSlice (P := Tryd.prog) (w := w) 177 86 i0 .nilIface Tryd.underlying177 hi0 hz0 .i64 .i64 0 2 (by omega) (by omega) (by rw [hz1]; decide) (by rw [hz2]; decide) (by omega)
  rw [hz1, show madeCells Value.nilIface.cells (Int.toNat 2 * 1) = #[.nilIface, .nilIface] from by kernel_rfl] at h
  exact h

theorem join_nil (q c : Nat) (w : World) (h0 : w.cell? ⟨q, 0, none⟩ = some .nilIface) (h1 : w.cell? ⟨q, 1, none⟩ = some .nilIface) :
    Calls Tryd.prog 82 #[.slice (some ⟨q, 0, none⟩) 2 c] w fun e w' => e = .returned .nilIface ∧ w' = w := by
  go_enter Tryd.func82, Tryd.ntmps82
  go_wp2_with fail
  refine wp_loop_rounds 3 ?_
  rw [rounds_succ]
  go_wp2_with fail
  rw [rounds_succ]
  go_wp2_with fail
  rw [rounds_succ]
  go_wp2_with fail
  go_ret
  exact ⟨rfl, rfl⟩

set_option maxHeartbeats 4000000 in
theorem join_one (q c : Nat) (ty : TypeId) (v : Value) (w : World) (h0 : w.cell? ⟨q, 0, none⟩ = some (.iface ty v)) (h1 : w.cell? ⟨q, 1, none⟩ = some (.nilIface)) :
    Calls Tryd.prog 82 #[.slice (some ⟨q, 0, none⟩) 2 c] w fun e w' => ∃ g h n c, e = .returned (.iface 186 (.pointer (some ⟨g, 0, none⟩))) ∧ Below w.heap.size w w' ∧ w.heap.size ≤ g ∧ w.heap.size ≤ h ∧ h < w'.heap.size ∧ g < w'.heap.size ∧ w'.cell? ⟨g, 0, none⟩ = some (.slice (some ⟨h, 0, none⟩) (n + 1) c) ∧ w'.cell? ⟨h, 0, none⟩ = some (.iface ty v) := by
  have hmk := mk_one
  have hql : q < w.heap.size := World.lt_of_cell (a := ⟨q, 0, none⟩) h0
  have rd1 := fun A B C => (World.cell?_alloc_lt ((w.alloc A).alloc B) C ⟨q, 1, none⟩ (by simp; omega)).trans ((World.cell?_alloc_lt (w.alloc A) B ⟨q, 1, none⟩ (by simp; omega)).trans ((World.cell?_alloc_lt w A ⟨q, 1, none⟩ hql).trans h1))
  go_enter Tryd.func82, Tryd.ntmps82
  go_wp2_with fail
  refine wp_loop_rounds 3 ?_
  rw [rounds_succ]
  go_wp2_with fail
  rw [rounds_succ]
  go_wp2_with fail
  rw [rounds_succ]
  go_wp2_with fail
  refine wp_loop_rounds 3 ?_
  rw [rounds_succ]
  go_wp2_with fail
  rw [rounds_succ]
  go_wp2_with fail
  rw [rounds_succ]
  go_wp2_with fail
  go_ret
  refine ⟨w.heap.size + 1, w.heap.size, 0, 1, rfl, (by repeat (with_reducible first | exact hbel | exact Below.refl _ _ | refine Below.drew ?_ | refine Below.drewN ?_ _ | refine Below.alloc ?_ (by first | (simp; done) | (simp; omega) | omega | (have := Below.size hbel; simp; omega) | (have := Below.size hbel; omega)) _ | refine Below.setCell ?_ (by first | (simp; done) | (simp; omega) | omega) _)), ?_, ?_, ?_, ?_, ?_, ?_⟩
  rotate_left 4
  · rw [World.cell?_alloc_lt _ _ ⟨w.heap.size + 1, 0, none⟩ (by simp), World.cell?_alloc_at _ _ _ _ (by simp)]; rfl
  · rw [World.cell?_alloc_lt _ _ ⟨w.heap.size, 0, none⟩ (by simp; omega), World.cell?_alloc_lt _ _ ⟨w.heap.size, 0, none⟩ (by simp), World.cell?_alloc_at _ _ _ _ rfl]; rfl
  all_goals (simp; try omega)

set_option maxHeartbeats 4000000 in
theorem join_snd (q c : Nat) (ty : TypeId) (v : Value) (w : World) (h0 : w.cell? ⟨q, 0, none⟩ = some (.nilIface)) (h1 : w.cell? ⟨q, 1, none⟩ = some (.iface ty v)) :
    Calls Tryd.prog 82 #[.slice (some ⟨q, 0, none⟩) 2 c] w fun e w' => ∃ g h n c, e = .returned (.iface 186 (.pointer (some ⟨g, 0, none⟩))) ∧ Below w.heap.size w w' ∧ w.heap.size ≤ g ∧ w.heap.size ≤ h ∧ h < w'.heap.size ∧ g < w'.heap.size ∧ w'.cell? ⟨g, 0, none⟩ = some (.slice (some ⟨h, 0, none⟩) (n + 1) c) ∧ w'.cell? ⟨h, 0, none⟩ = some (.iface ty v) := by
  have hmk := mk_one
  have hql : q < w.heap.size := World.lt_of_cell (a := ⟨q, 0, none⟩) h0
  have rd1 := fun A B C => (World.cell?_alloc_lt ((w.alloc A).alloc B) C ⟨q, 1, none⟩ (by simp; omega)).trans ((World.cell?_alloc_lt (w.alloc A) B ⟨q, 1, none⟩ (by simp; omega)).trans ((World.cell?_alloc_lt w A ⟨q, 1, none⟩ hql).trans h1))
  go_enter Tryd.func82, Tryd.ntmps82
  go_wp2_with fail
  refine wp_loop_rounds 3 ?_
  rw [rounds_succ]
  go_wp2_with fail
  rw [rounds_succ]
  go_wp2_with fail
  rw [rounds_succ]
  go_wp2_with fail
  refine wp_loop_rounds 3 ?_
  rw [rounds_succ]
  go_wp2_with fail
  rw [rounds_succ]
  go_wp2_with fail
  rw [rounds_succ]
  go_wp2_with fail
  go_ret
  refine ⟨w.heap.size + 1, w.heap.size, 0, 1, rfl, (by repeat (with_reducible first | exact hbel | exact Below.refl _ _ | refine Below.drew ?_ | refine Below.drewN ?_ _ | refine Below.alloc ?_ (by first | (simp; done) | (simp; omega) | omega | (have := Below.size hbel; simp; omega) | (have := Below.size hbel; omega)) _ | refine Below.setCell ?_ (by first | (simp; done) | (simp; omega) | omega) _)), ?_, ?_, ?_, ?_, ?_, ?_⟩
  rotate_left 4
  · rw [World.cell?_alloc_lt _ _ ⟨w.heap.size + 1, 0, none⟩ (by simp), World.cell?_alloc_at _ _ _ _ (by simp)]; rfl
  · rw [World.cell?_alloc_lt _ _ ⟨w.heap.size, 0, none⟩ (by simp; omega), World.cell?_alloc_lt _ _ ⟨w.heap.size, 0, none⟩ (by simp), World.cell?_alloc_at _ _ _ _ rfl]; rfl
  all_goals (simp; try omega)

set_option maxHeartbeats 4000000 in
theorem join_two (q c : Nat) (ty ty2 : TypeId) (v v2 : Value) (w : World) (h0 : w.cell? ⟨q, 0, none⟩ = some (.iface ty v)) (h1 : w.cell? ⟨q, 1, none⟩ = some (.iface ty2 v2)) :
    Calls Tryd.prog 82 #[.slice (some ⟨q, 0, none⟩) 2 c] w fun e w' => ∃ g h n c, e = .returned (.iface 186 (.pointer (some ⟨g, 0, none⟩))) ∧ Below w.heap.size w w' ∧ w.heap.size ≤ g ∧ w.heap.size ≤ h ∧ h < w'.heap.size ∧ g < w'.heap.size ∧ w'.cell? ⟨g, 0, none⟩ = some (.slice (some ⟨h, 0, none⟩) (n + 1) c) ∧ w'.cell? ⟨h, 0, none⟩ = some (.iface ty v) := by
  have hmk := mk_two
  have hql : q < w.heap.size := World.lt_of_cell (a := ⟨q, 0, none⟩) h0
  have rd1 := fun A B C => (World.cell?_alloc_lt ((w.alloc A).alloc B) C ⟨q, 1, none⟩ (by simp; omega)).trans ((World.cell?_alloc_lt (w.alloc A) B ⟨q, 1, none⟩ (by simp; omega)).trans ((World.cell?_alloc_lt w A ⟨q, 1, none⟩ hql).trans h1))
  go_enter Tryd.func82, Tryd.ntmps82
  go_wp2_with fail
  refine wp_loop_rounds 3 ?_
  rw [rounds_succ]
  go_wp2_with fail
  rw [rounds_succ]
  go_wp2_with fail
  rw [rounds_succ]
  go_wp2_with fail
  refine wp_loop_rounds 3 ?_
  rw [rounds_succ]
  go_wp2_with fail
  rw [rounds_succ]
  go_wp2_with fail
  rw [rounds_succ]
  go_wp2_with fail
  go_ret
  refine ⟨w.heap.size + 1, w.heap.size, 1, 2, rfl, (by repeat (with_reducible first | exact hbel | exact Below.refl _ _ | refine Below.drew ?_ | refine Below.drewN ?_ _ | refine Below.alloc ?_ (by first | (simp; done) | (simp; omega) | omega | (have := Below.size hbel; simp; omega) | (have := Below.size hbel; omega)) _ | refine Below.setCell ?_ (by first | (simp; done) | (simp; omega) | omega) _)), ?_, ?_, ?_, ?_, ?_, ?_⟩
  rotate_left 4
  · rw [World.cell?_alloc_lt _ _ ⟨w.heap.size + 1, 0, none⟩ (by simp), World.cell?_alloc_lt _ _ ⟨w.heap.size + 1, 0, none⟩ (by simp), World.cell?_alloc_at _ _ _ _ (by simp)]; rfl
  · rw [World.cell?_alloc_lt _ _ ⟨w.heap.size, 0, none⟩ (by simp; omega), World.cell?_alloc_lt _ _ ⟨w.heap.size, 0, none⟩ (by simp; omega), World.cell?_alloc_lt _ _ ⟨w.heap.size, 0, none⟩ (by simp), World.cell?_alloc_at _ _ _ _ rfl]; rfl
  all_goals (simp; try omega)

/-- An error that is none if that is right. -/
def EO (w : World) (D : Nat → Prop) : Bool → Value → Prop
  | true, e => e = .nilIface
  | false, e => EV w D e
theorem EO.keep {w w' : World} {D D' : Nat → Prop} {ok : Bool} {e : Value} (h : EO w D ok e) (hw : ∀ g, D g → w'.heap[g]? = w.heap[g]?) (hD : ∀ g, D g → D' g) : EO w' D' ok e := by
  cases ok with
  | true => exact h
  | false => exact EV.keep h hw hD

/-- What errors.Join hands back of two errors, of which the second or the first is none if that is right. -/
theorem join_any (q c : Nat) (e1 e2 : Value) (ok1 ok2 : Bool) (w : World) (D : Nat → Prop) (h1 : EO w D ok1 e1) (h2 : EO w D ok2 e2) (hD : ∀ g, D g → g < w.heap.size) (c0 : w.cell? ⟨q, 0, none⟩ = some e1) (c1 : w.cell? ⟨q, 1, none⟩ = some e2) :
    Calls Tryd.prog 82 #[.slice (some ⟨q, 0, none⟩) 2 c] w fun e w' => ∃ x, e = .returned x ∧ Below w.heap.size w w' ∧ EO w' (fun g => D g ∨ (w.heap.size ≤ g ∧ g < w'.heap.size)) (ok1 && ok2) x := by
  have fin : ∀ (e1 : Value), EV w D e1 → ∀ (e : Ending) (w' : World), (∃ g h n c, e = .returned (.iface 186 (.pointer (some ⟨g, 0, none⟩))) ∧ Below w.heap.size w w' ∧ w.heap.size ≤ g ∧ w.heap.size ≤ h ∧ h < w'.heap.size ∧ g < w'.heap.size ∧ w'.cell? ⟨g, 0, none⟩ = some (.slice (some ⟨h, 0, none⟩) (n + 1) c) ∧ w'.cell? ⟨h, 0, none⟩ = some e1) →
      ∃ x, e = .returned x ∧ Below w.heap.size w w' ∧ EV w' (fun g => D g ∨ (w.heap.size ≤ g ∧ g < w'.heap.size)) x := by
    rintro e1 he e w' ⟨g, h, n, c, rfl, hb, hg, hh, hh', hg', k0, k1⟩
    exact ⟨_, rfl, hb, .join g h n c e1 (.inr ⟨hg, hg'⟩) (.inr ⟨hh, hh'⟩) k0 k1 (he.keep (fun g hg => hb.block g (hD g hg)) (fun g hg => .inl hg))⟩
  cases ok1 with
  | true =>
    have e := (show e1 = .nilIface from h1)
    subst e
    cases ok2 with
    | true =>
      have e := (show e2 = .nilIface from h2)
      subst e
      refine (join_nil q c w c0 c1).mono ?_
      rintro e w' ⟨rfl, rfl⟩
      exact ⟨_, rfl, Below.refl _ _, rfl⟩
    | false =>
      have he : EV w D e2 := h2
      obtain ⟨ty, v, rfl⟩ := he.form
      exact (join_snd q c ty v w c0 c1).mono (fin _ he)
  | false =>
    have he : EV w D e1 := h1
    obtain ⟨ty, v, rfl⟩ := he.form
    cases ok2 with
    | true =>
      have e := (show e2 = .nilIface from h2)
      subst e
      exact (join_one q c ty v w c0 c1).mono (fin _ he)
    | false =>
      have he2 : EV w D e2 := h2
      obtain ⟨ty2, v2, rfl⟩ := he2.form
      exact (join_two q c ty ty2 v v2 w c0 c1).mono (fin _ he)

end Go.Proofs.YtjbfchmlhaidfaaDoor
