/- Texts that are formulas: impl.readFormula, spec.l1Formula; FormulaValid, FormulaSize. -/
import Derived.Test.YtagafoldkfgikaaSize
import Derived.Test.YtagafoldkfgikaaSpecForm
namespace Go.Proofs.Ytagafoldkfgikaa
set_option linter.unusedVariables false
open Go.RowKit

/-- What impl.readFormula hands back. -/
def RFPost (s : Bs) (w : World) (e : Ending) (w' : World) : Prop :=
  Below w.heap.size w w' ∧ e = .returned (.tuple #[fvO (readF s), .bool (readF s).isSome])

/-- What spec.l1Formula hands back. -/
def SFPost (s : Bs) (w : World) (e : Ending) (w' : World) : Prop :=
  Below w.heap.size w w' ∧
    ((∃ f a p l c, readF s = some f ∧ e = .returned (.tuple #[.agg #[.string a, .slice p l c], .bool true]) ∧ TC w' (New w.heap.size w') f.tree a p l c) ∨
     (∃ a p l c, readF s = none ∧ e = .returned (.tuple #[.agg #[.string a, .slice p l c], .bool false])))

theorem readFormula_any (s : ByteArray) (w : World) : Calls Try.prog 22 #[.string s] w (RFPost s.data.toList w) := by
  have no : ∀ w', readF s.data.toList = none → Below w.heap.size w w' → RFPost s.data.toList w (.returned (.tuple #[.nilIface, .bool false])) w' := fun w' h hb => ⟨hb, by rw [h]; rfl⟩
  have yes : ∀ f w', readF s.data.toList = some f → Below w.heap.size w w' → RFPost s.data.toList w (.returned (.tuple #[fv f, .bool true])) w' := fun f w' h hb => ⟨hb, by rw [h]; rfl⟩
  have no' := Lib.hid no
  have yes' := Lib.hid yes
  clear no yes
  go_enter Try.func22, Try.ntmps22
  go_wp2_with fail
  refine (readText_any s _).mono ?_
  rintro e w1 ⟨hb1, hp⟩
  have hb1' := Lib.hid hb1
  rcases hp with ⟨t, a, p, l, c, hrd, rfl, htc⟩ | ⟨a, p, l, c, hrd, rfl⟩
  · have hrd' := Lib.hid hrd
    have htc' := Lib.hid htc
    have hsz := readT_sz hrd
    clear hrd htc hb1
    cases hf : toF t with
    | none =>
      have hf' := Lib.hid hf
      have hno := Lib.hid (show readF s.data.toList = none from by rw [readF, hrd'.out]; simp only; rw [hf])
      clear hf
      go_wp2_with fail
      refine (MF.not (makeFormula_all 9000) hf'.out _ (by omega) (htc'.out.below (by repeat (with_reducible first | exact hbel | exact Below.refl _ _ | refine Below.drew ?_ | refine Below.drewN ?_ _ | refine Below.alloc ?_ (by first | (simp; done) | (simp; omega) | omega | (have := Below.size hbel; simp; omega) | (have := Below.size hbel; omega)) _ | refine Below.setCell ?_ (by first | (simp; done) | (simp; omega) | omega) _)) (fun g hg => hg.2)) (fun g hg => by have := hg.2; simp; omega)).mono ?_
      rintro e w2 ⟨rfl, hb2⟩
      go_wp2_with fail
      go_ret2
      exact no'.out _ hno.out (below_step (below_step (Below.refl _ _) (Nat.le_refl _) hb1'.out) (Nat.le_refl _) (Below.trans (Below.alloc (Below.refl _ _) (Nat.le_refl _) _) (hb2.mono (by simp))))
    | some f =>
      have hf' := Lib.hid hf
      have hsz2 : f.size ≤ 9000 := by
        have h1 := T.atoms_sz t
        rw [(toF_tree hf).1, F.atoms_tree, ← (toF_tree hf).1] at h1
        omega
      have hm := fun w => size_method f w
      have hc := fun x w => size_call f x w
      by_cases h60 : f.size ≤ 60
      · have hyes := Lib.hid (show readF s.data.toList = some f from by rw [readF, hrd'.out]; simp only; rw [hf]; simp only; rw [if_pos h60])
        clear hf
        go_wp2_with fail
        refine (MF.yes (makeFormula_all 9000) hf'.out _ (by omega) (htc'.out.below (by repeat (with_reducible first | exact hbel | exact Below.refl _ _ | refine Below.drew ?_ | refine Below.drewN ?_ _ | refine Below.alloc ?_ (by first | (simp; done) | (simp; omega) | omega | (have := Below.size hbel; simp; omega) | (have := Below.size hbel; omega)) _ | refine Below.setCell ?_ (by first | (simp; done) | (simp; omega) | omega) _)) (fun g hg => hg.2)) (fun g hg => by have := hg.2; simp; omega)).mono ?_
        rintro e w2 ⟨rfl, hb2⟩
        go_wp2_with (refine Calls.mono (size_any f hsz2 _) ?_; rintro e w3 ⟨rfl, hb3⟩)
        go_ret2
        exact yes'.out _ _ hyes.out (below_step (below_step (below_step (Below.refl _ _) (Nat.le_refl _) hb1'.out) (Nat.le_refl _) (Below.trans (Below.alloc (Below.refl _ _) (Nat.le_refl _) _) (hb2.mono (by simp)))) (Nat.le_refl _) hb3)
      · have hno := Lib.hid (show readF s.data.toList = none from by rw [readF, hrd'.out]; simp only; rw [hf]; simp only; rw [if_neg h60])
        clear hf
        go_wp2_with fail
        refine (MF.yes (makeFormula_all 9000) hf'.out _ (by omega) (htc'.out.below (by repeat (with_reducible first | exact hbel | exact Below.refl _ _ | refine Below.drew ?_ | refine Below.drewN ?_ _ | refine Below.alloc ?_ (by first | (simp; done) | (simp; omega) | omega | (have := Below.size hbel; simp; omega) | (have := Below.size hbel; omega)) _ | refine Below.setCell ?_ (by first | (simp; done) | (simp; omega) | omega) _)) (fun g hg => hg.2)) (fun g hg => by have := hg.2; simp; omega)).mono ?_
        rintro e w2 ⟨rfl, hb2⟩
        go_wp2_with (refine Calls.mono (size_any f hsz2 _) ?_; rintro e w3 ⟨rfl, hb3⟩)
        go_ret2
        exact no'.out _ hno.out (below_step (below_step (below_step (Below.refl _ _) (Nat.le_refl _) hb1'.out) (Nat.le_refl _) (Below.trans (Below.alloc (Below.refl _ _) (Nat.le_refl _) _) (hb2.mono (by simp)))) (Nat.le_refl _) hb3)
  · have hno := Lib.hid (show readF s.data.toList = none from by rw [readF, hrd])
    clear hb1 hrd
    go_wp2_with fail
    go_ret2
    have hbel := hb1'.out
    exact no'.out _ hno.out (by repeat (with_reducible first | exact hbel | exact Below.refl _ _ | refine Below.drew ?_ | refine Below.drewN ?_ _ | refine Below.alloc ?_ (by first | (simp; done) | (simp; omega) | omega | (have := Below.size hbel; simp; omega) | (have := Below.size hbel; omega)) _ | refine Below.setCell ?_ (by first | (simp; done) | (simp; omega) | omega) _))

set_option maxHeartbeats 4000000 in
theorem l1Formula_any (s : ByteArray) (w : World) : Calls Try.prog 18 #[.string s] w (SFPost s.data.toList w) := by
  go_enter Try.func18, Try.ntmps18
  go_wp2_with fail
  refine (l1Parse_any s _).mono ?_
  rintro e w1 ⟨hb1, hp⟩
  obtain ⟨z0, r0, r1, f0, f1⟩ := two_cells ((hb1.block w.heap.size (by simp)).trans (heap_alloc_new w _))
  have hb1' := Lib.hid (below_step ((Below.refl _ _).alloc (Nat.le_refl _) _) (by simp) hb1 : Below w.heap.size w w1)
  clear hb1
  rcases hp with ⟨t, a, p, l, c, hrd, rfl, htc⟩ | ⟨a, p, l, c, hrd, rfl⟩
  · have hrd' := Lib.hid hrd
    have htc' := Lib.hid htc
    have hsz := readT_sz hrd
    have hatm : t.atoms ≤ 9000 := by have := t.atoms_sz; omega
    clear hrd htc
    have hS : Hid (∀ W', Below (w1.heap.size + 1) (w1.alloc (.cells #[.string a, .slice p l c] 32)) W' →
        W'.cell? ⟨w1.heap.size, 0, none⟩ = some (.string a) ∧ W'.cell? ⟨w1.heap.size, 1, none⟩ = some (.slice p l c) ∧
          W'.cell? ⟨w.heap.size, 0, none⟩ = some (.string ⟨#[]⟩) ∧ W'.cell? ⟨w.heap.size, 1, none⟩ = some (.slice none 0 0) ∧ W'.frozen? ⟨w.heap.size, 0, none⟩ = false ∧ W'.frozen? ⟨w.heap.size, 1, none⟩ = false) := by
      intro W' hb
      obtain ⟨k0, k1⟩ := (two_kept w1 (.string a) (.slice p l c) 32).out W' hb
      have hc : ∀ o, W'.cell? ⟨w.heap.size, o, none⟩ = w1.cell? ⟨w.heap.size, o, none⟩ := fun o => (hb.cell (p := ⟨w.heap.size, o, none⟩) (by simp; omega)).trans (World.cell?_alloc_lt w1 _ ⟨w.heap.size, o, none⟩ z0)
      have hf : ∀ o, W'.frozen? ⟨w.heap.size, o, none⟩ = w1.frozen? ⟨w.heap.size, o, none⟩ := fun o => (hb.frozen (p := ⟨w.heap.size, o, none⟩) (by simp; omega)).trans (World.frozen?_of_block (a := ⟨w.heap.size, o, none⟩) (Below.heap_alloc w1 _ _ z0))
      exact ⟨k0, k1, (hc 0).trans r0, (hc 1).trans r1, (hf 0).trans f0, (hf 1).trans f1⟩
    cases hit : isT t
    · have hit' := Lib.hid hit
      have hno := Lib.hid (show readF s.data.toList = none from by rw [readF, hrd'.out]; simp only; unfold isT at hit; cases hf : toF t with | none => rfl | some f => rw [hf] at hit; cases hit)
      go_wp2_with fail
      obtain ⟨k0, k1, k2, k3, k4, k5⟩ := hS.out _ (Below.refl _ _)
      go_region_with (first | (go_at_call 35; refine (is_bool false hit'.out _ (by omega) (htc'.out.below ?_ (fun g hg => hg.2)) (fun g hg => ?_)).mono ?_; exact ((Below.refl _ _).alloc (Nat.le_refl _) _).drew; (have := hg.2; simp; omega); rintro e w2 ⟨rfl, hb2⟩; obtain ⟨m0, m1, m2, m3, m4, m5⟩ := keep1 hS.out hb2; have hz2 : w1.heap.size < w2.heap.size := by have := hb2.size; simp at this; omega))
      all_goals
        go_wp2_with fail
        refine bodyPost_ret (v := .tuple #[.agg #[.string a, .slice p l c], .bool false]) (by simp [results, Try.results18, go_sem, m2, m3]) rfl ?_
        have hbel : Below w.heap.size w w2 := below_step hb1'.out (Nat.le_refl _) (below_step ((Below.refl _ _).alloc (Nat.le_refl _) _).drew (by simp) hb2)
        exact ⟨(by repeat (with_reducible first | exact hbel | exact Below.refl _ _ | refine Below.drew ?_ | refine Below.drewN ?_ _ | refine Below.alloc ?_ (by first | (simp; done) | (simp; omega) | omega | (have := Below.size hbel; simp; omega) | (have := Below.size hbel; omega)) _ | refine Below.setCell ?_ (by first | (simp; done) | (simp; omega) | omega) _)), .inr ⟨_, _, _, _, hno.out, rfl⟩⟩
    · have hit' := Lib.hid hit
      go_wp2_with fail
      have hS2 := two_kept w1 (.string a) (.slice p l c) 32
      go_region_held3 (fun w' => w'.cell? ⟨w1.heap.size, 0, none⟩ = some (.string a) ∧ w'.cell? ⟨w1.heap.size, 1, none⟩ = some (.slice p l c))
        (first | exact keep0 hS2.out | exact keep1 hS2.out hb1 | exact keep2 hS2.out hb1 hb2 | exact keep_set ⟨m0, m1⟩ (by omega))
        (first
          | (go_at_call 35; refine (is_bool true hit'.out _ (by omega) (htc'.out.below ?_ (fun g hg => hg.2)) (fun g hg => ?_)).mono ?_; exact ((Below.refl _ _).alloc (Nat.le_refl _) _).drew; (have := hg.2; simp; omega); rintro e w2 ⟨rfl, hb1⟩)
          | (go_at_call 19; refine (atoms_all 9000 (by omega) t _ _ a p l c (by omega) (htc'.out.below ?_ (fun g hg => hg.2)) (fun g hg => ?_)).mono ?_; exact below_step ((Below.refl _ _).alloc (Nat.le_refl _) _).drew (by simp) hb1; (have := hg.2; have := hb1.size; simp at *; omega); rintro e w3 ⟨rfl, hb2⟩; obtain ⟨m0, m1, m2, m3, m4, m5⟩ := keep2 hS.out hb1 hb2; have hz3 : w1.heap.size < w3.heap.size := by have := hb1.size; have := hb2.size; simp at *; omega))
      have hsome : ∃ f, toF t = some f := by
        have h := hit'.out
        unfold isT at h
        cases hf : toF t with
        | none => rw [hf] at h; cases h
        | some f => exact ⟨f, rfl⟩
      obtain ⟨f, hf⟩ := hsome
      have htree := toF_tree hf
      have hsz3 : t.atoms = f.size := by rw [htree.1, F.atoms_tree]
      have hb13 : Below w1.heap.size w1 w3 := below_step (below_step ((Below.refl _ _).alloc (Nat.le_refl _) _).drew (by simp) hb1) (by simp) hb2
      go_wp2_with fail
      refine bodyPost_ret (v := .tuple #[.agg #[.string a, .slice p l c], .bool (decide ((t.atoms : Int) ≤ 60))]) (by simp [results, Try.results18, go_sem, m2, m3]) rfl ?_
      have hbel : Below w.heap.size w w3 := below_step hb1'.out (Nat.le_refl _) hb13
      refine ⟨(by repeat (with_reducible first | exact hbel | exact Below.refl _ _ | refine Below.drew ?_ | refine Below.drewN ?_ _ | refine Below.alloc ?_ (by first | (simp; done) | (simp; omega) | omega | (have := Below.size hbel; simp; omega) | (have := Below.size hbel; omega)) _ | refine Below.setCell ?_ (by first | (simp; done) | (simp; omega) | omega) _)), ?_⟩
      by_cases h60 : f.size ≤ 60
      · refine .inl ⟨f, a, p, l, c, by rw [readF, hrd'.out]; simp only; rw [hf]; simp only; rw [if_pos h60], by rw [hsz3, decide_eq_true (by omega)], ?_⟩
        rw [← htree.1]
        refine TC.keep (fun g hg => ?_) (fun g hg => ?_) _ _ _ _ _ htc'.out
        · exact (same_set w3 w.heap.size _ _ g (by have := hg.1; simp at this; omega)).trans (hb13.block g hg.2)
        · have h1 := hg.1; have h2 := hg.2; have h3 := hb13.size
          simp at h1
          exact ⟨by omega, by simp; omega⟩
      · exact .inr ⟨a, p, l, c, by rw [readF, hrd'.out]; simp only; rw [hf]; simp only; rw [if_neg h60], by rw [hsz3, decide_eq_false (by omega)]⟩
  · have hno := Lib.hid (show readF s.data.toList = none from by rw [readF, hrd])
    clear hrd
    go_wp2_with fail
    go_region
    go_wp2_with fail
    refine bodyPost_ret (v := .tuple #[.agg #[.string a, .slice p l c], .bool false]) (by simp [results, Try.results18, go_sem, r0, r1, z0]) rfl ?_
    have hbel := hb1'.out
    exact ⟨(by repeat (with_reducible first | exact hbel | exact Below.refl _ _ | refine Below.drew ?_ | refine Below.drewN ?_ _ | refine Below.alloc ?_ (by first | (simp; done) | (simp; omega) | omega | (have := Below.size hbel; simp; omega) | (have := Below.size hbel; omega)) _ | refine Below.setCell ?_ (by first | (simp; done) | (simp; omega) | omega) _)), .inr ⟨_, _, _, _, hno.out, rfl⟩⟩

end Go.Proofs.Ytagafoldkfgikaa
