/- spec.l6sRead. -/
import Derived.Test.YtchkmdagbjbcjaaGreatDoorIsS
import Derived.Test.YtchkmdagbjbcjaaGreatDoorText
import Derived.Deep.RegionWith
import Derived.Deep.RegionHeld3
namespace Go.Proofs.YtchkmdagbjbcjaaGreatDoor
set_option linter.unusedVariables false
open Go.RowKit
set_option maxRecDepth 100000

theorem TC.upS {w : World} {lo lo' : Nat} {t : T} {a : ByteArray} {p : Option Addr} {n c : Nat} (h : TC w (New lo' w) t a p n c) (hl : lo ≤ lo') : TC w (New lo w) t a p n c :=
  TC.keep (fun _ _ => rfl) (fun g hg => ⟨Nat.le_trans hl hg.1, hg.2⟩) _ _ _ _ _ h

theorem setTwo {w : World} {b : Nat} {x0 y0 x y : Value} {E : TypeId} (h : w.heap[b]? = some (.cells #[x0, y0] E (0, 0))) : ((w.setCell ⟨b, 0, none⟩ x).setCell ⟨b, 1, none⟩ y).heap[b]? = some (.cells #[x, y] E (0, 0)) := by
  simp [World.setCell, Array.getElem?_modify, h]

theorem heap_setTwo {W : World} {r g : Nat} {x y : Value} (h : g ≠ r) : ((W.setCell ⟨r, 0, none⟩ x).setCell ⟨r, 1, none⟩ y).heap[g]? = W.heap[g]? := by
  simp [World.setCell, Array.getElem?_modify, Ne.symm h]
theorem tc_kept {w1 W : World} {r : Nat} {t : T} {a : ByteArray} {p : Option Addr} {n c : Nat} {x y : Value} (h : TC w1 (New (r + 1) w1) t a p n c) (hb : Below w1.heap.size w1 W) :
    TC ((W.setCell ⟨r, 0, none⟩ x).setCell ⟨r, 1, none⟩ y) (New r ((W.setCell ⟨r, 0, none⟩ x).setCell ⟨r, 1, none⟩ y)) t a p n c :=
  TC.keep (fun g hg => (heap_setTwo (by have := hg.1; omega)).trans (hb.block g hg.2)) (fun g hg => ⟨Nat.le_of_succ_le hg.1, by have := hg.2; have := hb.size; simp; omega⟩) _ _ _ _ _ h

/-- What l6sRead answers. -/
def SRdPost (s : Bs) (w : World) (e : Ending) (w' : World) : Prop :=
  Below w.heap.size w w' ∧ ((∃ m a A n c, readSrc s = some m ∧ e = .returned (.tuple #[.agg #[.string a, .slice A n c], .bool true]) ∧ TC w' (New w.heap.size w') m.tree a A n c) ∨
    (∃ a A n c, readSrc s = none ∧ e = .returned (.tuple #[.agg #[.string a, .slice A n c], .bool false])))

set_option maxHeartbeats 2000000 in
theorem l6sRead_any (s : ByteArray) (w : World) : Calls Tryz.prog 20 #[.string s] w (SRdPost s.data.toList w) := by
  go_enter Tryz.func20, Tryz.ntmps20
  go_wp2_with fail
  refine Calls.mono (l1Parse_any s _) ?_
  rintro e w1 ⟨hb1, hp⟩
  have hb1' := Lib.hid (below_step (show Below w.heap.size w (w.alloc _) from (Below.refl _ _).alloc (Nat.le_refl _) _) (by simp) hb1)
  rcases hp with ⟨t, a, p, l, c, hrd, rfl, htc⟩ | ⟨a, p, l, c, hrd, rfl⟩
  · have hsz := readT_sz hrd
    have htc0 := htc.upS (lo := w.heap.size + 1) (by simp)
    have hcA := Lib.hid (fun W (hW : Below w1.heap.size w1 W) => atoms_all 9000 (by omega) t W _ a p l c (by omega) (htc0.below hW (fun g hg => hg.2)) (fun g hg => Nat.lt_of_lt_of_le hg.2 hW.size))
    have hcI := Lib.hid (fun W (hW : Below w1.heap.size w1 W) => is_all 9000 t W _ a p l c (by omega) (htc0.below hW (fun g hg => hg.2)) (fun g hg => Nat.lt_of_lt_of_le hg.2 hW.size))
    have hat := T.atoms_sz t
    have hbx := (hb1.block w.heap.size (by simp)).trans (heap_alloc_new w _)
    have hw01 : w.heap.size < w1.heap.size := by have := hb1.size; simp at this; omega
    have hS := Lib.hid (fun W (hW : Below (w1.alloc (.cells #[.string a, .slice p l c] 45)).heap.size (w1.alloc (.cells #[.string a, .slice p l c] 45)) W) =>
      (show (W.cell? ⟨w1.heap.size, 0, none⟩ = some (.string a) ∧ W.cell? ⟨w1.heap.size, 1, none⟩ = some (.slice p l c) ∧ W.cell? ⟨w.heap.size, 0, none⟩ = some (.string ⟨#[]⟩) ∧ W.cell? ⟨w.heap.size, 1, none⟩ = some (.slice none 0 0)) ∧ (W.frozen? ⟨w.heap.size, 0, none⟩ = false ∧ W.frozen? ⟨w.heap.size, 1, none⟩ = false ∧ w.heap.size < W.heap.size ∧ w1.heap.size < W.heap.size) ∧
        (∀ v, (W.setCell ⟨w.heap.size, 0, none⟩ v).cell? ⟨w.heap.size, 1, none⟩ = some (.slice none 0 0)) ∧ (∀ x y, ((W.setCell ⟨w.heap.size, 0, none⟩ x).setCell ⟨w.heap.size, 1, none⟩ y).cell? ⟨w.heap.size, 0, none⟩ = some x) ∧ (∀ x y, ((W.setCell ⟨w.heap.size, 0, none⟩ x).setCell ⟨w.heap.size, 1, none⟩ y).cell? ⟨w.heap.size, 1, none⟩ = some y) from by
        obtain ⟨k0, k1, k2, -, -⟩ := two_cells ((hW.block w1.heap.size (by simp)).trans (heap_alloc_new w1 _))
        have hr := (hW.block w.heap.size (by simp; omega)).trans ((Below.heap_alloc _ _ _ hw01).trans hbx)
        obtain ⟨j0, j1, j2, j3, j4⟩ := two_cells hr
        exact ⟨⟨k1, k2, j1, j2⟩, ⟨j3, j4, j0, k0⟩, fun v => (World.cell?_setCell_other _ _ _ _ (by simp)).trans j2, fun x y => (two_cells (setTwo hr)).2.1, fun x y => (two_cells (setTwo hr)).2.2.1⟩))
    have hTbx := Lib.hid (show Below w1.heap.size w1 (w1.alloc (.cells #[.string a, .slice p l c] 45)) from (Below.refl _ _).alloc (Nat.le_refl _) _)
    have htc' := Lib.hid htc0
    clear htc hb1 htc0 hbx
    cases hP : toSrc t with
    | none =>
      have hno := Lib.hid (readSrc_bad hrd hP)
      rw [hP, Option.isSome_none] at hcI
      clear hrd hP
      go_wp2_with fail
      obtain ⟨⟨m0, m1, m2, m3⟩, ⟨m4, m5, m6, m7⟩, m8, m9, m10⟩ := hS.out _ (Below.refl _ _)
      go_region_with (first
        | (go_at_call 36; refine Calls.mono (hcI.out _ (below_step hTbx.out (Nat.le_refl _) (by repeat (with_reducible first | exact Below.refl _ _ | exact hbb | refine Below.drew ?_ | refine Below.drewN ?_ _ | refine bb_alloc ?_ _ | refine below_step ?_ (Nat.le_refl _) hb1 | refine below_step ?_ (Nat.le_refl _) hb2 | refine below_step ?_ (Nat.le_refl _) hb3 | refine below_step ?_ (Nat.le_refl _) hb4)))) ?_; rintro e w2 ⟨rfl, hb2⟩; obtain ⟨⟨m0, m1, m2, m3⟩, ⟨m4, m5, m6, m7⟩, m8, m9, m10⟩ := hS.out w2 (by repeat (with_reducible first | exact Below.refl _ _ | exact hbb | refine Below.drew ?_ | refine Below.drewN ?_ _ | refine bb_alloc ?_ _ | refine below_step ?_ (Nat.le_refl _) hb1 | refine below_step ?_ (Nat.le_refl _) hb2 | refine below_step ?_ (Nat.le_refl _) hb3 | refine below_step ?_ (Nat.le_refl _) hb4))))
      all_goals
        go_wp2_with fail
        refine bodyPost_ret (v := .tuple #[.agg #[.string a, .slice p l c], .bool false]) (by simp [results, Tryz.results20, go_sem, m9, m10]) rfl ?_
        have hbel : Below w.heap.size w w2 := below_step hb1'.out (Nat.le_refl _) (below_step hTbx.out (Nat.le_refl _) (by repeat (with_reducible first | exact Below.refl _ _ | exact hbb | refine Below.drew ?_ | refine Below.drewN ?_ _ | refine bb_alloc ?_ _ | refine below_step ?_ (Nat.le_refl _) hb1 | refine below_step ?_ (Nat.le_refl _) hb2 | refine below_step ?_ (Nat.le_refl _) hb3 | refine below_step ?_ (Nat.le_refl _) hb4)))
        exact ⟨(by repeat (with_reducible first | exact hbel | exact Below.refl _ _ | refine Below.drew ?_ | refine Below.drewN ?_ _ | refine Below.alloc ?_ (by first | (simp; done) | (simp; omega) | omega | (have := Below.size hbel; simp; omega) | (have := Below.size hbel; omega)) _ | refine Below.setCell ?_ (by first | (simp; done) | (simp; omega) | omega) _)), .inr ⟨_, _, _, _, hno.out, rfl⟩⟩
    | some m =>
      have htm := Lib.hid (toSrc_tree hP).1
      have hsm : t.atoms = m.size := by rw [htm.out, Src.atoms_tree]
      rw [hP, Option.isSome_some] at hcI
      rw [hsm] at hcA
      by_cases h80 : m.size ≤ 80
      · have hyes := Lib.hid (readSrc_some hrd hP h80)
        have h80' : (m.size : Int) ≤ 80 := by omega
        clear hrd hP hat hsz hsm h80
        generalize hk : m.size = k at *
        clear hk
        go_wp2_with fail
        obtain ⟨⟨m0, m1, m2, m3⟩, ⟨m4, m5, m6, m7⟩, m8, m9, m10⟩ := hS.out _ (Below.refl _ _)
        go_region_with (first
          | (go_at_call 36; refine Calls.mono (hcI.out _ (below_step hTbx.out (Nat.le_refl _) (by repeat (with_reducible first | exact Below.refl _ _ | exact hbb | refine Below.drew ?_ | refine Below.drewN ?_ _ | refine bb_alloc ?_ _ | refine below_step ?_ (Nat.le_refl _) hb1 | refine below_step ?_ (Nat.le_refl _) hb2 | refine below_step ?_ (Nat.le_refl _) hb3 | refine below_step ?_ (Nat.le_refl _) hb4)))) ?_; rintro e w2 ⟨rfl, hb2⟩; obtain ⟨⟨m0, m1, m2, m3⟩, ⟨m4, m5, m6, m7⟩, m8, m9, m10⟩ := hS.out w2 (by repeat (with_reducible first | exact Below.refl _ _ | exact hbb | refine Below.drew ?_ | refine Below.drewN ?_ _ | refine bb_alloc ?_ _ | refine below_step ?_ (Nat.le_refl _) hb1 | refine below_step ?_ (Nat.le_refl _) hb2 | refine below_step ?_ (Nat.le_refl _) hb3 | refine below_step ?_ (Nat.le_refl _) hb4)))
          | (go_at_call 37; refine Calls.mono (hcA.out _ (below_step hTbx.out (Nat.le_refl _) (by repeat (with_reducible first | exact Below.refl _ _ | exact hbb | refine Below.drew ?_ | refine Below.drewN ?_ _ | refine bb_alloc ?_ _ | refine below_step ?_ (Nat.le_refl _) hb1 | refine below_step ?_ (Nat.le_refl _) hb2 | refine below_step ?_ (Nat.le_refl _) hb3 | refine below_step ?_ (Nat.le_refl _) hb4)))) ?_; rintro e w3 ⟨rfl, hb3⟩; obtain ⟨⟨m0, m1, m2, m3⟩, ⟨m4, m5, m6, m7⟩, m8, m9, m10⟩ := hS.out w3 (by repeat (with_reducible first | exact Below.refl _ _ | exact hbb | refine Below.drew ?_ | refine Below.drewN ?_ _ | refine bb_alloc ?_ _ | refine below_step ?_ (Nat.le_refl _) hb1 | refine below_step ?_ (Nat.le_refl _) hb2 | refine below_step ?_ (Nat.le_refl _) hb3 | refine below_step ?_ (Nat.le_refl _) hb4))))
        all_goals
          go_wp2_with fail
          refine bodyPost_ret (v := .tuple #[.agg #[.string a, .slice p l c], .bool true]) (by simp [results, Tryz.results20, go_sem, m9, m10]) rfl ?_
          have hb13 : Below w1.heap.size w1 w3 := below_step hTbx.out (Nat.le_refl _) (by repeat (with_reducible first | exact Below.refl _ _ | exact hbb | refine Below.drew ?_ | refine Below.drewN ?_ _ | refine bb_alloc ?_ _ | refine below_step ?_ (Nat.le_refl _) hb1 | refine below_step ?_ (Nat.le_refl _) hb2 | refine below_step ?_ (Nat.le_refl _) hb3 | refine below_step ?_ (Nat.le_refl _) hb4))
          have hbel : Below w.heap.size w w3 := below_step hb1'.out (Nat.le_refl _) hb13
          exact ⟨(by repeat (with_reducible first | exact hbel | exact Below.refl _ _ | refine Below.drew ?_ | refine Below.drewN ?_ _ | refine Below.alloc ?_ (by first | (simp; done) | (simp; omega) | omega | (have := Below.size hbel; simp; omega) | (have := Below.size hbel; omega)) _ | refine Below.setCell ?_ (by first | (simp; done) | (simp; omega) | omega) _)), .inl ⟨m, _, _, _, _, hyes.out, rfl, by rw [← htm.out]; exact tc_kept htc'.out hb13⟩⟩
      · have hno := Lib.hid (readSrc_big hrd hP h80)
        have h80' : ¬ (m.size : Int) ≤ 80 := by omega
        clear hrd hP hat hsz hsm h80
        generalize hk : m.size = k at *
        clear hk
        go_wp2_with fail
        obtain ⟨⟨m0, m1, m2, m3⟩, ⟨m4, m5, m6, m7⟩, m8, m9, m10⟩ := hS.out _ (Below.refl _ _)
        go_region_with (first
          | (go_at_call 36; refine Calls.mono (hcI.out _ (below_step hTbx.out (Nat.le_refl _) (by repeat (with_reducible first | exact Below.refl _ _ | exact hbb | refine Below.drew ?_ | refine Below.drewN ?_ _ | refine bb_alloc ?_ _ | refine below_step ?_ (Nat.le_refl _) hb1 | refine below_step ?_ (Nat.le_refl _) hb2 | refine below_step ?_ (Nat.le_refl _) hb3 | refine below_step ?_ (Nat.le_refl _) hb4)))) ?_; rintro e w2 ⟨rfl, hb2⟩; obtain ⟨⟨m0, m1, m2, m3⟩, ⟨m4, m5, m6, m7⟩, m8, m9, m10⟩ := hS.out w2 (by repeat (with_reducible first | exact Below.refl _ _ | exact hbb | refine Below.drew ?_ | refine Below.drewN ?_ _ | refine bb_alloc ?_ _ | refine below_step ?_ (Nat.le_refl _) hb1 | refine below_step ?_ (Nat.le_refl _) hb2 | refine below_step ?_ (Nat.le_refl _) hb3 | refine below_step ?_ (Nat.le_refl _) hb4)))
          | (go_at_call 37; refine Calls.mono (hcA.out _ (below_step hTbx.out (Nat.le_refl _) (by repeat (with_reducible first | exact Below.refl _ _ | exact hbb | refine Below.drew ?_ | refine Below.drewN ?_ _ | refine bb_alloc ?_ _ | refine below_step ?_ (Nat.le_refl _) hb1 | refine below_step ?_ (Nat.le_refl _) hb2 | refine below_step ?_ (Nat.le_refl _) hb3 | refine below_step ?_ (Nat.le_refl _) hb4)))) ?_; rintro e w3 ⟨rfl, hb3⟩; obtain ⟨⟨m0, m1, m2, m3⟩, ⟨m4, m5, m6, m7⟩, m8, m9, m10⟩ := hS.out w3 (by repeat (with_reducible first | exact Below.refl _ _ | exact hbb | refine Below.drew ?_ | refine Below.drewN ?_ _ | refine bb_alloc ?_ _ | refine below_step ?_ (Nat.le_refl _) hb1 | refine below_step ?_ (Nat.le_refl _) hb2 | refine below_step ?_ (Nat.le_refl _) hb3 | refine below_step ?_ (Nat.le_refl _) hb4))))
        all_goals
          go_wp2_with fail
          refine bodyPost_ret (v := .tuple #[.agg #[.string a, .slice p l c], .bool false]) (by simp [results, Tryz.results20, go_sem, m9, m10]; omega) rfl ?_
          have hb13 : Below w1.heap.size w1 w3 := below_step hTbx.out (Nat.le_refl _) (by repeat (with_reducible first | exact Below.refl _ _ | exact hbb | refine Below.drew ?_ | refine Below.drewN ?_ _ | refine bb_alloc ?_ _ | refine below_step ?_ (Nat.le_refl _) hb1 | refine below_step ?_ (Nat.le_refl _) hb2 | refine below_step ?_ (Nat.le_refl _) hb3 | refine below_step ?_ (Nat.le_refl _) hb4))
          have hbel : Below w.heap.size w w3 := below_step hb1'.out (Nat.le_refl _) hb13
          exact ⟨(by repeat (with_reducible first | exact hbel | exact Below.refl _ _ | refine Below.drew ?_ | refine Below.drewN ?_ _ | refine Below.alloc ?_ (by first | (simp; done) | (simp; omega) | omega | (have := Below.size hbel; simp; omega) | (have := Below.size hbel; omega)) _ | refine Below.setCell ?_ (by first | (simp; done) | (simp; omega) | omega) _)), .inr ⟨_, _, _, _, hno.out, rfl⟩⟩
  · have hno := Lib.hid (readSrc_none hrd)
    have hbx := (hb1.block w.heap.size (by simp)).trans (heap_alloc_new w _)
    have hw01 : w.heap.size < w1.heap.size := by have := hb1.size; simp at this; omega
    obtain ⟨j0, d0, d1, d2, d3⟩ := two_cells hbx
    have d8 := fun v => (World.cell?_setCell_other w1 ⟨w.heap.size, 0, none⟩ ⟨w.heap.size, 1, none⟩ v (by simp)).trans d1
    have d9 := fun x y Z => (World.cell?_alloc_lt ((w1.setCell ⟨w.heap.size, 0, none⟩ x).setCell ⟨w.heap.size, 1, none⟩ y) Z ⟨w.heap.size, 0, none⟩ (by simp; omega)).trans (two_cells (setTwo (x := x) (y := y) hbx)).2.1
    have d10 := fun x y Z => (World.cell?_alloc_lt ((w1.setCell ⟨w.heap.size, 0, none⟩ x).setCell ⟨w.heap.size, 1, none⟩ y) Z ⟨w.heap.size, 1, none⟩ (by simp; omega)).trans (two_cells (setTwo (x := x) (y := y) hbx)).2.2.1
    clear hrd hb1 hbx
    go_wp2_with fail
    go_region
    all_goals
      go_wp2_with fail
      refine bodyPost_ret (v := .tuple #[.agg #[.string a, .slice p l c], .bool false]) (by simp [results, Tryz.results20, go_sem, d9, d10]) rfl ?_
      have hbel := hb1'.out
      exact ⟨(by repeat (with_reducible first | exact hbel | exact Below.refl _ _ | refine Below.drew ?_ | refine Below.drewN ?_ _ | refine Below.alloc ?_ (by first | (simp; done) | (simp; omega) | omega | (have := Below.size hbel; simp; omega) | (have := Below.size hbel; omega)) _ | refine Below.setCell ?_ (by first | (simp; done) | (simp; omega) | omega) _)), .inr ⟨_, _, _, _, hno.out, rfl⟩⟩

end Go.Proofs.YtchkmdagbjbcjaaGreatDoor
