/- impl.readSource. -/
import Derived.Test.YtchkmdagbjbcjaaGreatDoorMkS4
import Derived.Test.YtchkmdagbjbcjaaGreatDoorSrcZ
import Derived.Test.YtchkmdagbjbcjaaGreatDoorRead
namespace Go.Proofs.YtchkmdagbjbcjaaGreatDoor
set_option linter.unusedVariables false
open Go.RowKit
set_option maxRecDepth 100000

def rsV : Option Src → Value
  | none => .tuple #[.nilIface, .bool false]
  | some m => .tuple #[.iface (sty m) (sv m), .bool true]
theorem rsV_none : rsV none = .tuple #[.nilIface, .bool false] := rfl
theorem rsV_some (m : Src) : rsV (some m) = .tuple #[.iface (sty m) (sv m), .bool true] := rfl

set_option maxHeartbeats 2000000 in
theorem readSource_any (s : ByteArray) (w : World) (hg0 : w.cell? ⟨0, 0, none⟩ = some (rty 67)) :
    Calls Tryz.prog 16 #[.string s] w fun e w' => e = .returned (rsV (readSrc s.data.toList)) ∧ Below w.heap.size w w' := by
  have h0w : 0 < w.heap.size := World.lt_of_cell (a := ⟨0, 0, none⟩) hg0
  have hg0' := Lib.hid hg0
  clear hg0
  go_enter Tryz.func16, Tryz.ntmps16
  go_wp2_with fail
  refine Calls.mono (readText_any s _) ?_
  rintro e w1 ⟨hb1, hp⟩
  have hb1' := Lib.hid hb1
  rcases hp with ⟨t, a, p, l, c, hrd, rfl, htc⟩ | ⟨a, p, l, c, hrd, rfl⟩
  · have hgd := (readT_back hrd).2.2.1
    have hms := Lib.hid (fun W (hW : Below w1.heap.size w1 W) => ms_all _ t W _ a p l c (Nat.le_refl _) hgd (htc.below hW (fun g hg => hg.2)) (fun g hg => Nat.lt_of_lt_of_le hg.2 hW.size))
    have hbad := Lib.hid (fun h => readSrc_bad hrd h)
    have hbig := Lib.hid (fun p h => readSrc_big (m := p) hrd h)
    have hsome := Lib.hid (fun p h => readSrc_some (m := p) hrd h)
    have hsz := readT_sz hrd
    clear hrd htc hb1
    go_wp2_with fail
    refine Calls.mono (hms.out _ (by repeat (with_reducible first | exact hbel | exact Below.refl _ _ | refine Below.drew ?_ | refine Below.drewN ?_ _ | refine Below.alloc ?_ (by first | (simp; done) | (simp; omega) | omega | (have := Below.size hbel; simp; omega) | (have := Below.size hbel; omega)) _ | refine Below.setCell ?_ (by first | (simp; done) | (simp; omega) | omega) _))) ?_
    rintro e w2 ⟨hb2, x, y, rfl, hx, ho⟩
    have hb02 := Lib.hid (below_step (show Below w.heap.size w _ from bb_alloc hb1'.out _) (by have := hb1'.out.size; simp) hb2)
    cases hP : toSrc t with
    | none =>
      rw [hP] at ho
      have hev : EV w2 (fun g => g < w2.heap.size) y := ho.to (fun g hg => hg.2)
      obtain ⟨ty, v, rfl⟩ := hev.form
      have hAs := Lib.hid (fun W (hW : Below w2.heap.size w2 W) t ht hf hlt => As_any (w := W) (t := t) (hev.belowW hW (fun g hg => hg)) (fun g hg => Nat.lt_of_lt_of_le hg hW.size) w.heap.size hlt (Nat.le_trans hb02.out.size hW.size) (.string ⟨#[]⟩) ((hW.cell (p := ⟨0, 0, none⟩) (Nat.lt_of_lt_of_le h0w hb02.out.size)).trans ((hb02.out.cell (p := ⟨0, 0, none⟩) h0w).trans hg0'.out)) ht hf)
      have hno := Lib.hid (hbad.out hP)
      clear hP ho hb2 hev
      rcases hx with rfl | ⟨xt, xv, rfl⟩
      all_goals
        go_wp2_with fail
        refine Calls.mono (hAs.out _ ((Below.refl _ _).alloc (Nat.le_refl _) _) w2.heap.size (by rw [World.cell?_alloc_at _ _ _ _ rfl]; rfl) (by simp) hb02.out.size) ?_
        rintro e w3 ⟨rfl, hb3⟩
        go_wp2_with fail
        go_ret2
        exact ⟨by rw [hno.out]; rfl, (hb02.out.alloc hb02.out.size _).trans hb3⟩
    | some m =>
      rw [hP] at ho
      obtain ⟨rfl, rfl⟩ := ho
      have hok := (toSrc_tree hP).2
      have hms : m.size ≤ 9000 := by
        obtain ⟨h1, -⟩ := toSrc_tree hP
        have h2 := T.atoms_sz t
        rw [h1, Src.atoms_tree, ← h1] at h2
        omega
      have hss := Lib.hid (fun W => szs_any hok W (by omega))
      clear hx hb2
      by_cases h5 : m.size ≤ 80
      · have h5' : ¬ (80 : Int) < (m.size : Int) := by omega
        have hyes := Lib.hid (hsome.out m hP h5)
        clear hP hok h5
        generalize m.size = k at *
        go_wp2_with fail
        refine Calls.mono (as_nil _ _) ?_
        rintro e w3 ⟨rfl, rfl⟩
        go_wp2_with (first | (go_at_call 31; refine Calls.mono (hss.out _) ?_; rintro e w4 ⟨rfl, hb4⟩))
        go_ret2
        exact ⟨by rw [hyes.out]; rfl, below_step (hb02.out.alloc hb02.out.size _) (Nat.le_refl _) hb4⟩
      · have h5' : (80 : Int) < (m.size : Int) := by omega
        have hno := Lib.hid (hbig.out m hP h5)
        clear hP hok h5
        generalize m.size = k at *
        go_wp2_with fail
        refine Calls.mono (as_nil _ _) ?_
        rintro e w3 ⟨rfl, rfl⟩
        go_wp2_with (first | (go_at_call 31; refine Calls.mono (hss.out _) ?_; rintro e w4 ⟨rfl, hb4⟩))
        go_ret2
        exact ⟨by rw [hno.out]; rfl, below_step (hb02.out.alloc hb02.out.size _) (Nat.le_refl _) hb4⟩
  · have hno := Lib.hid (readSrc_none hrd)
    clear hrd hb1
    go_wp2_with fail
    go_ret2
    have hbel := hb1'.out
    exact ⟨by rw [hno.out]; rfl, (by repeat (with_reducible first | exact hbel | exact Below.refl _ _ | refine Below.drew ?_ | refine Below.drewN ?_ _ | refine Below.alloc ?_ (by first | (simp; done) | (simp; omega) | omega | (have := Below.size hbel; simp; omega) | (have := Below.size hbel; omega)) _ | refine Below.setCell ?_ (by first | (simp; done) | (simp; omega) | omega) _))⟩

end Go.Proofs.YtchkmdagbjbcjaaGreatDoor
