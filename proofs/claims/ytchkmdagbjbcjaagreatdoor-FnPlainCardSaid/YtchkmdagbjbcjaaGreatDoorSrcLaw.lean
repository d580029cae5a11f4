/- SourceValid, SourceSize and SourcePlain of the model and of the program, and their laws as calls. -/
import Derived.Test.YtchkmdagbjbcjaaGreatDoorSrcR
import Derived.Test.YtchkmdagbjbcjaaGreatDoorSrcP
import Derived.Test.YtchkmdagbjbcjaaGreatDoorSrcL
namespace Go.Proofs.YtchkmdagbjbcjaaGreatDoor
set_option linter.unusedVariables false
open Go.RowKit
set_option maxRecDepth 100000

def srcSize : Option Src → Int
  | none => -1
  | some m => m.size
def srcPlain : Option Src → Bool
  | none => false
  | some m => m.plain

theorem implSP_any (s : ByteArray) (w : World) (hg0 : w.cell? ⟨0, 0, none⟩ = some (rty 67)) : Calls Tryz.prog 12 #[.string s] w fun e w' => e = .returned (.bool (srcPlain (readSrc s.data.toList))) ∧ Below w.heap.size w w' := by
  have hr := Lib.hid (readSource_any s w hg0)
  clear hg0
  cases ho : readSrc s.data.toList with
  | none =>
    rw [ho, rsV_none] at hr
    clear ho
    go_enter Tryz.func12, Tryz.ntmps12
    go_wp2_with fail
    refine Calls.mono hr.out ?_
    rintro e w1 ⟨rfl, hb1⟩
    go_wp2_with fail
    go_ret
    exact ⟨rfl, hb1⟩
  | some m =>
    rw [ho, rsV_some] at hr
    obtain ⟨hok, h80, -⟩ := readSrc_ok ho
    have hss := Lib.hid (fun W => ipl_any hok W)
    clear ho hok h80
    rw [show srcPlain (some m) = m.plain from rfl]
    generalize m.plain = k at *
    go_enter Tryz.func12, Tryz.ntmps12
    go_wp2_with fail
    refine Calls.mono hr.out ?_
    rintro e w1 ⟨rfl, hb1⟩
    go_wp2_with (first | (go_at_call 23; refine Calls.mono (hss.out _) ?_; rintro e w2 ⟨rfl, hb2⟩))
    go_ret
    exact ⟨rfl, below_step hb1 (Nat.le_refl _) hb2⟩

theorem specSP_any (s : ByteArray) (w : World) : Calls Tryz.prog 13 #[.string s] w fun e w' => e = .returned (.bool (srcPlain (readSrc s.data.toList))) ∧ Below w.heap.size w w' := by
  go_enter Tryz.func13, Tryz.ntmps13
  go_wp2_with fail
  refine Calls.mono (l6sRead_any s _) ?_
  rintro e w1 ⟨hb1, hp⟩
  have hb1' := Lib.hid hb1
  rcases hp with ⟨m, a, A, n, c, hrd, rfl, htc⟩ | ⟨a, A, n, c, hrd, rfl⟩
  · have hrd' := Lib.hid hrd
    obtain ⟨hok, h80, hrt⟩ := readSrc_ok hrd
    have hcA := Lib.hid (fun W (hW : Below w1.heap.size w1 W) => specPl_any hok W _ a A n c (htc.below hW (fun g hg => hg.2)) (fun g hg => Nat.lt_of_lt_of_le hg.2 hW.size))
    clear hrd htc hok h80 hrt
    go_wp2_with (first | (go_at_call 24; refine Calls.mono (hcA.out _ ((Below.refl _ _).alloc (Nat.le_refl _) _)) ?_; rintro e w2 ⟨rfl, hb2⟩))
    go_ret
    exact ⟨by rw [hrd'.out]; rfl, below_step (below_step hb1'.out (Nat.le_refl _) ((Below.refl _ _).alloc (Nat.le_refl _) _)) (by simp) hb2⟩
  · have hrd' := Lib.hid hrd
    clear hrd
    go_wp2_with fail
    go_ret
    have hbel := hb1'.out
    exact ⟨by rw [hrd'.out]; rfl, (by repeat (with_reducible first | exact hbel | exact Below.refl _ _ | refine Below.drew ?_ | refine Below.drewN ?_ _ | refine Below.alloc ?_ (by first | (simp; done) | (simp; omega) | omega | (have := Below.size hbel; simp; omega) | (have := Below.size hbel; omega)) _ | refine Below.setCell ?_ (by first | (simp; done) | (simp; omega) | omega) _))⟩

end Go.Proofs.YtchkmdagbjbcjaaGreatDoor
