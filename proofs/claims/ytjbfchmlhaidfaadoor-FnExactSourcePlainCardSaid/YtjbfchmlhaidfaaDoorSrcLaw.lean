/- SourceValid, SourceSize and SourcePlain of the model and of the program, and their laws as calls. -/
import Derived.Test.YtjbfchmlhaidfaaDoorSrcR
import Derived.Test.YtjbfchmlhaidfaaDoorSrcP
import Derived.Test.YtjbfchmlhaidfaaDoorSrcL
namespace Go.Proofs.YtjbfchmlhaidfaaDoor
set_option linter.unusedVariables false
open Go.RowKit
set_option maxRecDepth 100000

def srcSize : Option Src → Int
  | none => -1
  | some m => m.size
def srcPlain : Option Src → Bool
  | none => false
  | some m => m.plain

theorem implSV_any (s : ByteArray) (w : World) (hg0 : w.cell? ⟨0, 0, none⟩ = some (rty 86)) : Calls Tryd.prog 10 #[.string s] w fun e w' => e = .returned (.bool (readSrc s.data.toList).isSome) ∧ Below w.heap.size w w' := by
  have hr := Lib.hid (readSource_any s w hg0)
  clear hg0
  generalize readSrc s.data.toList = o at *
  cases o with
  | none =>
    rw [rsV_none] at hr
    go_enter Tryd.func10, Tryd.ntmps10
    go_wp2_with fail
    refine Calls.mono hr.out ?_
    rintro e w1 ⟨rfl, hb1⟩
    go_wp2_with fail
    go_ret
    exact ⟨rfl, hb1⟩
  | some m =>
    rw [rsV_some] at hr
    go_enter Tryd.func10, Tryd.ntmps10
    go_wp2_with fail
    refine Calls.mono hr.out ?_
    rintro e w1 ⟨rfl, hb1⟩
    go_wp2_with fail
    go_ret
    exact ⟨rfl, hb1⟩

theorem implSS_any (s : ByteArray) (w : World) (hg0 : w.cell? ⟨0, 0, none⟩ = some (rty 86)) : Calls Tryd.prog 17 #[.string s] w fun e w' => e = .returned (.int .i64 (srcSize (readSrc s.data.toList))) ∧ Below w.heap.size w w' := by
  have hr := Lib.hid (readSource_any s w hg0)
  clear hg0
  cases ho : readSrc s.data.toList with
  | none =>
    rw [ho, rsV_none] at hr
    clear ho
    go_enter Tryd.func17, Tryd.ntmps17
    go_wp2_with fail
    refine Calls.mono hr.out ?_
    rintro e w1 ⟨rfl, hb1⟩
    go_wp2_with fail
    go_ret
    exact ⟨rfl, hb1⟩
  | some m =>
    rw [ho, rsV_some] at hr
    obtain ⟨hok, h80, -⟩ := readSrc_ok ho
    have hss := Lib.hid (fun W => szs_any hok W (by omega))
    clear ho hok h80
    rw [show srcSize (some m) = (m.size : Int) from rfl]
    generalize m.size = k at *
    go_enter Tryd.func17, Tryd.ntmps17
    go_wp2_with fail
    refine Calls.mono hr.out ?_
    rintro e w1 ⟨rfl, hb1⟩
    go_wp2_with (first | (go_at_call 33; refine Calls.mono (hss.out _) ?_; rintro e w2 ⟨rfl, hb2⟩))
    go_ret
    exact ⟨rfl, below_step hb1 (Nat.le_refl _) hb2⟩

theorem implSP_any (s : ByteArray) (w : World) (hg0 : w.cell? ⟨0, 0, none⟩ = some (rty 86)) : Calls Tryd.prog 19 #[.string s] w fun e w' => e = .returned (.bool (srcPlain (readSrc s.data.toList))) ∧ Below w.heap.size w w' := by
  have hr := Lib.hid (readSource_any s w hg0)
  clear hg0
  cases ho : readSrc s.data.toList with
  | none =>
    rw [ho, rsV_none] at hr
    clear ho
    go_enter Tryd.func19, Tryd.ntmps19
    go_wp2_with fail
    refine Calls.mono hr.out ?_
    rintro e w1 ⟨rfl, hb1⟩
    go_wp2_with fail
    go_ret
    exact ⟨rfl, hb1⟩
  | some m =>
    rw [ho, rsV_some] at hr
    obtain ⟨hok, h80, -⟩ := readSrc_ok ho
    have hss := Lib.hid (fun W => ipl_any hok W)
    clear ho hok h80
    rw [show srcPlain (some m) = m.plain from rfl]
    generalize m.plain = k at *
    go_enter Tryd.func19, Tryd.ntmps19
    go_wp2_with fail
    refine Calls.mono hr.out ?_
    rintro e w1 ⟨rfl, hb1⟩
    go_wp2_with (first | (go_at_call 35; refine Calls.mono (hss.out _) ?_; rintro e w2 ⟨rfl, hb2⟩))
    go_ret
    exact ⟨rfl, below_step hb1 (Nat.le_refl _) hb2⟩

theorem specSV_any (s : ByteArray) (w : World) : Calls Tryd.prog 9 #[.string s] w fun e w' => e = .returned (.bool (readSrc s.data.toList).isSome) ∧ Below w.heap.size w w' := by
  go_enter Tryd.func9, Tryd.ntmps9
  go_wp2_with fail
  refine Calls.mono (l6sRead_any s _) ?_
  rintro e w1 ⟨hb1, hp⟩
  have hb1' := Lib.hid hb1
  rcases hp with ⟨m, a, A, n, c, hrd, rfl, htc⟩ | ⟨a, A, n, c, hrd, rfl⟩
  · have hrd' := Lib.hid hrd
    clear hrd htc
    go_wp2_with fail
    go_ret
    have hbel := hb1'.out
    exact ⟨by rw [hrd'.out]; rfl, (by repeat (with_reducible first | exact hbel | exact Below.refl _ _ | refine Below.drew ?_ | refine Below.drewN ?_ _ | refine Below.alloc ?_ (by first | (simp; done) | (simp; omega) | omega | (have := Below.size hbel; simp; omega) | (have := Below.size hbel; omega)) _ | refine Below.setCell ?_ (by first | (simp; done) | (simp; omega) | omega) _))⟩
  · have hrd' := Lib.hid hrd
    clear hrd
    go_wp2_with fail
    go_ret
    have hbel := hb1'.out
    exact ⟨by rw [hrd'.out]; rfl, (by repeat (with_reducible first | exact hbel | exact Below.refl _ _ | refine Below.drew ?_ | refine Below.drewN ?_ _ | refine Below.alloc ?_ (by first | (simp; done) | (simp; omega) | omega | (have := Below.size hbel; simp; omega) | (have := Below.size hbel; omega)) _ | refine Below.setCell ?_ (by first | (simp; done) | (simp; omega) | omega) _))⟩

theorem specSS_any (s : ByteArray) (w : World) : Calls Tryd.prog 16 #[.string s] w fun e w' => e = .returned (.int .i64 (srcSize (readSrc s.data.toList))) ∧ Below w.heap.size w w' := by
  go_enter Tryd.func16, Tryd.ntmps16
  go_wp2_with fail
  refine Calls.mono (l6sRead_any s _) ?_
  rintro e w1 ⟨hb1, hp⟩
  have hb1' := Lib.hid hb1
  rcases hp with ⟨m, a, A, n, c, hrd, rfl, htc⟩ | ⟨a, A, n, c, hrd, rfl⟩
  · have hrd' := Lib.hid hrd
    obtain ⟨hok, h80, hrt⟩ := readSrc_ok hrd
    have hsz := readT_sz hrt
    have hcA := Lib.hid (fun W (hW : Below w1.heap.size w1 W) => atoms_all 9000 (by omega) m.tree W _ a A n c (by omega) (htc.below hW (fun g hg => hg.2)) (fun g hg => Nat.lt_of_lt_of_le hg.2 hW.size))
    rw [Src.atoms_tree] at hcA
    clear hrd htc hok h80 hrt hsz
    go_wp2_with (first | (go_at_call 32; refine Calls.mono (hcA.out _ ((Below.refl _ _).alloc (Nat.le_refl _) _)) ?_; rintro e w2 ⟨rfl, hb2⟩))
    go_ret
    exact ⟨by rw [hrd'.out]; rfl, below_step (below_step hb1'.out (Nat.le_refl _) ((Below.refl _ _).alloc (Nat.le_refl _) _)) (by simp) hb2⟩
  · have hrd' := Lib.hid hrd
    clear hrd
    go_wp2_with fail
    go_ret
    have hbel := hb1'.out
    exact ⟨by rw [hrd'.out]; rfl, (by repeat (with_reducible first | exact hbel | exact Below.refl _ _ | refine Below.drew ?_ | refine Below.drewN ?_ _ | refine Below.alloc ?_ (by first | (simp; done) | (simp; omega) | omega | (have := Below.size hbel; simp; omega) | (have := Below.size hbel; omega)) _ | refine Below.setCell ?_ (by first | (simp; done) | (simp; omega) | omega) _))⟩

theorem specSP_any (s : ByteArray) (w : World) : Calls Tryd.prog 18 #[.string s] w fun e w' => e = .returned (.bool (srcPlain (readSrc s.data.toList))) ∧ Below w.heap.size w w' := by
  go_enter Tryd.func18, Tryd.ntmps18
  go_wp2_with fail
  refine Calls.mono (l6sRead_any s _) ?_
  rintro e w1 ⟨hb1, hp⟩
  have hb1' := Lib.hid hb1
  rcases hp with ⟨m, a, A, n, c, hrd, rfl, htc⟩ | ⟨a, A, n, c, hrd, rfl⟩
  · have hrd' := Lib.hid hrd
    obtain ⟨hok, h80, hrt⟩ := readSrc_ok hrd
    have hcA := Lib.hid (fun W (hW : Below w1.heap.size w1 W) => specPl_any hok W _ a A n c (htc.below hW (fun g hg => hg.2)) (fun g hg => Nat.lt_of_lt_of_le hg.2 hW.size))
    clear hrd htc hok h80 hrt
    go_wp2_with (first | (go_at_call 34; refine Calls.mono (hcA.out _ ((Below.refl _ _).alloc (Nat.le_refl _) _)) ?_; rintro e w2 ⟨rfl, hb2⟩))
    go_ret
    exact ⟨by rw [hrd'.out]; rfl, below_step (below_step hb1'.out (Nat.le_refl _) ((Below.refl _ _).alloc (Nat.le_refl _) _)) (by simp) hb2⟩
  · have hrd' := Lib.hid hrd
    clear hrd
    go_wp2_with fail
    go_ret
    have hbel := hb1'.out
    exact ⟨by rw [hrd'.out]; rfl, (by repeat (with_reducible first | exact hbel | exact Below.refl _ _ | refine Below.drew ?_ | refine Below.drewN ?_ _ | refine Below.alloc ?_ (by first | (simp; done) | (simp; omega) | omega | (have := Below.size hbel; simp; omega) | (have := Below.size hbel; omega)) _ | refine Below.setCell ?_ (by first | (simp; done) | (simp; omega) | omega) _))⟩

theorem lawSrcV (s : ByteArray) (_ : s.size ≤ maxLen) (w : World) (hg0 : w.cell? ⟨0, 0, none⟩ = some (rty 86)) : Calls Tryd.prog 3 #[.string s] w fun e w' => e = .returned (.bool true) ∧ Below w.heap.size w w' := by
  have h0w : 0 < w.heap.size := World.lt_of_cell (a := ⟨0, 0, none⟩) hg0
  have h1' := Lib.hid (specSV_any s w)
  have h2' := Lib.hid (fun W (hW : Below w.heap.size w W) => implSV_any s W ((hW.cell (p := ⟨0, 0, none⟩) h0w).trans hg0))
  clear hg0
  generalize (readSrc s.data.toList).isSome = b at *
  have hbb : ((b == b) : Bool) = true := by simp
  by_cases hlen : 1048576 < s.size
  · go_enter Tryd.func3, Tryd.ntmps3
    go_wp2_with fail
    go_ret
    exact ⟨rfl, (by repeat (with_reducible first | exact hbel | exact Below.refl _ _ | refine Below.drew ?_ | refine Below.drewN ?_ _ | refine Below.alloc ?_ (by first | (simp; done) | (simp; omega) | omega | (have := Below.size hbel; simp; omega) | (have := Below.size hbel; omega)) _ | refine Below.setCell ?_ (by first | (simp; done) | (simp; omega) | omega) _))⟩
  · go_enter Tryd.func3, Tryd.ntmps3
    go_wp2_with fail
    refine Calls.mono h1'.out ?_
    rintro e w1 ⟨rfl, hb1⟩
    go_wp2_with fail
    refine Calls.mono (h2'.out _ hb1) ?_
    rintro e w2 ⟨rfl, hb2⟩
    go_wp2_with fail
    go_ret
    exact ⟨rfl, below_step hb1 (Nat.le_refl _) hb2⟩

theorem lawSrcS (s : ByteArray) (_ : s.size ≤ maxLen) (w : World) (hg0 : w.cell? ⟨0, 0, none⟩ = some (rty 86)) : Calls Tryd.prog 5 #[.string s] w fun e w' => e = .returned (.bool true) ∧ Below w.heap.size w w' := by
  have h0w : 0 < w.heap.size := World.lt_of_cell (a := ⟨0, 0, none⟩) hg0
  have h1' := Lib.hid (specSS_any s w)
  have h2' := Lib.hid (fun W (hW : Below w.heap.size w W) => implSS_any s W ((hW.cell (p := ⟨0, 0, none⟩) h0w).trans hg0))
  clear hg0
  generalize srcSize (readSrc s.data.toList) = b at *
  have hbb : ((b == b) : Bool) = true := by simp
  by_cases hlen : 1048576 < s.size
  · go_enter Tryd.func5, Tryd.ntmps5
    go_wp2_with fail
    go_ret
    exact ⟨rfl, (by repeat (with_reducible first | exact hbel | exact Below.refl _ _ | refine Below.drew ?_ | refine Below.drewN ?_ _ | refine Below.alloc ?_ (by first | (simp; done) | (simp; omega) | omega | (have := Below.size hbel; simp; omega) | (have := Below.size hbel; omega)) _ | refine Below.setCell ?_ (by first | (simp; done) | (simp; omega) | omega) _))⟩
  · go_enter Tryd.func5, Tryd.ntmps5
    go_wp2_with fail
    refine Calls.mono h1'.out ?_
    rintro e w1 ⟨rfl, hb1⟩
    go_wp2_with fail
    refine Calls.mono (h2'.out _ hb1) ?_
    rintro e w2 ⟨rfl, hb2⟩
    go_wp2_with fail
    go_ret
    exact ⟨rfl, below_step hb1 (Nat.le_refl _) hb2⟩

theorem lawSrcP (s : ByteArray) (_ : s.size ≤ maxLen) (w : World) (hg0 : w.cell? ⟨0, 0, none⟩ = some (rty 86)) : Calls Tryd.prog 6 #[.string s] w fun e w' => e = .returned (.bool true) ∧ Below w.heap.size w w' := by
  have h0w : 0 < w.heap.size := World.lt_of_cell (a := ⟨0, 0, none⟩) hg0
  have h1' := Lib.hid (specSP_any s w)
  have h2' := Lib.hid (fun W (hW : Below w.heap.size w W) => implSP_any s W ((hW.cell (p := ⟨0, 0, none⟩) h0w).trans hg0))
  clear hg0
  generalize srcPlain (readSrc s.data.toList) = b at *
  have hbb : ((b == b) : Bool) = true := by simp
  by_cases hlen : 1048576 < s.size
  · go_enter Tryd.func6, Tryd.ntmps6
    go_wp2_with fail
    go_ret
    exact ⟨rfl, (by repeat (with_reducible first | exact hbel | exact Below.refl _ _ | refine Below.drew ?_ | refine Below.drewN ?_ _ | refine Below.alloc ?_ (by first | (simp; done) | (simp; omega) | omega | (have := Below.size hbel; simp; omega) | (have := Below.size hbel; omega)) _ | refine Below.setCell ?_ (by first | (simp; done) | (simp; omega) | omega) _))⟩
  · go_enter Tryd.func6, Tryd.ntmps6
    go_wp2_with fail
    refine Calls.mono h1'.out ?_
    rintro e w1 ⟨rfl, hb1⟩
    go_wp2_with fail
    refine Calls.mono (h2'.out _ hb1) ?_
    rintro e w2 ⟨rfl, hb2⟩
    go_wp2_with fail
    go_ret
    exact ⟨rfl, below_step hb1 (Nat.le_refl _) hb2⟩

end Go.Proofs.YtjbfchmlhaidfaaDoor
