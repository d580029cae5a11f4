/- ProgramDual of the model and of the program, and its law as a call. -/
import Derived.Test.YtcdagenocmmidaaLDual
import Derived.Test.YtcdagenocmmidaaTextT
import Derived.Test.YtcdagenocmmidaaDualF
import Derived.Test.YtcdagenocmmidaaWriteP
namespace Go.Proofs.Ytcdagenocmmidaa
set_option linter.unusedVariables false
open Go.RowKit

def dualText : Option P → Bs
  | none => []
  | some p => p.dual.text
def DPost (o : Option P) (w : World) (e : Ending) (w' : World) : Prop := e = .returned (.tuple #[str (dualText o), .bool o.isSome]) ∧ Below w.heap.size w w'

theorem specDualP_any (s : ByteArray) (w : World) : Calls Try.prog 19 #[.string s] w (DPost (readP s.data.toList) w) := by
  generalize hz : readP s.data.toList = o
  have hz' := Lib.hid hz
  clear hz
  go_enter Try.func19, Try.ntmps19
  go_wp2_with fail
  refine Calls.mono (l2Read_any s _) ?_
  rintro e w1 ⟨hb1, hp⟩
  rcases hp with ⟨p, a, A, n, c, hrd, rfl, htc⟩ | ⟨a, A, n, c, hrd, rfl⟩
  · obtain rfl : some p = o := hrd.symm.trans hz'.out
    have hok := (readP_ok hrd).1
    have h5 := (readP_ok hrd).2.1
    have hds := P.dual_size p
    have hdl := P.text_length (P.dual_ok hok)
    have hsz := P.sz_tree p.dual
    rw [P.text] at hdl
    have hcD := Lib.hid (fun W (hW : Below w1.heap.size w1 W) => ld_any hok W _ a A n c (htc.below hW (fun g hg => hg.2)) (fun g hg => Nat.lt_of_lt_of_le hg.2 hW.size))
    have hcX := Lib.hid (fun W D a A n c => text_all 9000 (by omega) p.dual.tree W D a A n c (by omega) (by omega))
    have hb1' := Lib.hid hb1
    clear hrd htc hz' hdl hsz hb1
    go_wp2_with fail
    refine Calls.mono (hcD.out _ (by have hbel := hb1'.out; exact (by repeat (with_reducible first | exact hbel | exact Below.refl _ _ | refine Below.drew ?_ | refine Below.drewN ?_ _ | refine Below.alloc ?_ (by first | (simp; done) | (simp; omega) | omega | (have := Below.size hbel; simp; omega) | (have := Below.size hbel; omega)) _ | refine Below.setCell ?_ (by first | (simp; done) | (simp; omega) | omega) _)))) ?_
    rintro e w2 ⟨u2, v2, m2, d2, rfl, tc2, hb2⟩
    have hcX2 := Lib.hid (hcX.out w2 _ u2 v2 m2 d2 tc2 (fun g hg => by rcases hg with hg | hg; exact False.elim hg; exact hg.2))
    have hb2' := Lib.hid (below_step (bb_alloc hb1'.out _) (by have := hb1'.out.size; simp) hb2)
    clear tc2 hb2
    go_wp2_with fail
    refine Calls.mono hcX2.out ?_
    rintro e w3 ⟨rfl, hb3⟩
    have hb3' := Lib.hid (below_step hb2'.out (Nat.le_refl _) hb3)
    clear hb3
    go_wp2_with fail
    go_ret2
    exact ⟨rfl, hb3'.out⟩
  · obtain rfl : none = o := hrd.symm.trans hz'.out
    clear hrd hz'
    go_wp2_with fail
    go_ret2
    have hbel := hb1
    exact ⟨rfl, (by repeat (with_reducible first | exact hbel | exact Below.refl _ _ | refine Below.drew ?_ | refine Below.drewN ?_ _ | refine Below.alloc ?_ (by first | (simp; done) | (simp; omega) | omega | (have := Below.size hbel; simp; omega) | (have := Below.size hbel; omega)) _ | refine Below.setCell ?_ (by first | (simp; done) | (simp; omega) | omega) _))⟩

theorem implDualP_any (s : ByteArray) (w : World) : Calls Try.prog 17 #[.string s] w (DPost (readP s.data.toList) w) := by
  have hw1 := fun p (h : readP s.data.toList = some p) => readP_dual h
  generalize hz : readP s.data.toList = o at hw1
  have hz' := Lib.hid hz
  have hw1' := Lib.hid hw1
  clear hz hw1
  go_enter Try.func17, Try.ntmps17
  go_wp2_with fail
  refine Calls.mono (readProgram_any s _) ?_
  intro e w1 hm
  rw [hz'.out] at hm
  cases o with
  | none =>
    obtain ⟨hb1, rfl⟩ := hm
    go_wp2_with fail
    go_ret2
    exact ⟨rfl, hb1⟩
  | some p =>
    have hok := (readP_ok hz'.out).1
    have h5 := (readP_ok hz'.out).2.1
    obtain ⟨hb1, y, rfl, hy⟩ := hm
    have hds := P.dual_size p
    have hwB : writeB p.dual = true := by simp [writeB, hw1'.out p rfl, hds, h5]
    have hwT : writeT p.dual = p.dual.text := by rw [writeT, if_pos hwB]
    have mq := fun w => dual_m hy w
    have cq := fun x w => dual_c p x w
    have hcD := Lib.hid (fun W (hW : Below w1.heap.size w1 W) => dualP_any hok W _ y (hy.below hW (fun g hg => hg.2)) (fun g hg => Nat.lt_of_lt_of_le hg.2 hW.size))
    have hcW := Lib.hid (fun W D z h1 h2 => write_any (P.dual_ok hok) (by omega) W D z h1 h2)
    rw [hwB, hwT] at hcW
    have hb1' := Lib.hid hb1
    clear hy hwB hwT hb1
    go_wp2_with fail
    refine Calls.mono (hcD.out _ (Below.refl _ _)) ?_
    rintro e w2 ⟨z, rfl, hz2, hb2⟩
    have hcW2 := Lib.hid (hcW.out w2 _ z hz2 (fun g hg => hg.2))
    have hb2' := Lib.hid hb2
    clear hz2 hb2
    go_wp2_with fail
    refine Calls.mono hcW2.out ?_
    rintro e w3 ⟨rfl, hb3⟩
    have hb3' := Lib.hid (below_step (below_step hb1'.out (Nat.le_refl _) hb2'.out) (Nat.le_refl _) hb3)
    clear hb3
    go_wp2_with fail
    go_ret2
    exact ⟨rfl, hb3'.out⟩

theorem lawDualP (s : ByteArray) (_ : s.size ≤ maxLen) (w : World) : Calls Try.prog 12 #[.string s] w fun e w' => e = .returned (.bool true) ∧ Below w.heap.size w w' := by
  have h1 := fun W => specDualP_any s W
  have h2 := fun W => implDualP_any s W
  unfold DPost at h1 h2
  generalize (readP s.data.toList).isSome = b at h1 h2
  generalize dualText (readP s.data.toList) = t at h1 h2
  have h1' := Lib.hid h1
  have h2' := Lib.hid h2
  clear h1 h2
  by_cases hlen : 1048576 < s.size
  · go_enter Try.func12, Try.ntmps12
    go_wp2_with fail
    go_ret
    exact ⟨rfl, (by repeat (with_reducible first | exact hbel | exact Below.refl _ _ | refine Below.drew ?_ | refine Below.drewN ?_ _ | refine Below.alloc ?_ (by first | (simp; done) | (simp; omega) | omega | (have := Below.size hbel; simp; omega) | (have := Below.size hbel; omega)) _ | refine Below.setCell ?_ (by first | (simp; done) | (simp; omega) | omega) _))⟩
  · go_enter Try.func12, Try.ntmps12
    go_wp2_with fail
    refine Calls.mono (h1'.out _) ?_
    rintro e w1 ⟨rfl, hb1⟩
    go_wp2_with fail
    refine Calls.mono (h2'.out _) ?_
    rintro e w2 ⟨rfl, hb2⟩
    go_wp2_with fail
    go_ret
    exact ⟨rfl, below_step hb1 (Nat.le_refl _) hb2⟩

end Go.Proofs.Ytcdagenocmmidaa
