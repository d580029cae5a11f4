/- ProgramKind and ProgramSize of the model and of the program, and their laws as calls. -/
import Derived.Test.YtcdagenocmmidaaSpecL
namespace Go.Proofs.Ytcdagenocmmidaa
set_option linter.unusedVariables false
open Go.RowKit

/-- What ProgramKind answers. -/
def kindText : Option P → Bs
  | none => []
  | some p => p.kind.name
def sizeO : Option P → Int
  | none => -1
  | some p => p.size

theorem implKind_any (s : ByteArray) (w : World) : Calls Try.prog 14 #[.string s] w fun e w' => e = .returned (.string ⟨(kindText (readP s.data.toList)).toArray⟩) ∧ Below w.heap.size w w' := by
  generalize hz : kindText (readP s.data.toList) = z
  have hz' := Lib.hid hz
  clear hz
  go_enter Try.func14, Try.ntmps14
  go_wp2_with fail
  refine Calls.mono (readProgram_any s _) ?_
  intro e w1 hm
  cases hrd : readP s.data.toList with
  | none =>
    rw [hrd] at hm
    obtain ⟨hb1, rfl⟩ := hm
    obtain rfl : kindText none = z := by have h := hz'.out; rw [hrd] at h; exact h
    clear hrd hz'
    go_wp2_with fail
    go_ret
    exact ⟨rfl, hb1⟩
  | some p =>
    have hok := (readP_ok hrd).1
    rw [hrd] at hm
    obtain ⟨hb1, y, rfl, hy⟩ := hm
    obtain rfl : kindText (some p) = z := by have h := hz'.out; rw [hrd] at h; exact h
    have mq := fun w => kind_m hy w
    have cq := fun x w => kind_c p x w
    have hy' := Lib.hid hy
    clear hrd hy hz'
    go_wp2_with (refine Calls.mono (kind_any hok _ _ _ hy'.out) ?_; rintro e w2 ⟨rfl, hb2⟩)
    go_ret
    exact ⟨rfl, below_step hb1 (Nat.le_refl _) hb2⟩

theorem specKind_any (s : ByteArray) (w : World) : Calls Try.prog 15 #[.string s] w fun e w' => e = .returned (.string ⟨(kindText (readP s.data.toList)).toArray⟩) ∧ Below w.heap.size w w' := by
  generalize hz : kindText (readP s.data.toList) = z
  have hz' := Lib.hid hz
  clear hz
  go_enter Try.func15, Try.ntmps15
  go_wp2_with fail
  refine Calls.mono (l2Read_any s _) ?_
  rintro e w1 ⟨hb1, hp⟩
  rcases hp with ⟨p, a, A, n, c, hrd, rfl, htc⟩ | ⟨a, A, n, c, hrd, rfl⟩
  · obtain rfl : kindText (some p) = z := by have h := hz'.out; rw [hrd] at h; exact h
    clear hrd htc hz'
    cases hk : p.kind
    · have hkt := Lib.hid (show kindText (some p) = [116, 101, 114, 109] from by rw [kindText, hk]; rfl)
      clear hk
      rw [show K.t.let = [116] from rfl]
      go_wp2_with fail
      go_ret
      rw [hkt.out]
      have hbel := hb1
      exact ⟨rfl, (by repeat (with_reducible first | exact hbel | exact Below.refl _ _ | refine Below.drew ?_ | refine Below.drewN ?_ _ | refine Below.alloc ?_ (by first | (simp; done) | (simp; omega) | omega | (have := Below.size hbel; simp; omega) | (have := Below.size hbel; omega)) _ | refine Below.setCell ?_ (by first | (simp; done) | (simp; omega) | omega) _))⟩
    · have hkt := Lib.hid (show kindText (some p) = [99, 111, 116, 101, 114, 109] from by rw [kindText, hk]; rfl)
      clear hk
      rw [show K.c.let = [99] from rfl]
      go_wp2_with fail
      go_ret
      rw [hkt.out]
      have hbel := hb1
      exact ⟨rfl, (by repeat (with_reducible first | exact hbel | exact Below.refl _ _ | refine Below.drew ?_ | refine Below.drewN ?_ _ | refine Below.alloc ?_ (by first | (simp; done) | (simp; omega) | omega | (have := Below.size hbel; simp; omega) | (have := Below.size hbel; omega)) _ | refine Below.setCell ?_ (by first | (simp; done) | (simp; omega) | omega) _))⟩
    · have hkt := Lib.hid (show kindText (some p) = [115, 116, 97, 116, 101, 109, 101, 110, 116] from by rw [kindText, hk]; rfl)
      clear hk
      rw [show K.s.let = [115] from rfl]
      go_wp2_with fail
      go_ret
      rw [hkt.out]
      have hbel := hb1
      exact ⟨rfl, (by repeat (with_reducible first | exact hbel | exact Below.refl _ _ | refine Below.drew ?_ | refine Below.drewN ?_ _ | refine Below.alloc ?_ (by first | (simp; done) | (simp; omega) | omega | (have := Below.size hbel; simp; omega) | (have := Below.size hbel; omega)) _ | refine Below.setCell ?_ (by first | (simp; done) | (simp; omega) | omega) _))⟩
  · obtain rfl : kindText none = z := by have h := hz'.out; rw [hrd] at h; exact h
    clear hrd hz'
    go_wp2_with fail
    go_ret
    have hbel := hb1
    exact ⟨rfl, (by repeat (with_reducible first | exact hbel | exact Below.refl _ _ | refine Below.drew ?_ | refine Below.drewN ?_ _ | refine Below.alloc ?_ (by first | (simp; done) | (simp; omega) | omega | (have := Below.size hbel; simp; omega) | (have := Below.size hbel; omega)) _ | refine Below.setCell ?_ (by first | (simp; done) | (simp; omega) | omega) _))⟩

theorem lawKind (s : ByteArray) (_ : s.size ≤ maxLen) (w : World) : Calls Try.prog 5 #[.string s] w fun e w' => e = .returned (.bool true) ∧ Below w.heap.size w w' := by
  have h1 := fun W => specKind_any s W
  have h2 := fun W => implKind_any s W
  generalize kindText (readP s.data.toList) = b at h1 h2
  have h1' := Lib.hid h1
  have h2' := Lib.hid h2
  have hbb : ((b == b) : Bool) = true := by simp
  clear h1 h2
  by_cases hlen : 1048576 < s.size
  · go_enter Try.func5, Try.ntmps5
    go_wp2_with fail
    go_ret
    exact ⟨rfl, (by repeat (with_reducible first | exact hbel | exact Below.refl _ _ | refine Below.drew ?_ | refine Below.drewN ?_ _ | refine Below.alloc ?_ (by first | (simp; done) | (simp; omega) | omega | (have := Below.size hbel; simp; omega) | (have := Below.size hbel; omega)) _ | refine Below.setCell ?_ (by first | (simp; done) | (simp; omega) | omega) _))⟩
  · go_enter Try.func5, Try.ntmps5
    go_wp2_with fail
    refine Calls.mono (h1'.out _) ?_
    rintro e w1 ⟨rfl, hb1⟩
    go_wp2_with fail
    refine Calls.mono (h2'.out _) ?_
    rintro e w2 ⟨rfl, hb2⟩
    go_wp2_with fail
    go_ret
    exact ⟨rfl, below_step hb1 (Nat.le_refl _) hb2⟩

theorem specSize_any (s : ByteArray) (w : World) : Calls Try.prog 30 #[.string s] w fun e w' => e = .returned (.int .i64 (sizeO (readP s.data.toList))) ∧ Below w.heap.size w w' := by
  generalize hz : sizeO (readP s.data.toList) = z
  have hz' := Lib.hid hz
  clear hz
  go_enter Try.func30, Try.ntmps30
  go_wp2_with fail
  refine Calls.mono (l2Read_any s _) ?_
  rintro e w1 ⟨hb1, hp⟩
  rcases hp with ⟨p, a, A, n, c, hrd, rfl, htc⟩ | ⟨a, A, n, c, hrd, rfl⟩
  · obtain rfl : sizeO (some p) = z := by have h := hz'.out; rw [hrd] at h; exact h
    have h5 := (readP_ok hrd).2.1
    have hst := p.sz_tree
    have hcA := Lib.hid (fun W (hW : Below w1.heap.size w1 W) => atoms_all 9000 (by omega) p.tree W _ a A n c (by omega) (htc.below hW (fun g hg => hg.2)) (fun g hg => Nat.lt_of_lt_of_le hg.2 hW.size))
    rw [P.atoms_tree] at hcA
    clear hrd htc hz'
    go_wp2_with fail
    refine Calls.mono (hcA.out _ (by repeat (with_reducible first | exact hbel | exact Below.refl _ _ | refine Below.drew ?_ | refine Below.drewN ?_ _ | refine Below.alloc ?_ (by first | (simp; done) | (simp; omega) | omega | (have := Below.size hbel; simp; omega) | (have := Below.size hbel; omega)) _ | refine Below.setCell ?_ (by first | (simp; done) | (simp; omega) | omega) _))) ?_
    rintro e w2 ⟨rfl, hb2⟩
    go_wp2_with fail
    go_ret
    exact ⟨rfl, below_step (bb_alloc hb1 _) (by have := hb1.size; simp) hb2⟩
  · obtain rfl : sizeO none = z := by have h := hz'.out; rw [hrd] at h; exact h
    clear hrd hz'
    go_wp2_with fail
    go_ret
    have hbel := hb1
    exact ⟨rfl, (by repeat (with_reducible first | exact hbel | exact Below.refl _ _ | refine Below.drew ?_ | refine Below.drewN ?_ _ | refine Below.alloc ?_ (by first | (simp; done) | (simp; omega) | omega | (have := Below.size hbel; simp; omega) | (have := Below.size hbel; omega)) _ | refine Below.setCell ?_ (by first | (simp; done) | (simp; omega) | omega) _))⟩

theorem implSize_any (s : ByteArray) (w : World) : Calls Try.prog 31 #[.string s] w fun e w' => e = .returned (.int .i64 (sizeO (readP s.data.toList))) ∧ Below w.heap.size w w' := by
  generalize hz : sizeO (readP s.data.toList) = z
  have hz' := Lib.hid hz
  clear hz
  go_enter Try.func31, Try.ntmps31
  go_wp2_with fail
  refine Calls.mono (readProgram_any s _) ?_
  intro e w1 hm
  cases hrd : readP s.data.toList with
  | none =>
    rw [hrd] at hm
    obtain ⟨hb1, rfl⟩ := hm
    obtain rfl : sizeO none = z := by have h := hz'.out; rw [hrd] at h; exact h
    clear hrd hz'
    go_wp2_with fail
    go_ret
    exact ⟨rfl, hb1⟩
  | some p =>
    have h5 := (readP_ok hrd).2.1
    rw [hrd] at hm
    obtain ⟨hb1, y, rfl, hy⟩ := hm
    obtain rfl : sizeO (some p) = z := by have h := hz'.out; rw [hrd] at h; exact h
    have mq := fun w => size_m hy w
    have cq := fun x w => size_c p x w
    have hy' := Lib.hid hy
    clear hrd hy hz'
    go_wp2_with (refine Calls.mono (size_any p (by omega) _ _ _ hy'.out (fun g hg => hg.2)) ?_; rintro e w2 ⟨rfl, hb2⟩)
    go_ret
    exact ⟨rfl, below_step hb1 (Nat.le_refl _) hb2⟩

theorem lawSize (s : ByteArray) (_ : s.size ≤ maxLen) (w : World) : Calls Try.prog 10 #[.string s] w fun e w' => e = .returned (.bool true) ∧ Below w.heap.size w w' := by
  have h1 := fun W => specSize_any s W
  have h2 := fun W => implSize_any s W
  generalize sizeO (readP s.data.toList) = b at h1 h2
  have h1' := Lib.hid h1
  have h2' := Lib.hid h2
  clear h1 h2
  by_cases hlen : 1048576 < s.size
  · go_enter Try.func10, Try.ntmps10
    go_wp2_with fail
    go_ret
    exact ⟨rfl, (by repeat (with_reducible first | exact hbel | exact Below.refl _ _ | refine Below.drew ?_ | refine Below.drewN ?_ _ | refine Below.alloc ?_ (by first | (simp; done) | (simp; omega) | omega | (have := Below.size hbel; simp; omega) | (have := Below.size hbel; omega)) _ | refine Below.setCell ?_ (by first | (simp; done) | (simp; omega) | omega) _))⟩
  · go_enter Try.func10, Try.ntmps10
    go_wp2_with fail
    refine Calls.mono (h1'.out _) ?_
    rintro e w1 ⟨rfl, hb1⟩
    go_wp2_with fail
    refine Calls.mono (h2'.out _) ?_
    rintro e w2 ⟨rfl, hb2⟩
    go_wp2_with fail
    go_ret
    exact ⟨rfl, below_step hb1 (Nat.le_refl _) hb2⟩

end Go.Proofs.Ytcdagenocmmidaa
