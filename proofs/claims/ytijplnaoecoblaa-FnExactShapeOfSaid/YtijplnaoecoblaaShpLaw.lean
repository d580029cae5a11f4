/- ShapeOf of the model and of the program, and the law FnExactShapeOf as a call. -/
import Derived.Test.YtijplnaoecoblaaShpI
import Derived.Test.YtijplnaoecoblaaShpS
import Derived.Test.YtijplnaoecoblaaKindLaw
namespace Go.Proofs.Ytijplnaoecoblaa
set_option linter.unusedVariables false
open Go.RowKit
set_option maxRecDepth 100000

theorem readP_len {s : Bs} {p : P} (h : readP s = some p) : p.text.length ≤ 20000 := by
  obtain ⟨h1, h2, -⟩ := readP_ok h
  have := P.text_length h1
  omega

theorem implShp_any (s : ByteArray) (w : World) : Calls Try.prog 6 #[.string s] w fun e w' => e = .returned (shV (shpO (readP s.data.toList))) ∧ Below w.heap.size w w' := by
  generalize hz : shpO (readP s.data.toList) = z
  have hz' := Lib.hid hz
  clear hz
  go_enter Try.func6, Try.ntmps6
  go_wp2_with fail
  refine Calls.mono (readProgram_any s _) ?_
  intro e w1 hm
  cases hrd : readP s.data.toList with
  | none =>
    rw [hrd] at hm
    obtain ⟨hb1, rfl⟩ := hm
    obtain rfl : shpO none = z := by have h := hz'.out; rw [hrd] at h; exact h
    clear hrd hz'
    go_wp2_with fail
    go_ret2
    exact ⟨rfl, hb1⟩
  | some p =>
    have hok := (readP_ok hrd).1
    have hlen := readP_len hrd
    rw [hrd] at hm
    obtain ⟨hb1, y, rfl, hy⟩ := hm
    obtain rfl : p.shp = z := by have h := hz'.out; rw [hrd] at h; exact h
    have hc := Lib.hid (fun W (hW : Below w1.heap.size w1 W) => shv_any hok W _ y (hy.below hW (fun g hg => hg.2)) (fun g hg => Nat.lt_of_lt_of_le hg.2 hW.size) hlen)
    have hb1' := Lib.hid hb1
    obtain ⟨a, b, hab⟩ : ∃ a b, shV p.shp = .tuple #[.string a, .bool b] := by cases p.shp; exact ⟨_, _, rfl⟩; exact ⟨_, _, rfl⟩
    rw [hab] at hc
    have hab' := Lib.hid hab
    generalize pt p = t at *
    clear hrd hy hz' hb1 hab
    go_wp2_with (go_at_call 14; refine Calls.mono (hc.out _ (Below.refl _ _)) ?_; rintro e w2 ⟨rfl, hb2⟩)
    go_ret2
    exact ⟨by rw [hab'.out]; rfl, below_step hb1'.out (Nat.le_refl _) hb2⟩

theorem specShp_any (s : ByteArray) (w : World) : Calls Try.prog 7 #[.string s] w fun e w' => e = .returned (shV (shpO (readP s.data.toList))) ∧ Below w.heap.size w w' := by
  generalize hz : shpO (readP s.data.toList) = z
  have hz' := Lib.hid hz
  clear hz
  go_enter Try.func7, Try.ntmps7
  go_wp2_with fail
  refine Calls.mono (l2Read_any s _) ?_
  rintro e w1 ⟨hb1, hp⟩
  rcases hp with ⟨p, a, A, n, c, hrd, rfl, htc⟩ | ⟨a, A, n, c, hrd, rfl⟩
  · obtain rfl : p.shp = z := by have h := hz'.out; rw [hrd] at h; exact h
    have hok := (readP_ok hrd).1
    have hlen := readP_len hrd
    have hno : p.kind ≠ .t → p.shp = none := fun h => by
      cases he : p.shp with
      | none => rfl
      | some a => exact absurd (P.shp_kind he hok) h
    cases hk : p.kind
    · have hv := Lib.hid (fun W (hW : Below w1.heap.size w1 W) => lv_any hok hk W _ a A n c (htc.below hW (fun g hg => hg.2)) (fun g hg => Nat.lt_of_lt_of_le hg.2 hW.size))
      have hs := Lib.hid (fun W (hW : Below w1.heap.size w1 W) => sof_any hok W _ a A n c (htc.below hW (fun g hg => hg.2)) (fun g hg => Nat.lt_of_lt_of_le hg.2 hW.size) hlen)
      have hsof := P.shp_sof hok hk
      have hval : p.val = false → p.shp = none := fun h => by
        cases he : p.shp with
        | none => rfl
        | some a => rw [P.shp_val he] at h; cases h
      have hb1' := Lib.hid hb1
      rw [show K.t.let = [116] from rfl]
      generalize p.sof.1 = s1 at *
      generalize p.sof.2 = s2 at *
      generalize p.val = v at *
      clear hrd htc hz' hno hk hb1 hok hlen
      have hw1 := Lib.hid (show ∀ o, Below w1.heap.size w1 (w1.alloc o) from fun o => (Below.refl _ _).alloc (Nat.le_refl _) _)
      cases v
      · have hval' := Lib.hid (hval rfl)
        clear hsof hs hval
        go_wp2_with (go_at_call 16; refine Calls.mono (hv.out _ (hw1.out _)) ?_; rintro e w2 ⟨rfl, hb2⟩)
        go_ret2
        exact ⟨by rw [hval'.out]; rfl, below_step (bb_alloc hb1'.out _) (by have := hb1'.out.size; simp) hb2⟩
      · clear hval
        have hsof' := Lib.hid hsof
        clear hsof
        go_wp2_with fail
        refine Calls.mono (hv.out _ (hw1.out _)) ?_
        rintro e w2 ⟨rfl, hb2⟩
        have hW2 := below_step (hw1.out _) (by simp) hb2
        have hz2 : w1.heap.size < w2.heap.size := Nat.lt_of_lt_of_le (by simp) hb2.size
        obtain ⟨z0, b0, b1, -, -⟩ := two_cells ((hb2.block w1.heap.size (by simp)).trans (heap_alloc_new w1 _))
        have hb2' := Lib.hid hb2
        have hW2' := Lib.hid hW2
        clear hb2 hW2
        go_wp2_with fail
        refine Calls.mono (hs.out _ hW2'.out) ?_
        rintro e w3 ⟨rfl, hb3⟩
        cases s2
        · go_wp2_with fail
          go_ret2
          exact ⟨by rw [hsof'.out]; rfl, below_step (below_step hb1'.out (Nat.le_refl _) hW2'.out) (Nat.le_refl _) hb3⟩
        · go_wp2_with fail
          go_ret2
          exact ⟨by rw [hsof'.out]; rfl, below_step (below_step hb1'.out (Nat.le_refl _) hW2'.out) (Nat.le_refl _) hb3⟩
    · have hno' := Lib.hid (hno (by rw [hk]; decide))
      rw [show K.c.let = [99] from rfl]
      clear hrd htc hz' hno hk hlen hok
      go_wp2_with fail
      go_ret2
      have hbel := hb1
      exact ⟨by rw [hno'.out]; rfl, (by repeat (with_reducible first | exact hbel | exact Below.refl _ _ | refine Below.drew ?_ | refine Below.drewN ?_ _ | refine Below.alloc ?_ (by first | (simp; done) | (simp; omega) | omega | (have := Below.size hbel; simp; omega) | (have := Below.size hbel; omega)) _ | refine Below.setCell ?_ (by first | (simp; done) | (simp; omega) | omega) _))⟩
    · have hno' := Lib.hid (hno (by rw [hk]; decide))
      rw [show K.s.let = [115] from rfl]
      clear hrd htc hz' hno hk hlen hok
      go_wp2_with fail
      go_ret2
      have hbel := hb1
      exact ⟨by rw [hno'.out]; rfl, (by repeat (with_reducible first | exact hbel | exact Below.refl _ _ | refine Below.drew ?_ | refine Below.drewN ?_ _ | refine Below.alloc ?_ (by first | (simp; done) | (simp; omega) | omega | (have := Below.size hbel; simp; omega) | (have := Below.size hbel; omega)) _ | refine Below.setCell ?_ (by first | (simp; done) | (simp; omega) | omega) _))⟩
  · obtain rfl : none = z := by have h := hz'.out; rw [hrd] at h; exact h
    clear hrd hz'
    go_wp2_with fail
    go_ret2
    have hbel := hb1
    exact ⟨rfl, (by repeat (with_reducible first | exact hbel | exact Below.refl _ _ | refine Below.drew ?_ | refine Below.drewN ?_ _ | refine Below.alloc ?_ (by first | (simp; done) | (simp; omega) | omega | (have := Below.size hbel; simp; omega) | (have := Below.size hbel; omega)) _ | refine Below.setCell ?_ (by first | (simp; done) | (simp; omega) | omega) _))⟩

theorem lawShapeOf (s : ByteArray) (_ : s.size ≤ maxLen) (w : World) : Calls Try.prog 4 #[.string s] w fun e w' => e = .returned (.bool true) ∧ Below w.heap.size w w' := by
  have h1 := fun W => specShp_any s W
  have h2 := fun W => implShp_any s W
  generalize shpO (readP s.data.toList) = b at h1 h2
  have h1' := Lib.hid h1
  have h2' := Lib.hid h2
  clear h1 h2
  by_cases hlen : 1048576 < s.size
  · go_enter Try.func4, Try.ntmps4
    go_wp2_with fail
    go_ret
    exact ⟨rfl, (by repeat (with_reducible first | exact hbel | exact Below.refl _ _ | refine Below.drew ?_ | refine Below.drewN ?_ _ | refine Below.alloc ?_ (by first | (simp; done) | (simp; omega) | omega | (have := Below.size hbel; simp; omega) | (have := Below.size hbel; omega)) _ | refine Below.setCell ?_ (by first | (simp; done) | (simp; omega) | omega) _))⟩
  · cases b with
    | none =>
      rw [shV_none] at h1' h2'
      go_enter Try.func4, Try.ntmps4
      go_wp2_with fail
      refine Calls.mono (h1'.out _) ?_
      rintro e w1 ⟨rfl, hb1⟩
      go_wp2_with fail
      refine Calls.mono (h2'.out _) ?_
      rintro e w2 ⟨rfl, hb2⟩
      go_wp2_with fail
      go_ret
      exact ⟨rfl, below_step hb1 (Nat.le_refl _) hb2⟩
    | some a =>
      have hbb : (a == a) = true := by simp
      rw [shV_some] at h1' h2'
      go_enter Try.func4, Try.ntmps4
      go_wp2_with fail
      refine Calls.mono (h1'.out _) ?_
      rintro e w1 ⟨rfl, hb1⟩
      go_wp2_with fail
      refine Calls.mono (h2'.out _) ?_
      rintro e w2 ⟨rfl, hb2⟩
      go_wp2_with fail
      go_ret
      exact ⟨rfl, below_step hb1 (Nat.le_refl _) hb2⟩

end Go.Proofs.Ytijplnaoecoblaa
