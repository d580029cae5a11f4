/- ProgramFree of the model, and its law as a call. -/
import Derived.Test.YtagafoldkfgikaaEqS
import Derived.Test.YtagafoldkfgikaaFreeP
import Derived.Test.YtagafoldkfgikaaFreeS
import Derived.Test.YtagafoldkfgikaaMark
namespace Go.Proofs.Ytagafoldkfgikaa
set_option linter.unusedVariables false
open Go.RowKit

set_option maxRecDepth 100000 in
theorem specFree_any (s : ByteArray) (w : World) : Calls Try.prog 5 #[.string s] w (SRet (freeO (readP s.data.toList)) (readP s.data.toList).isSome w) := by
  generalize hz : readP s.data.toList = o
  have hz' := Lib.hid hz
  clear hz
  go_enter Try.func5, Try.ntmps5
  go_wp2_with fail
  refine Calls.mono (l2Read_any s _) ?_
  rintro e w1 ⟨hb1, hp⟩
  have hb1' := Lib.hid hb1
  have hs1 := hb1.size
  rcases hp with ⟨p, a, A, n, c, hrd, rfl, htc⟩ | ⟨a, A, n, c, hrd, rfl⟩
  · obtain rfl : some p = o := hrd.symm.trans hz'.out
    have hok := (readP_ok hrd).1
    have h5 := (readP_ok hrd).2.1
    have hgoal := Lib.hid (show freeO (some p) = (p.free [] []).map bs' from by rw [P.free_top]; rfl)
    have htc' := Lib.hid htc
    have hcall := fun W (hW : W = ((w1.alloc (.cells #[.string a, .slice A n c] 32)).alloc (.cells #[] 9)).alloc (.cells #[] 9)) =>
      lf_any hok (by omega) w.heap.size w.heap.size [] [] (some ⟨w1.heap.size + 1, 0, none⟩) 0 (some ⟨w1.heap.size + 2, 0, none⟩) 0 W _ a A n c
        (by subst hW; exact htc.below ((((Below.refl _ _).alloc (Nat.le_refl _) _).alloc (by simp) _).alloc (by simp; omega) _) (fun g hg => hg.2))
        (by subst hW; exact fun g hg => ⟨by have := hg.2; simp; omega, fun e => by have := hg.2; simp [Value.ownBlock] at e; omega⟩)
        (by
          subst hW
          have h := (own_empty (w1.alloc (.cells #[.string a, .slice A n c] 32)) w.heap.size (by simp; omega) 9).alloc (.cells #[] 9)
          simpa using h)
        (fun k hk e => by simp [Value.ownBlock] at hk e; omega)
        (by
          subst hW
          have h := own_empty ((w1.alloc (.cells #[.string a, .slice A n c] 32)).alloc (.cells #[] 9)) w.heap.size (by simp; omega) 9
          simpa using h)
        (by subst hW; simp; omega) (by simp; omega) (by simp; omega)
    have hcall' := Lib.hid (hcall _ rfl)
    have hb2 := Lib.hid (bb_alloc (bb_alloc (bb_alloc hb1 (.cells #[.string a, .slice A n c] 32)) (.cells #[] 9)) (.cells #[] 9))
    clear hb1 hrd htc hcall hz'
    go_wp2_with fail
    refine hcall'.out.mono ?_
    rintro e w2 ⟨A2, c2, rfl, own, gr, mv⟩
    have hfin : Hid (SRet (freeO (some p)) true w (.returned (.tuple #[.slice A2 (p.free [] []).length c2, .bool true])) w2) := by
      rw [hgoal.out]
      have hl : ((p.free [] []).map bs').length = (p.free [] []).length := by simp
      refine ⟨A2, c2, by rw [hl], by rw [hl]; exact own, hb2.out.grown gr (by simp; omega) (fun j hj => by simp [Value.ownBlock] at hj; omega)⟩
    clear own gr mv
    go_wp2_with fail
    go_ret2
    exact hfin.out
  · obtain rfl : none = o := hrd.symm.trans hz'.out
    have hfin : Hid (SRet (freeO none) false w (.returned (.tuple #[.slice (some ⟨w1.heap.size + 1, 0, none⟩) 0 0, .bool false])) ((w1.alloc (.cells #[.string a, .slice A n c] 32)).alloc (.cells #[] 9))) := by
      refine ⟨_, _, rfl, ?_, (hb1'.out.alloc hs1 _).alloc (by simp; omega) _⟩
      have h := own_empty (w1.alloc (.cells #[.string a, .slice A n c] 32)) w.heap.size (by simp; omega) 9
      rw [show (w1.alloc (.cells #[.string a, .slice A n c] 32)).heap.size = w1.heap.size + 1 from by simp] at h
      exact h
    clear hb1 hrd hz'
    go_wp2_with fail
    go_ret2
    exact hfin.out

/-- What the law of a function that hands back texts does, from the contracts of the two functions. -/
theorem lawFree (s : ByteArray) (_ : s.size ≤ maxLen) (w : World) : Calls Try.prog 3 #[.string s] w fun e w' => e = .returned (.bool true) ∧ Below w.heap.size w w' := by
  have h1 := fun W => specFree_any s W
  have h2 := fun W => implFree_any s W
  have hlen : (freeO (readP s.data.toList)).length ≤ 500 := by
    cases h : readP s.data.toList with
    | none => simp [freeO]
    | some p => have := freeL_len p; have := (readP_ok h).2.1; simp [freeO] at *; omega
  generalize freeO (readP s.data.toList) = L at h1 h2 hlen
  generalize (readP s.data.toList).isSome = b at h1 h2
  have h1' := Lib.hid h1
  have h2' := Lib.hid h2
  clear h1 h2
  by_cases hls : 1048576 < s.size
  · go_enter Try.func3, Try.ntmps3
    go_wp2_with fail
    go_ret
    exact ⟨rfl, Below.refl _ _⟩
  · go_enter Try.func3, Try.ntmps3
    go_wp2_with fail
    refine (h1'.out _).mono ?_
    rintro e w1 ⟨A1, c1, rfl, own1, hb1⟩
    have own1' := Lib.hid own1
    have hb1' := Lib.hid hb1
    clear own1 hb1
    go_wp2_with fail
    refine (h2'.out _).mono ?_
    rintro e w2 ⟨A2, c2, rfl, own2, hb2⟩
    have own1a := Lib.hid (own_below own1'.out hb2)
    have own2' := Lib.hid own2
    have hb2' := Lib.hid hb2
    clear own2 hb2
    go_wp2_with fail
    refine (eq_any A2 A1 L.length L.length c2 c1 L L _ (RowS.of_own own2'.out) (RowS.of_own own1a.out) (by omega)).mono ?_
    rw [show decide (L = L) = true from by simp]
    rintro e w3 ⟨rfl, hb3⟩
    have own1b := Lib.hid (own_below own1a.out hb3)
    have own2b := Lib.hid (own_below own2'.out hb3)
    have hb3' := Lib.hid hb3
    clear hb3
    cases b
    all_goals
      go_wp2_with fail
      refine (mark_any A2 L.length c2 w1.heap.size 1 L _ own2b.out (by omega) (by omega)).mono ?_
      rintro e w4 ⟨rfl, own2c, gr4⟩
      have own1c := Lib.hid (own_grown (base2 := w1.heap.size) own1b.out gr4 (fun k hk => (own2b.out.lt k hk).1) (fun k hk => (own1'.out.lt k hk).2))
      have own2c' := Lib.hid own2c
      have hbel4 := Lib.hid (Below.grown (a := w) (w := w3) (w' := w4) (B := w.heap.size) (below_step (below_step hb1'.out (Nat.le_refl _) hb2'.out) (Nat.le_refl _) hb3'.out) gr4 (by have := hb1'.out.size; have := hb2'.out.size; have := hb3'.out.size; omega) (fun k hk => by have := (own2b.out.lt k hk).1; have := hb1'.out.size; omega))
      clear own2c gr4
      go_wp2_with fail
      refine (held_any A2 L.length c2 1 _ (RowS.of_own own2c'.out) (by omega) (by omega)).mono ?_
      rintro e w5 ⟨rfl, hb5⟩
      have own1d := Lib.hid (own_below own1c.out hb5)
      have own2d := Lib.hid (own_below own2c'.out hb5)
      have hb5' := Lib.hid hb5
      clear hb5
      go_wp2_with fail
      refine (h2'.out _).mono ?_
      rintro e w6 ⟨A3, c3, rfl, own3, hb6⟩
      have own1e := Lib.hid (own_below own1d.out hb6)
      have own2e := Lib.hid (own_below own2d.out hb6)
      have own3' := Lib.hid own3
      have hb6' := Lib.hid hb6
      clear hb6 own3
      go_wp2_with fail
      refine (eq_any A3 A1 L.length L.length c3 c1 L L _ (RowS.of_own own3'.out) (RowS.of_own own1e.out) (by omega)).mono ?_
      rw [show decide (L = L) = true from by simp]
      rintro e w7 ⟨rfl, hb7⟩
      have own2f := Lib.hid (own_below own2e.out hb7)
      have hb7' := Lib.hid hb7
      clear hb7
      go_wp2_with fail
      refine (held_any A2 L.length c2 1 _ (RowS.of_own own2f.out) (by omega) (by omega)).mono ?_
      rintro e w8 ⟨rfl, hb8⟩
      go_wp2_with fail
      go_ret
      exact ⟨rfl, below_step (below_step (below_step (below_step hbel4.out (Nat.le_refl _) hb5'.out) (Nat.le_refl _) hb6'.out) (Nat.le_refl _) hb7'.out) (Nat.le_refl _) hb8⟩

end Go.Proofs.Ytagafoldkfgikaa
