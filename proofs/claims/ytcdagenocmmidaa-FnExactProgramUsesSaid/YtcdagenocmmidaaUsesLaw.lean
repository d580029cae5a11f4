/- ProgramUses of the model and of the program, and its law as a call. -/
import Derived.Test.YtcdagenocmmidaaSpecU
import Derived.Test.YtcdagenocmmidaaUses
namespace Go.Proofs.Ytcdagenocmmidaa
set_option linter.unusedVariables false
open Go.RowKit

def usesO (o : Option P) (n : Bs) : Int := match o with
  | none => -1
  | some p => if isName n = true then p.count n else -1

set_option maxRecDepth 100000 in
theorem specUses_any (s name : ByteArray) (w : World) : Calls Try.prog 32 #[.string s, .string name] w fun e w' => e = .returned (.int .i64 (usesO (readP s.data.toList) name.data.toList)) ∧ Below w.heap.size w w' := by
  have hv := Lib.hid (fun W => l2Var_any name W)
  have hc := Lib.hid (fun W => l2Covar_any name W)
  have hstr : name = ⟨name.data.toList.toArray⟩ := rfl
  generalize hz : usesO (readP s.data.toList) name.data.toList = z
  have hz' := Lib.hid hz
  clear hz
  go_enter Try.func32, Try.ntmps32
  go_wp2_with fail
  refine Calls.mono (l2Read_any s _) ?_
  rintro e w1 ⟨hb1, hp⟩
  rcases hp with ⟨p, a, A, n, c, hrd, rfl, htc⟩ | ⟨a, A, n, c, hrd, rfl⟩
  · have hok := (readP_ok hrd).1
    have h5 := (readP_ok hrd).2.1
    have hcA := Lib.hid (fun W (hW : Below w1.heap.size w1 W) => lu_any name.data.toList hok (by omega) W _ a A n c (htc.below hW (fun g hg => hg.2)) (fun g hg => Nat.lt_of_lt_of_le hg.2 hW.size))
    rw [hrd] at hz'
    cases h1 : isVar name.data.toList
    · cases h2 : isCov name.data.toList
      · obtain rfl : -1 = z := by have h := hz'.out; simp only [usesO, isName, h1, h2] at h; exact h
        rw [h1] at hv; rw [h2] at hc
        clear hrd htc hz' h1 h2
        go_wp2_with (first
          | (go_at_call 47; refine Calls.mono (hv.out _) ?_; rintro e w2 ⟨rfl, rfl⟩)
          | (go_at_call 48; refine Calls.mono (hc.out _) ?_; rintro e w2 ⟨rfl, rfl⟩))
        go_ret
        have hbel := hb1
        exact ⟨rfl, (by repeat (with_reducible first | exact hbel | exact Below.refl _ _ | refine Below.drew ?_ | refine Below.drewN ?_ _ | refine Below.alloc ?_ (by first | (simp; done) | (simp; omega) | omega | (have := Below.size hbel; simp; omega) | (have := Below.size hbel; omega)) _ | refine Below.setCell ?_ (by first | (simp; done) | (simp; omega) | omega) _))⟩
      · obtain rfl : (p.count name.data.toList : Int) = z := by have h := hz'.out; simp only [usesO, isName, h1, h2] at h; exact h
        rw [h1] at hv; rw [h2] at hc
        clear hrd htc hz' h1 h2
        go_wp2_with (first
          | (go_at_call 47; refine Calls.mono (hv.out _) ?_; rintro e w2 ⟨rfl, rfl⟩)
          | (go_at_call 48; refine Calls.mono (hc.out _) ?_; rintro e w2 ⟨rfl, rfl⟩)
          | (go_at_call 55; refine Calls.mono (hcA.out _ (by repeat (with_reducible first | exact hbel | exact Below.refl _ _ | refine Below.drew ?_ | refine Below.drewN ?_ _ | refine Below.alloc ?_ (by first | (simp; done) | (simp; omega) | omega | (have := Below.size hbel; simp; omega) | (have := Below.size hbel; omega)) _ | refine Below.setCell ?_ (by first | (simp; done) | (simp; omega) | omega) _))) ?_; rintro e w2 ⟨rfl, hb2⟩))
        go_ret
        exact ⟨rfl, below_step (bb_alloc hb1 _) (by have := hb1.size; simp) hb2⟩
    · obtain rfl : (p.count name.data.toList : Int) = z := by have h := hz'.out; simp only [usesO, isName, h1] at h; exact h
      rw [h1] at hv
      clear hrd htc hz' h1
      go_wp2_with (first
        | (go_at_call 47; refine Calls.mono (hv.out _) ?_; rintro e w2 ⟨rfl, rfl⟩)
        | (go_at_call 55; refine Calls.mono (hcA.out _ (by repeat (with_reducible first | exact hbel | exact Below.refl _ _ | refine Below.drew ?_ | refine Below.drewN ?_ _ | refine Below.alloc ?_ (by first | (simp; done) | (simp; omega) | omega | (have := Below.size hbel; simp; omega) | (have := Below.size hbel; omega)) _ | refine Below.setCell ?_ (by first | (simp; done) | (simp; omega) | omega) _))) ?_; rintro e w2 ⟨rfl, hb2⟩))
      go_ret
      exact ⟨rfl, below_step (bb_alloc hb1 _) (by have := hb1.size; simp) hb2⟩
  · obtain rfl : -1 = z := by have h := hz'.out; rw [hrd] at h; exact h
    clear hrd hz'
    go_wp2_with fail
    go_ret
    have hbel := hb1
    exact ⟨rfl, (by repeat (with_reducible first | exact hbel | exact Below.refl _ _ | refine Below.drew ?_ | refine Below.drewN ?_ _ | refine Below.alloc ?_ (by first | (simp; done) | (simp; omega) | omega | (have := Below.size hbel; simp; omega) | (have := Below.size hbel; omega)) _ | refine Below.setCell ?_ (by first | (simp; done) | (simp; omega) | omega) _))⟩

set_option maxRecDepth 100000 in
theorem implUses_any (s name : ByteArray) (w : World) : Calls Try.prog 33 #[.string s, .string name] w fun e w' => e = .returned (.int .i64 (usesO (readP s.data.toList) name.data.toList)) ∧ Below w.heap.size w w' := by
  generalize hz : usesO (readP s.data.toList) name.data.toList = z
  have hz' := Lib.hid hz
  clear hz
  go_enter Try.func33, Try.ntmps33
  go_wp2_with fail
  refine Calls.mono (readProgram_any s _) ?_
  intro e w1 hm
  cases hrd : readP s.data.toList with
  | none =>
    rw [hrd] at hm
    obtain ⟨hb1, rfl⟩ := hm
    obtain rfl : -1 = z := by have h := hz'.out; rw [hrd] at h; exact h
    clear hrd hz'
    go_wp2_with fail
    refine Calls.mono (readName_any name _) ?_
    intro e w2 hnp
    obtain ⟨hb2, hcase⟩ := hnp.out (s := name.data.toList) rfl
    have hb12 := Lib.hid (below_step hb1 (Nat.le_refl _) hb2)
    clear hnp hb1 hb2
    rcases hcase with ⟨-, rfl⟩ | ⟨-, c, d, -, rfl⟩
    all_goals
      go_wp2_with fail
      go_ret
      have hbel := hb12.out
      exact ⟨rfl, (by repeat (with_reducible first | exact hbel | exact Below.refl _ _ | refine Below.drew ?_ | refine Below.drewN ?_ _ | refine Below.alloc ?_ (by first | (simp; done) | (simp; omega) | omega | (have := Below.size hbel; simp; omega) | (have := Below.size hbel; omega)) _ | refine Below.setCell ?_ (by first | (simp; done) | (simp; omega) | omega) _))⟩
  | some p =>
    have hok := (readP_ok hrd).1
    have h5 := (readP_ok hrd).2.1
    rw [hrd] at hm
    obtain ⟨hb1, y, rfl, hy⟩ := hm
    rw [hrd] at hz'
    have mq := fun w => uses_m hy w
    have cq := fun x w => uses_c p x w
    have hb1' := Lib.hid hb1
    have hcU := Lib.hid (fun W (hW : Below w1.heap.size w1 W) => uses_any hok (by omega) W _ y (hy.below hW (fun g hg => hg.2)) (fun g hg => Nat.lt_of_lt_of_le hg.2 hW.size))
    clear hrd hy hb1
    go_wp2_with fail
    refine Calls.mono (readName_any name _) ?_
    intro e w2 hnp
    obtain ⟨hb2, hcase⟩ := hnp.out (s := name.data.toList) rfl
    have hb12 := Lib.hid (below_step hb1'.out (Nat.le_refl _) hb2)
    have hb2' := Lib.hid hb2
    clear hnp hb2
    rcases hcase with ⟨hn, rfl⟩ | ⟨hn, c, d, hcd, rfl⟩
    · obtain rfl : -1 = z := by have h := hz'.out; simp only [usesO, hn] at h; exact h
      clear hz' hn
      go_wp2_with fail
      go_ret
      have hbel := hb12.out
      exact ⟨rfl, (by repeat (with_reducible first | exact hbel | exact Below.refl _ _ | refine Below.drew ?_ | refine Below.drewN ?_ _ | refine Below.alloc ?_ (by first | (simp; done) | (simp; omega) | omega | (have := Below.size hbel; simp; omega) | (have := Below.size hbel; omega)) _ | refine Below.setCell ?_ (by first | (simp; done) | (simp; omega) | omega) _))⟩
    · obtain rfl : (p.count (c :: d) : Int) = z := by have h := hz'.out; rw [← hcd]; simp only [usesO, hn] at h; exact h
      have hcnt := Lib.hid (p.uses_count (c :: d))
      have hul := p.uses_len
      clear hz' hn hcd
      go_wp2_with fail
      refine Calls.mono (hcU.out _ (by have hbel := hb2'.out; exact (by repeat (with_reducible first | exact hbel | exact Below.refl _ _ | refine Below.drew ?_ | refine Below.drewN ?_ _ | refine Below.alloc ?_ (by first | (simp; done) | (simp; omega) | omega | (have := Below.size hbel; simp; omega) | (have := Below.size hbel; omega)) _ | refine Below.setCell ?_ (by first | (simp; done) | (simp; omega) | omega) _)))) ?_
      rintro e w3 ⟨A1, c1, rfl, own1, hb3⟩
      have hb13 := Lib.hid (below_step (bb_alloc hb12.out _) (by have := hb12.out.size; simp) hb3)
      obtain ⟨z0, r0, r1, -, -⟩ := two_cells ((hb3.block w2.heap.size (by simp)).trans (heap_alloc_new w2 _))
      have hcW := Lib.hid (fun W (hW : Below w3.heap.size w3 W) => without_any A1 p.uses.length c1 p.uses (c :: d) (by simp) (P.uses_ne hok) (by omega) W ((RowN.of_own own1).below hW))
      clear own1 hb3
      go_wp2_with fail
      refine Calls.mono (hcW.out _ (by exact Below.refl _ _)) ?_
      rintro e w4 ⟨A2, c2, rfl, own2, hb4⟩
      have hb14 := Lib.hid (below_step hb13.out (Nat.le_refl _) hb4)
      clear own2 hb4
      go_wp2_with fail
      go_ret
      have e : wrap64 ((p.uses.length : Int) - ((minus p.uses (c :: d)).length : Int)) = (p.count (c :: d) : Int) := by
        have h := hcnt.out
        rw [show (p.uses.length : Int) - ((minus p.uses (c :: d)).length : Int) = (p.count (c :: d) : Int) from by omega]
        have hc := p.count_le (c :: d)
        exact IntWalk.wrap64_in _ ⟨by omega, by omega⟩
      exact ⟨ret_int e, hb14.out⟩

theorem lawUses (s : ByteArray) (_ : s.size ≤ maxLen) (name : ByteArray) (_ : name.size ≤ maxLen) (w : World) : Calls Try.prog 11 #[.string s, .string name] w fun e w' => e = .returned (.bool true) ∧ Below w.heap.size w w' := by
  have h1 := fun W => specUses_any s name W
  have h2 := fun W => implUses_any s name W
  generalize usesO (readP s.data.toList) name.data.toList = b at h1 h2
  have h1' := Lib.hid h1
  have h2' := Lib.hid h2
  clear h1 h2
  by_cases hlen : 1048576 < s.size
  · go_enter Try.func11, Try.ntmps11
    go_wp2_with fail
    go_ret
    exact ⟨rfl, (by repeat (with_reducible first | exact hbel | exact Below.refl _ _ | refine Below.drew ?_ | refine Below.drewN ?_ _ | refine Below.alloc ?_ (by first | (simp; done) | (simp; omega) | omega | (have := Below.size hbel; simp; omega) | (have := Below.size hbel; omega)) _ | refine Below.setCell ?_ (by first | (simp; done) | (simp; omega) | omega) _))⟩
  · by_cases hlen2 : 1048576 < name.size
    · go_enter Try.func11, Try.ntmps11
      go_wp2_with fail
      go_ret
      exact ⟨rfl, (by repeat (with_reducible first | exact hbel | exact Below.refl _ _ | refine Below.drew ?_ | refine Below.drewN ?_ _ | refine Below.alloc ?_ (by first | (simp; done) | (simp; omega) | omega | (have := Below.size hbel; simp; omega) | (have := Below.size hbel; omega)) _ | refine Below.setCell ?_ (by first | (simp; done) | (simp; omega) | omega) _))⟩
    · go_enter Try.func11, Try.ntmps11
      go_wp2_with fail
      refine Calls.mono (h1'.out _) ?_
      rintro e w1 ⟨rfl, hb1⟩
      go_wp2_with fail
      refine Calls.mono (h2'.out _) ?_
      rintro e w2 ⟨rfl, hb2⟩
      go_wp2_with fail
      go_ret
      exact ⟨rfl, below_step hb1 (Nat.le_refl _) hb2⟩

end Go.Proofs.Ytcdagenocmmidaa
