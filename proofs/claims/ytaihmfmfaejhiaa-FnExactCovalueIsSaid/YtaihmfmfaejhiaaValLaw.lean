/- ValueIs and CovalueIs of the model and of the program, and their laws as calls. -/
import Derived.Test.YtaihmfmfaejhiaaL4V
import Derived.Test.YtaihmfmfaejhiaaLDual
import Derived.Test.YtaihmfmfaejhiaaMch2V
import Derived.Test.YtaihmfmfaejhiaaMch2N
namespace Go.Proofs.Ytaihmfmfaejhiaa
set_option linter.unusedVariables false
open Go.RowKit
set_option maxRecDepth 100000

def valO : Option P → Bool
  | none => false
  | some p => p.val
def covO : Option P → Bool
  | none => false
  | some p => p.cov

theorem implVal_any (s : ByteArray) (w : World) : Calls Try.prog 6 #[.string s] w fun e w' => e = .returned (.bool (valO (readP s.data.toList))) ∧ Below w.heap.size w w' := by
  generalize hz : valO (readP s.data.toList) = z
  have hz' := Lib.hid hz
  clear hz
  go_enter Try.func6, Try.ntmps6
  go_wp2_with fail
  refine Calls.mono (readProgram_any s _) ?_
  intro e w1 hm
  cases hrd : readP s.data.toList with
  | none =>
    rw [hrd] at hm
    obtain ⟨hb1, rfl⟩ := hm
    obtain rfl : valO none = z := by have h := hz'.out; rw [hrd] at h; exact h
    clear hrd hz'
    go_wp2_with fail
    go_ret
    exact ⟨rfl, hb1⟩
  | some p =>
    have hok := (readP_ok hrd).1
    rw [hrd] at hm
    obtain ⟨hb1, y, rfl, hy⟩ := hm
    obtain rfl : p.val = z := by have h := hz'.out; rw [hrd] at h; exact h
    have hc := Lib.hid (fun W (hW : Below w1.heap.size w1 W) => isvV_any hok W _ y .nilIface .nilIface (hy.below hW (fun g hg => hg.2)) (fun g hg => Nat.lt_of_lt_of_le hg.2 hW.size))
    have hb1' := Lib.hid hb1
    clear hrd hy hz' hb1
    go_wp2_with (go_at_call 12; refine Calls.mono (hc.out _ (Below.refl _ _)) ?_; rintro e w2 ⟨rfl, hb2⟩)
    go_ret
    exact ⟨rfl, below_step hb1'.out (Nat.le_refl _) hb2⟩

theorem implCov_any (s : ByteArray) (w : World) : Calls Try.prog 8 #[.string s] w fun e w' => e = .returned (.bool (covO (readP s.data.toList))) ∧ Below w.heap.size w w' := by
  generalize hz : covO (readP s.data.toList) = z
  have hz' := Lib.hid hz
  clear hz
  go_enter Try.func8, Try.ntmps8
  go_wp2_with fail
  refine Calls.mono (readProgram_any s _) ?_
  intro e w1 hm
  cases hrd : readP s.data.toList with
  | none =>
    rw [hrd] at hm
    obtain ⟨hb1, rfl⟩ := hm
    obtain rfl : covO none = z := by have h := hz'.out; rw [hrd] at h; exact h
    clear hrd hz'
    go_wp2_with fail
    go_ret
    exact ⟨rfl, hb1⟩
  | some p =>
    have hok := (readP_ok hrd).1
    rw [hrd] at hm
    obtain ⟨hb1, y, rfl, hy⟩ := hm
    obtain rfl : p.cov = z := by have h := hz'.out; rw [hrd] at h; exact h
    have hc := Lib.hid (fun W (hW : Below w1.heap.size w1 W) => isvN_any hok W _ y .nilIface .nilIface (hy.below hW (fun g hg => hg.2)) (fun g hg => Nat.lt_of_lt_of_le hg.2 hW.size))
    have hb1' := Lib.hid hb1
    clear hrd hy hz' hb1
    go_wp2_with (go_at_call 14; refine Calls.mono (hc.out _ (Below.refl _ _)) ?_; rintro e w2 ⟨rfl, hb2⟩)
    go_ret
    exact ⟨rfl, below_step hb1'.out (Nat.le_refl _) hb2⟩

/-- No covariable, coterm or statement is a value. -/
theorem P.val_kind : ∀ {p : P}, p.ok = true → p.kind ≠ .t → p.val = false
  | .nm s, h, hk => by
    rw [P.kind] at hk; rw [P.val]
    cases hv : firstIs varB s
    · rfl
    · rw [hv] at hk; exact absurd rfl hk
  | .bd s b, h, hk => rfl
  | .f1 x p, h, hk => by
    rw [P.ok, Bool.and_eq_true, decide_eq_true_iff] at h
    have e := h.2
    generalize (P.f1 x p).kind = k1 at *
    rw [P.val]
    unfold hd1 at e
    repeat' split at e
    all_goals first | (cases e; done) | (rename_i hh; subst hh; injection e with e; injection e with e1 e2; subst e1; first | exact absurd rfl hk | rfl)
  | .f2 x p q, h, hk => by
    rw [P.ok, Bool.and_eq_true, Bool.and_eq_true, decide_eq_true_iff] at h
    have e := h.2
    generalize (P.f2 x p q).kind = k1 at *
    rw [P.val]
    unfold hd2 at e
    repeat' split at e
    all_goals first | (cases e; done) | (rename_i hh; subst hh; injection e with e; injection e with e1 e2; subst e1; first | exact absurd rfl hk | rfl)

theorem specVal_any (s : ByteArray) (w : World) : Calls Try.prog 5 #[.string s] w fun e w' => e = .returned (.bool (valO (readP s.data.toList))) ∧ Below w.heap.size w w' := by
  generalize hz : valO (readP s.data.toList) = z
  have hz' := Lib.hid hz
  clear hz
  go_enter Try.func5, Try.ntmps5
  go_wp2_with fail
  refine Calls.mono (l2Read_any s _) ?_
  rintro e w1 ⟨hb1, hp⟩
  rcases hp with ⟨p, a, A, n, c, hrd, rfl, htc⟩ | ⟨a, A, n, c, hrd, rfl⟩
  · obtain rfl : p.val = z := by have h := hz'.out; rw [hrd] at h; exact h
    have hok := (readP_ok hrd).1
    have hno := P.val_kind hok
    have hyes := fun h => lv_any hok h
    cases hk : p.kind
    · have hc := Lib.hid (fun W (hW : Below w1.heap.size w1 W) => hyes hk W _ a A n c (htc.below hW (fun g hg => hg.2)) (fun g hg => Nat.lt_of_lt_of_le hg.2 hW.size))
      rw [show K.t.let = [116] from rfl]
      clear hrd htc hz' hno hyes hk
      go_wp2_with (go_at_call 10; refine Calls.mono (hc.out _ (by repeat (with_reducible first | exact hbel | exact Below.refl _ _ | refine Below.drew ?_ | refine Below.drewN ?_ _ | refine Below.alloc ?_ (by first | (simp; done) | (simp; omega) | omega | (have := Below.size hbel; simp; omega) | (have := Below.size hbel; omega)) _ | refine Below.setCell ?_ (by first | (simp; done) | (simp; omega) | omega) _))) ?_; rintro e w2 ⟨rfl, hb2⟩)
      go_ret
      exact ⟨rfl, below_step (bb_alloc hb1 _) (by have := hb1.size; simp) hb2⟩
    · have hv := Lib.hid (hno (by rw [hk]; decide))
      rw [show K.c.let = [99] from rfl]
      clear hrd htc hz' hno hyes hk
      go_wp2_with fail
      go_ret
      have hbel := hb1
      exact ⟨ret_bool hv.out.symm, (by repeat (with_reducible first | exact hbel | exact Below.refl _ _ | refine Below.drew ?_ | refine Below.drewN ?_ _ | refine Below.alloc ?_ (by first | (simp; done) | (simp; omega) | omega | (have := Below.size hbel; simp; omega) | (have := Below.size hbel; omega)) _ | refine Below.setCell ?_ (by first | (simp; done) | (simp; omega) | omega) _))⟩
    · have hv := Lib.hid (hno (by rw [hk]; decide))
      rw [show K.s.let = [115] from rfl]
      clear hrd htc hz' hno hyes hk
      go_wp2_with fail
      go_ret
      have hbel := hb1
      exact ⟨ret_bool hv.out.symm, (by repeat (with_reducible first | exact hbel | exact Below.refl _ _ | refine Below.drew ?_ | refine Below.drewN ?_ _ | refine Below.alloc ?_ (by first | (simp; done) | (simp; omega) | omega | (have := Below.size hbel; simp; omega) | (have := Below.size hbel; omega)) _ | refine Below.setCell ?_ (by first | (simp; done) | (simp; omega) | omega) _))⟩
  · obtain rfl : false = z := by have h := hz'.out; rw [hrd] at h; exact h
    clear hrd hz'
    go_wp2_with fail
    go_ret
    have hbel := hb1
    exact ⟨rfl, (by repeat (with_reducible first | exact hbel | exact Below.refl _ _ | refine Below.drew ?_ | refine Below.drewN ?_ _ | refine Below.alloc ?_ (by first | (simp; done) | (simp; omega) | omega | (have := Below.size hbel; simp; omega) | (have := Below.size hbel; omega)) _ | refine Below.setCell ?_ (by first | (simp; done) | (simp; omega) | omega) _))⟩

theorem P.cov_kind {p : P} (hok : p.ok = true) (hk : p.kind ≠ .c) : p.cov = false := by
  rw [← (P.val_dual hok).1]
  refine P.val_kind (P.dual_ok hok) ?_
  rw [P.dual_kind hok]
  cases h : p.kind
  · simp [K.dual]
  · exact absurd h hk
  · simp [K.dual]

theorem specCov_any (s : ByteArray) (w : World) : Calls Try.prog 7 #[.string s] w fun e w' => e = .returned (.bool (covO (readP s.data.toList))) ∧ Below w.heap.size w w' := by
  generalize hz : covO (readP s.data.toList) = z
  have hz' := Lib.hid hz
  clear hz
  go_enter Try.func7, Try.ntmps7
  go_wp2_with fail
  refine Calls.mono (l2Read_any s _) ?_
  rintro e w1 ⟨hb1, hp⟩
  rcases hp with ⟨p, a, A, n, c, hrd, rfl, htc⟩ | ⟨a, A, n, c, hrd, rfl⟩
  · obtain rfl : p.cov = z := by have h := hz'.out; rw [hrd] at h; exact h
    have hok := (readP_ok hrd).1
    have hno := P.cov_kind hok
    have hdk := P.dual_kind hok
    cases hk : p.kind
    · have hv := Lib.hid (hno (by rw [hk]; decide))
      rw [show K.t.let = [116] from rfl]
      clear hrd htc hz' hno hk hdk
      go_wp2_with fail
      go_ret
      have hbel := hb1
      exact ⟨ret_bool hv.out.symm, (by repeat (with_reducible first | exact hbel | exact Below.refl _ _ | refine Below.drew ?_ | refine Below.drewN ?_ _ | refine Below.alloc ?_ (by first | (simp; done) | (simp; omega) | omega | (have := Below.size hbel; simp; omega) | (have := Below.size hbel; omega)) _ | refine Below.setCell ?_ (by first | (simp; done) | (simp; omega) | omega) _))⟩
    · have hcD := Lib.hid (fun W (hW : Below w1.heap.size w1 W) => ld_any hok W _ a A n c (htc.below hW (fun g hg => hg.2)) (fun g hg => Nat.lt_of_lt_of_le hg.2 hW.size))
      have hcV := lv_any (P.dual_ok hok) (by rw [hdk, hk]; rfl)
      unfold LV at hcV
      rw [(P.val_dual hok).1] at hcV
      have hcV' := Lib.hid hcV
      rw [show K.c.let = [99] from rfl]
      have hb1' := Lib.hid hb1
      clear hrd htc hz' hno hk hdk hcV hb1
      go_wp2_with (first
        | (go_at_call 13; refine Calls.mono (hcD.out _ (by have hbel := hb1'.out; exact (by repeat (with_reducible first | exact hbel | exact Below.refl _ _ | refine Below.drew ?_ | refine Below.drewN ?_ _ | refine Below.alloc ?_ (by first | (simp; done) | (simp; omega) | omega | (have := Below.size hbel; simp; omega) | (have := Below.size hbel; omega)) _ | refine Below.setCell ?_ (by first | (simp; done) | (simp; omega) | omega) _)))) ?_; rintro e w2 ⟨u2, v2, m2, d2, rfl, tc2, hb2⟩)
        | (go_at_call 10; refine Calls.mono (hcV'.out _ _ u2 v2 m2 d2 tc2 (fun g hg => by rcases hg with hg | hg; exact False.elim hg; exact hg.2)) ?_; rintro e w3 ⟨rfl, hb3⟩))
      go_ret
      exact ⟨rfl, below_step (below_step (bb_alloc hb1'.out _) (by have := hb1'.out.size; simp) hb2) (Nat.le_refl _) hb3⟩
    · have hv := Lib.hid (hno (by rw [hk]; decide))
      rw [show K.s.let = [115] from rfl]
      clear hrd htc hz' hno hk hdk
      go_wp2_with fail
      go_ret
      have hbel := hb1
      exact ⟨ret_bool hv.out.symm, (by repeat (with_reducible first | exact hbel | exact Below.refl _ _ | refine Below.drew ?_ | refine Below.drewN ?_ _ | refine Below.alloc ?_ (by first | (simp; done) | (simp; omega) | omega | (have := Below.size hbel; simp; omega) | (have := Below.size hbel; omega)) _ | refine Below.setCell ?_ (by first | (simp; done) | (simp; omega) | omega) _))⟩
  · obtain rfl : false = z := by have h := hz'.out; rw [hrd] at h; exact h
    clear hrd hz'
    go_wp2_with fail
    go_ret
    have hbel := hb1
    exact ⟨rfl, (by repeat (with_reducible first | exact hbel | exact Below.refl _ _ | refine Below.drew ?_ | refine Below.drewN ?_ _ | refine Below.alloc ?_ (by first | (simp; done) | (simp; omega) | omega | (have := Below.size hbel; simp; omega) | (have := Below.size hbel; omega)) _ | refine Below.setCell ?_ (by first | (simp; done) | (simp; omega) | omega) _))⟩

theorem lawValueIs (s : ByteArray) (_ : s.size ≤ maxLen) (w : World) : Calls Try.prog 3 #[.string s] w fun e w' => e = .returned (.bool true) ∧ Below w.heap.size w w' := by
  have h1 := fun W => specVal_any s W
  have h2 := fun W => implVal_any s W
  generalize valO (readP s.data.toList) = b at h1 h2
  have h1' := Lib.hid h1
  have h2' := Lib.hid h2
  have hbb : ((b == b) : Bool) = true := by simp
  clear h1 h2
  by_cases hlen : 1048576 < s.size
  · go_enter Try.func3, Try.ntmps3
    go_wp2_with fail
    go_ret
    exact ⟨rfl, (by repeat (with_reducible first | exact hbel | exact Below.refl _ _ | refine Below.drew ?_ | refine Below.drewN ?_ _ | refine Below.alloc ?_ (by first | (simp; done) | (simp; omega) | omega | (have := Below.size hbel; simp; omega) | (have := Below.size hbel; omega)) _ | refine Below.setCell ?_ (by first | (simp; done) | (simp; omega) | omega) _))⟩
  · go_enter Try.func3, Try.ntmps3
    go_wp2_with fail
    refine Calls.mono (h1'.out _) ?_
    rintro e w1 ⟨rfl, hb1⟩
    go_wp2_with fail
    refine Calls.mono (h2'.out _) ?_
    rintro e w2 ⟨rfl, hb2⟩
    go_wp2_with fail
    go_ret
    exact ⟨rfl, below_step hb1 (Nat.le_refl _) hb2⟩

theorem lawCovalueIs (s : ByteArray) (_ : s.size ≤ maxLen) (w : World) : Calls Try.prog 4 #[.string s] w fun e w' => e = .returned (.bool true) ∧ Below w.heap.size w w' := by
  have h1 := fun W => specCov_any s W
  have h2 := fun W => implCov_any s W
  generalize covO (readP s.data.toList) = b at h1 h2
  have h1' := Lib.hid h1
  have h2' := Lib.hid h2
  have hbb : ((b == b) : Bool) = true := by simp
  clear h1 h2
  by_cases hlen : 1048576 < s.size
  · go_enter Try.func4, Try.ntmps4
    go_wp2_with fail
    go_ret
    exact ⟨rfl, (by repeat (with_reducible first | exact hbel | exact Below.refl _ _ | refine Below.drew ?_ | refine Below.drewN ?_ _ | refine Below.alloc ?_ (by first | (simp; done) | (simp; omega) | omega | (have := Below.size hbel; simp; omega) | (have := Below.size hbel; omega)) _ | refine Below.setCell ?_ (by first | (simp; done) | (simp; omega) | omega) _))⟩
  · go_enter Try.func4, Try.ntmps4
    go_wp2_with fail
    refine Calls.mono (h1'.out _) ?_
    rintro e w1 ⟨rfl, hb1⟩
    go_wp2_with fail
    refine Calls.mono (h2'.out _) ?_
    rintro e w2 ⟨rfl, hb2⟩
    go_wp2_with fail
    go_ret
    exact ⟨rfl, below_step hb1 (Nat.le_refl _) hb2⟩

end Go.Proofs.Ytaihmfmfaejhiaa
