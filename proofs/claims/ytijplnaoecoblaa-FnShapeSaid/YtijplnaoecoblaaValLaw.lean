/- ValueIs and CovalueIs of the model and of the program, and their laws as calls. -/
import Derived.Test.YtijplnaoecoblaaL4V
import Derived.Test.YtijplnaoecoblaaLDual
import Derived.Test.YtijplnaoecoblaaMch2V
import Derived.Test.YtijplnaoecoblaaMch2N
namespace Go.Proofs.Ytijplnaoecoblaa
set_option linter.unusedVariables false
open Go.RowKit
set_option maxRecDepth 100000

def valO : Option P → Bool
  | none => false
  | some p => p.val
def covO : Option P → Bool
  | none => false
  | some p => p.cov

theorem implVal_any (s : ByteArray) (w : World) : Calls Try.prog 8 #[.string s] w fun e w' => e = .returned (.bool (valO (readP s.data.toList))) ∧ Below w.heap.size w w' := by
  generalize hz : valO (readP s.data.toList) = z
  have hz' := Lib.hid hz
  clear hz
  go_enter Try.func8, Try.ntmps8
  go_wp2_with fail
  refine Calls.mono (readProgram_any s _) ?_
  intro e w1 hm
  cases hrd : readP s.data.toList with
  | none =>
    rw [hrd] at hm
    obtain ⟨hb1, rfl⟩ := hm
    obtain rfl : valO none = z := by have h := hz'.out; rw [hrd] at h; exact h
    clear hrd hz'
    go_wp2_with fail
    go_ret
    exact ⟨rfl, hb1⟩
  | some p =>
    have hok := (readP_ok hrd).1
    rw [hrd] at hm
    obtain ⟨hb1, y, rfl, hy⟩ := hm
    obtain rfl : p.val = z := by have h := hz'.out; rw [hrd] at h; exact h
    have hc := Lib.hid (fun W (hW : Below w1.heap.size w1 W) => isvV_any hok W _ y .nilIface .nilIface (hy.below hW (fun g hg => hg.2)) (fun g hg => Nat.lt_of_lt_of_le hg.2 hW.size))
    have hb1' := Lib.hid hb1
    clear hrd hy hz' hb1
    go_wp2_with (go_at_call 18; refine Calls.mono (hc.out _ (Below.refl _ _)) ?_; rintro e w2 ⟨rfl, hb2⟩)
    go_ret
    exact ⟨rfl, below_step hb1'.out (Nat.le_refl _) hb2⟩

/-- No covariable, coterm or statement is a value. -/
theorem P.val_kind : ∀ {p : P}, p.ok = true → p.kind ≠ .t → p.val = false
  | .nm s, h, hk => by
    rw [P.kind] at hk; rw [P.val]
    cases hv : firstIs varB s
    · rfl
    · rw [hv] at hk; exact absurd rfl hk
  | .bd s b, h, hk => rfl
  | .f1 x p, h, hk => by
    rw [P.ok, Bool.and_eq_true, decide_eq_true_iff] at h
    have e := h.2
    generalize (P.f1 x p).kind = k1 at *
    rw [P.val]
    unfold hd1 at e
    repeat' split at e
    all_goals first | (cases e; done) | (rename_i hh; subst hh; injection e with e; injection e with e1 e2; subst e1; first | exact absurd rfl hk | rfl)
  | .f2 x p q, h, hk => by
    rw [P.ok, Bool.and_eq_true, Bool.and_eq_true, decide_eq_true_iff] at h
    have e := h.2
    generalize (P.f2 x p q).kind = k1 at *
    rw [P.val]
    unfold hd2 at e
    repeat' split at e
    all_goals first | (cases e; done) | (rename_i hh; subst hh; injection e with e; injection e with e1 e2; subst e1; first | exact absurd rfl hk | rfl)

theorem P.cov_kind {p : P} (hok : p.ok = true) (hk : p.kind ≠ .c) : p.cov = false := by
  rw [← (P.val_dual hok).1]
  refine P.val_kind (P.dual_ok hok) ?_
  rw [P.dual_kind hok]
  cases h : p.kind
  · simp [K.dual]
  · exact absurd h hk
  · simp [K.dual]

end Go.Proofs.Ytijplnaoecoblaa
