/- impl.sourceSize. -/
import Derived.Test.YtchkmdagbjbcjaaGreatDoorSrcT
namespace Go.Proofs.YtchkmdagbjbcjaaGreatDoor
set_option linter.unusedVariables false
open Go.RowKit
set_option maxRecDepth 100000

def SZS (m : Src) : Prop := ∀ w : World, m.size ≤ 100000 → Calls Tryz.prog 31 #[.iface (sty m) (sv m)] w fun e w' => e = .returned (.int .i64 m.size) ∧ Below w.heap.size w w'

theorem szs_v (s : Bs) (hs : s ≠ []) : SZS (.v s) := by
  intro w hz
  obtain ⟨c, d, rfl⟩ : ∃ c d, s = c :: d := by
    cases s with
    | nil => exact absurd rfl hs
    | cons c d => exact ⟨c, d, rfl⟩
  rw [show sty (.v (c :: d)) = 81 from rfl, show sv (.v (c :: d)) = .agg #[.int .u8 c.toNat, str d] from rfl, show (Src.v (c :: d)).size = 1 from rfl]
  have mi := in_mention (.agg #[.int .u8 c.toNat, str d])
  have h0 := sa_mention_lambda
  have h1 := sa_mention_catch
  have h2 := sa_mention_throw
  go_enter Tryz.func31, Tryz.ntmps31
  go_wp2_with fail
  refine Calls.mono (inner_none _ _ _) ?_
  rintro e w1 ⟨rfl, hb1⟩
  go_wp2_with fail
  refine wp_loop_rounds 1 ?_
  rw [rounds_succ]
  go_wp2_with fail
  go_ret
  exact ⟨rfl, hb1⟩

theorem szs_lambda (t : TypeId) (x : Value) (c : UInt8) (d : Bs) (k : Nat) (hk : k ≤ 100000) (hc : Hid (∀ w, Calls Tryz.prog 31 #[.iface t x] w fun e w' => e = .returned (.int .i64 k) ∧ Below w.heap.size w w')) (w : World) :
    Calls Tryz.prog 31 #[.iface 85 (.agg #[.int .u8 c.toNat, str d, .iface t x])] w fun e w' => e = .returned (.int .i64 ((2 + k : Nat) : Int)) ∧ Below w.heap.size w w' := by
  have mi := in_lambda (.int .u8 c.toNat) (str d) (.iface t x)
  have h0 := sa_lambda_lambda
  have h1 := sa_lambda_catch
  have h2 := sa_lambda_throw
  have hin := Lib.hid (fun w => inner_one t x w)
  go_enter Tryz.func31, Tryz.ntmps31
  go_wp2_with fail
  refine Calls.mono (hin.out _) ?_
  rintro e w1 ⟨g, rfl, hb1, hg, c0⟩
  go_wp2_with fail
  refine wp_loop_rounds 2 ?_
  rw [rounds_succ]
  go_wp2_with fail
  refine Calls.mono (hc.out _) ?_
  rintro e w2 ⟨rfl, hb2⟩
  go_wp2_with fail
  rw [rounds_succ]
  go_wp2_with fail
  go_ret
  exact ⟨ret_int (by go_num), below_step hb1 (Nat.le_refl _) hb2⟩

theorem szs_catch (t : TypeId) (x : Value) (c : UInt8) (d : Bs) (k : Nat) (hk : k ≤ 100000) (hc : Hid (∀ w, Calls Tryz.prog 31 #[.iface t x] w fun e w' => e = .returned (.int .i64 k) ∧ Below w.heap.size w w')) (w : World) :
    Calls Tryz.prog 31 #[.iface 87 (.agg #[.int .u8 c.toNat, str d, .iface t x])] w fun e w' => e = .returned (.int .i64 ((2 + k : Nat) : Int)) ∧ Below w.heap.size w w' := by
  have mi := in_catch (.int .u8 c.toNat) (str d) (.iface t x)
  have h0 := sa_catch_lambda
  have h1 := sa_catch_catch
  have h2 := sa_catch_throw
  have hin := Lib.hid (fun w => inner_one t x w)
  go_enter Tryz.func31, Tryz.ntmps31
  go_wp2_with fail
  refine Calls.mono (hin.out _) ?_
  rintro e w1 ⟨g, rfl, hb1, hg, c0⟩
  go_wp2_with fail
  refine wp_loop_rounds 2 ?_
  rw [rounds_succ]
  go_wp2_with fail
  refine Calls.mono (hc.out _) ?_
  rintro e w2 ⟨rfl, hb2⟩
  go_wp2_with fail
  rw [rounds_succ]
  go_wp2_with fail
  go_ret
  exact ⟨ret_int (by go_num), below_step hb1 (Nat.le_refl _) hb2⟩

theorem szs_throw (t : TypeId) (x : Value) (c : UInt8) (d : Bs) (k : Nat) (hk : k ≤ 100000) (hc : Hid (∀ w, Calls Tryz.prog 31 #[.iface t x] w fun e w' => e = .returned (.int .i64 k) ∧ Below w.heap.size w w')) (w : World) :
    Calls Tryz.prog 31 #[.iface 89 (.agg #[.int .u8 c.toNat, str d, .iface t x])] w fun e w' => e = .returned (.int .i64 ((2 + k : Nat) : Int)) ∧ Below w.heap.size w w' := by
  have mi := in_throw (.int .u8 c.toNat) (str d) (.iface t x)
  have h0 := sa_throw_lambda
  have h1 := sa_throw_catch
  have h2 := sa_throw_throw
  have hin := Lib.hid (fun w => inner_one t x w)
  go_enter Tryz.func31, Tryz.ntmps31
  go_wp2_with fail
  refine Calls.mono (hin.out _) ?_
  rintro e w1 ⟨g, rfl, hb1, hg, c0⟩
  go_wp2_with fail
  refine wp_loop_rounds 2 ?_
  rw [rounds_succ]
  go_wp2_with fail
  refine Calls.mono (hc.out _) ?_
  rintro e w2 ⟨rfl, hb2⟩
  go_wp2_with fail
  rw [rounds_succ]
  go_wp2_with fail
  go_ret
  exact ⟨ret_int (by go_num), below_step hb1 (Nat.le_refl _) hb2⟩

theorem szs_leftPart (t : TypeId) (x : Value) (k : Nat) (hk : k ≤ 100000) (hc : Hid (∀ w, Calls Tryz.prog 31 #[.iface t x] w fun e w' => e = .returned (.int .i64 k) ∧ Below w.heap.size w w')) (w : World) :
    Calls Tryz.prog 31 #[.iface 125 (.agg #[.iface t x])] w fun e w' => e = .returned (.int .i64 ((1 + k : Nat) : Int)) ∧ Below w.heap.size w w' := by
  have mi := in_leftPart (.iface t x)
  have h0 := sa_leftPart_lambda
  have h1 := sa_leftPart_catch
  have h2 := sa_leftPart_throw
  have hin := Lib.hid (fun w => inner_one t x w)
  go_enter Tryz.func31, Tryz.ntmps31
  go_wp2_with fail
  refine Calls.mono (hin.out _) ?_
  rintro e w1 ⟨g, rfl, hb1, hg, c0⟩
  go_wp2_with fail
  refine wp_loop_rounds 2 ?_
  rw [rounds_succ]
  go_wp2_with fail
  refine Calls.mono (hc.out _) ?_
  rintro e w2 ⟨rfl, hb2⟩
  go_wp2_with fail
  rw [rounds_succ]
  go_wp2_with fail
  go_ret
  exact ⟨ret_int (by go_num), below_step hb1 (Nat.le_refl _) hb2⟩

theorem szs_rightPart (t : TypeId) (x : Value) (k : Nat) (hk : k ≤ 100000) (hc : Hid (∀ w, Calls Tryz.prog 31 #[.iface t x] w fun e w' => e = .returned (.int .i64 k) ∧ Below w.heap.size w w')) (w : World) :
    Calls Tryz.prog 31 #[.iface 126 (.agg #[.iface t x])] w fun e w' => e = .returned (.int .i64 ((1 + k : Nat) : Int)) ∧ Below w.heap.size w w' := by
  have mi := in_rightPart (.iface t x)
  have h0 := sa_rightPart_lambda
  have h1 := sa_rightPart_catch
  have h2 := sa_rightPart_throw
  have hin := Lib.hid (fun w => inner_one t x w)
  go_enter Tryz.func31, Tryz.ntmps31
  go_wp2_with fail
  refine Calls.mono (hin.out _) ?_
  rintro e w1 ⟨g, rfl, hb1, hg, c0⟩
  go_wp2_with fail
  refine wp_loop_rounds 2 ?_
  rw [rounds_succ]
  go_wp2_with fail
  refine Calls.mono (hc.out _) ?_
  rintro e w2 ⟨rfl, hb2⟩
  go_wp2_with fail
  rw [rounds_succ]
  go_wp2_with fail
  go_ret
  exact ⟨ret_int (by go_num), below_step hb1 (Nat.le_refl _) hb2⟩

theorem szs_application (t u : TypeId) (x y : Value) (k l : Nat) (hkl : k + l ≤ 100000) (hc : Hid (∀ w, Calls Tryz.prog 31 #[.iface t x] w fun e w' => e = .returned (.int .i64 k) ∧ Below w.heap.size w w')) (hd : Hid (∀ w, Calls Tryz.prog 31 #[.iface u y] w fun e w' => e = .returned (.int .i64 l) ∧ Below w.heap.size w w')) (w : World) :
    Calls Tryz.prog 31 #[.iface 131 (.agg #[.iface t x, .iface u y])] w fun e w' => e = .returned (.int .i64 ((1 + k + l : Nat) : Int)) ∧ Below w.heap.size w w' := by
  have mi := in_application (.iface t x) (.iface u y)
  have h0 := sa_application_lambda
  have h1 := sa_application_catch
  have h2 := sa_application_throw
  have hin := Lib.hid (fun w => inner_two t u x y w)
  go_enter Tryz.func31, Tryz.ntmps31
  go_wp2_with fail
  refine Calls.mono (hin.out _) ?_
  rintro e w1 ⟨g, rfl, hb1, hg, c0, c1⟩
  go_wp2_with fail
  refine wp_loop_rounds 3 ?_
  rw [rounds_succ]
  go_wp2_with fail
  refine Calls.mono (hc.out _) ?_
  rintro e w2 ⟨rfl, hb2⟩
  have c1' := (hb2.cell (p := ⟨g, 1, none⟩) hg).trans c1
  go_wp2_with fail
  rw [rounds_succ]
  go_wp2_with fail
  refine Calls.mono (hd.out _) ?_
  rintro e w3 ⟨rfl, hb3⟩
  go_wp2_with fail
  rw [rounds_succ]
  go_wp2_with fail
  go_ret
  exact ⟨ret_int (by go_num), below_step (below_step hb1 (Nat.le_refl _) hb2) (Nat.le_refl _) hb3⟩

theorem szs_both (t u : TypeId) (x y : Value) (k l : Nat) (hkl : k + l ≤ 100000) (hc : Hid (∀ w, Calls Tryz.prog 31 #[.iface t x] w fun e w' => e = .returned (.int .i64 k) ∧ Below w.heap.size w w')) (hd : Hid (∀ w, Calls Tryz.prog 31 #[.iface u y] w fun e w' => e = .returned (.int .i64 l) ∧ Below w.heap.size w w')) (w : World) :
    Calls Tryz.prog 31 #[.iface 132 (.agg #[.iface t x, .iface u y])] w fun e w' => e = .returned (.int .i64 ((1 + k + l : Nat) : Int)) ∧ Below w.heap.size w w' := by
  have mi := in_both (.iface t x) (.iface u y)
  have h0 := sa_both_lambda
  have h1 := sa_both_catch
  have h2 := sa_both_throw
  have hin := Lib.hid (fun w => inner_two t u x y w)
  go_enter Tryz.func31, Tryz.ntmps31
  go_wp2_with fail
  refine Calls.mono (hin.out _) ?_
  rintro e w1 ⟨g, rfl, hb1, hg, c0, c1⟩
  go_wp2_with fail
  refine wp_loop_rounds 3 ?_
  rw [rounds_succ]
  go_wp2_with fail
  refine Calls.mono (hc.out _) ?_
  rintro e w2 ⟨rfl, hb2⟩
  have c1' := (hb2.cell (p := ⟨g, 1, none⟩) hg).trans c1
  go_wp2_with fail
  rw [rounds_succ]
  go_wp2_with fail
  refine Calls.mono (hd.out _) ?_
  rintro e w3 ⟨rfl, hb3⟩
  go_wp2_with fail
  rw [rounds_succ]
  go_wp2_with fail
  go_ret
  exact ⟨ret_int (by go_num), below_step (below_step hb1 (Nat.le_refl _) hb2) (Nat.le_refl _) hb3⟩

theorem szs_any : ∀ {m : Src}, m.ok = true → SZS m
  | .v s, h => szs_v s (nameB_ne (by rw [Src.ok] at h; exact h))
  | .nb h s m, hok => fun w hz => by
    rw [Src.ok, Bool.and_eq_true, Bool.and_eq_true] at hok
    rw [Src.size] at hz
    have ih := Lib.hid (fun w => szs_any hok.2 w (by omega))
    obtain ⟨c, d, rfl⟩ : ∃ c d, s = c :: d := by
      cases s with
      | nil => exact absurd rfl (hnB_ne hok.1.2)
      | cons c d => exact ⟨c, d, rfl⟩
    have hh := hok.1.1
    simp only [isNb, Bool.or_eq_true, beq_iff_eq] at hh
    rcases hh with (rfl | rfl) | rfl
    · exact szs_lambda (sty m) (sv m) c d m.size (by omega) ih w
    · exact szs_catch (sty m) (sv m) c d m.size (by omega) ih w
    · exact szs_throw (sty m) (sv m) c d m.size (by omega) ih w
  | .n1 h m, hok => fun w hz => by
    rw [Src.ok, Bool.and_eq_true] at hok
    rw [Src.size] at hz
    have ih := Lib.hid (fun w => szs_any hok.2 w (by omega))
    have hh := hok.1
    simp only [h1B, Bool.or_eq_true, beq_iff_eq] at hh
    rcases hh with rfl | rfl
    · exact szs_leftPart (sty m) (sv m) m.size (by omega) ih w
    · exact szs_rightPart (sty m) (sv m) m.size (by omega) ih w
  | .n2 h m n, hok => fun w hz => by
    rw [Src.ok, Bool.and_eq_true, Bool.and_eq_true] at hok
    rw [Src.size] at hz
    have ih := Lib.hid (fun w => szs_any hok.1.2 w (by omega))
    have ih2 := Lib.hid (fun w => szs_any hok.2 w (by omega))
    have hh := hok.1.1
    simp only [h2B, Bool.or_eq_true, beq_iff_eq] at hh
    rcases hh with rfl | rfl
    · exact szs_application (sty m) (sty n) (sv m) (sv n) m.size n.size (by omega) ih ih2 w
    · exact szs_both (sty m) (sty n) (sv m) (sv n) m.size n.size (by omega) ih ih2 w

end Go.Proofs.YtchkmdagbjbcjaaGreatDoor
