/- Letters: impl.isLetter and spec.l1Letter answer 'isLet'. -/
import Derived.Test.YtagafoldkfgikaaDig
import Derived.Test.YtagafoldkfgikaaBytes
import Derived.Lib.Hide
import Derived.BigQuiet
import Derived.Deep.QuietTactic
namespace Go.Proofs.Ytagafoldkfgikaa
set_option linter.unusedVariables false
open Go.RowKit

theorem isLet_nil (s : ByteArray) (h : s.size < 1) : isLet s.data.toList = false := by
  rw [ba_size] at h
  have e : s.data.toList = [] := List.eq_nil_of_length_eq_zero (by omega)
  rw [e]; rfl
theorem isLet_long (s : ByteArray) (h : 3 < s.size) : isLet s.data.toList = false := by
  rw [ba_size] at h
  cases hl : s.data.toList with
  | nil => rfl
  | cons c r =>
    rw [hl] at h
    simp at h
    simp [isLet, show ¬ r.length ≤ 2 from by omega]
theorem isLet_low (s : ByteArray) (h : 0 < s.size) (hl : lowB s[0] = false) : isLet s.data.toList = false := by
  obtain ⟨⟨l⟩⟩ := s
  cases l with
  | nil => rfl
  | cons c r => simp [isLet]; intro _ h2; rw [show lowB c = false from hl] at h2; cases h2
theorem isLet_yes (s : ByteArray) (h : 0 < s.size) (h3 : s.size ≤ 3) (hl : lowB s[0] = true) : isLet s.data.toList = (s.data.toList.drop 1).all digB := by
  obtain ⟨⟨l⟩⟩ := s
  cases l with
  | nil => exact absurd h (by decide)
  | cons c r =>
    have h3' : r.length + 1 ≤ 3 := h3
    simp [isLet, show lowB c = true from hl, show r.length ≤ 2 from by omega]

theorem isLetter_any (s : ByteArray) (w : World) :
    Calls Try.prog 50 #[.string s] w fun e w' => e = .returned (.bool (isLet s.data.toList)) ∧ w = w' := by
  by_cases h1 : s.size < 1
  · have hf := Lib.hid (isLet_nil s h1)
    go_enter Try.func50, Try.ntmps50
    go_wp2_with fail
    go_ret
    exact ⟨ret_bool hf.out.symm, rfl⟩
  · by_cases h3 : 3 < s.size
    · have hf := Lib.hid (isLet_long s h3)
      go_enter Try.func50, Try.ntmps50
      go_wp2_with fail
      go_ret
      exact ⟨ret_bool hf.out.symm, rfl⟩
    · have h0 : 0 < s.size := by omega
      cases hl : lowB s[0]
      · have hf := Lib.hid (isLet_low s h0 hl)
        go_enter Try.func50, Try.ntmps50
        go_wp2_with (go_at_call 63; refine (low_any _ _).mono ?_; rintro e w' ⟨rfl, rfl⟩)
        go_ret
        exact ⟨ret_bool hf.out.symm, rfl⟩
      · have hf := Lib.hid (isLet_yes s h0 (by omega) hl)
        go_enter Try.func50, Try.ntmps50
        go_wp2_with (first
          | (go_at_call 63; refine (low_any _ _).mono ?_; rintro e w' ⟨rfl, rfl⟩)
          | (go_at_call 56; refine (allDigits_any _ _ (by simp; omega)).mono ?_; rintro e w' ⟨rfl, rfl⟩))
        go_ret
        exact ⟨ret_bool (by rw [hf.out, allDig, Lib.extract_to_end]), rfl⟩

theorem isLetter_str (q : Bs) (b : Bool) (h : isLet q = b) (w : World) :
    Calls Try.prog 50 #[.string ⟨q.toArray⟩] w fun e w' => e = .returned (.bool b) ∧ w = w' := by
  subst h
  exact isLetter_any ⟨q.toArray⟩ w

theorem l1Letter_any (s : ByteArray) (w : World) :
    Calls Try.prog 49 #[.string s] w fun e w' => e = .returned (.bool (isLet s.data.toList)) ∧ w = w' := by
  by_cases h13 : 1 ≤ s.size ∧ s.size ≤ 3
  · obtain ⟨h1, h3⟩ := h13
    cases hl : lowB s[0]
    · have hf := Lib.hid (isLet_low s h1 hl)
      rcases low_not _ hl with h | h
      all_goals
        clear hl
        go_enter Try.func49, Try.ntmps49
        go_wp2_with (go_at_call 62; refine (l6In_any _ _ _ _).mono ?_; rintro e w' ⟨rfl, rfl⟩)
        go_ret
        exact ⟨ret_bool hf.out.symm, rfl⟩
    · have hf := Lib.hid (isLet_yes s h1 h3 hl)
      obtain ⟨hl1, hl2⟩ := low_yes _ hl
      clear hl
      go_enter Try.func49, Try.ntmps49
      go_wp2_with (go_at_call 62; refine (l6In_any _ _ _ _).mono ?_; rintro e w' ⟨rfl, rfl⟩)
      go_loop [3] (fun c => ∃ k : Nat, 1 ≤ k ∧ k ≤ s.size ∧ allTo digB s 1 k ∧ c = .int .i64 k) (fun c => s.size - (intOf c).toNat)
      case atStart => exact ⟨1, Nat.le_refl _, h1, allTo_zero, rfl⟩
      case round =>
        obtain ⟨k, hk1, hk, hall, rfl⟩ := hrel
        have hall' := Lib.hid hall
        clear hall
        by_cases hlt : k < s.size
        · cases hb : digB s[k]
          · have hff := Lib.hid (all_false hk1 hlt hb)
            rcases dig_not _ hb with h | h
            all_goals
              clear hb
              go_wp2_with fail
              go_ret
              exact ⟨ret_bool (by rw [hf.out, hff.out]), rfl⟩
          · obtain ⟨hd1, hd2⟩ := dig_yes _ hb
            have hst := Lib.hid (allTo_step hall'.out hlt hb)
            clear hb
            go_wp2_with fail
            go_round
            case rel => exact ⟨k + 1, by omega, by omega, hst.out, by go_num⟩
            case measure => simp [intOf]; omega
        · go_wp2_with fail
          go_ret
          exact ⟨ret_bool (by rw [hf.out, allTo_all hall'.out (by omega)]), rfl⟩
  · have hf : isLet s.data.toList = false := by
      by_cases h : s.size < 1
      · exact isLet_nil s h
      · exact isLet_long s (by omega)
    have hf' := Lib.hid hf
    have hdec : (decide ((1 : Int) ≤ (s.size : Int)) && decide ((s.size : Int) ≤ 3)) = false := by
      rw [Bool.and_eq_false_iff]
      simp only [decide_eq_false_iff_not]
      omega
    clear hf
    go_enter Try.func49, Try.ntmps49
    go_wp2_with (go_at_call 62; refine (l6In_any _ _ _ _).mono ?_; rintro e w' ⟨rfl, rfl⟩)
    go_ret
    exact ⟨ret_bool hf'.out.symm, rfl⟩

end Go.Proofs.Ytagafoldkfgikaa
