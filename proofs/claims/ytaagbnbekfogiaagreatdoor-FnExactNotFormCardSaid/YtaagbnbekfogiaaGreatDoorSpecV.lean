/- The model's look at names: l2Name, l2Var, l2Covar. -/
import Derived.Test.YtaagbnbekfogiaaGreatDoorReadSpec
import Derived.Test.YtaagbnbekfogiaaGreatDoorDig
import Derived.Test.YtaagbnbekfogiaaGreatDoorMathP
namespace Go.Proofs.YtaagbnbekfogiaaGreatDoor
set_option linter.unusedVariables false
open Go.RowKit

def p3 (a b c : UInt8) (x : UInt8) : Bool := x == a || x == b || x == c

theorem nameB_nil (p : UInt8 → Bool) (s : ByteArray) (h : s.size < 1) : nameB p s.data.toList = false := by
  rw [ba_size] at h
  rw [List.eq_nil_of_length_eq_zero (l := s.data.toList) (by omega)]; rfl
theorem nameB_long (p : UInt8 → Bool) (s : ByteArray) (h : 4 < s.size) : nameB p s.data.toList = false := by
  rw [ba_size] at h
  cases hl : s.data.toList with
  | nil => rfl
  | cons c r =>
    rw [hl] at h
    simp at h
    simp [nameB, show ¬ r.length ≤ 3 from by omega]
theorem nameB_first (p : UInt8 → Bool) (s : ByteArray) (h : 0 < s.size) (hp : p s[0] = false) : nameB p s.data.toList = false := by
  obtain ⟨⟨l⟩⟩ := s
  cases l with
  | nil => rfl
  | cons c r => simp [nameB, show p c = false from hp]
theorem nameB_yes (p : UInt8 → Bool) (s : ByteArray) (h : 0 < s.size) (h4 : s.size ≤ 4) (hp : p s[0] = true) : nameB p s.data.toList = (s.data.toList.drop 1).all digB := by
  obtain ⟨⟨l⟩⟩ := s
  cases l with
  | nil => exact absurd h (by decide)
  | cons c r =>
    have h4' : r.length + 1 ≤ 4 := h4
    simp [nameB, show p c = true from hp, show r.length ≤ 3 from by omega]

theorem beqInt (x a : UInt8) : ((x.toNat : Int) == (a.toNat : Int)) = (x == a) := by
  rw [Bool.eq_iff_iff]
  simp only [beq_iff_eq]
  constructor
  · intro h; exact UInt8.toNat_inj.1 (by omega)
  · intro h; rw [h]

theorem l2Name_any (s : ByteArray) (a b c : UInt8) (w : World) :
    Calls Tryz.prog 93 #[.string s, .int .u8 a.toNat, .int .u8 b.toNat, .int .u8 c.toNat] w fun e w' => e = .returned (.bool (nameB (p3 a b c) s.data.toList)) ∧ w = w' := by
  by_cases h14 : 1 ≤ s.size ∧ s.size ≤ 4
  · obtain ⟨h1, h4⟩ := h14
    have na := beqInt s[0] a
    have nb := beqInt s[0] b
    have nc := beqInt s[0] c
    cases hl : p3 a b c s[0]
    · have hf := Lib.hid (nameB_first (p3 a b c) s h1 hl)
      simp only [p3, Bool.or_eq_false_iff] at hl
      obtain ⟨⟨ha, hb⟩, hc⟩ := hl
      have ma : ((s[0].toNat : Int) != (a.toNat : Int)) = true := by rw [bne, na, ha]; rfl
      have mb : ((s[0].toNat : Int) != (b.toNat : Int)) = true := by rw [bne, nb, hb]; rfl
      have mc : ((s[0].toNat : Int) != (c.toNat : Int)) = true := by rw [bne, nc, hc]; rfl
      clear na nb nc ha hb hc
      go_enter Tryz.func93, Tryz.ntmps93
      go_wp2_with (go_at_call 88; refine (l6In_any _ _ _ _).mono ?_; rintro e w' ⟨rfl, rfl⟩)
      go_ret
      exact ⟨ret_bool hf.out.symm, rfl⟩
    · have hf := Lib.hid (nameB_yes (p3 a b c) s h1 h4 hl)
      have hcase : (s[0] == a) = true ∨ ((s[0] == a) = false ∧ (s[0] == b) = true) ∨ ((s[0] == a) = false ∧ (s[0] == b) = false ∧ (s[0] == c) = true) := by
        simp only [p3] at hl
        cases ha : (s[0] == a)
        · cases hb : (s[0] == b)
          · rw [ha, hb] at hl; simp at hl; exact .inr (.inr ⟨rfl, rfl, by simpa using hl⟩)
          · exact .inr (.inl ⟨rfl, rfl⟩)
        · exact .inl rfl
      clear hl
      have ma : ((s[0].toNat : Int) != (a.toNat : Int)) = !(s[0] == a) := by rw [bne, na]
      have mb : ((s[0].toNat : Int) != (b.toNat : Int)) = !(s[0] == b) := by rw [bne, nb]
      have mc : ((s[0].toNat : Int) != (c.toNat : Int)) = !(s[0] == c) := by rw [bne, nc]
      clear na nb nc
      rcases hcase with ha | ⟨ha, hb⟩ | ⟨ha, hb, hc⟩
      all_goals
        simp only [*] at ma mb mc
        go_enter Tryz.func93, Tryz.ntmps93
        go_wp2_with (go_at_call 88; refine (l6In_any _ _ _ _).mono ?_; rintro e w' ⟨rfl, rfl⟩)
        go_loop [9] (fun c => ∃ k : Nat, 1 ≤ k ∧ k ≤ s.size ∧ allTo digB s 1 k ∧ c = .int .i64 k) (fun c => s.size - (intOf c).toNat)
        case atStart => exact ⟨1, Nat.le_refl _, h1, allTo_zero, rfl⟩
        case round =>
          obtain ⟨k, hk1, hk, hall, rfl⟩ := hrel
          have hall' := Lib.hid hall
          clear hall
          by_cases hlt : k < s.size
          · cases hb : digB s[k]
            · have hff := Lib.hid (all_false hk1 hlt hb)
              rcases dig_not _ hb with h | h
              all_goals
                clear hb
                go_wp2_with fail
                go_ret
                exact ⟨ret_bool (by rw [hf.out, hff.out]), rfl⟩
            · obtain ⟨hd1, hd2⟩ := dig_yes _ hb
              have hst := Lib.hid (allTo_step hall'.out hlt hb)
              clear hb
              go_wp2_with fail
              go_round
              case rel => exact ⟨k + 1, by omega, by omega, hst.out, by go_num⟩
              case measure => simp [intOf]; omega
          · go_wp2_with fail
            go_ret
            exact ⟨ret_bool (by rw [hf.out, allTo_all hall'.out (by omega)]), rfl⟩
  · have hf : nameB (p3 a b c) s.data.toList = false := by
      by_cases h : s.size < 1
      · exact nameB_nil _ s h
      · exact nameB_long _ s (by omega)
    have hf' := Lib.hid hf
    have hdec : (decide ((1 : Int) ≤ (s.size : Int)) && decide ((s.size : Int) ≤ 4)) = false := by
      rw [Bool.and_eq_false_iff]
      simp only [decide_eq_false_iff_not]
      omega
    clear hf
    go_enter Tryz.func93, Tryz.ntmps93
    go_wp2_with (go_at_call 88; refine (l6In_any _ _ _ _).mono ?_; rintro e w' ⟨rfl, rfl⟩)
    go_ret
    exact ⟨ret_bool hf'.out.symm, rfl⟩

theorem l2Var_any (s : ByteArray) (w : World) : Calls Tryz.prog 70 #[.string s] w fun e w' => e = .returned (.bool (isVar s.data.toList)) ∧ w = w' := by
  have call := fun w => l2Name_any s 120 121 122 w
  have e : p3 120 121 122 = varB := rfl
  rw [e, show ((120 : UInt8).toNat : Int) = 120 from rfl, show ((121 : UInt8).toNat : Int) = 121 from rfl, show ((122 : UInt8).toNat : Int) = 122 from rfl] at call
  have call' := Lib.hid call
  clear call e
  go_enter Tryz.func70, Tryz.ntmps70
  go_wp2_with (go_at_call 93; refine Calls.mono (call'.out _) ?_; rintro e w1 ⟨rfl, rfl⟩)
  go_ret
  exact ⟨rfl, rfl⟩
theorem l2Covar_any (s : ByteArray) (w : World) : Calls Tryz.prog 71 #[.string s] w fun e w' => e = .returned (.bool (isCov s.data.toList)) ∧ w = w' := by
  have call := fun w => l2Name_any s 107 108 109 w
  have e : p3 107 108 109 = covB := rfl
  rw [e, show ((107 : UInt8).toNat : Int) = 107 from rfl, show ((108 : UInt8).toNat : Int) = 108 from rfl, show ((109 : UInt8).toNat : Int) = 109 from rfl] at call
  have call' := Lib.hid call
  clear call e
  go_enter Tryz.func71, Tryz.ntmps71
  go_wp2_with (go_at_call 93; refine Calls.mono (call'.out _) ?_; rintro e w1 ⟨rfl, rfl⟩)
  go_ret
  exact ⟨rfl, rfl⟩

end Go.Proofs.YtaagbnbekfogiaaGreatDoor
