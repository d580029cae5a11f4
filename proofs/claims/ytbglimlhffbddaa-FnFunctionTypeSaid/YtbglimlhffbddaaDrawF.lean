/- What is drawn in chapter 1: formulas, seldom other texts. -/
import Derived.Test.YtbglimlhffbddaaDrawL
namespace Go.Proofs.Ytbglimlhffbddaa
set_option linter.unusedVariables false
open Go.RowKit

def DF (d : Int) (K L : Nat) : Prop := ∀ (r : Nat) (A : Option Addr) (n c P : Nat) (w : World), RD w r A n c P → P + K ≤ 100000 → Calls Try.prog 19 #[.pointer (some ⟨r, 0, none⟩), .int .i64 d] w (DRet r A n c (P + K) L w)
theorem DF.mono {d : Int} {K K' L L' : Nat} (h : DF d K L) (hK : K ≤ K') (hL : L ≤ L') : DF d K' L' := fun r A n c P w hr hP =>
  Calls.mono (h r A n c P w hr (by omega)) (fun e w' ⟨s, hs, he, rd, sb⟩ => ⟨s, by omega, he, rd.mono (by omega), sb⟩)

set_option maxRecDepth 100000 in
theorem df_zero (d : Int) (hd : d ≤ 0) : DF d 1 1 := by
  intro r A n c P w h hP
  have rd0 := Lib.hid h
  have sb0 := Lib.hid (sf_refl w r)
  clear h
  go_enter Try.func19, Try.ntmps19
  have call1 := Lib.hid (of_lit r A n c (P) [⟨#[97]⟩, ⟨#[98]⟩, ⟨#[97]⟩, ⟨#[99]⟩] 1 w rd0.out (by omega) (by simp) (by simp) (by decide) #[.string ⟨#[97]⟩, .string ⟨#[98]⟩, .string ⟨#[97]⟩, .string ⟨#[99]⟩] rfl 4 9)
  go_wp2_with fail
  refine Calls.mono call1.out ?_
  rintro e w1 ⟨s1, hs1, rfl, rd, sb⟩
  have rd1 := Lib.hid rd
  have sb1 := Lib.hid (sf_trans sb0.out sb)
  clear rd sb
  go_wp2_with fail
  go_ret
  exact ⟨_, by (try simp only [ByteArray.size_append, lit_size, List.length_cons, List.length_nil]); omega, rfl, rd1.out.mono (by omega), sb1.out⟩

set_option maxRecDepth 100000 in
set_option maxHeartbeats 1000000 in
theorem df_succ (d : Int) (hd : 0 < d) (hd2 : d ≤ 100) (K L M : Nat) (hL : L ≤ 4000) (hK : K ≤ 9000) (hM : 2 * L + 5 ≤ M) (hf : Hid (DF (d - 1) K L)) : DF d (2 * K + 3) M := by
  intro r A n c P w h hP
  have hp1 := Lib.hid (pick_any r A n c P 4 w h (by omega) (by omega) (by omega))
  clear h
  go_enter Try.func19, Try.ntmps19
  go_wp2_with fail
  refine Calls.mono hp1.out ?_
  rintro e w1 ⟨k, hk, rfl, rd, sb⟩
  have rd1 := Lib.hid rd
  have sb1 := Lib.hid sb
  clear rd sb
  by_cases hk0 : k = 0
  · subst hk0
    have call2 := Lib.hid (of_lit r A n c (P + 1) [⟨#[97]⟩, ⟨#[98]⟩, ⟨#[97]⟩, ⟨#[99]⟩] 1 w1 rd1.out (by omega) (by simp) (by simp) (by decide) #[.string ⟨#[97]⟩, .string ⟨#[98]⟩, .string ⟨#[97]⟩, .string ⟨#[99]⟩] rfl 4 9)
    go_wp2_with fail
    refine Calls.mono call2.out ?_
    rintro e w2 ⟨s2, hs2, rfl, rd, sb⟩
    have rd2 := Lib.hid rd
    have sb2 := Lib.hid (sf_trans sb1.out sb)
    clear rd sb
    go_wp2_with fail
    go_ret
    exact ⟨_, by (try simp only [ByteArray.size_append, lit_size, List.length_cons, List.length_nil]); omega, rfl, rd2.out.mono (by omega), sb2.out⟩
  · have hk1 : ((k : Int) == 0) = false := by rw [beq_eq_false_iff_ne]; omega
    have hp2 := Lib.hid (pick_any r A n c (P + 1) 3 w1 rd1.out (by omega) (by omega) (by omega))
    go_wp2_with fail
    refine Calls.mono hp2.out ?_
    rintro e w2 ⟨k2, hk2, rfl, rd, sb⟩
    have rd2 := Lib.hid rd
    have sb2 := Lib.hid (sf_trans sb1.out sb)
    clear rd sb
    have hcase : k2 = 0 ∨ k2 = 1 ∨ k2 = 2 := by omega
    rcases hcase with rfl | rfl | rfl
    · go_wp2_with fail
      refine Calls.mono (hf.out r A n c (P + 1 + 1) w2 rd2.out (by omega)) ?_
      rintro e w3 ⟨s3, hs3, rfl, rd, sb⟩
      have rd3 := Lib.hid rd
      have sb3 := Lib.hid (sf_trans sb2.out sb)
      clear rd sb
      go_wp2_with fail
      go_ret
      exact ⟨_, by (try simp only [ByteArray.size_append, lit_size, List.length_cons, List.length_nil]); omega, rfl, rd3.out.mono (by omega), sb3.out⟩
    all_goals
      go_wp2_with fail
      refine Calls.mono (hf.out r A n c (P + 1 + 1) w2 rd2.out (by omega)) ?_
      rintro e w3 ⟨s3, hs3, rfl, rd, sb⟩
      have rd3 := Lib.hid rd
      have sb3 := Lib.hid (sf_trans sb2.out sb)
      clear rd sb
      go_wp2_with fail
      refine Calls.mono (hf.out r A n c (P + 1 + 1 + K) w3 rd3.out (by omega)) ?_
      rintro e w4 ⟨s4, hs4, rfl, rd, sb⟩
      have rd4 := Lib.hid rd
      have sb4 := Lib.hid (sf_trans sb3.out sb)
      clear rd sb
      go_wp2_with fail
      go_ret
      exact ⟨_, by (try simp only [ByteArray.size_append, lit_size, List.length_cons, List.length_nil]); omega, rfl, rd4.out.mono (by omega), sb4.out⟩

theorem df0 : DF 0 1 1 := df_zero 0 (by omega)
theorem df1 : DF 1 5 7 := df_succ 1 (by omega) (by omega) 1 1 7 (by omega) (by omega) (by omega) (df_zero _ (by omega))
theorem df2 : DF 2 13 19 := df_succ 2 (by omega) (by omega) 5 7 19 (by omega) (by omega) (by omega) df1
theorem df3 : DF 3 29 43 := df_succ 3 (by omega) (by omega) 13 19 43 (by omega) (by omega) (by omega) df2

/-- A formula, seldom another text. -/
def DO (K L : Nat) : Prop := ∀ (r : Nat) (A : Option Addr) (n c P : Nat) (w : World), RD w r A n c P → P + K ≤ 100000 → Calls Try.prog 10 #[.pointer (some ⟨r, 0, none⟩)] w (DRet r A n c (P + K) L w)

set_option maxRecDepth 100000 in
set_option maxHeartbeats 1000000 in
theorem odd_any : DO 30 43 := by
  intro r A n c P w h hP
  have hp1 := Lib.hid (pick_any r A n c P 16 w h (by omega) (by omega) (by omega))
  have hf := Lib.hid df3
  clear h
  go_enter Try.func10, Try.ntmps10
  go_wp2_with fail
  refine Calls.mono hp1.out ?_
  rintro e w1 ⟨k, hk, rfl, rd, sb⟩
  have rd1 := Lib.hid rd
  have sb1 := Lib.hid sb
  clear rd sb
  have hcase : k = 0 ∨ k = 1 ∨ k = 2 ∨ k = 3 ∨ 4 ≤ k := by omega
  rcases hcase with rfl | rfl | rfl | rfl | h4
  · have call2 := Lib.hid (of_lit r A n c (P + 1) [⟨#[]⟩, ⟨#[97, 98]⟩, ⟨#[40, 42, 32, 97, 41]⟩, ⟨#[40, 45, 32, 97, 32, 98, 41]⟩, ⟨#[40, 62, 32, 97, 32, 98, 41]⟩, ⟨#[40, 42, 32, 32, 97, 32, 98, 41]⟩, ⟨#[97, 32]⟩, ⟨#[49]⟩] 43 w1 rd1.out (by omega) (by simp) (by simp) (by decide) #[.string ⟨#[]⟩, .string ⟨#[97, 98]⟩, .string ⟨#[40, 42, 32, 97, 41]⟩, .string ⟨#[40, 45, 32, 97, 32, 98, 41]⟩, .string ⟨#[40, 62, 32, 97, 32, 98, 41]⟩, .string ⟨#[40, 42, 32, 32, 97, 32, 98, 41]⟩, .string ⟨#[97, 32]⟩, .string ⟨#[49]⟩] rfl 8 9)
    go_wp2_with fail
    refine Calls.mono call2.out ?_
    rintro e w2 ⟨s2, hs2, rfl, rd, sb⟩
    have rd2 := Lib.hid rd
    have sb2 := Lib.hid (sf_trans sb1.out sb)
    clear rd sb
    go_wp2_with fail
    go_ret
    exact ⟨_, by omega, rfl, rd2.out.mono (by omega), sb2.out⟩
  · have call2 := Lib.hid (of_lit r A n c (P + 1) [⟨#[40, 43, 32, 97, 32, 40, 45, 32, 97, 41, 41]⟩, ⟨#[40, 43, 32, 40, 45, 32, 40, 42, 32, 97, 32, 40, 45, 32, 98, 41, 41, 41, 32, 40, 45, 32, 40, 42, 32, 98, 32, 40, 45, 32, 97, 41, 41, 41, 41]⟩, ⟨#[40, 45, 32, 40, 42, 32, 97, 32, 40, 45, 32, 97, 41, 41, 41]⟩, ⟨#[40, 43, 32, 40, 45, 32, 40, 42, 32, 40, 45, 32, 40, 42, 32, 97, 32, 40, 45, 32, 98, 41, 41, 41, 32, 40, 45, 32, 97, 41, 41, 41, 32, 97, 41]⟩, ⟨#[40, 43, 32, 40, 45, 32, 40, 45, 32, 97, 41, 41, 32, 40, 45, 32, 97, 41, 41]⟩] 43 w1 rd1.out (by omega) (by simp) (by simp) (by decide) #[.string ⟨#[40, 43, 32, 97, 32, 40, 45, 32, 97, 41, 41]⟩, .string ⟨#[40, 43, 32, 40, 45, 32, 40, 42, 32, 97, 32, 40, 45, 32, 98, 41, 41, 41, 32, 40, 45, 32, 40, 42, 32, 98, 32, 40, 45, 32, 97, 41, 41, 41, 41]⟩, .string ⟨#[40, 45, 32, 40, 42, 32, 97, 32, 40, 45, 32, 97, 41, 41, 41]⟩, .string ⟨#[40, 43, 32, 40, 45, 32, 40, 42, 32, 40, 45, 32, 40, 42, 32, 97, 32, 40, 45, 32, 98, 41, 41, 41, 32, 40, 45, 32, 97, 41, 41, 41, 32, 97, 41]⟩, .string ⟨#[40, 43, 32, 40, 45, 32, 40, 45, 32, 97, 41, 41, 32, 40, 45, 32, 97, 41, 41]⟩] rfl 5 9)
    go_wp2_with fail
    refine Calls.mono call2.out ?_
    rintro e w2 ⟨s2, hs2, rfl, rd, sb⟩
    have rd2 := Lib.hid rd
    have sb2 := Lib.hid (sf_trans sb1.out sb)
    clear rd sb
    go_wp2_with fail
    go_ret
    exact ⟨_, by omega, rfl, rd2.out.mono (by omega), sb2.out⟩
  · have call2 := Lib.hid (of_lit r A n c (P + 1) [⟨#[40, 43, 32, 97, 32, 40, 45, 32, 97, 41, 41]⟩, ⟨#[40, 43, 32, 40, 45, 32, 40, 42, 32, 97, 32, 40, 45, 32, 98, 41, 41, 41, 32, 40, 45, 32, 40, 42, 32, 98, 32, 40, 45, 32, 97, 41, 41, 41, 41]⟩, ⟨#[40, 45, 32, 40, 42, 32, 97, 32, 40, 45, 32, 97, 41, 41, 41]⟩, ⟨#[40, 43, 32, 40, 45, 32, 40, 42, 32, 40, 45, 32, 40, 42, 32, 97, 32, 40, 45, 32, 98, 41, 41, 41, 32, 40, 45, 32, 97, 41, 41, 41, 32, 97, 41]⟩, ⟨#[40, 43, 32, 40, 45, 32, 40, 45, 32, 97, 41, 41, 32, 40, 45, 32, 97, 41, 41]⟩] 43 w1 rd1.out (by omega) (by simp) (by simp) (by decide) #[.string ⟨#[40, 43, 32, 97, 32, 40, 45, 32, 97, 41, 41]⟩, .string ⟨#[40, 43, 32, 40, 45, 32, 40, 42, 32, 97, 32, 40, 45, 32, 98, 41, 41, 41, 32, 40, 45, 32, 40, 42, 32, 98, 32, 40, 45, 32, 97, 41, 41, 41, 41]⟩, .string ⟨#[40, 45, 32, 40, 42, 32, 97, 32, 40, 45, 32, 97, 41, 41, 41]⟩, .string ⟨#[40, 43, 32, 40, 45, 32, 40, 42, 32, 40, 45, 32, 40, 42, 32, 97, 32, 40, 45, 32, 98, 41, 41, 41, 32, 40, 45, 32, 97, 41, 41, 41, 32, 97, 41]⟩, .string ⟨#[40, 43, 32, 40, 45, 32, 40, 45, 32, 97, 41, 41, 32, 40, 45, 32, 97, 41, 41]⟩] rfl 5 9)
    go_wp2_with fail
    refine Calls.mono call2.out ?_
    rintro e w2 ⟨s2, hs2, rfl, rd, sb⟩
    have rd2 := Lib.hid rd
    have sb2 := Lib.hid (sf_trans sb1.out sb)
    clear rd sb
    go_wp2_with fail
    go_ret
    exact ⟨_, by omega, rfl, rd2.out.mono (by omega), sb2.out⟩
  · have call2 := Lib.hid (of_lit r A n c (P + 1) [⟨#[40, 43, 32, 97, 32, 40, 45, 32, 97, 41, 41]⟩, ⟨#[40, 43, 32, 40, 45, 32, 40, 42, 32, 97, 32, 40, 45, 32, 98, 41, 41, 41, 32, 40, 45, 32, 40, 42, 32, 98, 32, 40, 45, 32, 97, 41, 41, 41, 41]⟩, ⟨#[40, 45, 32, 40, 42, 32, 97, 32, 40, 45, 32, 97, 41, 41, 41]⟩, ⟨#[40, 43, 32, 40, 45, 32, 40, 42, 32, 40, 45, 32, 40, 42, 32, 97, 32, 40, 45, 32, 98, 41, 41, 41, 32, 40, 45, 32, 97, 41, 41, 41, 32, 97, 41]⟩, ⟨#[40, 43, 32, 40, 45, 32, 40, 45, 32, 97, 41, 41, 32, 40, 45, 32, 97, 41, 41]⟩] 43 w1 rd1.out (by omega) (by simp) (by simp) (by decide) #[.string ⟨#[40, 43, 32, 97, 32, 40, 45, 32, 97, 41, 41]⟩, .string ⟨#[40, 43, 32, 40, 45, 32, 40, 42, 32, 97, 32, 40, 45, 32, 98, 41, 41, 41, 32, 40, 45, 32, 40, 42, 32, 98, 32, 40, 45, 32, 97, 41, 41, 41, 41]⟩, .string ⟨#[40, 45, 32, 40, 42, 32, 97, 32, 40, 45, 32, 97, 41, 41, 41]⟩, .string ⟨#[40, 43, 32, 40, 45, 32, 40, 42, 32, 40, 45, 32, 40, 42, 32, 97, 32, 40, 45, 32, 98, 41, 41, 41, 32, 40, 45, 32, 97, 41, 41, 41, 32, 97, 41]⟩, .string ⟨#[40, 43, 32, 40, 45, 32, 40, 45, 32, 97, 41, 41, 32, 40, 45, 32, 97, 41, 41]⟩] rfl 5 9)
    go_wp2_with fail
    refine Calls.mono call2.out ?_
    rintro e w2 ⟨s2, hs2, rfl, rd, sb⟩
    have rd2 := Lib.hid rd
    have sb2 := Lib.hid (sf_trans sb1.out sb)
    clear rd sb
    go_wp2_with fail
    go_ret
    exact ⟨_, by omega, rfl, rd2.out.mono (by omega), sb2.out⟩
  · have n0 : ((k : Int) == 0) = false := by rw [beq_eq_false_iff_ne]; omega
    have n1 : ((k : Int) == 1) = false := by rw [beq_eq_false_iff_ne]; omega
    have n2 : ((k : Int) == 2) = false := by rw [beq_eq_false_iff_ne]; omega
    have n3 : ((k : Int) == 3) = false := by rw [beq_eq_false_iff_ne]; omega
    go_wp2_with fail
    refine Calls.mono (hf.out r A n c (P + 1) w1 rd1.out (by omega)) ?_
    rintro e w2 ⟨s2, hs2, rfl, rd, sb⟩
    have rd2 := Lib.hid rd
    have sb2 := Lib.hid (sf_trans sb1.out sb)
    clear rd sb
    go_wp2_with fail
    go_ret
    exact ⟨_, by omega, rfl, rd2.out.mono (by omega), sb2.out⟩

end Go.Proofs.Ytbglimlhffbddaa
