/- spec.l6Open, spec.l91Program, and what the laws of programs draw. -/
import Derived.Test.YtcdagenocmmidaaDrawL
namespace Go.Proofs.Ytcdagenocmmidaa
set_option linter.unusedVariables false
open Go.RowKit

theorem rd_open {w : World} {A : Option Addr} {n : Nat} (c : Nat) (hr : ByteRow w A n) (hn : n ≤ 2000) (hne : 0 < n → ∀ a, A = some a → a.block < w.heap.size) : RD (w.alloc (.cells #[.slice A n c, .int .i64 0] 78)) w.heap.size A n c 0 := by
  refine ⟨⟨0, Nat.le_refl _, heap_alloc_new _ _⟩, fun h => ?_, fun h a ha => by have := hne h a ha; omega, hn⟩
  obtain ⟨b, o, e, hlt, hc⟩ := hr h
  exact ⟨b, o, e, by simp; omega, fun i hi => by
    obtain ⟨z, hz, hcz⟩ := hc i hi
    exact ⟨z, hz, (World.cell?_alloc_lt _ _ _ (by exact hlt)).trans hcz⟩⟩
theorem ByteRow.take {w : World} {A : Option Addr} {n m : Nat} (h : ByteRow w A n) (hm : m ≤ n) : ByteRow w A m := fun h0 => by
  obtain ⟨b, o, e, hlt, hc⟩ := h (by omega)
  exact ⟨b, o, e, hlt, fun i hi => hc i (by omega)⟩

set_option maxRecDepth 100000 in
theorem open_any (A : Option Addr) (n c : Nat) (w : World) (hr : ByteRow w A n) (hc : n ≤ c) :
    Calls Try.prog 35 #[.slice A n c] w fun e w' => ∃ r A' n' c', e = .returned (.pointer (some ⟨r, 0, none⟩)) ∧ RD w' r A' n' c' 0 ∧ w.heap.size ≤ r ∧ Below w.heap.size w w' := by
  by_cases h0 : n = 0
  · subst h0
    have hfin := Lib.hid (rd_open c hr (by omega) (fun h => absurd h (by omega)))
    clear hr
    go_enter Try.func35, Try.ntmps35
    go_wp2_with fail
    go_ret
    exact ⟨_, _, _, _, rfl, hfin.out, Nat.le_refl _, (by repeat (with_reducible first | exact hbel | exact Below.refl _ _ | refine Below.drew ?_ | refine Below.drewN ?_ _ | refine Below.alloc ?_ (by first | (simp; done) | (simp; omega) | omega | (have := Below.size hbel; simp; omega) | (have := Below.size hbel; omega)) _ | refine Below.setCell ?_ (by first | (simp; done) | (simp; omega) | omega) _))⟩
  · obtain ⟨b, o, rfl, hblt, hcc⟩ := hr (by omega)
    by_cases h2 : 2000 < n
    · have hn2 : (2000 : Int) < (n : Int) := by omega
      have hfin := Lib.hid (rd_open c (hr.take (m := 2000) (by omega)) (by omega) (fun _ a ha => by injection ha with ha; subst ha; exact hblt))
      clear hr hcc
      go_enter Try.func35, Try.ntmps35
      go_wp2_with fail
      go_ret
      exact ⟨_, _, _, _, rfl, hfin.out, Nat.le_refl _, (by repeat (with_reducible first | exact hbel | exact Below.refl _ _ | refine Below.drew ?_ | refine Below.drewN ?_ _ | refine Below.alloc ?_ (by first | (simp; done) | (simp; omega) | omega | (have := Below.size hbel; simp; omega) | (have := Below.size hbel; omega)) _ | refine Below.setCell ?_ (by first | (simp; done) | (simp; omega) | omega) _))⟩
    · have hn2 : ¬ (2000 : Int) < (n : Int) := by omega
      have hfin := Lib.hid (rd_open c hr (by omega) (fun _ a ha => by injection ha with ha; subst ha; exact hblt))
      clear hr hcc
      go_enter Try.func35, Try.ntmps35
      go_wp2_with fail
      go_ret
      first
        | exact ⟨_, _, _, _, rfl, hfin.out, Nat.le_refl _, (by repeat (with_reducible first | exact hbel | exact Below.refl _ _ | refine Below.drew ?_ | refine Below.drewN ?_ _ | refine Below.alloc ?_ (by first | (simp; done) | (simp; omega) | omega | (have := Below.size hbel; simp; omega) | (have := Below.size hbel; omega)) _ | refine Below.setCell ?_ (by first | (simp; done) | (simp; omega) | omega) _))⟩
        | exact ⟨_, rfl, ⟨_, _, _, hfin.out⟩, Nat.le_refl _, (by repeat (with_reducible first | exact hbel | exact Below.refl _ _ | refine Below.drew ?_ | refine Below.drewN ?_ _ | refine Below.alloc ?_ (by first | (simp; done) | (simp; omega) | omega | (have := Below.size hbel; simp; omega) | (have := Below.size hbel; omega)) _ | refine Below.setCell ?_ (by first | (simp; done) | (simp; omega) | omega) _))⟩

set_option maxRecDepth 100000 in
theorem program_any (r : Nat) (A : Option Addr) (n c : Nat) (w : World) (h : RD w r A n c 0) :
    Calls Try.prog 34 #[.pointer (some ⟨r, 0, none⟩)] w (DRet r A n c 900 192 w) := by
  have hp1 := Lib.hid (pick_any r A n c 0 12 w h (by omega) (by omega) (by omega))
  clear h
  go_enter Try.func34, Try.ntmps34
  go_wp2_with fail
  refine Calls.mono hp1.out ?_
  rintro e w1 ⟨k, hk, rfl, rd, sb⟩
  have rd1 := Lib.hid rd
  have sb1 := Lib.hid sb
  clear rd sb
  have hT := Lib.hid (t3 r A n c 1 w1 rd1.out (by omega))
  have hC := Lib.hid (c3 r A n c 1 w1 rd1.out (by omega))
  have hS := Lib.hid (d2 r A n c 1 w1 rd1.out (by omega))
  have hcase : k = 0 ∨ k = 1 ∨ k = 2 ∨ k = 3 ∨ k = 4 ∨ 5 ≤ k := by omega
  rcases hcase with rfl | rfl | rfl | rfl | rfl | h5
  · have call := Lib.hid (of_lit r A n c 1 [⟨#[]⟩, ⟨#[97]⟩, ⟨#[40, 99, 117, 116, 32, 120, 41]⟩, ⟨#[40, 99, 117, 116, 32, 107, 32, 120, 41]⟩, ⟨#[40, 109, 117, 32, 120, 32, 40, 99, 117, 116, 32, 120, 32, 107, 41, 41]⟩, ⟨#[40, 112, 97, 105, 114, 32, 120, 32, 107, 41]⟩, ⟨#[40, 116, 109, 117, 32, 120, 32, 120, 41]⟩, ⟨#[120, 48, 48, 48, 48, 48]⟩, ⟨#[40, 110, 111, 116, 32, 120, 41]⟩] 16 w1 rd1.out (by omega) (by simp) (by simp) (by decide)
      #[.string ⟨#[]⟩, .string ⟨#[97]⟩, .string ⟨#[40, 99, 117, 116, 32, 120, 41]⟩, .string ⟨#[40, 99, 117, 116, 32, 107, 32, 120, 41]⟩, .string ⟨#[40, 109, 117, 32, 120, 32, 40, 99, 117, 116, 32, 120, 32, 107, 41, 41]⟩, .string ⟨#[40, 112, 97, 105, 114, 32, 120, 32, 107, 41]⟩, .string ⟨#[40, 116, 109, 117, 32, 120, 32, 120, 41]⟩, .string ⟨#[120, 48, 48, 48, 48, 48]⟩, .string ⟨#[40, 110, 111, 116, 32, 120, 41]⟩] rfl 9 9)
    go_wp2_with fail
    refine Calls.mono call.out ?_
    rintro e w2 ⟨s1, hs1, rfl, rd, sb⟩
    have rd2 := Lib.hid rd
    have sb2 := Lib.hid (sf_trans sb1.out sb)
    clear rd sb
    go_wp2_with fail
    go_ret
    exact ⟨_, by omega, rfl, rd2.out.mono (by omega), sb2.out⟩
  iterate 2
    · go_wp2_with fail
      refine Calls.mono hT.out ?_
      rintro e w2 ⟨s1, hs1, rfl, rd, sb⟩
      have rd2 := Lib.hid rd
      have sb2 := Lib.hid (sf_trans sb1.out sb)
      clear rd sb
      go_wp2_with fail
      go_ret
      exact ⟨_, by omega, rfl, rd2.out.mono (by omega), sb2.out⟩
  iterate 2
    · go_wp2_with fail
      refine Calls.mono hC.out ?_
      rintro e w2 ⟨s1, hs1, rfl, rd, sb⟩
      have rd2 := Lib.hid rd
      have sb2 := Lib.hid (sf_trans sb1.out sb)
      clear rd sb
      go_wp2_with fail
      go_ret
      exact ⟨_, by omega, rfl, rd2.out.mono (by omega), sb2.out⟩
  · have q0 : ((k : Int) == 0) = false := by rw [beq_eq_false_iff_ne]; omega
    have q1 : ((k : Int) == 1) = false := by rw [beq_eq_false_iff_ne]; omega
    have q2 : ((k : Int) == 2) = false := by rw [beq_eq_false_iff_ne]; omega
    have q3 : ((k : Int) == 3) = false := by rw [beq_eq_false_iff_ne]; omega
    have q4 : ((k : Int) == 4) = false := by rw [beq_eq_false_iff_ne]; omega
    go_wp2_with fail
    refine Calls.mono hS.out ?_
    rintro e w2 ⟨s1, hs1, rfl, rd, sb⟩
    have rd2 := Lib.hid rd
    have sb2 := Lib.hid (sf_trans sb1.out sb)
    clear rd sb
    go_wp2_with fail
    go_ret
    exact ⟨_, by omega, rfl, rd2.out.mono (by omega), sb2.out⟩

/-- What a law of programs draws: a text of at most 192 bytes. -/
def DrawRet (w : World) (e : Ending) (w' : World) : Prop := ∃ s : ByteArray, s.size ≤ 192 ∧ e = .returned (.string s) ∧ Below w.heap.size w w'

theorem drawDual_any (A : Option Addr) (n c : Nat) (w : World) (hr : ByteRow w A n) (hc : n ≤ c) : Calls Try.prog 18 #[.slice A n c] w (DrawRet w) := by
  have ho := Lib.hid (open_any A n c w hr hc)
  clear hr
  go_enter Try.func18, Try.ntmps18
  go_wp2_with fail
  refine Calls.mono ho.out ?_
  rintro e w1 ⟨r, A1, n1, c1, rfl, rd, hrw, hb1⟩
  have hp := Lib.hid (program_any r A1 n1 c1 w1 rd)
  have hb1' := Lib.hid hb1
  clear rd hb1
  go_wp2_with fail
  refine Calls.mono hp.out ?_
  rintro e w2 ⟨s, hs, rfl, -, sb⟩
  have hb2 := Lib.hid (sb.below hb1'.out hrw)
  clear sb
  go_wp2_with fail
  go_ret
  exact ⟨s, hs, rfl, hb2.out⟩

theorem drawKind_any (A : Option Addr) (n c : Nat) (w : World) (hr : ByteRow w A n) (hc : n ≤ c) : Calls Try.prog 13 #[.slice A n c] w (DrawRet w) := by
  have ho := Lib.hid (open_any A n c w hr hc)
  clear hr
  go_enter Try.func13, Try.ntmps13
  go_wp2_with fail
  refine Calls.mono ho.out ?_
  rintro e w1 ⟨r, A1, n1, c1, rfl, rd, hrw, hb1⟩
  have hp := Lib.hid (program_any r A1 n1 c1 w1 rd)
  have hb1' := Lib.hid hb1
  clear rd hb1
  go_wp2_with fail
  refine Calls.mono hp.out ?_
  rintro e w2 ⟨s, hs, rfl, -, sb⟩
  have hb2 := Lib.hid (sb.below hb1'.out hrw)
  clear sb
  go_wp2_with fail
  go_ret
  exact ⟨s, hs, rfl, hb2.out⟩

end Go.Proofs.Ytcdagenocmmidaa
