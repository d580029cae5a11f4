/- spec.l2Flip. -/
import Derived.Test.YtaihmfmfaejhiaaTree
import Derived.Test.YtaihmfmfaejhiaaMathD
namespace Go.Proofs.Ytaihmfmfaejhiaa
set_option linter.unusedVariables false
open Go.RowKit

set_option maxRecDepth 100000 in
set_option maxHeartbeats 8000000 in
theorem flip_any (c : UInt8) (d : Bs) (hc : varB c = true ∨ covB c = true) (hd : d.length ≤ 9000) (w : World) : Calls Try.prog 23 #[str (c :: d)] w fun e w' => e = .returned (str (swapC c :: d)) ∧ Below w.heap.size w w' := by
  have hl : (⟨(c :: d).toArray⟩ : ByteArray).size = d.length + 1 := by rw [ba_size]; rfl
  have hg : ∀ h, (⟨(c :: d).toArray⟩ : ByteArray)[0]'h = c := fun h => rfl
  have ht : (⟨(c :: d).toArray⟩ : ByteArray).extract 1 (d.length + 1) = ⟨d.toArray⟩ := ba_tail c d
  have f0 : ∀ h, (⟨#[120, 121, 122, 107, 108, 109]⟩ : ByteArray)[0]'h = 120 := fun _ => rfl
  have f1 : ∀ h, (⟨#[120, 121, 122, 107, 108, 109]⟩ : ByteArray)[1]'h = 121 := fun _ => rfl
  have f2 : ∀ h, (⟨#[120, 121, 122, 107, 108, 109]⟩ : ByteArray)[2]'h = 122 := fun _ => rfl
  have f3 : ∀ h, (⟨#[120, 121, 122, 107, 108, 109]⟩ : ByteArray)[3]'h = 107 := fun _ => rfl
  have f4 : ∀ h, (⟨#[120, 121, 122, 107, 108, 109]⟩ : ByteArray)[4]'h = 108 := fun _ => rfl
  have f5 : ∀ h, (⟨#[120, 121, 122, 107, 108, 109]⟩ : ByteArray)[5]'h = 109 := fun _ => rfl
  have e0 : (⟨#[107, 108, 109, 120, 121, 122]⟩ : ByteArray).extract 0 1 = ⟨#[107]⟩ := rfl
  have e1 : (⟨#[107, 108, 109, 120, 121, 122]⟩ : ByteArray).extract 1 2 = ⟨#[108]⟩ := rfl
  have e2 : (⟨#[107, 108, 109, 120, 121, 122]⟩ : ByteArray).extract 2 3 = ⟨#[109]⟩ := rfl
  have e3 : (⟨#[107, 108, 109, 120, 121, 122]⟩ : ByteArray).extract 3 4 = ⟨#[120]⟩ := rfl
  have e4 : (⟨#[107, 108, 109, 120, 121, 122]⟩ : ByteArray).extract 4 5 = ⟨#[121]⟩ := rfl
  have e5 : (⟨#[107, 108, 109, 120, 121, 122]⟩ : ByteArray).extract 5 6 = ⟨#[122]⟩ := rfl
  unfold varB covB at hc
  simp only [Bool.or_eq_true, beq_iff_eq] at hc
  rcases hc with ((hc | hc) | hc) | ((hc | hc) | hc)
  · subst hc
    have k0 : (⟨#[107]⟩ : ByteArray) ++ { data := List.toArray d } = ⟨(107 :: d).toArray⟩ := ba_append [107] d
    have k1 := fun (w : World) => run_string_add_sum (P := Try.prog) w ⟨#[107]⟩ ⟨d.toArray⟩ (by show 1 + d.length ≤ _; omega)
    rw [k0] at k1
    go_enter Try.func23, Try.ntmps23
    go_wp2_with fail
    go_loopw [5] (fun i wr => ∃ k : Nat, k ≤ 0 ∧ i = .int .i64 k ∧ Below w.heap.size w wr) (fun i _ => 0 - (intOf i).toNat)
    case atStart => exact ⟨0, Nat.zero_le _, rfl, (by repeat (with_reducible first | exact hbel | exact Below.refl _ _ | refine Below.drew ?_ | refine Below.drewN ?_ _ | refine Below.alloc ?_ (by first | (simp; done) | (simp; omega) | omega | (have := Below.size hbel; simp; omega) | (have := Below.size hbel; omega)) _ | refine Below.setCell ?_ (by first | (simp; done) | (simp; omega) | omega) _))⟩
    case round =>
      obtain ⟨k, hk, rfl, hbel⟩ := hrel
      have hk' : k = 0 ∨ k = 1 ∨ k = 2 ∨ k = 3 ∨ k = 4 ∨ k = 5 := by omega
      have hbel' := Lib.hid hbel
      clear hbel
      rcases hk' with rfl | rfl | rfl | rfl | rfl | rfl
      all_goals first
        | (exfalso; omega)
        | (go_wp2_with fail
           go_region
           go_wp2_with fail
           go_region
           go_wp2_with fail
           go_ret
           have hbel := hbel'.out
           exact ⟨rfl, (by repeat (with_reducible first | exact hbel | exact Below.refl _ _ | refine Below.drew ?_ | refine Below.drewN ?_ _ | refine Below.alloc ?_ (by first | (simp; done) | (simp; omega) | omega | (have := Below.size hbel; simp; omega) | (have := Below.size hbel; omega)) _ | refine Below.setCell ?_ (by first | (simp; done) | (simp; omega) | omega) _))⟩)
        | (go_wp2_with fail
           go_region
           go_wp2_with fail
           go_roundw
           case rel => exact ⟨_, by decide, rfl, by have hbel := hbel'.out; exact (by repeat (with_reducible first | exact hbel | exact Below.refl _ _ | refine Below.drew ?_ | refine Below.drewN ?_ _ | refine Below.alloc ?_ (by first | (simp; done) | (simp; omega) | omega | (have := Below.size hbel; simp; omega) | (have := Below.size hbel; omega)) _ | refine Below.setCell ?_ (by first | (simp; done) | (simp; omega) | omega) _))⟩
           case measure => decide)
  · subst hc
    have k0 : (⟨#[108]⟩ : ByteArray) ++ { data := List.toArray d } = ⟨(108 :: d).toArray⟩ := ba_append [108] d
    have k1 := fun (w : World) => run_string_add_sum (P := Try.prog) w ⟨#[108]⟩ ⟨d.toArray⟩ (by show 1 + d.length ≤ _; omega)
    rw [k0] at k1
    go_enter Try.func23, Try.ntmps23
    go_wp2_with fail
    go_loopw [5] (fun i wr => ∃ k : Nat, k ≤ 1 ∧ i = .int .i64 k ∧ Below w.heap.size w wr) (fun i _ => 1 - (intOf i).toNat)
    case atStart => exact ⟨0, Nat.zero_le _, rfl, (by repeat (with_reducible first | exact hbel | exact Below.refl _ _ | refine Below.drew ?_ | refine Below.drewN ?_ _ | refine Below.alloc ?_ (by first | (simp; done) | (simp; omega) | omega | (have := Below.size hbel; simp; omega) | (have := Below.size hbel; omega)) _ | refine Below.setCell ?_ (by first | (simp; done) | (simp; omega) | omega) _))⟩
    case round =>
      obtain ⟨k, hk, rfl, hbel⟩ := hrel
      have hk' : k = 0 ∨ k = 1 ∨ k = 2 ∨ k = 3 ∨ k = 4 ∨ k = 5 := by omega
      have hbel' := Lib.hid hbel
      clear hbel
      rcases hk' with rfl | rfl | rfl | rfl | rfl | rfl
      all_goals first
        | (exfalso; omega)
        | (go_wp2_with fail
           go_region
           go_wp2_with fail
           go_region
           go_wp2_with fail
           go_ret
           have hbel := hbel'.out
           exact ⟨rfl, (by repeat (with_reducible first | exact hbel | exact Below.refl _ _ | refine Below.drew ?_ | refine Below.drewN ?_ _ | refine Below.alloc ?_ (by first | (simp; done) | (simp; omega) | omega | (have := Below.size hbel; simp; omega) | (have := Below.size hbel; omega)) _ | refine Below.setCell ?_ (by first | (simp; done) | (simp; omega) | omega) _))⟩)
        | (go_wp2_with fail
           go_region
           go_wp2_with fail
           go_roundw
           case rel => exact ⟨_, by decide, rfl, by have hbel := hbel'.out; exact (by repeat (with_reducible first | exact hbel | exact Below.refl _ _ | refine Below.drew ?_ | refine Below.drewN ?_ _ | refine Below.alloc ?_ (by first | (simp; done) | (simp; omega) | omega | (have := Below.size hbel; simp; omega) | (have := Below.size hbel; omega)) _ | refine Below.setCell ?_ (by first | (simp; done) | (simp; omega) | omega) _))⟩
           case measure => decide)
  · subst hc
    have k0 : (⟨#[109]⟩ : ByteArray) ++ { data := List.toArray d } = ⟨(109 :: d).toArray⟩ := ba_append [109] d
    have k1 := fun (w : World) => run_string_add_sum (P := Try.prog) w ⟨#[109]⟩ ⟨d.toArray⟩ (by show 1 + d.length ≤ _; omega)
    rw [k0] at k1
    go_enter Try.func23, Try.ntmps23
    go_wp2_with fail
    go_loopw [5] (fun i wr => ∃ k : Nat, k ≤ 2 ∧ i = .int .i64 k ∧ Below w.heap.size w wr) (fun i _ => 2 - (intOf i).toNat)
    case atStart => exact ⟨0, Nat.zero_le _, rfl, (by repeat (with_reducible first | exact hbel | exact Below.refl _ _ | refine Below.drew ?_ | refine Below.drewN ?_ _ | refine Below.alloc ?_ (by first | (simp; done) | (simp; omega) | omega | (have := Below.size hbel; simp; omega) | (have := Below.size hbel; omega)) _ | refine Below.setCell ?_ (by first | (simp; done) | (simp; omega) | omega) _))⟩
    case round =>
      obtain ⟨k, hk, rfl, hbel⟩ := hrel
      have hk' : k = 0 ∨ k = 1 ∨ k = 2 ∨ k = 3 ∨ k = 4 ∨ k = 5 := by omega
      have hbel' := Lib.hid hbel
      clear hbel
      rcases hk' with rfl | rfl | rfl | rfl | rfl | rfl
      all_goals first
        | (exfalso; omega)
        | (go_wp2_with fail
           go_region
           go_wp2_with fail
           go_region
           go_wp2_with fail
           go_ret
           have hbel := hbel'.out
           exact ⟨rfl, (by repeat (with_reducible first | exact hbel | exact Below.refl _ _ | refine Below.drew ?_ | refine Below.drewN ?_ _ | refine Below.alloc ?_ (by first | (simp; done) | (simp; omega) | omega | (have := Below.size hbel; simp; omega) | (have := Below.size hbel; omega)) _ | refine Below.setCell ?_ (by first | (simp; done) | (simp; omega) | omega) _))⟩)
        | (go_wp2_with fail
           go_region
           go_wp2_with fail
           go_roundw
           case rel => exact ⟨_, by decide, rfl, by have hbel := hbel'.out; exact (by repeat (with_reducible first | exact hbel | exact Below.refl _ _ | refine Below.drew ?_ | refine Below.drewN ?_ _ | refine Below.alloc ?_ (by first | (simp; done) | (simp; omega) | omega | (have := Below.size hbel; simp; omega) | (have := Below.size hbel; omega)) _ | refine Below.setCell ?_ (by first | (simp; done) | (simp; omega) | omega) _))⟩
           case measure => decide)
  · subst hc
    have k0 : (⟨#[120]⟩ : ByteArray) ++ { data := List.toArray d } = ⟨(120 :: d).toArray⟩ := ba_append [120] d
    have k1 := fun (w : World) => run_string_add_sum (P := Try.prog) w ⟨#[120]⟩ ⟨d.toArray⟩ (by show 1 + d.length ≤ _; omega)
    rw [k0] at k1
    go_enter Try.func23, Try.ntmps23
    go_wp2_with fail
    go_loopw [5] (fun i wr => ∃ k : Nat, k ≤ 3 ∧ i = .int .i64 k ∧ Below w.heap.size w wr) (fun i _ => 3 - (intOf i).toNat)
    case atStart => exact ⟨0, Nat.zero_le _, rfl, (by repeat (with_reducible first | exact hbel | exact Below.refl _ _ | refine Below.drew ?_ | refine Below.drewN ?_ _ | refine Below.alloc ?_ (by first | (simp; done) | (simp; omega) | omega | (have := Below.size hbel; simp; omega) | (have := Below.size hbel; omega)) _ | refine Below.setCell ?_ (by first | (simp; done) | (simp; omega) | omega) _))⟩
    case round =>
      obtain ⟨k, hk, rfl, hbel⟩ := hrel
      have hk' : k = 0 ∨ k = 1 ∨ k = 2 ∨ k = 3 ∨ k = 4 ∨ k = 5 := by omega
      have hbel' := Lib.hid hbel
      clear hbel
      rcases hk' with rfl | rfl | rfl | rfl | rfl | rfl
      all_goals first
        | (exfalso; omega)
        | (go_wp2_with fail
           go_region
           go_wp2_with fail
           go_region
           go_wp2_with fail
           go_ret
           have hbel := hbel'.out
           exact ⟨rfl, (by repeat (with_reducible first | exact hbel | exact Below.refl _ _ | refine Below.drew ?_ | refine Below.drewN ?_ _ | refine Below.alloc ?_ (by first | (simp; done) | (simp; omega) | omega | (have := Below.size hbel; simp; omega) | (have := Below.size hbel; omega)) _ | refine Below.setCell ?_ (by first | (simp; done) | (simp; omega) | omega) _))⟩)
        | (go_wp2_with fail
           go_region
           go_wp2_with fail
           go_roundw
           case rel => exact ⟨_, by decide, rfl, by have hbel := hbel'.out; exact (by repeat (with_reducible first | exact hbel | exact Below.refl _ _ | refine Below.drew ?_ | refine Below.drewN ?_ _ | refine Below.alloc ?_ (by first | (simp; done) | (simp; omega) | omega | (have := Below.size hbel; simp; omega) | (have := Below.size hbel; omega)) _ | refine Below.setCell ?_ (by first | (simp; done) | (simp; omega) | omega) _))⟩
           case measure => decide)
  · subst hc
    have k0 : (⟨#[121]⟩ : ByteArray) ++ { data := List.toArray d } = ⟨(121 :: d).toArray⟩ := ba_append [121] d
    have k1 := fun (w : World) => run_string_add_sum (P := Try.prog) w ⟨#[121]⟩ ⟨d.toArray⟩ (by show 1 + d.length ≤ _; omega)
    rw [k0] at k1
    go_enter Try.func23, Try.ntmps23
    go_wp2_with fail
    go_loopw [5] (fun i wr => ∃ k : Nat, k ≤ 4 ∧ i = .int .i64 k ∧ Below w.heap.size w wr) (fun i _ => 4 - (intOf i).toNat)
    case atStart => exact ⟨0, Nat.zero_le _, rfl, (by repeat (with_reducible first | exact hbel | exact Below.refl _ _ | refine Below.drew ?_ | refine Below.drewN ?_ _ | refine Below.alloc ?_ (by first | (simp; done) | (simp; omega) | omega | (have := Below.size hbel; simp; omega) | (have := Below.size hbel; omega)) _ | refine Below.setCell ?_ (by first | (simp; done) | (simp; omega) | omega) _))⟩
    case round =>
      obtain ⟨k, hk, rfl, hbel⟩ := hrel
      have hk' : k = 0 ∨ k = 1 ∨ k = 2 ∨ k = 3 ∨ k = 4 ∨ k = 5 := by omega
      have hbel' := Lib.hid hbel
      clear hbel
      rcases hk' with rfl | rfl | rfl | rfl | rfl | rfl
      all_goals first
        | (exfalso; omega)
        | (go_wp2_with fail
           go_region
           go_wp2_with fail
           go_region
           go_wp2_with fail
           go_ret
           have hbel := hbel'.out
           exact ⟨rfl, (by repeat (with_reducible first | exact hbel | exact Below.refl _ _ | refine Below.drew ?_ | refine Below.drewN ?_ _ | refine Below.alloc ?_ (by first | (simp; done) | (simp; omega) | omega | (have := Below.size hbel; simp; omega) | (have := Below.size hbel; omega)) _ | refine Below.setCell ?_ (by first | (simp; done) | (simp; omega) | omega) _))⟩)
        | (go_wp2_with fail
           go_region
           go_wp2_with fail
           go_roundw
           case rel => exact ⟨_, by decide, rfl, by have hbel := hbel'.out; exact (by repeat (with_reducible first | exact hbel | exact Below.refl _ _ | refine Below.drew ?_ | refine Below.drewN ?_ _ | refine Below.alloc ?_ (by first | (simp; done) | (simp; omega) | omega | (have := Below.size hbel; simp; omega) | (have := Below.size hbel; omega)) _ | refine Below.setCell ?_ (by first | (simp; done) | (simp; omega) | omega) _))⟩
           case measure => decide)
  · subst hc
    have k0 : (⟨#[122]⟩ : ByteArray) ++ { data := List.toArray d } = ⟨(122 :: d).toArray⟩ := ba_append [122] d
    have k1 := fun (w : World) => run_string_add_sum (P := Try.prog) w ⟨#[122]⟩ ⟨d.toArray⟩ (by show 1 + d.length ≤ _; omega)
    rw [k0] at k1
    go_enter Try.func23, Try.ntmps23
    go_wp2_with fail
    go_loopw [5] (fun i wr => ∃ k : Nat, k ≤ 5 ∧ i = .int .i64 k ∧ Below w.heap.size w wr) (fun i _ => 5 - (intOf i).toNat)
    case atStart => exact ⟨0, Nat.zero_le _, rfl, (by repeat (with_reducible first | exact hbel | exact Below.refl _ _ | refine Below.drew ?_ | refine Below.drewN ?_ _ | refine Below.alloc ?_ (by first | (simp; done) | (simp; omega) | omega | (have := Below.size hbel; simp; omega) | (have := Below.size hbel; omega)) _ | refine Below.setCell ?_ (by first | (simp; done) | (simp; omega) | omega) _))⟩
    case round =>
      obtain ⟨k, hk, rfl, hbel⟩ := hrel
      have hk' : k = 0 ∨ k = 1 ∨ k = 2 ∨ k = 3 ∨ k = 4 ∨ k = 5 := by omega
      have hbel' := Lib.hid hbel
      clear hbel
      rcases hk' with rfl | rfl | rfl | rfl | rfl | rfl
      all_goals first
        | (exfalso; omega)
        | (go_wp2_with fail
           go_region
           go_wp2_with fail
           go_region
           go_wp2_with fail
           go_ret
           have hbel := hbel'.out
           exact ⟨rfl, (by repeat (with_reducible first | exact hbel | exact Below.refl _ _ | refine Below.drew ?_ | refine Below.drewN ?_ _ | refine Below.alloc ?_ (by first | (simp; done) | (simp; omega) | omega | (have := Below.size hbel; simp; omega) | (have := Below.size hbel; omega)) _ | refine Below.setCell ?_ (by first | (simp; done) | (simp; omega) | omega) _))⟩)
        | (go_wp2_with fail
           go_region
           go_wp2_with fail
           go_roundw
           case rel => exact ⟨_, by decide, rfl, by have hbel := hbel'.out; exact (by repeat (with_reducible first | exact hbel | exact Below.refl _ _ | refine Below.drew ?_ | refine Below.drewN ?_ _ | refine Below.alloc ?_ (by first | (simp; done) | (simp; omega) | omega | (have := Below.size hbel; simp; omega) | (have := Below.size hbel; omega)) _ | refine Below.setCell ?_ (by first | (simp; done) | (simp; omega) | omega) _))⟩
           case measure => decide)

end Go.Proofs.Ytaihmfmfaejhiaa
