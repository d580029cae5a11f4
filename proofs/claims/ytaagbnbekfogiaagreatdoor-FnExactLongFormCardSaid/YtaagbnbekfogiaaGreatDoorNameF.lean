/- (impl.name).text, (impl.name).swapped. -/
import Derived.Test.YtaagbnbekfogiaaGreatDoorNames
import Derived.Deep.RegionWith
import Derived.Test.YtaagbnbekfogiaaGreatDoorMathU
namespace Go.Proofs.YtaagbnbekfogiaaGreatDoor
set_option linter.unusedVariables false
open Go.RowKit

theorem enc_name {c : UInt8} (h : varB c = true ∨ covB c = true) : Utf8.encode (wrap32 c.toNat) = ⟨#[c]⟩ := by
  unfold varB covB at h
  simp only [Bool.or_eq_true, beq_iff_eq] at h
  rcases h with ((h | h) | h) | ((h | h) | h) <;> subst h <;> kernel_rfl

set_option maxRecDepth 100000 in
theorem nameText_any (c : UInt8) (d : Bs) (hc : varB c = true ∨ covB c = true) (hd : d.length ≤ 9000) (w : World) : Calls Tryz.prog 191 #[nameV c d] w fun e w' => e = .returned (str (c :: d)) ∧ Below w.heap.size w w' := by
  have he := enc_name hc
  have hs : ¬ 9223372036854775807 < 1 + d.length := by omega
  have hsum : (⟨#[c]⟩ : ByteArray) ++ { data := List.toArray d } = ⟨(c :: d).toArray⟩ := ba_append [c] d
  clear hc
  go_enter Tryz.func191, Tryz.ntmps191
  go_wp2_with fail
  go_ret
  exact ⟨rfl, (by repeat (with_reducible first | exact hbel | exact Below.refl _ _ | refine Below.drew ?_ | refine Below.drewN ?_ _ | refine Below.alloc ?_ (by first | (simp; done) | (simp; omega) | omega | (have := Below.size hbel; simp; omega) | (have := Below.size hbel; omega)) _ | refine Below.setCell ?_ (by first | (simp; done) | (simp; omega) | omega) _))⟩

set_option maxRecDepth 100000 in
set_option maxHeartbeats 2000000 in
theorem swapped_any (c : UInt8) (d : Bs) (hc : varB c = true ∨ covB c = true) (w : World) : Calls Tryz.prog 49 #[nameV c d] w fun e w' => e = .returned (nameV (swapC c) d) ∧ Below w.heap.size w w' := by
  unfold varB covB at hc
  simp only [Bool.or_eq_true, beq_iff_eq] at hc
  have a0 : Lib.indexByte [120, 121, 122] 120 = 0 := by decide
  have a1 : Lib.indexByte [120, 121, 122] 121 = 1 := by decide
  have a2 : Lib.indexByte [120, 121, 122] 122 = 2 := by decide
  have a3 : Lib.indexByte [120, 121, 122] 107 = -1 := by decide
  have a4 : Lib.indexByte [120, 121, 122] 108 = -1 := by decide
  have a5 : Lib.indexByte [120, 121, 122] 109 = -1 := by decide
  have b0 : Lib.indexByte [107, 108, 109] 107 = 0 := by decide
  have b1 : Lib.indexByte [107, 108, 109] 108 = 1 := by decide
  have b2 : Lib.indexByte [107, 108, 109] 109 = 2 := by decide
  rcases hc with ((hc | hc) | hc) | ((hc | hc) | hc)
  iterate 3
    · subst hc
      go_enter Tryz.func49, Tryz.ntmps49
      go_wp2_with (first
        | (go_at_call 81; refine (sIndexByte_any _ _ _).mono ?_; rintro e w' ⟨rfl, rfl⟩))
      go_region
      go_wp2_with fail
      refine bodyPost_ret (by simp [results, Tryz.results49, go_sem]; exact rfl) rfl ?_
      exact ⟨rfl, (by repeat (with_reducible first | exact hbel | exact Below.refl _ _ | refine Below.drew ?_ | refine Below.drewN ?_ _ | refine Below.alloc ?_ (by first | (simp; done) | (simp; omega) | omega | (have := Below.size hbel; simp; omega) | (have := Below.size hbel; omega)) _ | refine Below.setCell ?_ (by first | (simp; done) | (simp; omega) | omega) _))⟩
  iterate 3
    · subst hc
      go_enter Tryz.func49, Tryz.ntmps49
      go_wp2_with (first
        | (go_at_call 81; refine (sIndexByte_any _ _ _).mono ?_; rintro e w' ⟨rfl, rfl⟩))
      go_region_with (first | (go_at_call 81; refine (sIndexByte_any _ _ _).mono ?_; rintro e w' ⟨rfl, rfl⟩))
      all_goals
        go_wp2_with fail
        refine bodyPost_ret (by simp [results, Tryz.results49, go_sem]; exact rfl) rfl ?_
        exact ⟨rfl, (by repeat (with_reducible first | exact hbel | exact Below.refl _ _ | refine Below.drew ?_ | refine Below.drewN ?_ _ | refine Below.alloc ?_ (by first | (simp; done) | (simp; omega) | omega | (have := Below.size hbel; simp; omega) | (have := Below.size hbel; omega)) _ | refine Below.setCell ?_ (by first | (simp; done) | (simp; omega) | omega) _))⟩

end Go.Proofs.YtaagbnbekfogiaaGreatDoor
