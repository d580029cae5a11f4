/- (impl.name).text, (impl.name).swapped. -/
import Derived.Test.YtaagbnbekfogiaaNames
import Derived.Deep.RegionWith
import Derived.Test.YtaagbnbekfogiaaMathU
namespace Go.Proofs.Ytaagbnbekfogiaa
set_option linter.unusedVariables false
open Go.RowKit

theorem enc_name {c : UInt8} (h : varB c = true ∨ covB c = true) : Utf8.encode (wrap32 c.toNat) = ⟨#[c]⟩ := by
  unfold varB covB at h
  simp only [Bool.or_eq_true, beq_iff_eq] at h
  rcases h with ((h | h) | h) | ((h | h) | h) <;> subst h <;> kernel_rfl

set_option maxRecDepth 100000 in
theorem nameText_any (c : UInt8) (d : Bs) (hc : varB c = true ∨ covB c = true) (hd : d.length ≤ 9000) (w : World) : Calls Try.prog 77 #[nameV c d] w fun e w' => e = .returned (str (c :: d)) ∧ Below w.heap.size w w' := by
  have he := enc_name hc
  have hs : ¬ 9223372036854775807 < 1 + d.length := by omega
  have hsum : (⟨#[c]⟩ : ByteArray) ++ { data := List.toArray d } = ⟨(c :: d).toArray⟩ := ba_append [c] d
  clear hc
  go_enter Try.func77, Try.ntmps77
  go_wp2_with fail
  go_ret
  exact ⟨rfl, (by repeat (with_reducible first | exact hbel | exact Below.refl _ _ | refine Below.drew ?_ | refine Below.drewN ?_ _ | refine Below.alloc ?_ (by first | (simp; done) | (simp; omega) | omega | (have := Below.size hbel; simp; omega) | (have := Below.size hbel; omega)) _ | refine Below.setCell ?_ (by first | (simp; done) | (simp; omega) | omega) _))⟩

end Go.Proofs.Ytaagbnbekfogiaa
