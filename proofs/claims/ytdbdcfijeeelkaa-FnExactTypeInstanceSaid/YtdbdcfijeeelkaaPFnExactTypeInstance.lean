/- The given statement of the law FnExactTypeInstance: for every input the call returns true and what it was handed reads as it did. -/
import Derived.Test.YtdbdcfijeeelkaaTyInstLaw
import Derived.ProofKit
import Derived.OpenShut
import Derived.ShutString
import Derived.ChangeOld
import Derived.Lib.SmallJoins
namespace Go.Proofs.Ytdbdcfijeeelkaa.fnExactTypeInstance
open Go.ChangeShapes Go.WideShapes Go.ChangeAt Go.RowKit
open Go.ChangeMaps (open_string shut_string)
open Go.Joins (open_agg3 slice_form)
set_option linter.unusedVariables false

theorem own : ownKnob Try.prog.godebug = none := by kernel_rfl
theorem laidOut : laidOutB Try.prog = true := by kernel_rfl

set_option maxRecDepth 100000 in
theorem lifted (os : Os) (started : os.Started) (H : Type) (enc : TypeId × Value → H) :
    ReturnsInHanded {} Try.checked os 4 .any (Rows.fnExactTypeInstanceSpec.pre6 enc Try.prog Try.f4 Rows.fnExactTypeInstanceRow.domain false) (Rows.fnExactTypeInstanceSpec.post enc Try.prog Try.f4 false true false false) := by
  refine returnsInHanded_of_change (C := Try.checked) own started (by kernel_rfl) Try.func4
    (ChangeSpec.witness6 (enc := enc) (C := Try.checked) false ⟨#[], #[.agg #[.slice none 0 0, .slice none 0 0, .string ByteArray.empty], .agg #[.slice none 0 0, .slice none 0 0, .string ByteArray.empty]], []⟩ 8 (by kernel_rfl) (by kernel_rfl) (by kernel_rfl) (by kernel_rfl)) ?_
  intro W base args ds gs before hval0 hW hcnd _
  have hval : ∀ (j : Nat) t v, Try.f4.params[j]? = some t → args[j]? = some v → Value.okWide Try.prog W .any base t v := hval0
  have hW' := hW
  obtain ⟨p, q, hA0, hV, rfl, hfz, hnd⟩ := hW
  have hA : DataW.TrodAll enc Try.prog W 0 (fun _ => true) true Try.f4.params.toList args.toList ds p := hA0
  rw [Try.params4] at hA hval
  obtain ⟨v0, vs0, d0, ds0, p0, q0, hargs, rfl, rfl, h0, r0⟩ := trodAll_cons hA
  obtain ⟨v1, vs1, d1, ds1, p1, q1, rfl, rfl, rfl, h1, r1⟩ := trodAll_cons r0
  obtain ⟨rfl, rfl, rfl⟩ := trodAll_nil r1
  obtain rfl : args = #[v0, v1] := by cases args; simp_all
  obtain ⟨rfl, rfl⟩ := trodVars_none hV
  have k0 := h0
  have lt0 : ∀ x ∈ p0, x.block < W.heap.size := by obtain ⟨m, hm⟩ := k0; exact DataW.trod_lt m _ _ _ hm
  obtain ⟨x0, y0, z0, dx0, dy0, dz0, nn0, rfl, rfl, rfl, tx0, ty0, tz0⟩ := open_agg3 Try.underlying24 (by kernel_rfl) (by kernel_rfl) (hval 0 24 v0 rfl rfl) h0
  obtain ⟨A0, n0, c0, ex0⟩ := slice_form Try.underlying22 tx0
  obtain ⟨B0, m0, d0, ey0⟩ := slice_form Try.underlying22 ty0
  obtain ⟨s0, ez0, ew0, hsz0⟩ := DataW.trod_string Try.underlying9 tz0
  simp only [List.cons.injEq, and_true] at ex0 ey0 ez0
  subst ex0 ey0 ez0
  obtain ⟨ss0, wA0⟩ := rowS_of (held := true) (d := dx0.1) (p := dx0.2) ⟨nn0, by simpa [Value.cells] using tx0⟩
  obtain ⟨ts0, wB0⟩ := rowS_of (held := true) (d := dy0.1) (p := dy0.2) ⟨nn0, by simpa [Value.cells] using ty0⟩
  have k1 := h1
  have lt1 : ∀ x ∈ p1, x.block < W.heap.size := by obtain ⟨m, hm⟩ := k1; exact DataW.trod_lt m _ _ _ hm
  obtain ⟨x1, y1, z1, dx1, dy1, dz1, nn1, rfl, rfl, rfl, tx1, ty1, tz1⟩ := open_agg3 Try.underlying24 (by kernel_rfl) (by kernel_rfl) (hval 1 24 v1 rfl rfl) h1
  obtain ⟨A1, n1, c1, ex1⟩ := slice_form Try.underlying22 tx1
  obtain ⟨B1, m1, d1, ey1⟩ := slice_form Try.underlying22 ty1
  obtain ⟨s1, ez1, ew1, hsz1⟩ := DataW.trod_string Try.underlying9 tz1
  simp only [List.cons.injEq, and_true] at ex1 ey1 ez1
  subst ex1 ey1 ez1
  obtain ⟨ss1, wA1⟩ := rowS_of (held := true) (d := dx1.1) (p := dx1.2) ⟨nn1, by simpa [Value.cells] using tx1⟩
  obtain ⟨ts1, wB1⟩ := rowS_of (held := true) (d := dy1.1) (p := dy1.2) ⟨nn1, by simpa [Value.cells] using ty1⟩
  clear hA0 hval0
  refine (lawTypeInstance A0 n0 c0 ss0 B0 m0 d0 ts0 s0 A1 n1 c1 ss1 B1 m1 d1 ts1 s1 W wA0.1 wB0.1 hsz0 wA0.2 wB0.2 wA1.1 wB1.1 hsz1 wA1.2 wB1.2).mono fun e W' ⟨he, bel⟩ => ?_
  subst he
  exact ⟨_, rfl, _, _, _, [], _, [], hW', trodAll_mk1 (shut_bool Try.underlying4 _), (trodAll_cons_mk (Below.trod laidOut (by kernel_rfl) (of_decide_eq_true (by kernel_rfl)) k0 bel lt0) (trodAll_cons_mk (Below.trod laidOut (by kernel_rfl) (of_decide_eq_true (by kernel_rfl)) k1 bel lt1) trodAll_mk0)), rfl, bel.frame _, fun h => by cases h⟩

theorem over : Rows.fnExactTypeInstanceRow.holds Try.pinned (OpenSpec.ofChange Rows.fnExactTypeInstanceSpec) :=
  OpenClaim.holds_of_wide 4 Try.f4 rfl rfl rfl rfl rfl rfl rfl ⟨rfl, rfl, rfl, rfl, rfl⟩ rfl rfl rfl rfl rfl (by kernel_rfl) Try.func4 (by kernel_rfl)
    (of_decide_eq_true (by kernel_rfl)) (by unfold Func.isWrapper; first | (rw [if_pos (by decide +kernel)]; kernel_rfl) | (rw [if_neg (by decide +kernel)]; exact ⟨rfl, rfl⟩))
    (fun os started H enc _ => lifted os started H enc)

theorem proved : Rows.FnExactTypeInstanceSaid := over
#print axioms proved
end Go.Proofs.Ytdbdcfijeeelkaa.fnExactTypeInstance
