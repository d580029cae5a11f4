/- errors.As and errors.as, at the errors of this program. -/
import Derived.Test.YtjbfchmlhaidfaaDoorErrF
namespace Go.Proofs.YtjbfchmlhaidfaaDoor
set_option linter.unusedVariables false
open Go.RowKit Go.Extern.Stop Go.Stop Go.Extern

/-- An error in which there is a wrongAtom. -/
inductive EV (w : World) (D : Nat → Prop) : Value → Prop
  | wrong (a : ByteArray) : EV w D (.iface 90 (.agg #[.string a]))
  | join (g h n c : Nat) (e : Value) : D g → D h → w.cell? ⟨g, 0, none⟩ = some (.slice (some ⟨h, 0, none⟩) (n + 1) c) → w.cell? ⟨h, 0, none⟩ = some e → EV w D e → EV w D (.iface 186 (.pointer (some ⟨g, 0, none⟩)))

theorem EV.keep {w w' : World} {D D' : Nat → Prop} {e : Value} (h : EV w D e) (hw : ∀ g, D g → w'.heap[g]? = w.heap[g]?) (hD : ∀ g, D g → D' g) : EV w' D' e := by
  induction h with
  | wrong a => exact .wrong a
  | join g h n c e h1 h2 h3 h4 _ ih => exact .join g h n c e (hD g h1) (hD h h2) ((World.cell?_of_block (a := ⟨g, 0, none⟩) (hw g h1)).trans h3) ((World.cell?_of_block (a := ⟨h, 0, none⟩) (hw h h2)).trans h4) ih
theorem EV.belowW {w w' : World} {D : Nat → Prop} {e : Value} (h : EV w D e) (hb : Below w.heap.size w w') (hD : ∀ g, D g → g < w.heap.size) : EV w' D e := h.keep (fun g hg => hb.block g (hD g hg)) (fun _ h => h)
theorem EV.to {w : World} {D D' : Nat → Prop} {e : Value} (h : EV w D e) (hD : ∀ g, D g → D' g) : EV w D' e := h.keep (fun _ _ => rfl) hD

theorem World.lt_of_cell {w : World} {a : Addr} {v : Value} (h : w.cell? a = some v) : a.block < w.heap.size := by
  rcases Nat.lt_or_ge a.block w.heap.size with h1 | h1
  · exact h1
  · simp [World.cell?, Array.getElem?_eq_none h1] at h

set_option maxRecDepth 100000 in
set_option maxHeartbeats 4000000 in
theorem as_wrong (s : ByteArray) (B t a : Nat) (old : Value) (w : World) (hB : B ≤ t) (hBw : B ≤ w.heap.size) (ha : w.cell? ⟨a, 0, none⟩ = some (.pointer (some ⟨t, 0, none⟩))) (ht : w.cell? ⟨t, 0, none⟩ = some old) (hf : w.frozen? ⟨t, 0, none⟩ = false) :
    Calls Tryd.prog 68 #[.iface 90 (.agg #[.string s]), .iface 92 (.pointer (some ⟨t, 0, none⟩)), ptV ⟨a, 0, none⟩, rty 90] w fun e w' => e = .returned (.bool true) ∧ Below B w w' := by
  have h6 := @run_callFunc_extern Tryd.prog 65 _ (fun args => ReflectliteValue.unpack (args.getD 0 (.tuple #[]))) Tryd.func65 (by kernel_rfl) (by kernel_rfl) (by kernel_rfl) (by kernel_rfl)
  have h10 := @run_callFunc_extern Tryd.prog 83 _ ReflectliteType.typeOf Tryd.func83 (by kernel_rfl) (by kernel_rfl) (by kernel_rfl) (by kernel_rfl)
  have h35 := @run_callFunc_extern Tryd.prog 132 _ (ReflectliteType.relation "AssignableTo" ReflectliteType.assignableTo) Tryd.func132 (by kernel_rfl) (by kernel_rfl) (by kernel_rfl) (by kernel_rfl)
  have h11 := @run_callFunc_extern Tryd.prog 84 _ (ReflectliteValue.method (ReflectliteValue.valueError "reflectlite.Value.Elem" 0) ReflectliteValue.elem) Tryd.func84 (by kernel_rfl) (by kernel_rfl) (by kernel_rfl) (by kernel_rfl)
  have h12 := @run_callFunc_extern Tryd.prog 85 _ ReflectliteValue.set Tryd.func85 (by kernel_rfl) (by kernel_rfl) (by kernel_rfl) (by kernel_rfl)
  have tO := rf_typeOfW
  have mA := rf_methodAssignableTo
  have aW := rf_assignW
  have vW := rf_valueOfW
  have hat : a < w.heap.size := World.lt_of_cell (a := ⟨a, 0, none⟩) ha
  have htl : t < w.heap.size := World.lt_of_cell (a := ⟨t, 0, none⟩) ht
  have el := rf_elemV ⟨a, 0, none⟩ ⟨t, 0, none⟩ (w.alloc (.cells #[hdl 92, .pointer (some ⟨a, 0, none⟩), .int .u64 150] 129)) (by rw [World.cell?_alloc_lt _ _ ⟨a, 0, none⟩ hat]; exact ha)
  have st := rf_set t (w.heap.size + 1) s old ((w.alloc (.cells #[hdl 92, .pointer (some ⟨a, 0, none⟩), .int .u64 150] 129)).alloc (.cells #[.string s] 90))
    (by rw [World.cell?_alloc_at _ _ _ _ (by simp)]; rfl)
    (by rw [World.cell?_alloc_lt _ _ ⟨t, 0, none⟩ (by simp; omega), World.cell?_alloc_lt _ _ ⟨t, 0, none⟩ htl]; exact ht)
    (by rw [World.frozen?_alloc_old _ _ ⟨t, 0, none⟩ (by simp; omega), World.frozen?_alloc_old _ _ ⟨t, 0, none⟩ (by simp; omega)]; exact hf)
  go_enter Tryd.func68, Tryd.ntmps68
  go_wp2
  refine wp_loop_rounds 1 ?_
  rw [rounds_succ]
  go_wp2
  go_ret
  exact ⟨rfl, (by repeat (with_reducible first | exact hbel | exact Below.refl _ _ | refine Below.drew ?_ | refine Below.drewN ?_ _ | refine Below.alloc ?_ (by first | (simp; done) | (simp; omega) | omega | (have := Below.size hbel; simp; omega) | (have := Below.size hbel; omega)) _ | refine Below.setCell ?_ (by first | (simp; done) | (simp; omega) | omega) _))⟩

theorem EV.form {w : World} {D : Nat → Prop} {e : Value} (h : EV w D e) : ∃ ty v, e = .iface ty v := by
  cases h with
  | wrong a => exact ⟨_, _, rfl⟩
  | join g h n c e => exact ⟨_, _, rfl⟩

set_option maxRecDepth 100000 in
theorem unwrap_any (g : Nat) (x : Value) (w : World) (h : w.cell? ⟨g, 0, none⟩ = some x) : Calls Tryd.prog 143 #[.pointer (some ⟨g, 0, none⟩)] w fun e w' => e = .returned x ∧ w' = w := by
  go_enter Tryd.func143, Tryd.ntmps143
  go_wp2
  go_ret
  exact ⟨rfl, rfl⟩

set_option maxRecDepth 100000 in
set_option maxHeartbeats 4000000 in
theorem as_join (g h n c : Nat) (ty : TypeId) (v : Value) (B t a : Nat) (w : World) (h0 : w.cell? ⟨g, 0, none⟩ = some (.slice (some ⟨h, 0, none⟩) (n + 1) c)) (h1 : w.cell? ⟨h, 0, none⟩ = some (.iface ty v))
    (ih : Hid (∀ W, Below w.heap.size w W → Calls Tryd.prog 68 #[.iface ty v, .iface 92 (.pointer (some ⟨t, 0, none⟩)), ptV ⟨a, 0, none⟩, rty 90] W fun e w' => e = .returned (.bool true) ∧ Below B W w')) (hBw : B ≤ w.heap.size) :
    Calls Tryd.prog 68 #[.iface 186 (.pointer (some ⟨g, 0, none⟩)), .iface 92 (.pointer (some ⟨t, 0, none⟩)), ptV ⟨a, 0, none⟩, rty 90] w fun e w' => e = .returned (.bool true) ∧ Below B w w' := by
  have h10 := @run_callFunc_extern Tryd.prog 83 _ ReflectliteType.typeOf Tryd.func83 (by kernel_rfl) (by kernel_rfl) (by kernel_rfl) (by kernel_rfl)
  have h35 := @run_callFunc_extern Tryd.prog 132 _ (ReflectliteType.relation "AssignableTo" ReflectliteType.assignableTo) Tryd.func132 (by kernel_rfl) (by kernel_rfl) (by kernel_rfl) (by kernel_rfl)
  have tO := rf_typeOfJ
  have mA := rf_methodAssignableTo
  have aW := rf_assignJ
  have n1 := ta_noAsJ
  have n2 := ta_noUnwrapJ
  have n3 := ta_hasUnwrapJ
  have mU := rf_methodUnwrap
  have hgl : g < w.heap.size := World.lt_of_cell (a := ⟨g, 0, none⟩) h0
  have hhl : h < w.heap.size := World.lt_of_cell (a := ⟨h, 0, none⟩) h1
  have hn : ¬ ((n : Int) + 1 ≤ 0) := by omega
  have hn' : (0 : Int) < (n : Int) + 1 := by omega
  go_enter Tryd.func68, Tryd.ntmps68
  go_wp2_with fail
  refine wp_loop_rounds 1 ?_
  rw [rounds_succ]
  go_wp2_with fail
  refine Calls.mono (unwrap_any g (.slice (some ⟨h, 0, none⟩) (n + 1) c) _ ((World.cell?_alloc_lt _ _ ⟨g, 0, none⟩ hgl).trans h0)) ?_
  rintro e w1 ⟨rfl, rfl⟩
  have h1' := (World.cell?_alloc_lt w (.cells #[hdl 92, .pointer (some ⟨a, 0, none⟩), .int .u64 150] 129) ⟨h, 0, none⟩ hhl).trans h1
  go_wp2_with fail
  refine wp_loop_rounds 1 ?_
  rw [rounds_succ]
  go_wp2_with fail
  refine Calls.mono (ih.out _ ((Below.refl _ _).alloc (Nat.le_refl _) _)) ?_
  rintro e w2 ⟨rfl, hb2⟩
  go_wp2_with fail
  go_ret
  exact ⟨rfl, ((Below.refl _ _).alloc hBw _).trans hb2⟩

theorem as_any {w0 : World} {D : Nat → Prop} {e : Value} (h : EV w0 D e) (hD : ∀ g, D g → g < w0.heap.size) (B t a : Nat) (hB : B ≤ t) : ∀ (old : Value) (w : World), Below w0.heap.size w0 w → B ≤ w.heap.size →
    w.cell? ⟨a, 0, none⟩ = some (.pointer (some ⟨t, 0, none⟩)) → w.cell? ⟨t, 0, none⟩ = some old → w.frozen? ⟨t, 0, none⟩ = false →
    Calls Tryd.prog 68 #[e, .iface 92 (.pointer (some ⟨t, 0, none⟩)), ptV ⟨a, 0, none⟩, rty 90] w fun e w' => e = .returned (.bool true) ∧ Below B w w' := by
  induction h with
  | wrong s => exact fun old w _ hBw ha ht hf => as_wrong s B t a old w hB hBw ha ht hf
  | join g h n c e hg hh h0 h1 he ih =>
    intro old w hb hBw ha ht hf
    obtain ⟨ty, v, rfl⟩ := he.form
    refine as_join g h n c ty v B t a w ((hb.cell (p := ⟨g, 0, none⟩) (hD g hg)).trans h0) ((hb.cell (p := ⟨h, 0, none⟩) (hD h hh)).trans h1) (Lib.hid (fun W hW => ?_)) hBw
    have hal := World.lt_of_cell (a := ⟨a, 0, none⟩) ha
    have htl := World.lt_of_cell (a := ⟨t, 0, none⟩) ht
    exact ih old W (below_step hb (Nat.le_refl _) hW) (Nat.le_trans hBw hW.size) ((hW.cell (p := ⟨a, 0, none⟩) hal).trans ha) ((hW.cell (p := ⟨t, 0, none⟩) htl).trans ht) (by rw [World.frozen?_of_block (hW.block t htl)]; exact hf)

theorem as_nil (t : Value) (w : World) : Calls Tryd.prog 45 #[.nilIface, t] w fun e w' => e = .returned (.bool false) ∧ w' = w := by
  go_enter Tryd.func45, Tryd.ntmps45
  go_wp2
  go_ret
  exact ⟨rfl, rfl⟩

set_option maxRecDepth 100000 in
set_option maxHeartbeats 4000000 in
theorem As_any {w : World} {D : Nat → Prop} {e : Value} (h : EV w D e) (hD : ∀ g, D g → g < w.heap.size) (B t : Nat) (hB : B ≤ t) (hBw : B ≤ w.heap.size) (old : Value) (hg : w.cell? ⟨0, 0, none⟩ = some (rty 86)) (ht : w.cell? ⟨t, 0, none⟩ = some old) (hf : w.frozen? ⟨t, 0, none⟩ = false) :
    Calls Tryd.prog 45 #[e, .iface 92 (.pointer (some ⟨t, 0, none⟩))] w fun e w' => e = .returned (.bool true) ∧ Below B w w' := by
  have h6 := @run_callFunc_extern Tryd.prog 65 _ (fun args => ReflectliteValue.unpack (args.getD 0 (.tuple #[]))) Tryd.func65 (by kernel_rfl) (by kernel_rfl) (by kernel_rfl) (by kernel_rfl)
  have h7 := @run_callFunc_extern Tryd.prog 66 _ (ReflectliteValue.methodAny (ReflectliteValue.valueError "reflectlite.Value.Type" 0) (fun t _ _ _ => ReflectliteType.toType t)) Tryd.func66 (by kernel_rfl) (by kernel_rfl) (by kernel_rfl) (by kernel_rfl)
  have h8 := @run_callFunc_extern Tryd.prog 67 _ (ReflectliteValue.method (ReflectliteValue.valueError "reflectlite.Value.IsNil" 0) ReflectliteValue.isNil) Tryd.func67 (by kernel_rfl) (by kernel_rfl) (by kernel_rfl) (by kernel_rfl)
  have h27 := @run_callFunc_extern Tryd.prog 114 _ (ReflectliteType.abiMethod fun t => do pure (.int .u8 (← Rtype.kind t))) Tryd.func114 (by kernel_rfl) (by kernel_rfl) (by kernel_rfl) (by kernel_rfl)
  have h37 := @run_callFunc_extern Tryd.prog 134 _ (ReflectliteType.method ReflectliteType.elem) Tryd.func134 (by kernel_rfl) (by kernel_rfl) (by kernel_rfl) (by kernel_rfl)
  have h38 := @run_callFunc_extern Tryd.prog 135 _ (ReflectliteType.relation "Implements" ReflectliteType.implements_) Tryd.func135 (by kernel_rfl) (by kernel_rfl) (by kernel_rfl) (by kernel_rfl)
  have f6 := rf_valueOfP
  have f7 := rf_typeP
  have mK := rf_methodKind
  have mE := rf_methodElem
  have mI := rf_methodImplements
  have kP := rf_kindP
  have kW := rf_kindW
  have eP := rf_elemP
  have iW := rf_implements
  have hlt : 0 < w.heap.size := World.lt_of_cell (a := ⟨0, 0, none⟩) hg
  have htl : t < w.heap.size := World.lt_of_cell (a := ⟨t, 0, none⟩) ht
  have n8 := rf_isNil ⟨w.heap.size, 0, none⟩ ⟨t, 0, none⟩ ((w.alloc (.cells #[.pointer (some ⟨t, 0, none⟩)] 92)).alloc (.cells #[hdl 92, .pointer (some ⟨w.heap.size, 0, none⟩), .int .u64 150] 129)) (by rw [World.cell?_alloc_lt _ _ _ (by simp), World.cell?_alloc_at _ _ _ _ rfl]; rfl)
  have hg2 : ((w.alloc (.cells #[.pointer (some ⟨t, 0, none⟩)] 92)).alloc (.cells #[hdl 92, .pointer (some ⟨w.heap.size, 0, none⟩), .int .u64 150] 129)).cell? ⟨0, 0, none⟩ = some (rty 86) := by
    rw [World.cell?_alloc_lt _ _ ⟨0, 0, none⟩ (by simp), World.cell?_alloc_lt _ _ ⟨0, 0, none⟩ hlt]; exact hg
  obtain ⟨W, hWe⟩ : ∃ W, W = (w.alloc (.cells #[.pointer (some ⟨t, 0, none⟩)] 92)).alloc (.cells #[hdl 92, .pointer (some ⟨w.heap.size, 0, none⟩), .int .u64 150] 129) := ⟨_, rfl⟩
  have hW : Below w.heap.size w W := by rw [hWe]; exact ((Below.refl _ _).alloc (Nat.le_refl _) _).alloc (by simp) _
  have hWB : Below B w W := by rw [hWe]; exact ((Below.refl _ _).alloc hBw _).alloc (by simp; omega) _
  have call := Lib.hid (as_any h hD B t w.heap.size hB old W hW (Nat.le_trans hBw hW.size) (by rw [hWe, World.cell?_alloc_lt _ _ _ (by simp), World.cell?_alloc_at _ _ _ _ rfl]; rfl) ((hW.cell (p := ⟨t, 0, none⟩) htl).trans ht) (by rw [World.frozen?_of_block (hW.block t htl)]; exact hf))
  rw [hWe] at call
  have hWB' := Lib.hid hWB
  obtain ⟨ty, v, rfl⟩ := h.form
  clear hW hWB h hD
  go_enter Tryd.func45, Tryd.ntmps45
  go_wp2_with fail
  refine Calls.mono call.out ?_
  rintro e w2 ⟨rfl, hb2⟩
  go_wp2_with fail
  go_ret
  rw [hWe] at hWB'
  exact ⟨rfl, hWB'.out.trans hb2⟩

end Go.Proofs.YtjbfchmlhaidfaaDoor
