/- What the model answers for reflectlite, at the types of this program's errors. errors.As and errors.as, at the errors of this program. errors.Join of two errors. -/
import Derived.Test.YtchkmdagbjbcjaaGreatDoorText
import Derived.Stop.Asserts
import Derived.LaidEql
import Derived.RowKitTokens
import Derived.Test.YtchkmdagbjbcjaaGreatDoorFrG
namespace Go.Proofs.YtchkmdagbjbcjaaGreatDoor
set_option linter.unusedVariables false
open Go.RowKit Go.Extern.Stop Go.Stop Go.Extern

/-- A type's handle. -/
abbrev hdl (t : Nat) : Value := .pointer (some ⟨2, t, none⟩)
abbrev rty (t : Nat) : Value := .iface 134 (.agg #[hdl t])
abbrev ptV (a : Addr) : Value := .agg #[hdl 73, .pointer (some a), .int .u64 150]
abbrev waV (b : Addr) : Value := .agg #[hdl 71, .pointer (some b), .int .u64 153]
abbrev waE (a : Addr) : Value := .agg #[hdl 71, .pointer (some a), .int .u64 409]

theorem rf_valueOfP (t : Addr) (w : World) : (ReflectliteValue.unpack (.iface 73 (.pointer (some t)))).run Tryz.prog w
    = .ok (ptV ⟨w.heap.size, 0, none⟩) (w.alloc (.cells #[.pointer (some t)] 73)) := by kernel_rfl
theorem rf_typeP (a : Addr) (w : World) : (ReflectliteValue.methodAny (ReflectliteValue.valueError "reflectlite.Value.Type" 0) (fun t _ _ _ => ReflectliteType.toType t) #[ptV a]).run Tryz.prog w
    = .ok (rty 73) w := by kernel_rfl
theorem rf_methodKind (h : Value) (w : World) : (Go.method 309 134 (.agg #[h]) "Kind").run Tryz.prog w = .ok (102, h) w := by kernel_rfl
theorem rf_kindP (w : World) : ((ReflectliteType.abiMethod fun t => (fun a : Nat => Value.int IntKind.u8 (a : Int)) <$> Rtype.kind t) #[hdl 73]).run Tryz.prog w = .ok (.int .u8 22) w := by kernel_rfl
theorem rf_kindW (w : World) : ((ReflectliteType.abiMethod fun t => (fun a : Nat => Value.int IntKind.u8 (a : Int)) <$> Rtype.kind t) #[hdl 71]).run Tryz.prog w = .ok (.int .u8 25) w := by kernel_rfl
theorem rf_rlm (z : Sem Value) (f : TypeId → Addr → Nat → Nat → Sem Value) (v : Value) :
    ReflectliteValue.method z f #[v] = (do match ← ReflectliteValue.parts v with | none => z | some (t, a, fl) => f t a fl (fl % 32)) := rfl
theorem rf_partsP (a : Addr) (w : World) : (ReflectliteValue.parts (ptV a)).run Tryz.prog w = .ok (some (73, a, 150)) w := by kernel_rfl
theorem rf_isNil (a p : Addr) (W : World) (ha : W.cell? a = some (.pointer (some p))) :
    (ReflectliteValue.method (ReflectliteValue.valueError "reflectlite.Value.IsNil" 0) ReflectliteValue.isNil #[ptV a]).run Tryz.prog W = .ok (.bool false) W := by
  rw [rf_rlm]
  simp only [Sem.run_bind, rf_partsP, Result.andThen]
  simp [ReflectliteValue.isNil, loadVar, isAgg, underlying, Tryz.underlying73, ha, Result.andThen]
theorem rf_methodElem (h : Value) (w : World) : (Go.method 309 134 (.agg #[h]) "Elem").run Tryz.prog w = .ok (118, .agg #[h]) w := by kernel_rfl
theorem rf_methodImplements (h : Value) (w : World) : (Go.method 309 134 (.agg #[h]) "Implements").run Tryz.prog w = .ok (119, .agg #[h]) w := by kernel_rfl
theorem rf_methodAssignableTo (h : Value) (w : World) : (Go.method 309 134 (.agg #[h]) "AssignableTo").run Tryz.prog w = .ok (116, .agg #[h]) w := by kernel_rfl
theorem rf_elemP (w : World) : (ReflectliteType.method ReflectliteType.elem #[.agg #[hdl 73]]).run Tryz.prog w = .ok (rty 71) w := by kernel_rfl
theorem rf_implements (w : World) : (ReflectliteType.relation "Implements" ReflectliteType.implements_ #[.agg #[hdl 71], rty 67]).run Tryz.prog w = .ok (.bool true) w := by kernel_rfl
theorem rf_typeOfW (v : Value) (w : World) : (ReflectliteType.typeOf #[.iface 71 v]).run Tryz.prog w = .ok (rty 71) w := by kernel_rfl
theorem rf_typeOfJ (v : Value) (w : World) : (ReflectliteType.typeOf #[.iface 160 v]).run Tryz.prog w = .ok (rty 160) w := by kernel_rfl
theorem rf_assignW (w : World) : (ReflectliteType.relation "AssignableTo" ReflectliteType.assignableTo #[.agg #[hdl 71], rty 71]).run Tryz.prog w = .ok (.bool true) w := by kernel_rfl
theorem rf_assignJ (w : World) : (ReflectliteType.relation "AssignableTo" ReflectliteType.assignableTo #[.agg #[hdl 160], rty 71]).run Tryz.prog w = .ok (.bool false) w := by kernel_rfl
theorem rf_valueOfW (a : ByteArray) (w : World) : (ReflectliteValue.unpack (.iface 71 (.agg #[.string a]))).run Tryz.prog w
    = .ok (waV ⟨w.heap.size, 0, none⟩) (w.alloc (.cells #[.string a] 71)) := by kernel_rfl
theorem rf_elemOfP (w : World) : (Rtype.elem? 73).run Tryz.prog w = .ok (some 71) w := by kernel_rfl
theorem rf_mkW (p : Addr) (w : World) : (ReflectliteValue.mk 71 p ReflectliteValue.flagAddr).run Tryz.prog w = .ok (waE p) w := by kernel_rfl
theorem rf_elemV (a p : Addr) (W : World) (ha : W.cell? a = some (.pointer (some p))) :
    (ReflectliteValue.method (ReflectliteValue.valueError "reflectlite.Value.Elem" 0) ReflectliteValue.elem #[ptV a]).run Tryz.prog W = .ok (waE p) W := by
  rw [rf_rlm]
  simp only [Sem.run_bind, rf_partsP, Result.andThen]
  simp [ReflectliteValue.elem, loadVar, isAgg, underlying, Tryz.underlying73, ha, Result.andThen, rf_elemOfP, rf_mkW]
theorem rf_rls (v x : Value) : ReflectliteValue.set #[v, x] = (do
    let (some (dst, a, fl), some (src, b, _)) := (← ReflectliteValue.parts v, ← ReflectliteValue.parts x)
      | unsupported (.noEntry "extern/(internal/reflectlite.Value).Set.zeroValue")
    if fl / ReflectliteValue.flagAddr % 2 == 0 then unsupported (.noEntry "extern/(internal/reflectlite.Value).Set.unaddressable")
    let val ← loadVar src b
    if ← Rtype.directlyAssignable dst src then storeVar dst a val
    else if ← Rtype.implements dst src then
      if (← Rtype.kind src) == 20 then
        match val with
        | .nilIface => unsupported (.noEntry "extern/reflectlite: a nil value of one interface type handed on as a value of another")
        | _ => storeVar dst a val
      else storeVar dst a (.iface src val)
    else panicString ("reflectlite.Set: value of type " ++ (← Rtype.spelt src) ++ " is not assignable to type " ++ (← Rtype.spelt dst))
    pure (.tuple #[])) := rfl
theorem rf_partsE (a : Addr) (w : World) : (ReflectliteValue.parts (waE a)).run Tryz.prog w = .ok (some (71, a, 409)) w := by kernel_rfl
theorem rf_partsW (a : Addr) (w : World) : (ReflectliteValue.parts (waV a)).run Tryz.prog w = .ok (some (71, a, 153)) w := by kernel_rfl
theorem rf_direct (w : World) : (Rtype.directlyAssignable 71 71).run Tryz.prog w = .ok true w := by kernel_rfl
theorem rf_load (b : Nat) (a : ByteArray) (W : World) (hb : W.cell? ⟨b, 0, none⟩ = some (.string a)) : (loadVar 71 ⟨b, 0, none⟩).run Tryz.prog W = .ok (.agg #[.string a]) W := by
  simp [loadVar, isAgg, underlying, Tryz.underlying71, Result.andThen, loadCells, loadCellsFrom, Addr.add, hb]
theorem rf_store (t : Nat) (a : ByteArray) (old : Value) (W : World) (ht : W.cell? ⟨t, 0, none⟩ = some old) (hf : W.frozen? ⟨t, 0, none⟩ = false) : (storeVar 71 ⟨t, 0, none⟩ (.agg #[.string a])).run Tryz.prog W = .ok () (W.setCell ⟨t, 0, none⟩ (.string a)) := by
  simp [storeVar, Result.andThen, Value.cells, storeCells, Addr.add]
  rw [run_store Tryz.prog W ⟨t, 0, none⟩ _ _ (by rfl)]
  simp [ht, hf]
/-- (Value).Set: the variable at 't' gets what the Value's own variable 'b' holds. -/
theorem rf_set (t b : Nat) (a : ByteArray) (old : Value) (W : World) (hb : W.cell? ⟨b, 0, none⟩ = some (.string a)) (ht : W.cell? ⟨t, 0, none⟩ = some old) (hf : W.frozen? ⟨t, 0, none⟩ = false) :
    (ReflectliteValue.set #[waE ⟨t, 0, none⟩, waV ⟨b, 0, none⟩]).run Tryz.prog W = .ok (.tuple #[]) (W.setCell ⟨t, 0, none⟩ (.string a)) := by
  have h1 := rf_load b a W hb
  have h2 := rf_store t a old W ht hf
  rw [rf_rls]
  simp only [Sem.run_bind, rf_partsE, rf_partsW, Result.andThen]
  simp [ReflectliteValue.flagAddr, Result.andThen, rf_direct, h1, h2]

/-- What an error's dynamic type has no method for. -/
theorem ta_noAsW (v : Value) (xT : TypeId) (w : World) : (Instr.typeAssert (.iface 71 v) xT 139 true).run Tryz.prog w = .ok (.tuple #[.nilIface, .bool false]) w := run_typeAssert_lacksB Tryz.underlying139 (by kernel_rfl) (by kernel_rfl) v xT w
theorem ta_noAsJ (v : Value) (xT : TypeId) (w : World) : (Instr.typeAssert (.iface 160 v) xT 139 true).run Tryz.prog w = .ok (.tuple #[.nilIface, .bool false]) w := run_typeAssert_lacksB Tryz.underlying139 (by kernel_rfl) (by kernel_rfl) v xT w
theorem ta_noUnwrapJ (v : Value) (xT : TypeId) (w : World) : (Instr.typeAssert (.iface 160 v) xT 142 true).run Tryz.prog w = .ok (.tuple #[.nilIface, .bool false]) w := run_typeAssert_lacksB Tryz.underlying142 (by kernel_rfl) (by kernel_rfl) v xT w
theorem ta_hasUnwrapJ (v : Value) (xT : TypeId) (w : World) : (Instr.typeAssert (.iface 160 v) xT 144 true).run Tryz.prog w = .ok (.tuple #[.iface 160 v, .bool true]) w := run_typeAssert_hasB Tryz.underlying144 (by kernel_rfl) v xT w
theorem rf_methodUnwrap (v : Value) (w : World) : (Go.method 309 160 v "Unwrap").run Tryz.prog w = .ok (143, v) w := by kernel_rfl

end Go.Proofs.YtchkmdagbjbcjaaGreatDoor

namespace Go.Proofs.YtchkmdagbjbcjaaGreatDoor
set_option linter.unusedVariables false
open Go.RowKit Go.Extern.Stop Go.Stop Go.Extern

/-- An error in which there is a wrongAtom. -/
inductive EV (w : World) (D : Nat → Prop) : Value → Prop
  | wrong (a : ByteArray) : EV w D (.iface 71 (.agg #[.string a]))
  | join (g h n c : Nat) (e : Value) : D g → D h → w.cell? ⟨g, 0, none⟩ = some (.slice (some ⟨h, 0, none⟩) (n + 1) c) → w.cell? ⟨h, 0, none⟩ = some e → EV w D e → EV w D (.iface 160 (.pointer (some ⟨g, 0, none⟩)))

theorem EV.keep {w w' : World} {D D' : Nat → Prop} {e : Value} (h : EV w D e) (hw : ∀ g, D g → w'.heap[g]? = w.heap[g]?) (hD : ∀ g, D g → D' g) : EV w' D' e := by
  induction h with
  | wrong a => exact .wrong a
  | join g h n c e h1 h2 h3 h4 _ ih => exact .join g h n c e (hD g h1) (hD h h2) ((World.cell?_of_block (a := ⟨g, 0, none⟩) (hw g h1)).trans h3) ((World.cell?_of_block (a := ⟨h, 0, none⟩) (hw h h2)).trans h4) ih
theorem EV.belowW {w w' : World} {D : Nat → Prop} {e : Value} (h : EV w D e) (hb : Below w.heap.size w w') (hD : ∀ g, D g → g < w.heap.size) : EV w' D e := h.keep (fun g hg => hb.block g (hD g hg)) (fun _ h => h)
theorem EV.to {w : World} {D D' : Nat → Prop} {e : Value} (h : EV w D e) (hD : ∀ g, D g → D' g) : EV w D' e := h.keep (fun _ _ => rfl) hD

theorem World.lt_of_cell {w : World} {a : Addr} {v : Value} (h : w.cell? a = some v) : a.block < w.heap.size := by
  rcases Nat.lt_or_ge a.block w.heap.size with h1 | h1
  · exact h1
  · simp [World.cell?, Array.getElem?_eq_none h1] at h

set_option maxRecDepth 100000 in
set_option maxHeartbeats 4000000 in
theorem as_wrong (s : ByteArray) (B t a : Nat) (old : Value) (w : World) (hB : B ≤ t) (hBw : B ≤ w.heap.size) (ha : w.cell? ⟨a, 0, none⟩ = some (.pointer (some ⟨t, 0, none⟩))) (ht : w.cell? ⟨t, 0, none⟩ = some old) (hf : w.frozen? ⟨t, 0, none⟩ = false) :
    Calls Tryz.prog 49 #[.iface 71 (.agg #[.string s]), .iface 73 (.pointer (some ⟨t, 0, none⟩)), ptV ⟨a, 0, none⟩, rty 71] w fun e w' => e = .returned (.bool true) ∧ Below B w w' := by
  have h6 := @run_callFunc_extern Tryz.prog 46 _ (fun args => ReflectliteValue.unpack (args.getD 0 (.tuple #[]))) Tryz.func46 (by kernel_rfl) (by kernel_rfl) (by kernel_rfl) (by kernel_rfl)
  have h10 := @run_callFunc_extern Tryz.prog 62 _ ReflectliteType.typeOf Tryz.func62 (by kernel_rfl) (by kernel_rfl) (by kernel_rfl) (by kernel_rfl)
  have h35 := @run_callFunc_extern Tryz.prog 116 _ (ReflectliteType.relation "AssignableTo" ReflectliteType.assignableTo) Tryz.func116 (by kernel_rfl) (by kernel_rfl) (by kernel_rfl) (by kernel_rfl)
  have h11 := @run_callFunc_extern Tryz.prog 63 _ (ReflectliteValue.method (ReflectliteValue.valueError "reflectlite.Value.Elem" 0) ReflectliteValue.elem) Tryz.func63 (by kernel_rfl) (by kernel_rfl) (by kernel_rfl) (by kernel_rfl)
  have h12 := @run_callFunc_extern Tryz.prog 64 _ ReflectliteValue.set Tryz.func64 (by kernel_rfl) (by kernel_rfl) (by kernel_rfl) (by kernel_rfl)
  have tO := rf_typeOfW
  have mA := rf_methodAssignableTo
  have aW := rf_assignW
  have vW := rf_valueOfW
  have hat : a < w.heap.size := World.lt_of_cell (a := ⟨a, 0, none⟩) ha
  have htl : t < w.heap.size := World.lt_of_cell (a := ⟨t, 0, none⟩) ht
  have el := rf_elemV ⟨a, 0, none⟩ ⟨t, 0, none⟩ (w.alloc (.cells #[hdl 73, .pointer (some ⟨a, 0, none⟩), .int .u64 150] 104)) (by rw [World.cell?_alloc_lt _ _ ⟨a, 0, none⟩ hat]; exact ha)
  have st := rf_set t (w.heap.size + 1) s old ((w.alloc (.cells #[hdl 73, .pointer (some ⟨a, 0, none⟩), .int .u64 150] 104)).alloc (.cells #[.string s] 71))
    (by rw [World.cell?_alloc_at _ _ _ _ (by simp)]; rfl)
    (by rw [World.cell?_alloc_lt _ _ ⟨t, 0, none⟩ (by simp; omega), World.cell?_alloc_lt _ _ ⟨t, 0, none⟩ htl]; exact ht)
    (by rw [World.frozen?_alloc_old _ _ ⟨t, 0, none⟩ (by simp; omega), World.frozen?_alloc_old _ _ ⟨t, 0, none⟩ (by simp; omega)]; exact hf)
  go_enter Tryz.func49, Tryz.ntmps49
  go_wp2
  refine wp_loop_rounds 1 ?_
  rw [rounds_succ]
  go_wp2
  go_ret
  exact ⟨rfl, (by repeat (with_reducible first | exact hbel | exact Below.refl _ _ | refine Below.drew ?_ | refine Below.drewN ?_ _ | refine Below.alloc ?_ (by first | (simp; done) | (simp; omega) | omega | (have := Below.size hbel; simp; omega) | (have := Below.size hbel; omega)) _ | refine Below.setCell ?_ (by first | (simp; done) | (simp; omega) | omega) _))⟩

theorem EV.form {w : World} {D : Nat → Prop} {e : Value} (h : EV w D e) : ∃ ty v, e = .iface ty v := by
  cases h with
  | wrong a => exact ⟨_, _, rfl⟩
  | join g h n c e => exact ⟨_, _, rfl⟩

set_option maxRecDepth 100000 in
theorem unwrap_any (g : Nat) (x : Value) (w : World) (h : w.cell? ⟨g, 0, none⟩ = some x) : Calls Tryz.prog 143 #[.pointer (some ⟨g, 0, none⟩)] w fun e w' => e = .returned x ∧ w' = w := by
  go_enter Tryz.func143, Tryz.ntmps143
  go_wp2
  go_ret
  exact ⟨rfl, rfl⟩

set_option maxRecDepth 100000 in
set_option maxHeartbeats 4000000 in
theorem as_join (g h n c : Nat) (ty : TypeId) (v : Value) (B t a : Nat) (w : World) (h0 : w.cell? ⟨g, 0, none⟩ = some (.slice (some ⟨h, 0, none⟩) (n + 1) c)) (h1 : w.cell? ⟨h, 0, none⟩ = some (.iface ty v))
    (ih : Hid (∀ W, Below w.heap.size w W → Calls Tryz.prog 49 #[.iface ty v, .iface 73 (.pointer (some ⟨t, 0, none⟩)), ptV ⟨a, 0, none⟩, rty 71] W fun e w' => e = .returned (.bool true) ∧ Below B W w')) (hBw : B ≤ w.heap.size) :
    Calls Tryz.prog 49 #[.iface 160 (.pointer (some ⟨g, 0, none⟩)), .iface 73 (.pointer (some ⟨t, 0, none⟩)), ptV ⟨a, 0, none⟩, rty 71] w fun e w' => e = .returned (.bool true) ∧ Below B w w' := by
  have h10 := @run_callFunc_extern Tryz.prog 62 _ ReflectliteType.typeOf Tryz.func62 (by kernel_rfl) (by kernel_rfl) (by kernel_rfl) (by kernel_rfl)
  have h35 := @run_callFunc_extern Tryz.prog 116 _ (ReflectliteType.relation "AssignableTo" ReflectliteType.assignableTo) Tryz.func116 (by kernel_rfl) (by kernel_rfl) (by kernel_rfl) (by kernel_rfl)
  have tO := rf_typeOfJ
  have mA := rf_methodAssignableTo
  have aW := rf_assignJ
  have n1 := ta_noAsJ
  have n2 := ta_noUnwrapJ
  have n3 := ta_hasUnwrapJ
  have mU := rf_methodUnwrap
  have hgl : g < w.heap.size := World.lt_of_cell (a := ⟨g, 0, none⟩) h0
  have hhl : h < w.heap.size := World.lt_of_cell (a := ⟨h, 0, none⟩) h1
  have hn : ¬ ((n : Int) + 1 ≤ 0) := by omega
  have hn' : (0 : Int) < (n : Int) + 1 := by omega
  go_enter Tryz.func49, Tryz.ntmps49
  go_wp2_with fail
  refine wp_loop_rounds 1 ?_
  rw [rounds_succ]
  go_wp2_with fail
  refine Calls.mono (unwrap_any g (.slice (some ⟨h, 0, none⟩) (n + 1) c) _ ((World.cell?_alloc_lt _ _ ⟨g, 0, none⟩ hgl).trans h0)) ?_
  rintro e w1 ⟨rfl, rfl⟩
  have h1' := (World.cell?_alloc_lt w (.cells #[hdl 73, .pointer (some ⟨a, 0, none⟩), .int .u64 150] 104) ⟨h, 0, none⟩ hhl).trans h1
  go_wp2_with fail
  refine wp_loop_rounds 1 ?_
  rw [rounds_succ]
  go_wp2_with fail
  refine Calls.mono (ih.out _ ((Below.refl _ _).alloc (Nat.le_refl _) _)) ?_
  rintro e w2 ⟨rfl, hb2⟩
  go_wp2_with fail
  go_ret
  exact ⟨rfl, ((Below.refl _ _).alloc hBw _).trans hb2⟩

theorem as_any {w0 : World} {D : Nat → Prop} {e : Value} (h : EV w0 D e) (hD : ∀ g, D g → g < w0.heap.size) (B t a : Nat) (hB : B ≤ t) : ∀ (old : Value) (w : World), Below w0.heap.size w0 w → B ≤ w.heap.size →
    w.cell? ⟨a, 0, none⟩ = some (.pointer (some ⟨t, 0, none⟩)) → w.cell? ⟨t, 0, none⟩ = some old → w.frozen? ⟨t, 0, none⟩ = false →
    Calls Tryz.prog 49 #[e, .iface 73 (.pointer (some ⟨t, 0, none⟩)), ptV ⟨a, 0, none⟩, rty 71] w fun e w' => e = .returned (.bool true) ∧ Below B w w' := by
  induction h with
  | wrong s => exact fun old w _ hBw ha ht hf => as_wrong s B t a old w hB hBw ha ht hf
  | join g h n c e hg hh h0 h1 he ih =>
    intro old w hb hBw ha ht hf
    obtain ⟨ty, v, rfl⟩ := he.form
    refine as_join g h n c ty v B t a w ((hb.cell (p := ⟨g, 0, none⟩) (hD g hg)).trans h0) ((hb.cell (p := ⟨h, 0, none⟩) (hD h hh)).trans h1) (Lib.hid (fun W hW => ?_)) hBw
    have hal := World.lt_of_cell (a := ⟨a, 0, none⟩) ha
    have htl := World.lt_of_cell (a := ⟨t, 0, none⟩) ht
    exact ih old W (below_step hb (Nat.le_refl _) hW) (Nat.le_trans hBw hW.size) ((hW.cell (p := ⟨a, 0, none⟩) hal).trans ha) ((hW.cell (p := ⟨t, 0, none⟩) htl).trans ht) (by rw [World.frozen?_of_block (hW.block t htl)]; exact hf)

theorem as_nil (t : Value) (w : World) : Calls Tryz.prog 30 #[.nilIface, t] w fun e w' => e = .returned (.bool false) ∧ w' = w := by
  go_enter Tryz.func30, Tryz.ntmps30
  go_wp2
  go_ret
  exact ⟨rfl, rfl⟩

set_option maxRecDepth 100000 in
set_option maxHeartbeats 4000000 in
theorem As_any {w : World} {D : Nat → Prop} {e : Value} (h : EV w D e) (hD : ∀ g, D g → g < w.heap.size) (B t : Nat) (hB : B ≤ t) (hBw : B ≤ w.heap.size) (old : Value) (hg : w.cell? ⟨0, 0, none⟩ = some (rty 67)) (ht : w.cell? ⟨t, 0, none⟩ = some old) (hf : w.frozen? ⟨t, 0, none⟩ = false) :
    Calls Tryz.prog 30 #[e, .iface 73 (.pointer (some ⟨t, 0, none⟩))] w fun e w' => e = .returned (.bool true) ∧ Below B w w' := by
  have h6 := @run_callFunc_extern Tryz.prog 46 _ (fun args => ReflectliteValue.unpack (args.getD 0 (.tuple #[]))) Tryz.func46 (by kernel_rfl) (by kernel_rfl) (by kernel_rfl) (by kernel_rfl)
  have h7 := @run_callFunc_extern Tryz.prog 47 _ (ReflectliteValue.methodAny (ReflectliteValue.valueError "reflectlite.Value.Type" 0) (fun t _ _ _ => ReflectliteType.toType t)) Tryz.func47 (by kernel_rfl) (by kernel_rfl) (by kernel_rfl) (by kernel_rfl)
  have h8 := @run_callFunc_extern Tryz.prog 48 _ (ReflectliteValue.method (ReflectliteValue.valueError "reflectlite.Value.IsNil" 0) ReflectliteValue.isNil) Tryz.func48 (by kernel_rfl) (by kernel_rfl) (by kernel_rfl) (by kernel_rfl)
  have h27 := @run_callFunc_extern Tryz.prog 102 _ (ReflectliteType.abiMethod fun t => do pure (.int .u8 (← Rtype.kind t))) Tryz.func102 (by kernel_rfl) (by kernel_rfl) (by kernel_rfl) (by kernel_rfl)
  have h37 := @run_callFunc_extern Tryz.prog 118 _ (ReflectliteType.method ReflectliteType.elem) Tryz.func118 (by kernel_rfl) (by kernel_rfl) (by kernel_rfl) (by kernel_rfl)
  have h38 := @run_callFunc_extern Tryz.prog 119 _ (ReflectliteType.relation "Implements" ReflectliteType.implements_) Tryz.func119 (by kernel_rfl) (by kernel_rfl) (by kernel_rfl) (by kernel_rfl)
  have f6 := rf_valueOfP
  have f7 := rf_typeP
  have mK := rf_methodKind
  have mE := rf_methodElem
  have mI := rf_methodImplements
  have kP := rf_kindP
  have kW := rf_kindW
  have eP := rf_elemP
  have iW := rf_implements
  have hlt : 0 < w.heap.size := World.lt_of_cell (a := ⟨0, 0, none⟩) hg
  have htl : t < w.heap.size := World.lt_of_cell (a := ⟨t, 0, none⟩) ht
  have n8 := rf_isNil ⟨w.heap.size, 0, none⟩ ⟨t, 0, none⟩ ((w.alloc (.cells #[.pointer (some ⟨t, 0, none⟩)] 73)).alloc (.cells #[hdl 73, .pointer (some ⟨w.heap.size, 0, none⟩), .int .u64 150] 104)) (by rw [World.cell?_alloc_lt _ _ _ (by simp), World.cell?_alloc_at _ _ _ _ rfl]; rfl)
  have hg2 : ((w.alloc (.cells #[.pointer (some ⟨t, 0, none⟩)] 73)).alloc (.cells #[hdl 73, .pointer (some ⟨w.heap.size, 0, none⟩), .int .u64 150] 104)).cell? ⟨0, 0, none⟩ = some (rty 67) := by
    rw [World.cell?_alloc_lt _ _ ⟨0, 0, none⟩ (by simp), World.cell?_alloc_lt _ _ ⟨0, 0, none⟩ hlt]; exact hg
  obtain ⟨W, hWe⟩ : ∃ W, W = (w.alloc (.cells #[.pointer (some ⟨t, 0, none⟩)] 73)).alloc (.cells #[hdl 73, .pointer (some ⟨w.heap.size, 0, none⟩), .int .u64 150] 104) := ⟨_, rfl⟩
  have hW : Below w.heap.size w W := by rw [hWe]; exact ((Below.refl _ _).alloc (Nat.le_refl _) _).alloc (by simp) _
  have hWB : Below B w W := by rw [hWe]; exact ((Below.refl _ _).alloc hBw _).alloc (by simp; omega) _
  have call := Lib.hid (as_any h hD B t w.heap.size hB old W hW (Nat.le_trans hBw hW.size) (by rw [hWe, World.cell?_alloc_lt _ _ _ (by simp), World.cell?_alloc_at _ _ _ _ rfl]; rfl) ((hW.cell (p := ⟨t, 0, none⟩) htl).trans ht) (by rw [World.frozen?_of_block (hW.block t htl)]; exact hf))
  rw [hWe] at call
  have hWB' := Lib.hid hWB
  obtain ⟨ty, v, rfl⟩ := h.form
  clear hW hWB h hD
  go_enter Tryz.func30, Tryz.ntmps30
  go_wp2_with fail
  refine Calls.mono call.out ?_
  rintro e w2 ⟨rfl, hb2⟩
  go_wp2_with fail
  go_ret
  rw [hWe] at hWB'
  exact ⟨rfl, hWB'.out.trans hb2⟩

end Go.Proofs.YtchkmdagbjbcjaaGreatDoor

namespace Go.Proofs.YtchkmdagbjbcjaaGreatDoor
set_option linter.unusedVariables false
open Go.RowKit Go.Extern.Stop Go.Stop Go.Extern
set_option maxRecDepth 100000

theorem infoError : (Tryz.prog.info? 67).map (fun i => (i.zero, i.size, i.bytes)) = some (some .nilIface, 1, 16) := by kernel_rfl

theorem mk_one (w : World) : (Instr.makeSlice 145 (.int .i64 0) (.int .i64 1)).run Tryz.prog w = .ok (.slice (some ⟨w.heap.size, 0, none⟩) 0 1) (w.alloc (.cells #[.nilIface] 67)) := by
  obtain ⟨i0, hi0, hz0, hz1, hz2⟩ := info_parts infoError
  have h := run_makeSlice (P := Tryz.prog) (w := w) 145 67 i0 .nilIface Tryz.underlying145 hi0 hz0 .i64 .i64 0 1 (by omega) (by omega) (by rw [hz1]; decide) (by rw [hz2]; decide) (by omega)
  rw [hz1, show madeCells Value.nilIface.cells (Int.toNat 1 * 1) = #[.nilIface] from by kernel_rfl] at h
  exact h
theorem mk_two (w : World) : (Instr.makeSlice 145 (.int .i64 0) (.int .i64 2)).run Tryz.prog w = .ok (.slice (some ⟨w.heap.size, 0, none⟩) 0 2) (w.alloc (.cells #[.nilIface, .nilIface] 67)) := by
  obtain ⟨i0, hi0, hz0, hz1, hz2⟩ := info_parts infoError
  have h := run_makeSlice (P := Tryz.prog) (w := w) 145 67 i0 .nilIface Tryz.underlying145 hi0 hz0 .i64 .i64 0 2 (by omega) (by omega) (by rw [hz1]; decide) (by rw [hz2]; decide) (by omega)
  rw [hz1, show madeCells Value.nilIface.cells (Int.toNat 2 * 1) = #[.nilIface, .nilIface] from by kernel_rfl] at h
  exact h

theorem join_nil (q c : Nat) (w : World) (h0 : w.cell? ⟨q, 0, none⟩ = some .nilIface) (h1 : w.cell? ⟨q, 1, none⟩ = some .nilIface) :
    Calls Tryz.prog 61 #[.slice (some ⟨q, 0, none⟩) 2 c] w fun e w' => e = .returned .nilIface ∧ w' = w := by
  go_enter Tryz.func61, Tryz.ntmps61
  go_wp2_with fail
  refine wp_loop_rounds 3 ?_
  rw [rounds_succ]
  go_wp2_with fail
  rw [rounds_succ]
  go_wp2_with fail
  rw [rounds_succ]
  go_wp2_with fail
  go_ret
  exact ⟨rfl, rfl⟩

set_option maxHeartbeats 4000000 in
theorem join_one (q c : Nat) (ty : TypeId) (v : Value) (w : World) (h0 : w.cell? ⟨q, 0, none⟩ = some (.iface ty v)) (h1 : w.cell? ⟨q, 1, none⟩ = some (.nilIface)) :
    Calls Tryz.prog 61 #[.slice (some ⟨q, 0, none⟩) 2 c] w fun e w' => ∃ g h n c, e = .returned (.iface 160 (.pointer (some ⟨g, 0, none⟩))) ∧ Below w.heap.size w w' ∧ w.heap.size ≤ g ∧ w.heap.size ≤ h ∧ h < w'.heap.size ∧ g < w'.heap.size ∧ w'.cell? ⟨g, 0, none⟩ = some (.slice (some ⟨h, 0, none⟩) (n + 1) c) ∧ w'.cell? ⟨h, 0, none⟩ = some (.iface ty v) := by
  have hmk := mk_one
  have hql : q < w.heap.size := World.lt_of_cell (a := ⟨q, 0, none⟩) h0
  have rd1 := fun A B C => (World.cell?_alloc_lt ((w.alloc A).alloc B) C ⟨q, 1, none⟩ (by simp; omega)).trans ((World.cell?_alloc_lt (w.alloc A) B ⟨q, 1, none⟩ (by simp; omega)).trans ((World.cell?_alloc_lt w A ⟨q, 1, none⟩ hql).trans h1))
  go_enter Tryz.func61, Tryz.ntmps61
  go_wp2_with fail
  refine wp_loop_rounds 3 ?_
  rw [rounds_succ]
  go_wp2_with fail
  rw [rounds_succ]
  go_wp2_with fail
  rw [rounds_succ]
  go_wp2_with fail
  refine wp_loop_rounds 3 ?_
  rw [rounds_succ]
  go_wp2_with fail
  rw [rounds_succ]
  go_wp2_with fail
  rw [rounds_succ]
  go_wp2_with fail
  go_ret
  refine ⟨w.heap.size + 1, w.heap.size, 0, 1, rfl, (by repeat (with_reducible first | exact hbel | exact Below.refl _ _ | refine Below.drew ?_ | refine Below.drewN ?_ _ | refine Below.alloc ?_ (by first | (simp; done) | (simp; omega) | omega | (have := Below.size hbel; simp; omega) | (have := Below.size hbel; omega)) _ | refine Below.setCell ?_ (by first | (simp; done) | (simp; omega) | omega) _)), ?_, ?_, ?_, ?_, ?_, ?_⟩
  rotate_left 4
  · rw [World.cell?_alloc_lt _ _ ⟨w.heap.size + 1, 0, none⟩ (by simp), World.cell?_alloc_at _ _ _ _ (by simp)]; rfl
  · rw [World.cell?_alloc_lt _ _ ⟨w.heap.size, 0, none⟩ (by simp; omega), World.cell?_alloc_lt _ _ ⟨w.heap.size, 0, none⟩ (by simp), World.cell?_alloc_at _ _ _ _ rfl]; rfl
  all_goals (simp; try omega)

set_option maxHeartbeats 4000000 in
theorem join_snd (q c : Nat) (ty : TypeId) (v : Value) (w : World) (h0 : w.cell? ⟨q, 0, none⟩ = some (.nilIface)) (h1 : w.cell? ⟨q, 1, none⟩ = some (.iface ty v)) :
    Calls Tryz.prog 61 #[.slice (some ⟨q, 0, none⟩) 2 c] w fun e w' => ∃ g h n c, e = .returned (.iface 160 (.pointer (some ⟨g, 0, none⟩))) ∧ Below w.heap.size w w' ∧ w.heap.size ≤ g ∧ w.heap.size ≤ h ∧ h < w'.heap.size ∧ g < w'.heap.size ∧ w'.cell? ⟨g, 0, none⟩ = some (.slice (some ⟨h, 0, none⟩) (n + 1) c) ∧ w'.cell? ⟨h, 0, none⟩ = some (.iface ty v) := by
  have hmk := mk_one
  have hql : q < w.heap.size := World.lt_of_cell (a := ⟨q, 0, none⟩) h0
  have rd1 := fun A B C => (World.cell?_alloc_lt ((w.alloc A).alloc B) C ⟨q, 1, none⟩ (by simp; omega)).trans ((World.cell?_alloc_lt (w.alloc A) B ⟨q, 1, none⟩ (by simp; omega)).trans ((World.cell?_alloc_lt w A ⟨q, 1, none⟩ hql).trans h1))
  go_enter Tryz.func61, Tryz.ntmps61
  go_wp2_with fail
  refine wp_loop_rounds 3 ?_
  rw [rounds_succ]
  go_wp2_with fail
  rw [rounds_succ]
  go_wp2_with fail
  rw [rounds_succ]
  go_wp2_with fail
  refine wp_loop_rounds 3 ?_
  rw [rounds_succ]
  go_wp2_with fail
  rw [rounds_succ]
  go_wp2_with fail
  rw [rounds_succ]
  go_wp2_with fail
  go_ret
  refine ⟨w.heap.size + 1, w.heap.size, 0, 1, rfl, (by repeat (with_reducible first | exact hbel | exact Below.refl _ _ | refine Below.drew ?_ | refine Below.drewN ?_ _ | refine Below.alloc ?_ (by first | (simp; done) | (simp; omega) | omega | (have := Below.size hbel; simp; omega) | (have := Below.size hbel; omega)) _ | refine Below.setCell ?_ (by first | (simp; done) | (simp; omega) | omega) _)), ?_, ?_, ?_, ?_, ?_, ?_⟩
  rotate_left 4
  · rw [World.cell?_alloc_lt _ _ ⟨w.heap.size + 1, 0, none⟩ (by simp), World.cell?_alloc_at _ _ _ _ (by simp)]; rfl
  · rw [World.cell?_alloc_lt _ _ ⟨w.heap.size, 0, none⟩ (by simp; omega), World.cell?_alloc_lt _ _ ⟨w.heap.size, 0, none⟩ (by simp), World.cell?_alloc_at _ _ _ _ rfl]; rfl
  all_goals (simp; try omega)

set_option maxHeartbeats 4000000 in
theorem join_two (q c : Nat) (ty ty2 : TypeId) (v v2 : Value) (w : World) (h0 : w.cell? ⟨q, 0, none⟩ = some (.iface ty v)) (h1 : w.cell? ⟨q, 1, none⟩ = some (.iface ty2 v2)) :
    Calls Tryz.prog 61 #[.slice (some ⟨q, 0, none⟩) 2 c] w fun e w' => ∃ g h n c, e = .returned (.iface 160 (.pointer (some ⟨g, 0, none⟩))) ∧ Below w.heap.size w w' ∧ w.heap.size ≤ g ∧ w.heap.size ≤ h ∧ h < w'.heap.size ∧ g < w'.heap.size ∧ w'.cell? ⟨g, 0, none⟩ = some (.slice (some ⟨h, 0, none⟩) (n + 1) c) ∧ w'.cell? ⟨h, 0, none⟩ = some (.iface ty v) := by
  have hmk := mk_two
  have hql : q < w.heap.size := World.lt_of_cell (a := ⟨q, 0, none⟩) h0
  have rd1 := fun A B C => (World.cell?_alloc_lt ((w.alloc A).alloc B) C ⟨q, 1, none⟩ (by simp; omega)).trans ((World.cell?_alloc_lt (w.alloc A) B ⟨q, 1, none⟩ (by simp; omega)).trans ((World.cell?_alloc_lt w A ⟨q, 1, none⟩ hql).trans h1))
  go_enter Tryz.func61, Tryz.ntmps61
  go_wp2_with fail
  refine wp_loop_rounds 3 ?_
  rw [rounds_succ]
  go_wp2_with fail
  rw [rounds_succ]
  go_wp2_with fail
  rw [rounds_succ]
  go_wp2_with fail
  refine wp_loop_rounds 3 ?_
  rw [rounds_succ]
  go_wp2_with fail
  rw [rounds_succ]
  go_wp2_with fail
  rw [rounds_succ]
  go_wp2_with fail
  go_ret
  refine ⟨w.heap.size + 1, w.heap.size, 1, 2, rfl, (by repeat (with_reducible first | exact hbel | exact Below.refl _ _ | refine Below.drew ?_ | refine Below.drewN ?_ _ | refine Below.alloc ?_ (by first | (simp; done) | (simp; omega) | omega | (have := Below.size hbel; simp; omega) | (have := Below.size hbel; omega)) _ | refine Below.setCell ?_ (by first | (simp; done) | (simp; omega) | omega) _)), ?_, ?_, ?_, ?_, ?_, ?_⟩
  rotate_left 4
  · rw [World.cell?_alloc_lt _ _ ⟨w.heap.size + 1, 0, none⟩ (by simp), World.cell?_alloc_lt _ _ ⟨w.heap.size + 1, 0, none⟩ (by simp), World.cell?_alloc_at _ _ _ _ (by simp)]; rfl
  · rw [World.cell?_alloc_lt _ _ ⟨w.heap.size, 0, none⟩ (by simp; omega), World.cell?_alloc_lt _ _ ⟨w.heap.size, 0, none⟩ (by simp; omega), World.cell?_alloc_lt _ _ ⟨w.heap.size, 0, none⟩ (by simp), World.cell?_alloc_at _ _ _ _ rfl]; rfl
  all_goals (simp; try omega)

/-- An error that is none if that is right. -/
def EO (w : World) (D : Nat → Prop) : Bool → Value → Prop
  | true, e => e = .nilIface
  | false, e => EV w D e
theorem EO.keep {w w' : World} {D D' : Nat → Prop} {ok : Bool} {e : Value} (h : EO w D ok e) (hw : ∀ g, D g → w'.heap[g]? = w.heap[g]?) (hD : ∀ g, D g → D' g) : EO w' D' ok e := by
  cases ok with
  | true => exact h
  | false => exact EV.keep h hw hD

/-- What errors.Join hands back of two errors, of which the second or the first is none if that is right. -/
theorem join_any (q c : Nat) (e1 e2 : Value) (ok1 ok2 : Bool) (w : World) (D : Nat → Prop) (h1 : EO w D ok1 e1) (h2 : EO w D ok2 e2) (hD : ∀ g, D g → g < w.heap.size) (c0 : w.cell? ⟨q, 0, none⟩ = some e1) (c1 : w.cell? ⟨q, 1, none⟩ = some e2) :
    Calls Tryz.prog 61 #[.slice (some ⟨q, 0, none⟩) 2 c] w fun e w' => ∃ x, e = .returned x ∧ Below w.heap.size w w' ∧ EO w' (fun g => D g ∨ (w.heap.size ≤ g ∧ g < w'.heap.size)) (ok1 && ok2) x := by
  have fin : ∀ (e1 : Value), EV w D e1 → ∀ (e : Ending) (w' : World), (∃ g h n c, e = .returned (.iface 160 (.pointer (some ⟨g, 0, none⟩))) ∧ Below w.heap.size w w' ∧ w.heap.size ≤ g ∧ w.heap.size ≤ h ∧ h < w'.heap.size ∧ g < w'.heap.size ∧ w'.cell? ⟨g, 0, none⟩ = some (.slice (some ⟨h, 0, none⟩) (n + 1) c) ∧ w'.cell? ⟨h, 0, none⟩ = some e1) →
      ∃ x, e = .returned x ∧ Below w.heap.size w w' ∧ EV w' (fun g => D g ∨ (w.heap.size ≤ g ∧ g < w'.heap.size)) x := by
    rintro e1 he e w' ⟨g, h, n, c, rfl, hb, hg, hh, hh', hg', k0, k1⟩
    exact ⟨_, rfl, hb, .join g h n c e1 (.inr ⟨hg, hg'⟩) (.inr ⟨hh, hh'⟩) k0 k1 (he.keep (fun g hg => hb.block g (hD g hg)) (fun g hg => .inl hg))⟩
  cases ok1 with
  | true =>
    have e := (show e1 = .nilIface from h1)
    subst e
    cases ok2 with
    | true =>
      have e := (show e2 = .nilIface from h2)
      subst e
      refine (join_nil q c w c0 c1).mono ?_
      rintro e w' ⟨rfl, rfl⟩
      exact ⟨_, rfl, Below.refl _ _, rfl⟩
    | false =>
      have he : EV w D e2 := h2
      obtain ⟨ty, v, rfl⟩ := he.form
      exact (join_snd q c ty v w c0 c1).mono (fin _ he)
  | false =>
    have he : EV w D e1 := h1
    obtain ⟨ty, v, rfl⟩ := he.form
    cases ok2 with
    | true =>
      have e := (show e2 = .nilIface from h2)
      subst e
      exact (join_one q c ty v w c0 c1).mono (fin _ he)
    | false =>
      have he2 : EV w D e2 := h2
      obtain ⟨ty2, v2, rfl⟩ := he2.form
      exact (join_two q c ty ty2 v v2 w c0 c1).mono (fin _ he)

end Go.Proofs.YtchkmdagbjbcjaaGreatDoor
