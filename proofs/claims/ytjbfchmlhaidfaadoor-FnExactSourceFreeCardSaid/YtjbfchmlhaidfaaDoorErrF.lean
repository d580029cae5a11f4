/- What the model answers for reflectlite, at the types of this program's errors. -/
import Derived.Test.YtjbfchmlhaidfaaDoorText
import Derived.Stop.Asserts
import Derived.LaidEql
import Derived.RowKitTokens
namespace Go.Proofs.YtjbfchmlhaidfaaDoor
set_option linter.unusedVariables false
open Go.RowKit Go.Extern.Stop Go.Stop Go.Extern

/-- A type's handle. -/
abbrev hdl (t : Nat) : Value := .pointer (some ⟨2, t, none⟩)
abbrev rty (t : Nat) : Value := .iface 166 (.agg #[hdl t])
abbrev ptV (a : Addr) : Value := .agg #[hdl 92, .pointer (some a), .int .u64 150]
abbrev waV (b : Addr) : Value := .agg #[hdl 90, .pointer (some b), .int .u64 153]
abbrev waE (a : Addr) : Value := .agg #[hdl 90, .pointer (some a), .int .u64 409]

theorem rf_valueOfP (t : Addr) (w : World) : (ReflectliteValue.unpack (.iface 92 (.pointer (some t)))).run Tryd.prog w
    = .ok (ptV ⟨w.heap.size, 0, none⟩) (w.alloc (.cells #[.pointer (some t)] 92)) := by kernel_rfl
theorem rf_typeP (a : Addr) (w : World) : (ReflectliteValue.methodAny (ReflectliteValue.valueError "reflectlite.Value.Type" 0) (fun t _ _ _ => ReflectliteType.toType t) #[ptV a]).run Tryd.prog w
    = .ok (rty 92) w := by kernel_rfl
theorem rf_methodKind (h : Value) (w : World) : (Go.method 322 166 (.agg #[h]) "Kind").run Tryd.prog w = .ok (114, h) w := by kernel_rfl
theorem rf_kindP (w : World) : ((ReflectliteType.abiMethod fun t => (fun a : Nat => Value.int IntKind.u8 (a : Int)) <$> Rtype.kind t) #[hdl 92]).run Tryd.prog w = .ok (.int .u8 22) w := by kernel_rfl
theorem rf_kindW (w : World) : ((ReflectliteType.abiMethod fun t => (fun a : Nat => Value.int IntKind.u8 (a : Int)) <$> Rtype.kind t) #[hdl 90]).run Tryd.prog w = .ok (.int .u8 25) w := by kernel_rfl
theorem rf_rlm (z : Sem Value) (f : TypeId → Addr → Nat → Nat → Sem Value) (v : Value) :
    ReflectliteValue.method z f #[v] = (do match ← ReflectliteValue.parts v with | none => z | some (t, a, fl) => f t a fl (fl % 32)) := rfl
theorem rf_partsP (a : Addr) (w : World) : (ReflectliteValue.parts (ptV a)).run Tryd.prog w = .ok (some (92, a, 150)) w := by kernel_rfl
theorem rf_isNil (a p : Addr) (W : World) (ha : W.cell? a = some (.pointer (some p))) :
    (ReflectliteValue.method (ReflectliteValue.valueError "reflectlite.Value.IsNil" 0) ReflectliteValue.isNil #[ptV a]).run Tryd.prog W = .ok (.bool false) W := by
  rw [rf_rlm]
  simp only [Sem.run_bind, rf_partsP, Result.andThen]
  simp [ReflectliteValue.isNil, loadVar, isAgg, underlying, Tryd.underlying92, ha, Result.andThen]
theorem rf_methodElem (h : Value) (w : World) : (Go.method 322 166 (.agg #[h]) "Elem").run Tryd.prog w = .ok (134, .agg #[h]) w := by kernel_rfl
theorem rf_methodImplements (h : Value) (w : World) : (Go.method 322 166 (.agg #[h]) "Implements").run Tryd.prog w = .ok (135, .agg #[h]) w := by kernel_rfl
theorem rf_methodAssignableTo (h : Value) (w : World) : (Go.method 322 166 (.agg #[h]) "AssignableTo").run Tryd.prog w = .ok (132, .agg #[h]) w := by kernel_rfl
theorem rf_elemP (w : World) : (ReflectliteType.method ReflectliteType.elem #[.agg #[hdl 92]]).run Tryd.prog w = .ok (rty 90) w := by kernel_rfl
theorem rf_implements (w : World) : (ReflectliteType.relation "Implements" ReflectliteType.implements_ #[.agg #[hdl 90], rty 86]).run Tryd.prog w = .ok (.bool true) w := by kernel_rfl
theorem rf_typeOfW (v : Value) (w : World) : (ReflectliteType.typeOf #[.iface 90 v]).run Tryd.prog w = .ok (rty 90) w := by kernel_rfl
theorem rf_typeOfJ (v : Value) (w : World) : (ReflectliteType.typeOf #[.iface 186 v]).run Tryd.prog w = .ok (rty 186) w := by kernel_rfl
theorem rf_assignW (w : World) : (ReflectliteType.relation "AssignableTo" ReflectliteType.assignableTo #[.agg #[hdl 90], rty 90]).run Tryd.prog w = .ok (.bool true) w := by kernel_rfl
theorem rf_assignJ (w : World) : (ReflectliteType.relation "AssignableTo" ReflectliteType.assignableTo #[.agg #[hdl 186], rty 90]).run Tryd.prog w = .ok (.bool false) w := by kernel_rfl
theorem rf_valueOfW (a : ByteArray) (w : World) : (ReflectliteValue.unpack (.iface 90 (.agg #[.string a]))).run Tryd.prog w
    = .ok (waV ⟨w.heap.size, 0, none⟩) (w.alloc (.cells #[.string a] 90)) := by kernel_rfl
theorem rf_elemOfP (w : World) : (Rtype.elem? 92).run Tryd.prog w = .ok (some 90) w := by kernel_rfl
theorem rf_mkW (p : Addr) (w : World) : (ReflectliteValue.mk 90 p ReflectliteValue.flagAddr).run Tryd.prog w = .ok (waE p) w := by kernel_rfl
theorem rf_elemV (a p : Addr) (W : World) (ha : W.cell? a = some (.pointer (some p))) :
    (ReflectliteValue.method (ReflectliteValue.valueError "reflectlite.Value.Elem" 0) ReflectliteValue.elem #[ptV a]).run Tryd.prog W = .ok (waE p) W := by
  rw [rf_rlm]
  simp only [Sem.run_bind, rf_partsP, Result.andThen]
  simp [ReflectliteValue.elem, loadVar, isAgg, underlying, Tryd.underlying92, ha, Result.andThen, rf_elemOfP, rf_mkW]
theorem rf_rls (v x : Value) : ReflectliteValue.set #[v, x] = (do
    let (some (dst, a, fl), some (src, b, _)) := (← ReflectliteValue.parts v, ← ReflectliteValue.parts x)
      | unsupported (.noEntry "extern/(internal/reflectlite.Value).Set.zeroValue")
    if fl / ReflectliteValue.flagAddr % 2 == 0 then unsupported (.noEntry "extern/(internal/reflectlite.Value).Set.unaddressable")
    let val ← loadVar src b
    if ← Rtype.directlyAssignable dst src then storeVar dst a val
    else if ← Rtype.implements dst src then
      if (← Rtype.kind src) == 20 then
        match val with
        | .nilIface => unsupported (.noEntry "extern/reflectlite: a nil value of one interface type handed on as a value of another")
        | _ => storeVar dst a val
      else storeVar dst a (.iface src val)
    else panicString ("reflectlite.Set: value of type " ++ (← Rtype.spelt src) ++ " is not assignable to type " ++ (← Rtype.spelt dst))
    pure (.tuple #[])) := rfl
theorem rf_partsE (a : Addr) (w : World) : (ReflectliteValue.parts (waE a)).run Tryd.prog w = .ok (some (90, a, 409)) w := by kernel_rfl
theorem rf_partsW (a : Addr) (w : World) : (ReflectliteValue.parts (waV a)).run Tryd.prog w = .ok (some (90, a, 153)) w := by kernel_rfl
theorem rf_direct (w : World) : (Rtype.directlyAssignable 90 90).run Tryd.prog w = .ok true w := by kernel_rfl
theorem rf_load (b : Nat) (a : ByteArray) (W : World) (hb : W.cell? ⟨b, 0, none⟩ = some (.string a)) : (loadVar 90 ⟨b, 0, none⟩).run Tryd.prog W = .ok (.agg #[.string a]) W := by
  simp [loadVar, isAgg, underlying, Tryd.underlying90, Result.andThen, loadCells, loadCellsFrom, Addr.add, hb]
theorem rf_store (t : Nat) (a : ByteArray) (old : Value) (W : World) (ht : W.cell? ⟨t, 0, none⟩ = some old) (hf : W.frozen? ⟨t, 0, none⟩ = false) : (storeVar 90 ⟨t, 0, none⟩ (.agg #[.string a])).run Tryd.prog W = .ok () (W.setCell ⟨t, 0, none⟩ (.string a)) := by
  simp [storeVar, Result.andThen, Value.cells, storeCells, Addr.add]
  rw [run_store Tryd.prog W ⟨t, 0, none⟩ _ _ (by rfl)]
  simp [ht, hf]
/-- (Value).Set: the variable at 't' gets what the Value's own variable 'b' holds. -/
theorem rf_set (t b : Nat) (a : ByteArray) (old : Value) (W : World) (hb : W.cell? ⟨b, 0, none⟩ = some (.string a)) (ht : W.cell? ⟨t, 0, none⟩ = some old) (hf : W.frozen? ⟨t, 0, none⟩ = false) :
    (ReflectliteValue.set #[waE ⟨t, 0, none⟩, waV ⟨b, 0, none⟩]).run Tryd.prog W = .ok (.tuple #[]) (W.setCell ⟨t, 0, none⟩ (.string a)) := by
  have h1 := rf_load b a W hb
  have h2 := rf_store t a old W ht hf
  rw [rf_rls]
  simp only [Sem.run_bind, rf_partsE, rf_partsW, Result.andThen]
  simp [ReflectliteValue.flagAddr, Result.andThen, rf_direct, h1, h2]

/-- What an error's dynamic type has no method for. -/
theorem ta_noAsW (v : Value) (xT : TypeId) (w : World) : (Instr.typeAssert (.iface 90 v) xT 171 true).run Tryd.prog w = .ok (.tuple #[.nilIface, .bool false]) w := run_typeAssert_lacksB Tryd.underlying171 (by kernel_rfl) (by kernel_rfl) v xT w
theorem ta_noAsJ (v : Value) (xT : TypeId) (w : World) : (Instr.typeAssert (.iface 186 v) xT 171 true).run Tryd.prog w = .ok (.tuple #[.nilIface, .bool false]) w := run_typeAssert_lacksB Tryd.underlying171 (by kernel_rfl) (by kernel_rfl) v xT w
theorem ta_noUnwrapJ (v : Value) (xT : TypeId) (w : World) : (Instr.typeAssert (.iface 186 v) xT 174 true).run Tryd.prog w = .ok (.tuple #[.nilIface, .bool false]) w := run_typeAssert_lacksB Tryd.underlying174 (by kernel_rfl) (by kernel_rfl) v xT w
theorem ta_hasUnwrapJ (v : Value) (xT : TypeId) (w : World) : (Instr.typeAssert (.iface 186 v) xT 176 true).run Tryd.prog w = .ok (.tuple #[.iface 186 v, .bool true]) w := run_typeAssert_hasB Tryd.underlying176 (by kernel_rfl) v xT w
theorem rf_methodUnwrap (v : Value) (w : World) : (Go.method 322 186 v "Unwrap").run Tryd.prog w = .ok (143, v) w := by kernel_rfl

end Go.Proofs.YtjbfchmlhaidfaaDoor
