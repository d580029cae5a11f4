/-
  NARROWER THAN 'FOR EVERY INPUT', by the rows' own cells (each row's printed sentence says how): FnExactSourceValid: laid · FnExactSourceFree: laid · FnExactSourceSize: laid · FnExactSourcePlain: laid · FnExactMachineRun: laid · FnExactMachineMoves: laid.
  DERIVED. THE GIVEN ROWS OF THIS SEAT. 6 by the template 'for every input the law returns true; each argument reads behind the call as it read before'; 0 by the template 'total and deterministic' (their statements: YtjbfchmlhaidfaaDoorTotals.lean).
  GIVEN WITH THE SEED: the statements are not yours to turn. If you find one false, say at which input.
  Laid BY PROGRAM, IN A SANDBOX (cutbox-rows.mjs): the forced cells as the released guide's own fill.sh prints them over the translation 822db0e8b8d16593… (all of the seat's roots in one cut). By AI agents, Wed Nov 11 2026. No macro, syntax, notation, axiom, sorry.
-/
import Derived.Test.YtjbfchmlhaidfaaDoorChecked
import GoSem.Claim
import GoSem.ClaimJoined
import GoSem.ClaimMapViews
import Derived.JoinedTies
import Derived.KernelRfl
namespace Go.Proofs.YtjbfchmlhaidfaaDoor
/- THE CELL 'sum', in the pinned program and in every row, IS THE sha256 OF THE DUMP (.gsa) THAT YtjbfchmlhaidfaaDoorProg.lean LOADS. Nothing in Lean hashes anything: it is a label: what it is worth is what the hold of that sum in a sandbox is worth. -/
noncomputable def Tryd.pinned : Pinned := { name := "ytjbfchmlhaidfaadoor", sum := "822db0e8b8d16593272498d23b9f6f26966f1402a110f2d07717d4aa1d16a844", checked := Tryd.checked }
namespace Rows
def none {H : Type} : Left H := { results := [], args := [] }

/- WHAT THE LISTED PACKAGE-LEVEL VARIABLES READ AS WHEN THE CALL BEGINS. Each datum BY PROGRAM (the guide's laid-datum.mjs) off the statement by which the dump's own 'gosem.cut.vars' lays the variable. In a bare row this is a premise. The card (YtjbfchmlhaidfaaDoorCards.lean) ties it to the program's text. -/
def laid_errors_errorType {H : Type} : DataW H := .iface "internal/reflectlite.rtype" (.agg [.ptr (.lit (.string [101, 114, 114, 111, 114]))])

/-- 'laws.FnExactSourceValid': WHATEVER THE INPUT: true; the input reads as it did. -/
def fnExactSourceValidSpec : ChangeSpec := { name := "fnExactSourceValid", fn := fun _ => fun
  | [d] => { results := [.lit (.bool true)], args := [d] }
  | _ => none }
def fnExactSourceValidRow : OpenClaim := { program := "ytjbfchmlhaidfaadoor", sum := "822db0e8b8d16593272498d23b9f6f26966f1402a110f2d07717d4aa1d16a844", func := "loop.example/classicalcontrol/laws.FnExactSourceValid", spec := "fnExactSourceValid", inPlace := ["internal/bytealg.IndexByteString", "internal/bytealg.IndexString", "internal/reflectlite.ValueOf", "(internal/reflectlite.Value).Type", "(internal/reflectlite.Value).IsNil", "internal/reflectlite.TypeOf", "(internal/reflectlite.Value).Elem", "(internal/reflectlite.Value).Set"], unfollowed := true, recurses := true, named := ["errors.errorType", "internal/bytealg.MaxLen"], apart := false, laid := [("errors.errorType", laid_errors_errorType)] }
def FnExactSourceValidSaid : Prop := fnExactSourceValidRow.holds Tryd.pinned (OpenSpec.ofChange fnExactSourceValidSpec)

/-- ITS FALSE NEIGHBOUR: 'it returns false'. Refute it at one input. -/
def fnExactSourceValidWrong : ChangeSpec := { name := "fnExactSourceValid", fn := fun _ => fun
  | [d] => { results := [.lit (.bool false)], args := [d] }
  | _ => none }
def FnExactSourceValidWrongFalsely : Prop := fnExactSourceValidRow.holds Tryd.pinned (OpenSpec.ofChange fnExactSourceValidWrong)

/-- 'laws.FnExactSourceFree': WHATEVER THE INPUT: true; the input reads as it did. -/
def fnExactSourceFreeSpec : ChangeSpec := { name := "fnExactSourceFree", fn := fun _ => fun
  | [d] => { results := [.lit (.bool true)], args := [d] }
  | _ => none }
def fnExactSourceFreeRow : OpenClaim := { program := "ytjbfchmlhaidfaadoor", sum := "822db0e8b8d16593272498d23b9f6f26966f1402a110f2d07717d4aa1d16a844", func := "loop.example/classicalcontrol/laws.FnExactSourceFree", spec := "fnExactSourceFree", inPlace := ["internal/bytealg.IndexByteString", "internal/bytealg.IndexString", "internal/reflectlite.ValueOf", "(internal/reflectlite.Value).Type", "(internal/reflectlite.Value).IsNil", "internal/reflectlite.TypeOf", "(internal/reflectlite.Value).Elem", "(internal/reflectlite.Value).Set"], unfollowed := true, recurses := true, named := ["errors.errorType", "internal/bytealg.MaxLen"], apart := false, laid := [("errors.errorType", laid_errors_errorType)] }
def FnExactSourceFreeSaid : Prop := fnExactSourceFreeRow.holds Tryd.pinned (OpenSpec.ofChange fnExactSourceFreeSpec)

/-- ITS FALSE NEIGHBOUR: 'it returns false'. Refute it at one input. -/
def fnExactSourceFreeWrong : ChangeSpec := { name := "fnExactSourceFree", fn := fun _ => fun
  | [d] => { results := [.lit (.bool false)], args := [d] }
  | _ => none }
def FnExactSourceFreeWrongFalsely : Prop := fnExactSourceFreeRow.holds Tryd.pinned (OpenSpec.ofChange fnExactSourceFreeWrong)

/-- 'laws.FnExactSourceSize': WHATEVER THE INPUT: true; the input reads as it did. -/
def fnExactSourceSizeSpec : ChangeSpec := { name := "fnExactSourceSize", fn := fun _ => fun
  | [d] => { results := [.lit (.bool true)], args := [d] }
  | _ => none }
def fnExactSourceSizeRow : OpenClaim := { program := "ytjbfchmlhaidfaadoor", sum := "822db0e8b8d16593272498d23b9f6f26966f1402a110f2d07717d4aa1d16a844", func := "loop.example/classicalcontrol/laws.FnExactSourceSize", spec := "fnExactSourceSize", inPlace := ["internal/bytealg.IndexByteString", "internal/bytealg.IndexString", "internal/reflectlite.ValueOf", "(internal/reflectlite.Value).Type", "(internal/reflectlite.Value).IsNil", "internal/reflectlite.TypeOf", "(internal/reflectlite.Value).Elem", "(internal/reflectlite.Value).Set"], unfollowed := true, recurses := true, named := ["errors.errorType", "internal/bytealg.MaxLen"], apart := false, laid := [("errors.errorType", laid_errors_errorType)] }
def FnExactSourceSizeSaid : Prop := fnExactSourceSizeRow.holds Tryd.pinned (OpenSpec.ofChange fnExactSourceSizeSpec)

/-- ITS FALSE NEIGHBOUR: 'it returns false'. Refute it at one input. -/
def fnExactSourceSizeWrong : ChangeSpec := { name := "fnExactSourceSize", fn := fun _ => fun
  | [d] => { results := [.lit (.bool false)], args := [d] }
  | _ => none }
def FnExactSourceSizeWrongFalsely : Prop := fnExactSourceSizeRow.holds Tryd.pinned (OpenSpec.ofChange fnExactSourceSizeWrong)

/-- 'laws.FnExactSourcePlain': WHATEVER THE INPUT: true; the input reads as it did. -/
def fnExactSourcePlainSpec : ChangeSpec := { name := "fnExactSourcePlain", fn := fun _ => fun
  | [d] => { results := [.lit (.bool true)], args := [d] }
  | _ => none }
def fnExactSourcePlainRow : OpenClaim := { program := "ytjbfchmlhaidfaadoor", sum := "822db0e8b8d16593272498d23b9f6f26966f1402a110f2d07717d4aa1d16a844", func := "loop.example/classicalcontrol/laws.FnExactSourcePlain", spec := "fnExactSourcePlain", inPlace := ["internal/bytealg.IndexByteString", "internal/bytealg.IndexString", "internal/reflectlite.ValueOf", "(internal/reflectlite.Value).Type", "(internal/reflectlite.Value).IsNil", "internal/reflectlite.TypeOf", "(internal/reflectlite.Value).Elem", "(internal/reflectlite.Value).Set"], unfollowed := true, recurses := true, named := ["errors.errorType", "internal/bytealg.MaxLen"], apart := false, laid := [("errors.errorType", laid_errors_errorType)] }
def FnExactSourcePlainSaid : Prop := fnExactSourcePlainRow.holds Tryd.pinned (OpenSpec.ofChange fnExactSourcePlainSpec)

/-- ITS FALSE NEIGHBOUR: 'it returns false'. Refute it at one input. -/
def fnExactSourcePlainWrong : ChangeSpec := { name := "fnExactSourcePlain", fn := fun _ => fun
  | [d] => { results := [.lit (.bool false)], args := [d] }
  | _ => none }
def FnExactSourcePlainWrongFalsely : Prop := fnExactSourcePlainRow.holds Tryd.pinned (OpenSpec.ofChange fnExactSourcePlainWrong)

/-- 'laws.FnExactMachineRun': WHATEVER THE INPUT: true; the input reads as it did. -/
def fnExactMachineRunSpec : ChangeSpec := { name := "fnExactMachineRun", fn := fun _ => fun
  | [d] => { results := [.lit (.bool true)], args := [d] }
  | _ => none }
def fnExactMachineRunRow : OpenClaim := { program := "ytjbfchmlhaidfaadoor", sum := "822db0e8b8d16593272498d23b9f6f26966f1402a110f2d07717d4aa1d16a844", func := "loop.example/classicalcontrol/laws.FnExactMachineRun", spec := "fnExactMachineRun", inPlace := ["internal/bytealg.IndexByteString", "internal/bytealg.IndexString", "internal/reflectlite.ValueOf", "(internal/reflectlite.Value).Type", "(internal/reflectlite.Value).IsNil", "internal/reflectlite.TypeOf", "(internal/reflectlite.Value).Elem", "(internal/reflectlite.Value).Set"], unfollowed := true, recurses := true, named := ["errors.errorType", "internal/bytealg.MaxLen"], apart := false, laid := [("errors.errorType", laid_errors_errorType)] }
def FnExactMachineRunSaid : Prop := fnExactMachineRunRow.holds Tryd.pinned (OpenSpec.ofChange fnExactMachineRunSpec)

/-- ITS FALSE NEIGHBOUR: 'it returns false'. Refute it at one input. -/
def fnExactMachineRunWrong : ChangeSpec := { name := "fnExactMachineRun", fn := fun _ => fun
  | [d] => { results := [.lit (.bool false)], args := [d] }
  | _ => none }
def FnExactMachineRunWrongFalsely : Prop := fnExactMachineRunRow.holds Tryd.pinned (OpenSpec.ofChange fnExactMachineRunWrong)

/-- 'laws.FnExactMachineMoves': WHATEVER THE INPUT: true; the input reads as it did. -/
def fnExactMachineMovesSpec : ChangeSpec := { name := "fnExactMachineMoves", fn := fun _ => fun
  | [d] => { results := [.lit (.bool true)], args := [d] }
  | _ => none }
def fnExactMachineMovesRow : OpenClaim := { program := "ytjbfchmlhaidfaadoor", sum := "822db0e8b8d16593272498d23b9f6f26966f1402a110f2d07717d4aa1d16a844", func := "loop.example/classicalcontrol/laws.FnExactMachineMoves", spec := "fnExactMachineMoves", inPlace := ["internal/bytealg.IndexByteString", "internal/bytealg.IndexString", "internal/reflectlite.ValueOf", "(internal/reflectlite.Value).Type", "(internal/reflectlite.Value).IsNil", "internal/reflectlite.TypeOf", "(internal/reflectlite.Value).Elem", "(internal/reflectlite.Value).Set"], unfollowed := true, recurses := true, named := ["errors.errorType", "internal/bytealg.MaxLen"], apart := false, laid := [("errors.errorType", laid_errors_errorType)] }
def FnExactMachineMovesSaid : Prop := fnExactMachineMovesRow.holds Tryd.pinned (OpenSpec.ofChange fnExactMachineMovesSpec)

/-- ITS FALSE NEIGHBOUR: 'it returns false'. Refute it at one input. -/
def fnExactMachineMovesWrong : ChangeSpec := { name := "fnExactMachineMoves", fn := fun _ => fun
  | [d] => { results := [.lit (.bool false)], args := [d] }
  | _ => none }
def FnExactMachineMovesWrongFalsely : Prop := fnExactMachineMovesRow.holds Tryd.pinned (OpenSpec.ofChange fnExactMachineMovesWrong)

/- THE SECOND FORM. 'bulk': how many values and letters a reading holds, each counted each time it is reached (what is shared counts as often as it is met; a slice's spare places count too). A statement '..UptoSaid' is the law's where the arguments, and the package variables that the reading takes, are together of bulk at most 1048576: NARROWER than '..Said'. Prove '..Said' where nothing that the law and all that it calls make is longer than what came in: it says more and counts as full. Else prove '..UptoSaid'. A law counts once. -/
mutual
def uptoBulk {H : Type} : DataW H → Nat
  | .lit (.string bytes) => bytes.length + 1
  | .lit _ => 1
  | .nil => 1
  | .ptr d => uptoBulk d + 1
  | .slice elems spare => uptoBulkAll elems + uptoBulkAll spare + 1
  | .agg parts => uptoBulkAll parts + 1
  | .iface _ d => uptoBulk d + 1
  | .map entries => uptoBulkEntries entries + 1
  | .held _ => 1
def uptoBulkAll {H : Type} : List (DataW H) → Nat
  | [] => 0
  | d :: r => uptoBulk d + uptoBulkAll r
def uptoBulkEntries {H : Type} : List (Lit × DataW H) → Nat
  | [] => 0
  | x :: r => uptoBulkEntry x + uptoBulkEntries r
def uptoBulkEntry {H : Type} : Lit × DataW H → Nat
  | (.string bytes, d) => bytes.length + uptoBulk d + 1
  | (_, d) => uptoBulk d + 1
 end
def uptoSmall : (H : Type) → List (DataW H) → Bool := fun _ ds => decide (uptoBulkAll ds ≤ 1048576)
def OpenSpec.upto (s : _root_.Go.ChangeSpec) : _root_.Go.OpenSpec := { _root_.Go.OpenSpec.ofChange s with cond := some uptoSmall }

/-- 'laws.FnExactSourceValid', WHERE WHAT IT READS IS OF BULK AT MOST 1048576: true; the input reads as it did. -/
def fnExactSourceValidUptoRow : OpenClaim := { program := "ytjbfchmlhaidfaadoor", sum := "822db0e8b8d16593272498d23b9f6f26966f1402a110f2d07717d4aa1d16a844", func := "loop.example/classicalcontrol/laws.FnExactSourceValid", spec := "fnExactSourceValid", inPlace := ["internal/bytealg.IndexByteString", "internal/bytealg.IndexString", "internal/reflectlite.ValueOf", "(internal/reflectlite.Value).Type", "(internal/reflectlite.Value).IsNil", "internal/reflectlite.TypeOf", "(internal/reflectlite.Value).Elem", "(internal/reflectlite.Value).Set"], unfollowed := true, recurses := true, named := ["errors.errorType", "internal/bytealg.MaxLen"], apart := false, laid := [("errors.errorType", laid_errors_errorType)], narrowed := true }
def FnExactSourceValidUptoSaid : Prop := fnExactSourceValidUptoRow.holds Tryd.pinned (OpenSpec.upto fnExactSourceValidSpec)

/-- 'laws.FnExactSourceFree', WHERE WHAT IT READS IS OF BULK AT MOST 1048576: true; the input reads as it did. -/
def fnExactSourceFreeUptoRow : OpenClaim := { program := "ytjbfchmlhaidfaadoor", sum := "822db0e8b8d16593272498d23b9f6f26966f1402a110f2d07717d4aa1d16a844", func := "loop.example/classicalcontrol/laws.FnExactSourceFree", spec := "fnExactSourceFree", inPlace := ["internal/bytealg.IndexByteString", "internal/bytealg.IndexString", "internal/reflectlite.ValueOf", "(internal/reflectlite.Value).Type", "(internal/reflectlite.Value).IsNil", "internal/reflectlite.TypeOf", "(internal/reflectlite.Value).Elem", "(internal/reflectlite.Value).Set"], unfollowed := true, recurses := true, named := ["errors.errorType", "internal/bytealg.MaxLen"], apart := false, laid := [("errors.errorType", laid_errors_errorType)], narrowed := true }
def FnExactSourceFreeUptoSaid : Prop := fnExactSourceFreeUptoRow.holds Tryd.pinned (OpenSpec.upto fnExactSourceFreeSpec)

/-- 'laws.FnExactSourceSize', WHERE WHAT IT READS IS OF BULK AT MOST 1048576: true; the input reads as it did. -/
def fnExactSourceSizeUptoRow : OpenClaim := { program := "ytjbfchmlhaidfaadoor", sum := "822db0e8b8d16593272498d23b9f6f26966f1402a110f2d07717d4aa1d16a844", func := "loop.example/classicalcontrol/laws.FnExactSourceSize", spec := "fnExactSourceSize", inPlace := ["internal/bytealg.IndexByteString", "internal/bytealg.IndexString", "internal/reflectlite.ValueOf", "(internal/reflectlite.Value).Type", "(internal/reflectlite.Value).IsNil", "internal/reflectlite.TypeOf", "(internal/reflectlite.Value).Elem", "(internal/reflectlite.Value).Set"], unfollowed := true, recurses := true, named := ["errors.errorType", "internal/bytealg.MaxLen"], apart := false, laid := [("errors.errorType", laid_errors_errorType)], narrowed := true }
def FnExactSourceSizeUptoSaid : Prop := fnExactSourceSizeUptoRow.holds Tryd.pinned (OpenSpec.upto fnExactSourceSizeSpec)

/-- 'laws.FnExactSourcePlain', WHERE WHAT IT READS IS OF BULK AT MOST 1048576: true; the input reads as it did. -/
def fnExactSourcePlainUptoRow : OpenClaim := { program := "ytjbfchmlhaidfaadoor", sum := "822db0e8b8d16593272498d23b9f6f26966f1402a110f2d07717d4aa1d16a844", func := "loop.example/classicalcontrol/laws.FnExactSourcePlain", spec := "fnExactSourcePlain", inPlace := ["internal/bytealg.IndexByteString", "internal/bytealg.IndexString", "internal/reflectlite.ValueOf", "(internal/reflectlite.Value).Type", "(internal/reflectlite.Value).IsNil", "internal/reflectlite.TypeOf", "(internal/reflectlite.Value).Elem", "(internal/reflectlite.Value).Set"], unfollowed := true, recurses := true, named := ["errors.errorType", "internal/bytealg.MaxLen"], apart := false, laid := [("errors.errorType", laid_errors_errorType)], narrowed := true }
def FnExactSourcePlainUptoSaid : Prop := fnExactSourcePlainUptoRow.holds Tryd.pinned (OpenSpec.upto fnExactSourcePlainSpec)

/-- 'laws.FnExactMachineRun', WHERE WHAT IT READS IS OF BULK AT MOST 1048576: true; the input reads as it did. -/
def fnExactMachineRunUptoRow : OpenClaim := { program := "ytjbfchmlhaidfaadoor", sum := "822db0e8b8d16593272498d23b9f6f26966f1402a110f2d07717d4aa1d16a844", func := "loop.example/classicalcontrol/laws.FnExactMachineRun", spec := "fnExactMachineRun", inPlace := ["internal/bytealg.IndexByteString", "internal/bytealg.IndexString", "internal/reflectlite.ValueOf", "(internal/reflectlite.Value).Type", "(internal/reflectlite.Value).IsNil", "internal/reflectlite.TypeOf", "(internal/reflectlite.Value).Elem", "(internal/reflectlite.Value).Set"], unfollowed := true, recurses := true, named := ["errors.errorType", "internal/bytealg.MaxLen"], apart := false, laid := [("errors.errorType", laid_errors_errorType)], narrowed := true }
def FnExactMachineRunUptoSaid : Prop := fnExactMachineRunUptoRow.holds Tryd.pinned (OpenSpec.upto fnExactMachineRunSpec)

/-- 'laws.FnExactMachineMoves', WHERE WHAT IT READS IS OF BULK AT MOST 1048576: true; the input reads as it did. -/
def fnExactMachineMovesUptoRow : OpenClaim := { program := "ytjbfchmlhaidfaadoor", sum := "822db0e8b8d16593272498d23b9f6f26966f1402a110f2d07717d4aa1d16a844", func := "loop.example/classicalcontrol/laws.FnExactMachineMoves", spec := "fnExactMachineMoves", inPlace := ["internal/bytealg.IndexByteString", "internal/bytealg.IndexString", "internal/reflectlite.ValueOf", "(internal/reflectlite.Value).Type", "(internal/reflectlite.Value).IsNil", "internal/reflectlite.TypeOf", "(internal/reflectlite.Value).Elem", "(internal/reflectlite.Value).Set"], unfollowed := true, recurses := true, named := ["errors.errorType", "internal/bytealg.MaxLen"], apart := false, laid := [("errors.errorType", laid_errors_errorType)], narrowed := true }
def FnExactMachineMovesUptoSaid : Prop := fnExactMachineMovesUptoRow.holds Tryd.pinned (OpenSpec.upto fnExactMachineMovesSpec)

end Rows
end Go.Proofs.YtjbfchmlhaidfaaDoor
