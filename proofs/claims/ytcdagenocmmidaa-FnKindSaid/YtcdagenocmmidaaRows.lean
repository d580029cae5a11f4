/-
  No cell of these rows narrows 'for every input' (looked for: loops, veiled, ifaces, maps, wideKeys, modest, calm, conditions, laid).
  DERIVED. THE GIVEN ROWS OF THIS SEAT. 10 by the template 'for every input the law returns true; each argument reads behind the call as it read before'; 0 by the template 'total and deterministic' (their statements: YtcdagenocmmidaaTotals.lean).
  GIVEN WITH THE SEED: the statements are not yours to turn. If you find one false, say at which input.
  Laid BY PROGRAM, IN A SANDBOX (cutbox-rows.mjs): the forced cells as the released guide's own fill.sh prints them over the translation d22254d86e63efbe… (all of the seat's roots in one cut). By AI agents, Wed Nov 11 2026. No macro, syntax, notation, axiom, sorry.
-/
import Derived.Test.YtcdagenocmmidaaChecked
import GoSem.Claim
import GoSem.ClaimJoined
import GoSem.ClaimMapViews
import Derived.JoinedTies
import Derived.KernelRfl
namespace Go.Proofs.Ytcdagenocmmidaa
/- THE CELL 'sum', in the pinned program and in every row, IS THE sha256 OF THE DUMP (.gsa) THAT YtcdagenocmmidaaProg.lean LOADS. Nothing in Lean hashes anything: it is a label: what it is worth is what the hold of that sum in a sandbox is worth. -/
noncomputable def Try.pinned : Pinned := { name := "ytcdagenocmmidaa", sum := "d22254d86e63efbe4f36744826e996c86a67a79f56c279356e014292e6abd0b2", checked := Try.checked }
namespace Rows
def none {H : Type} : Left H := { results := [], args := [] }

/-- 'laws.FnKind': WHATEVER THE INPUT: true; the input reads as it did. -/
def fnKindSpec : ChangeSpec := { name := "fnKind", fn := fun _ => fun
  | [d] => { results := [.lit (.bool true)], args := [d] }
  | _ => none }
def fnKindRow : OpenClaim := { program := "ytcdagenocmmidaa", sum := "d22254d86e63efbe4f36744826e996c86a67a79f56c279356e014292e6abd0b2", func := "loop.example/classicalcontrol/laws.FnKind", spec := "fnKind", inPlace := ["internal/bytealg.IndexByteString", "internal/bytealg.IndexString"], unfollowed := true, recurses := true, named := ["internal/bytealg.MaxLen"], plainKeys := false, apart := false }
def FnKindSaid : Prop := fnKindRow.holds Try.pinned (OpenSpec.ofChange fnKindSpec)

/-- ITS FALSE NEIGHBOUR: 'it returns false'. Refute it at one input. -/
def fnKindWrong : ChangeSpec := { name := "fnKind", fn := fun _ => fun
  | [d] => { results := [.lit (.bool false)], args := [d] }
  | _ => none }
def FnKindWrongFalsely : Prop := fnKindRow.holds Try.pinned (OpenSpec.ofChange fnKindWrong)

/-- 'laws.FnProgramDual': WHATEVER THE INPUT: true; the input reads as it did. -/
def fnProgramDualSpec : ChangeSpec := { name := "fnProgramDual", fn := fun _ => fun
  | [d] => { results := [.lit (.bool true)], args := [d] }
  | _ => none }
def fnProgramDualRow : OpenClaim := { program := "ytcdagenocmmidaa", sum := "d22254d86e63efbe4f36744826e996c86a67a79f56c279356e014292e6abd0b2", func := "loop.example/classicalcontrol/laws.FnProgramDual", spec := "fnProgramDual", inPlace := ["internal/bytealg.IndexByteString", "internal/bytealg.IndexString"], unfollowed := true, recurses := true, named := ["internal/bytealg.MaxLen"], plainKeys := false, apart := false }
def FnProgramDualSaid : Prop := fnProgramDualRow.holds Try.pinned (OpenSpec.ofChange fnProgramDualSpec)

/-- ITS FALSE NEIGHBOUR: 'it returns false'. Refute it at one input. -/
def fnProgramDualWrong : ChangeSpec := { name := "fnProgramDual", fn := fun _ => fun
  | [d] => { results := [.lit (.bool false)], args := [d] }
  | _ => none }
def FnProgramDualWrongFalsely : Prop := fnProgramDualRow.holds Try.pinned (OpenSpec.ofChange fnProgramDualWrong)

/-- 'laws.FnExactProgramKind': WHATEVER THE INPUT: true; the input reads as it did. -/
def fnExactProgramKindSpec : ChangeSpec := { name := "fnExactProgramKind", fn := fun _ => fun
  | [d] => { results := [.lit (.bool true)], args := [d] }
  | _ => none }
def fnExactProgramKindRow : OpenClaim := { program := "ytcdagenocmmidaa", sum := "d22254d86e63efbe4f36744826e996c86a67a79f56c279356e014292e6abd0b2", func := "loop.example/classicalcontrol/laws.FnExactProgramKind", spec := "fnExactProgramKind", inPlace := ["internal/bytealg.IndexByteString", "internal/bytealg.IndexString"], unfollowed := true, recurses := true, named := ["internal/bytealg.MaxLen"], plainKeys := false, apart := false }
def FnExactProgramKindSaid : Prop := fnExactProgramKindRow.holds Try.pinned (OpenSpec.ofChange fnExactProgramKindSpec)

/-- ITS FALSE NEIGHBOUR: 'it returns false'. Refute it at one input. -/
def fnExactProgramKindWrong : ChangeSpec := { name := "fnExactProgramKind", fn := fun _ => fun
  | [d] => { results := [.lit (.bool false)], args := [d] }
  | _ => none }
def FnExactProgramKindWrongFalsely : Prop := fnExactProgramKindRow.holds Try.pinned (OpenSpec.ofChange fnExactProgramKindWrong)

/-- 'laws.FnExactProgramFree': WHATEVER THE INPUT: true; the input reads as it did. -/
def fnExactProgramFreeSpec : ChangeSpec := { name := "fnExactProgramFree", fn := fun _ => fun
  | [d] => { results := [.lit (.bool true)], args := [d] }
  | _ => none }
def fnExactProgramFreeRow : OpenClaim := { program := "ytcdagenocmmidaa", sum := "d22254d86e63efbe4f36744826e996c86a67a79f56c279356e014292e6abd0b2", func := "loop.example/classicalcontrol/laws.FnExactProgramFree", spec := "fnExactProgramFree", inPlace := ["internal/bytealg.IndexByteString", "internal/bytealg.IndexString"], unfollowed := true, recurses := true, named := ["internal/bytealg.MaxLen"], plainKeys := false, apart := false }
def FnExactProgramFreeSaid : Prop := fnExactProgramFreeRow.holds Try.pinned (OpenSpec.ofChange fnExactProgramFreeSpec)

/-- ITS FALSE NEIGHBOUR: 'it returns false'. Refute it at one input. -/
def fnExactProgramFreeWrong : ChangeSpec := { name := "fnExactProgramFree", fn := fun _ => fun
  | [d] => { results := [.lit (.bool false)], args := [d] }
  | _ => none }
def FnExactProgramFreeWrongFalsely : Prop := fnExactProgramFreeRow.holds Try.pinned (OpenSpec.ofChange fnExactProgramFreeWrong)

/-- 'laws.FnExactProgramCanon': WHATEVER THE INPUT: true; the input reads as it did. -/
def fnExactProgramCanonSpec : ChangeSpec := { name := "fnExactProgramCanon", fn := fun _ => fun
  | [d] => { results := [.lit (.bool true)], args := [d] }
  | _ => none }
def fnExactProgramCanonRow : OpenClaim := { program := "ytcdagenocmmidaa", sum := "d22254d86e63efbe4f36744826e996c86a67a79f56c279356e014292e6abd0b2", func := "loop.example/classicalcontrol/laws.FnExactProgramCanon", spec := "fnExactProgramCanon", inPlace := ["internal/bytealg.IndexByteString", "internal/bytealg.IndexString"], unfollowed := true, recurses := true, named := ["internal/bytealg.MaxLen"], plainKeys := false, apart := false }
def FnExactProgramCanonSaid : Prop := fnExactProgramCanonRow.holds Try.pinned (OpenSpec.ofChange fnExactProgramCanonSpec)

/-- ITS FALSE NEIGHBOUR: 'it returns false'. Refute it at one input. -/
def fnExactProgramCanonWrong : ChangeSpec := { name := "fnExactProgramCanon", fn := fun _ => fun
  | [d] => { results := [.lit (.bool false)], args := [d] }
  | _ => none }
def FnExactProgramCanonWrongFalsely : Prop := fnExactProgramCanonRow.holds Try.pinned (OpenSpec.ofChange fnExactProgramCanonWrong)

/-- 'laws.FnExactProgramAlike': WHATEVER THE INPUT: true; the input reads as it did. -/
def fnExactProgramAlikeSpec : ChangeSpec := { name := "fnExactProgramAlike", fn := fun _ => fun
  | [d1, d2] => { results := [.lit (.bool true)], args := [d1, d2] }
  | _ => none }
def fnExactProgramAlikeRow : OpenClaim := { program := "ytcdagenocmmidaa", sum := "d22254d86e63efbe4f36744826e996c86a67a79f56c279356e014292e6abd0b2", func := "loop.example/classicalcontrol/laws.FnExactProgramAlike", spec := "fnExactProgramAlike", inPlace := ["internal/bytealg.IndexByteString", "internal/bytealg.IndexString"], unfollowed := true, recurses := true, named := ["internal/bytealg.MaxLen"], plainKeys := false, apart := false }
def FnExactProgramAlikeSaid : Prop := fnExactProgramAlikeRow.holds Try.pinned (OpenSpec.ofChange fnExactProgramAlikeSpec)

/-- ITS FALSE NEIGHBOUR: 'it returns false'. Refute it at one input. -/
def fnExactProgramAlikeWrong : ChangeSpec := { name := "fnExactProgramAlike", fn := fun _ => fun
  | [d1, d2] => { results := [.lit (.bool false)], args := [d1, d2] }
  | _ => none }
def FnExactProgramAlikeWrongFalsely : Prop := fnExactProgramAlikeRow.holds Try.pinned (OpenSpec.ofChange fnExactProgramAlikeWrong)

/-- 'laws.FnExactProgramPut': WHATEVER THE INPUT: true; the input reads as it did. -/
def fnExactProgramPutSpec : ChangeSpec := { name := "fnExactProgramPut", fn := fun _ => fun
  | [d1, d2, d3] => { results := [.lit (.bool true)], args := [d1, d2, d3] }
  | _ => none }
def fnExactProgramPutRow : OpenClaim := { program := "ytcdagenocmmidaa", sum := "d22254d86e63efbe4f36744826e996c86a67a79f56c279356e014292e6abd0b2", func := "loop.example/classicalcontrol/laws.FnExactProgramPut", spec := "fnExactProgramPut", inPlace := ["internal/bytealg.IndexByteString", "internal/bytealg.IndexString"], unfollowed := true, recurses := true, named := ["internal/bytealg.MaxLen"], plainKeys := false, apart := false }
def FnExactProgramPutSaid : Prop := fnExactProgramPutRow.holds Try.pinned (OpenSpec.ofChange fnExactProgramPutSpec)

/-- ITS FALSE NEIGHBOUR: 'it returns false'. Refute it at one input. -/
def fnExactProgramPutWrong : ChangeSpec := { name := "fnExactProgramPut", fn := fun _ => fun
  | [d1, d2, d3] => { results := [.lit (.bool false)], args := [d1, d2, d3] }
  | _ => none }
def FnExactProgramPutWrongFalsely : Prop := fnExactProgramPutRow.holds Try.pinned (OpenSpec.ofChange fnExactProgramPutWrong)

/-- 'laws.FnExactProgramSize': WHATEVER THE INPUT: true; the input reads as it did. -/
def fnExactProgramSizeSpec : ChangeSpec := { name := "fnExactProgramSize", fn := fun _ => fun
  | [d] => { results := [.lit (.bool true)], args := [d] }
  | _ => none }
def fnExactProgramSizeRow : OpenClaim := { program := "ytcdagenocmmidaa", sum := "d22254d86e63efbe4f36744826e996c86a67a79f56c279356e014292e6abd0b2", func := "loop.example/classicalcontrol/laws.FnExactProgramSize", spec := "fnExactProgramSize", inPlace := ["internal/bytealg.IndexByteString", "internal/bytealg.IndexString"], unfollowed := true, recurses := true, named := ["internal/bytealg.MaxLen"], plainKeys := false, apart := false }
def FnExactProgramSizeSaid : Prop := fnExactProgramSizeRow.holds Try.pinned (OpenSpec.ofChange fnExactProgramSizeSpec)

/-- ITS FALSE NEIGHBOUR: 'it returns false'. Refute it at one input. -/
def fnExactProgramSizeWrong : ChangeSpec := { name := "fnExactProgramSize", fn := fun _ => fun
  | [d] => { results := [.lit (.bool false)], args := [d] }
  | _ => none }
def FnExactProgramSizeWrongFalsely : Prop := fnExactProgramSizeRow.holds Try.pinned (OpenSpec.ofChange fnExactProgramSizeWrong)

/-- 'laws.FnExactProgramUses': WHATEVER THE INPUT: true; the input reads as it did. -/
def fnExactProgramUsesSpec : ChangeSpec := { name := "fnExactProgramUses", fn := fun _ => fun
  | [d1, d2] => { results := [.lit (.bool true)], args := [d1, d2] }
  | _ => none }
def fnExactProgramUsesRow : OpenClaim := { program := "ytcdagenocmmidaa", sum := "d22254d86e63efbe4f36744826e996c86a67a79f56c279356e014292e6abd0b2", func := "loop.example/classicalcontrol/laws.FnExactProgramUses", spec := "fnExactProgramUses", inPlace := ["internal/bytealg.IndexByteString", "internal/bytealg.IndexString"], unfollowed := true, recurses := true, named := ["internal/bytealg.MaxLen"], plainKeys := false, apart := false }
def FnExactProgramUsesSaid : Prop := fnExactProgramUsesRow.holds Try.pinned (OpenSpec.ofChange fnExactProgramUsesSpec)

/-- ITS FALSE NEIGHBOUR: 'it returns false'. Refute it at one input. -/
def fnExactProgramUsesWrong : ChangeSpec := { name := "fnExactProgramUses", fn := fun _ => fun
  | [d1, d2] => { results := [.lit (.bool false)], args := [d1, d2] }
  | _ => none }
def FnExactProgramUsesWrongFalsely : Prop := fnExactProgramUsesRow.holds Try.pinned (OpenSpec.ofChange fnExactProgramUsesWrong)

/-- 'laws.FnExactProgramDual': WHATEVER THE INPUT: true; the input reads as it did. -/
def fnExactProgramDualSpec : ChangeSpec := { name := "fnExactProgramDual", fn := fun _ => fun
  | [d] => { results := [.lit (.bool true)], args := [d] }
  | _ => none }
def fnExactProgramDualRow : OpenClaim := { program := "ytcdagenocmmidaa", sum := "d22254d86e63efbe4f36744826e996c86a67a79f56c279356e014292e6abd0b2", func := "loop.example/classicalcontrol/laws.FnExactProgramDual", spec := "fnExactProgramDual", inPlace := ["internal/bytealg.IndexByteString", "internal/bytealg.IndexString"], unfollowed := true, recurses := true, named := ["internal/bytealg.MaxLen"], plainKeys := false, apart := false }
def FnExactProgramDualSaid : Prop := fnExactProgramDualRow.holds Try.pinned (OpenSpec.ofChange fnExactProgramDualSpec)

/-- ITS FALSE NEIGHBOUR: 'it returns false'. Refute it at one input. -/
def fnExactProgramDualWrong : ChangeSpec := { name := "fnExactProgramDual", fn := fun _ => fun
  | [d] => { results := [.lit (.bool false)], args := [d] }
  | _ => none }
def FnExactProgramDualWrongFalsely : Prop := fnExactProgramDualRow.holds Try.pinned (OpenSpec.ofChange fnExactProgramDualWrong)

/- THE SECOND FORM. 'bulk': how many values and letters a reading holds, each counted each time it is reached (what is shared counts as often as it is met; a slice's spare places count too). A statement '..UptoSaid' is the law's where the arguments, and the package variables that the reading takes, are together of bulk at most 1048576: NARROWER than '..Said'. Prove '..Said' where nothing that the law and all that it calls make is longer than what came in: it says more and counts as full. Else prove '..UptoSaid'. A law counts once. -/
mutual
def uptoBulk {H : Type} : DataW H → Nat
  | .lit (.string bytes) => bytes.length + 1
  | .lit _ => 1
  | .nil => 1
  | .ptr d => uptoBulk d + 1
  | .slice elems spare => uptoBulkAll elems + uptoBulkAll spare + 1
  | .agg parts => uptoBulkAll parts + 1
  | .iface _ d => uptoBulk d + 1
  | .map entries => uptoBulkEntries entries + 1
  | .held _ => 1
def uptoBulkAll {H : Type} : List (DataW H) → Nat
  | [] => 0
  | d :: r => uptoBulk d + uptoBulkAll r
def uptoBulkEntries {H : Type} : List (Lit × DataW H) → Nat
  | [] => 0
  | x :: r => uptoBulkEntry x + uptoBulkEntries r
def uptoBulkEntry {H : Type} : Lit × DataW H → Nat
  | (.string bytes, d) => bytes.length + uptoBulk d + 1
  | (_, d) => uptoBulk d + 1
 end
def uptoSmall : (H : Type) → List (DataW H) → Bool := fun _ ds => decide (uptoBulkAll ds ≤ 1048576)
def OpenSpec.upto (s : _root_.Go.ChangeSpec) : _root_.Go.OpenSpec := { _root_.Go.OpenSpec.ofChange s with cond := some uptoSmall }

/-- 'laws.FnKind', WHERE WHAT IT READS IS OF BULK AT MOST 1048576: true; the input reads as it did. -/
def fnKindUptoRow : OpenClaim := { program := "ytcdagenocmmidaa", sum := "d22254d86e63efbe4f36744826e996c86a67a79f56c279356e014292e6abd0b2", func := "loop.example/classicalcontrol/laws.FnKind", spec := "fnKind", inPlace := ["internal/bytealg.IndexByteString", "internal/bytealg.IndexString"], unfollowed := true, recurses := true, named := ["internal/bytealg.MaxLen"], plainKeys := false, apart := false, narrowed := true }
def FnKindUptoSaid : Prop := fnKindUptoRow.holds Try.pinned (OpenSpec.upto fnKindSpec)

/-- 'laws.FnProgramDual', WHERE WHAT IT READS IS OF BULK AT MOST 1048576: true; the input reads as it did. -/
def fnProgramDualUptoRow : OpenClaim := { program := "ytcdagenocmmidaa", sum := "d22254d86e63efbe4f36744826e996c86a67a79f56c279356e014292e6abd0b2", func := "loop.example/classicalcontrol/laws.FnProgramDual", spec := "fnProgramDual", inPlace := ["internal/bytealg.IndexByteString", "internal/bytealg.IndexString"], unfollowed := true, recurses := true, named := ["internal/bytealg.MaxLen"], plainKeys := false, apart := false, narrowed := true }
def FnProgramDualUptoSaid : Prop := fnProgramDualUptoRow.holds Try.pinned (OpenSpec.upto fnProgramDualSpec)

/-- 'laws.FnExactProgramKind', WHERE WHAT IT READS IS OF BULK AT MOST 1048576: true; the input reads as it did. -/
def fnExactProgramKindUptoRow : OpenClaim := { program := "ytcdagenocmmidaa", sum := "d22254d86e63efbe4f36744826e996c86a67a79f56c279356e014292e6abd0b2", func := "loop.example/classicalcontrol/laws.FnExactProgramKind", spec := "fnExactProgramKind", inPlace := ["internal/bytealg.IndexByteString", "internal/bytealg.IndexString"], unfollowed := true, recurses := true, named := ["internal/bytealg.MaxLen"], plainKeys := false, apart := false, narrowed := true }
def FnExactProgramKindUptoSaid : Prop := fnExactProgramKindUptoRow.holds Try.pinned (OpenSpec.upto fnExactProgramKindSpec)

/-- 'laws.FnExactProgramFree', WHERE WHAT IT READS IS OF BULK AT MOST 1048576: true; the input reads as it did. -/
def fnExactProgramFreeUptoRow : OpenClaim := { program := "ytcdagenocmmidaa", sum := "d22254d86e63efbe4f36744826e996c86a67a79f56c279356e014292e6abd0b2", func := "loop.example/classicalcontrol/laws.FnExactProgramFree", spec := "fnExactProgramFree", inPlace := ["internal/bytealg.IndexByteString", "internal/bytealg.IndexString"], unfollowed := true, recurses := true, named := ["internal/bytealg.MaxLen"], plainKeys := false, apart := false, narrowed := true }
def FnExactProgramFreeUptoSaid : Prop := fnExactProgramFreeUptoRow.holds Try.pinned (OpenSpec.upto fnExactProgramFreeSpec)

/-- 'laws.FnExactProgramCanon', WHERE WHAT IT READS IS OF BULK AT MOST 1048576: true; the input reads as it did. -/
def fnExactProgramCanonUptoRow : OpenClaim := { program := "ytcdagenocmmidaa", sum := "d22254d86e63efbe4f36744826e996c86a67a79f56c279356e014292e6abd0b2", func := "loop.example/classicalcontrol/laws.FnExactProgramCanon", spec := "fnExactProgramCanon", inPlace := ["internal/bytealg.IndexByteString", "internal/bytealg.IndexString"], unfollowed := true, recurses := true, named := ["internal/bytealg.MaxLen"], plainKeys := false, apart := false, narrowed := true }
def FnExactProgramCanonUptoSaid : Prop := fnExactProgramCanonUptoRow.holds Try.pinned (OpenSpec.upto fnExactProgramCanonSpec)

/-- 'laws.FnExactProgramAlike', WHERE WHAT IT READS IS OF BULK AT MOST 1048576: true; the input reads as it did. -/
def fnExactProgramAlikeUptoRow : OpenClaim := { program := "ytcdagenocmmidaa", sum := "d22254d86e63efbe4f36744826e996c86a67a79f56c279356e014292e6abd0b2", func := "loop.example/classicalcontrol/laws.FnExactProgramAlike", spec := "fnExactProgramAlike", inPlace := ["internal/bytealg.IndexByteString", "internal/bytealg.IndexString"], unfollowed := true, recurses := true, named := ["internal/bytealg.MaxLen"], plainKeys := false, apart := false, narrowed := true }
def FnExactProgramAlikeUptoSaid : Prop := fnExactProgramAlikeUptoRow.holds Try.pinned (OpenSpec.upto fnExactProgramAlikeSpec)

/-- 'laws.FnExactProgramPut', WHERE WHAT IT READS IS OF BULK AT MOST 1048576: true; the input reads as it did. -/
def fnExactProgramPutUptoRow : OpenClaim := { program := "ytcdagenocmmidaa", sum := "d22254d86e63efbe4f36744826e996c86a67a79f56c279356e014292e6abd0b2", func := "loop.example/classicalcontrol/laws.FnExactProgramPut", spec := "fnExactProgramPut", inPlace := ["internal/bytealg.IndexByteString", "internal/bytealg.IndexString"], unfollowed := true, recurses := true, named := ["internal/bytealg.MaxLen"], plainKeys := false, apart := false, narrowed := true }
def FnExactProgramPutUptoSaid : Prop := fnExactProgramPutUptoRow.holds Try.pinned (OpenSpec.upto fnExactProgramPutSpec)

/-- 'laws.FnExactProgramSize', WHERE WHAT IT READS IS OF BULK AT MOST 1048576: true; the input reads as it did. -/
def fnExactProgramSizeUptoRow : OpenClaim := { program := "ytcdagenocmmidaa", sum := "d22254d86e63efbe4f36744826e996c86a67a79f56c279356e014292e6abd0b2", func := "loop.example/classicalcontrol/laws.FnExactProgramSize", spec := "fnExactProgramSize", inPlace := ["internal/bytealg.IndexByteString", "internal/bytealg.IndexString"], unfollowed := true, recurses := true, named := ["internal/bytealg.MaxLen"], plainKeys := false, apart := false, narrowed := true }
def FnExactProgramSizeUptoSaid : Prop := fnExactProgramSizeUptoRow.holds Try.pinned (OpenSpec.upto fnExactProgramSizeSpec)

/-- 'laws.FnExactProgramUses', WHERE WHAT IT READS IS OF BULK AT MOST 1048576: true; the input reads as it did. -/
def fnExactProgramUsesUptoRow : OpenClaim := { program := "ytcdagenocmmidaa", sum := "d22254d86e63efbe4f36744826e996c86a67a79f56c279356e014292e6abd0b2", func := "loop.example/classicalcontrol/laws.FnExactProgramUses", spec := "fnExactProgramUses", inPlace := ["internal/bytealg.IndexByteString", "internal/bytealg.IndexString"], unfollowed := true, recurses := true, named := ["internal/bytealg.MaxLen"], plainKeys := false, apart := false, narrowed := true }
def FnExactProgramUsesUptoSaid : Prop := fnExactProgramUsesUptoRow.holds Try.pinned (OpenSpec.upto fnExactProgramUsesSpec)

/-- 'laws.FnExactProgramDual', WHERE WHAT IT READS IS OF BULK AT MOST 1048576: true; the input reads as it did. -/
def fnExactProgramDualUptoRow : OpenClaim := { program := "ytcdagenocmmidaa", sum := "d22254d86e63efbe4f36744826e996c86a67a79f56c279356e014292e6abd0b2", func := "loop.example/classicalcontrol/laws.FnExactProgramDual", spec := "fnExactProgramDual", inPlace := ["internal/bytealg.IndexByteString", "internal/bytealg.IndexString"], unfollowed := true, recurses := true, named := ["internal/bytealg.MaxLen"], plainKeys := false, apart := false, narrowed := true }
def FnExactProgramDualUptoSaid : Prop := fnExactProgramDualUptoRow.holds Try.pinned (OpenSpec.upto fnExactProgramDualSpec)

end Rows
end Go.Proofs.Ytcdagenocmmidaa
