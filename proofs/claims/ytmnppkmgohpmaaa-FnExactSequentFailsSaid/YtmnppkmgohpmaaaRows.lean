/-
  No cell of these rows narrows 'for every input' (looked for: loops, veiled, ifaces, maps, wideKeys, modest, calm, conditions, laid).
  DERIVED. THE GIVEN ROWS OF THIS SEAT. 9 by the template 'for every input the law returns true; each argument reads behind the call as it read before'; 0 by the template 'total and deterministic' (their statements: YtmnppkmgohpmaaaTotals.lean).
  GIVEN WITH THE SEED: the statements are not yours to turn. If you find one false, say at which input.
  Laid BY PROGRAM, IN A SANDBOX (cutbox-rows.mjs): the forced cells as the released guide's own fill.sh prints them over the translation 1e59842a7291802b… (all of the seat's roots in one cut). By AI agents, Wed Nov 11 2026. No macro, syntax, notation, axiom, sorry.
-/
import Derived.Test.YtmnppkmgohpmaaaChecked
import GoSem.Claim
import GoSem.ClaimJoined
import GoSem.ClaimMapViews
import Derived.JoinedTies
import Derived.KernelRfl
namespace Go.Proofs.Ytmnppkmgohpmaaa
/- THE CELL 'sum', in the pinned program and in every row, IS THE sha256 OF THE DUMP (.gsa) THAT YtmnppkmgohpmaaaProg.lean LOADS. Nothing in Lean hashes anything: it is a label: what it is worth is what the hold of that sum in a sandbox is worth. -/
noncomputable def Try.pinned : Pinned := { name := "ytmnppkmgohpmaaa", sum := "1e59842a7291802b5f35e1e612c8b39a746597bf12cd085785f910560d74c261", checked := Try.checked }
namespace Rows
def none {H : Type} : Left H := { results := [], args := [] }

/-- 'laws.FnExactFormulaValid': WHATEVER THE INPUT: true; the input reads as it did. -/
def fnExactFormulaValidSpec : ChangeSpec := { name := "fnExactFormulaValid", fn := fun _ => fun
  | [d] => { results := [.lit (.bool true)], args := [d] }
  | _ => none }
def fnExactFormulaValidRow : OpenClaim := { program := "ytmnppkmgohpmaaa", sum := "1e59842a7291802b5f35e1e612c8b39a746597bf12cd085785f910560d74c261", func := "loop.example/classicalcontrol/laws.FnExactFormulaValid", spec := "fnExactFormulaValid", unfollowed := true, recurses := true, apart := false }
def FnExactFormulaValidSaid : Prop := fnExactFormulaValidRow.holds Try.pinned (OpenSpec.ofChange fnExactFormulaValidSpec)

/-- ITS FALSE NEIGHBOUR: 'it returns false'. Refute it at one input. -/
def fnExactFormulaValidWrong : ChangeSpec := { name := "fnExactFormulaValid", fn := fun _ => fun
  | [d] => { results := [.lit (.bool false)], args := [d] }
  | _ => none }
def FnExactFormulaValidWrongFalsely : Prop := fnExactFormulaValidRow.holds Try.pinned (OpenSpec.ofChange fnExactFormulaValidWrong)

/-- 'laws.FnExactFormulaLetters': WHATEVER THE INPUT: true; the input reads as it did. -/
def fnExactFormulaLettersSpec : ChangeSpec := { name := "fnExactFormulaLetters", fn := fun _ => fun
  | [d] => { results := [.lit (.bool true)], args := [d] }
  | _ => none }
def fnExactFormulaLettersRow : OpenClaim := { program := "ytmnppkmgohpmaaa", sum := "1e59842a7291802b5f35e1e612c8b39a746597bf12cd085785f910560d74c261", func := "loop.example/classicalcontrol/laws.FnExactFormulaLetters", spec := "fnExactFormulaLetters", unfollowed := true, recurses := true, apart := false }
def FnExactFormulaLettersSaid : Prop := fnExactFormulaLettersRow.holds Try.pinned (OpenSpec.ofChange fnExactFormulaLettersSpec)

/-- ITS FALSE NEIGHBOUR: 'it returns false'. Refute it at one input. -/
def fnExactFormulaLettersWrong : ChangeSpec := { name := "fnExactFormulaLetters", fn := fun _ => fun
  | [d] => { results := [.lit (.bool false)], args := [d] }
  | _ => none }
def FnExactFormulaLettersWrongFalsely : Prop := fnExactFormulaLettersRow.holds Try.pinned (OpenSpec.ofChange fnExactFormulaLettersWrong)

/-- 'laws.FnExactFormulaSize': WHATEVER THE INPUT: true; the input reads as it did. -/
def fnExactFormulaSizeSpec : ChangeSpec := { name := "fnExactFormulaSize", fn := fun _ => fun
  | [d] => { results := [.lit (.bool true)], args := [d] }
  | _ => none }
def fnExactFormulaSizeRow : OpenClaim := { program := "ytmnppkmgohpmaaa", sum := "1e59842a7291802b5f35e1e612c8b39a746597bf12cd085785f910560d74c261", func := "loop.example/classicalcontrol/laws.FnExactFormulaSize", spec := "fnExactFormulaSize", unfollowed := true, recurses := true, apart := false }
def FnExactFormulaSizeSaid : Prop := fnExactFormulaSizeRow.holds Try.pinned (OpenSpec.ofChange fnExactFormulaSizeSpec)

/-- ITS FALSE NEIGHBOUR: 'it returns false'. Refute it at one input. -/
def fnExactFormulaSizeWrong : ChangeSpec := { name := "fnExactFormulaSize", fn := fun _ => fun
  | [d] => { results := [.lit (.bool false)], args := [d] }
  | _ => none }
def FnExactFormulaSizeWrongFalsely : Prop := fnExactFormulaSizeRow.holds Try.pinned (OpenSpec.ofChange fnExactFormulaSizeWrong)

/-- 'laws.FnExactFormulaHolds': WHATEVER THE INPUT: true; the input reads as it did. -/
def fnExactFormulaHoldsSpec : ChangeSpec := { name := "fnExactFormulaHolds", fn := fun _ => fun
  | [d1, d2] => { results := [.lit (.bool true)], args := [d1, d2] }
  | _ => none }
def fnExactFormulaHoldsRow : OpenClaim := { program := "ytmnppkmgohpmaaa", sum := "1e59842a7291802b5f35e1e612c8b39a746597bf12cd085785f910560d74c261", func := "loop.example/classicalcontrol/laws.FnExactFormulaHolds", spec := "fnExactFormulaHolds", unfollowed := true, recurses := true, apart := false }
def FnExactFormulaHoldsSaid : Prop := fnExactFormulaHoldsRow.holds Try.pinned (OpenSpec.ofChange fnExactFormulaHoldsSpec)

/-- ITS FALSE NEIGHBOUR: 'it returns false'. Refute it at one input. -/
def fnExactFormulaHoldsWrong : ChangeSpec := { name := "fnExactFormulaHolds", fn := fun _ => fun
  | [d1, d2] => { results := [.lit (.bool false)], args := [d1, d2] }
  | _ => none }
def FnExactFormulaHoldsWrongFalsely : Prop := fnExactFormulaHoldsRow.holds Try.pinned (OpenSpec.ofChange fnExactFormulaHoldsWrong)

/-- 'laws.FnExactFormulaDual': WHATEVER THE INPUT: true; the input reads as it did. -/
def fnExactFormulaDualSpec : ChangeSpec := { name := "fnExactFormulaDual", fn := fun _ => fun
  | [d] => { results := [.lit (.bool true)], args := [d] }
  | _ => none }
def fnExactFormulaDualRow : OpenClaim := { program := "ytmnppkmgohpmaaa", sum := "1e59842a7291802b5f35e1e612c8b39a746597bf12cd085785f910560d74c261", func := "loop.example/classicalcontrol/laws.FnExactFormulaDual", spec := "fnExactFormulaDual", unfollowed := true, recurses := true, apart := false }
def FnExactFormulaDualSaid : Prop := fnExactFormulaDualRow.holds Try.pinned (OpenSpec.ofChange fnExactFormulaDualSpec)

/-- ITS FALSE NEIGHBOUR: 'it returns false'. Refute it at one input. -/
def fnExactFormulaDualWrong : ChangeSpec := { name := "fnExactFormulaDual", fn := fun _ => fun
  | [d] => { results := [.lit (.bool false)], args := [d] }
  | _ => none }
def FnExactFormulaDualWrongFalsely : Prop := fnExactFormulaDualRow.holds Try.pinned (OpenSpec.ofChange fnExactFormulaDualWrong)

/-- 'laws.FnExactFormulaPush': WHATEVER THE INPUT: true; the input reads as it did. -/
def fnExactFormulaPushSpec : ChangeSpec := { name := "fnExactFormulaPush", fn := fun _ => fun
  | [d] => { results := [.lit (.bool true)], args := [d] }
  | _ => none }
def fnExactFormulaPushRow : OpenClaim := { program := "ytmnppkmgohpmaaa", sum := "1e59842a7291802b5f35e1e612c8b39a746597bf12cd085785f910560d74c261", func := "loop.example/classicalcontrol/laws.FnExactFormulaPush", spec := "fnExactFormulaPush", unfollowed := true, recurses := true, apart := false }
def FnExactFormulaPushSaid : Prop := fnExactFormulaPushRow.holds Try.pinned (OpenSpec.ofChange fnExactFormulaPushSpec)

/-- ITS FALSE NEIGHBOUR: 'it returns false'. Refute it at one input. -/
def fnExactFormulaPushWrong : ChangeSpec := { name := "fnExactFormulaPush", fn := fun _ => fun
  | [d] => { results := [.lit (.bool false)], args := [d] }
  | _ => none }
def FnExactFormulaPushWrongFalsely : Prop := fnExactFormulaPushRow.holds Try.pinned (OpenSpec.ofChange fnExactFormulaPushWrong)

/-- 'laws.FnExactSequentHolds': WHATEVER THE INPUT: true; the input reads as it did. -/
def fnExactSequentHoldsSpec : ChangeSpec := { name := "fnExactSequentHolds", fn := fun _ => fun
  | [d1, d2, d3] => { results := [.lit (.bool true)], args := [d1, d2, d3] }
  | _ => none }
def fnExactSequentHoldsRow : OpenClaim := { program := "ytmnppkmgohpmaaa", sum := "1e59842a7291802b5f35e1e612c8b39a746597bf12cd085785f910560d74c261", func := "loop.example/classicalcontrol/laws.FnExactSequentHolds", spec := "fnExactSequentHolds", unfollowed := true, recurses := true, apart := false }
def FnExactSequentHoldsSaid : Prop := fnExactSequentHoldsRow.holds Try.pinned (OpenSpec.ofChange fnExactSequentHoldsSpec)

/-- ITS FALSE NEIGHBOUR: 'it returns false'. Refute it at one input. -/
def fnExactSequentHoldsWrong : ChangeSpec := { name := "fnExactSequentHolds", fn := fun _ => fun
  | [d1, d2, d3] => { results := [.lit (.bool false)], args := [d1, d2, d3] }
  | _ => none }
def FnExactSequentHoldsWrongFalsely : Prop := fnExactSequentHoldsRow.holds Try.pinned (OpenSpec.ofChange fnExactSequentHoldsWrong)

/-- 'laws.FnExactSequentValid': WHATEVER THE INPUT: true; the input reads as it did. -/
def fnExactSequentValidSpec : ChangeSpec := { name := "fnExactSequentValid", fn := fun _ => fun
  | [d1, d2] => { results := [.lit (.bool true)], args := [d1, d2] }
  | _ => none }
def fnExactSequentValidRow : OpenClaim := { program := "ytmnppkmgohpmaaa", sum := "1e59842a7291802b5f35e1e612c8b39a746597bf12cd085785f910560d74c261", func := "loop.example/classicalcontrol/laws.FnExactSequentValid", spec := "fnExactSequentValid", unfollowed := true, recurses := true, apart := false }
def FnExactSequentValidSaid : Prop := fnExactSequentValidRow.holds Try.pinned (OpenSpec.ofChange fnExactSequentValidSpec)

/-- ITS FALSE NEIGHBOUR: 'it returns false'. Refute it at one input. -/
def fnExactSequentValidWrong : ChangeSpec := { name := "fnExactSequentValid", fn := fun _ => fun
  | [d1, d2] => { results := [.lit (.bool false)], args := [d1, d2] }
  | _ => none }
def FnExactSequentValidWrongFalsely : Prop := fnExactSequentValidRow.holds Try.pinned (OpenSpec.ofChange fnExactSequentValidWrong)

/-- 'laws.FnExactSequentFails': WHATEVER THE INPUT: true; the input reads as it did. -/
def fnExactSequentFailsSpec : ChangeSpec := { name := "fnExactSequentFails", fn := fun _ => fun
  | [d1, d2] => { results := [.lit (.bool true)], args := [d1, d2] }
  | _ => none }
def fnExactSequentFailsRow : OpenClaim := { program := "ytmnppkmgohpmaaa", sum := "1e59842a7291802b5f35e1e612c8b39a746597bf12cd085785f910560d74c261", func := "loop.example/classicalcontrol/laws.FnExactSequentFails", spec := "fnExactSequentFails", unfollowed := true, recurses := true, apart := false }
def FnExactSequentFailsSaid : Prop := fnExactSequentFailsRow.holds Try.pinned (OpenSpec.ofChange fnExactSequentFailsSpec)

/-- ITS FALSE NEIGHBOUR: 'it returns false'. Refute it at one input. -/
def fnExactSequentFailsWrong : ChangeSpec := { name := "fnExactSequentFails", fn := fun _ => fun
  | [d1, d2] => { results := [.lit (.bool false)], args := [d1, d2] }
  | _ => none }
def FnExactSequentFailsWrongFalsely : Prop := fnExactSequentFailsRow.holds Try.pinned (OpenSpec.ofChange fnExactSequentFailsWrong)

/- THE SECOND FORM. 'bulk': how many values and letters a reading holds, each counted each time it is reached (what is shared counts as often as it is met; a slice's spare places count too). A statement '..UptoSaid' is the law's where the arguments, and the package variables that the reading takes, are together of bulk at most 1048576: NARROWER than '..Said'. Prove '..Said' where nothing that the law and all that it calls make is longer than what came in: it says more and counts as full. Else prove '..UptoSaid'. A law counts once. -/
mutual
def uptoBulk {H : Type} : DataW H → Nat
  | .lit (.string bytes) => bytes.length + 1
  | .lit _ => 1
  | .nil => 1
  | .ptr d => uptoBulk d + 1
  | .slice elems spare => uptoBulkAll elems + uptoBulkAll spare + 1
  | .agg parts => uptoBulkAll parts + 1
  | .iface _ d => uptoBulk d + 1
  | .map entries => uptoBulkEntries entries + 1
  | .held _ => 1
def uptoBulkAll {H : Type} : List (DataW H) → Nat
  | [] => 0
  | d :: r => uptoBulk d + uptoBulkAll r
def uptoBulkEntries {H : Type} : List (Lit × DataW H) → Nat
  | [] => 0
  | x :: r => uptoBulkEntry x + uptoBulkEntries r
def uptoBulkEntry {H : Type} : Lit × DataW H → Nat
  | (.string bytes, d) => bytes.length + uptoBulk d + 1
  | (_, d) => uptoBulk d + 1
 end
def uptoSmall : (H : Type) → List (DataW H) → Bool := fun _ ds => decide (uptoBulkAll ds ≤ 1048576)
def OpenSpec.upto (s : _root_.Go.ChangeSpec) : _root_.Go.OpenSpec := { _root_.Go.OpenSpec.ofChange s with cond := some uptoSmall }

/-- 'laws.FnExactFormulaValid', WHERE WHAT IT READS IS OF BULK AT MOST 1048576: true; the input reads as it did. -/
def fnExactFormulaValidUptoRow : OpenClaim := { program := "ytmnppkmgohpmaaa", sum := "1e59842a7291802b5f35e1e612c8b39a746597bf12cd085785f910560d74c261", func := "loop.example/classicalcontrol/laws.FnExactFormulaValid", spec := "fnExactFormulaValid", unfollowed := true, recurses := true, apart := false, narrowed := true }
def FnExactFormulaValidUptoSaid : Prop := fnExactFormulaValidUptoRow.holds Try.pinned (OpenSpec.upto fnExactFormulaValidSpec)

/-- 'laws.FnExactFormulaLetters', WHERE WHAT IT READS IS OF BULK AT MOST 1048576: true; the input reads as it did. -/
def fnExactFormulaLettersUptoRow : OpenClaim := { program := "ytmnppkmgohpmaaa", sum := "1e59842a7291802b5f35e1e612c8b39a746597bf12cd085785f910560d74c261", func := "loop.example/classicalcontrol/laws.FnExactFormulaLetters", spec := "fnExactFormulaLetters", unfollowed := true, recurses := true, apart := false, narrowed := true }
def FnExactFormulaLettersUptoSaid : Prop := fnExactFormulaLettersUptoRow.holds Try.pinned (OpenSpec.upto fnExactFormulaLettersSpec)

/-- 'laws.FnExactFormulaSize', WHERE WHAT IT READS IS OF BULK AT MOST 1048576: true; the input reads as it did. -/
def fnExactFormulaSizeUptoRow : OpenClaim := { program := "ytmnppkmgohpmaaa", sum := "1e59842a7291802b5f35e1e612c8b39a746597bf12cd085785f910560d74c261", func := "loop.example/classicalcontrol/laws.FnExactFormulaSize", spec := "fnExactFormulaSize", unfollowed := true, recurses := true, apart := false, narrowed := true }
def FnExactFormulaSizeUptoSaid : Prop := fnExactFormulaSizeUptoRow.holds Try.pinned (OpenSpec.upto fnExactFormulaSizeSpec)

/-- 'laws.FnExactFormulaHolds', WHERE WHAT IT READS IS OF BULK AT MOST 1048576: true; the input reads as it did. -/
def fnExactFormulaHoldsUptoRow : OpenClaim := { program := "ytmnppkmgohpmaaa", sum := "1e59842a7291802b5f35e1e612c8b39a746597bf12cd085785f910560d74c261", func := "loop.example/classicalcontrol/laws.FnExactFormulaHolds", spec := "fnExactFormulaHolds", unfollowed := true, recurses := true, apart := false, narrowed := true }
def FnExactFormulaHoldsUptoSaid : Prop := fnExactFormulaHoldsUptoRow.holds Try.pinned (OpenSpec.upto fnExactFormulaHoldsSpec)

/-- 'laws.FnExactFormulaDual', WHERE WHAT IT READS IS OF BULK AT MOST 1048576: true; the input reads as it did. -/
def fnExactFormulaDualUptoRow : OpenClaim := { program := "ytmnppkmgohpmaaa", sum := "1e59842a7291802b5f35e1e612c8b39a746597bf12cd085785f910560d74c261", func := "loop.example/classicalcontrol/laws.FnExactFormulaDual", spec := "fnExactFormulaDual", unfollowed := true, recurses := true, apart := false, narrowed := true }
def FnExactFormulaDualUptoSaid : Prop := fnExactFormulaDualUptoRow.holds Try.pinned (OpenSpec.upto fnExactFormulaDualSpec)

/-- 'laws.FnExactFormulaPush', WHERE WHAT IT READS IS OF BULK AT MOST 1048576: true; the input reads as it did. -/
def fnExactFormulaPushUptoRow : OpenClaim := { program := "ytmnppkmgohpmaaa", sum := "1e59842a7291802b5f35e1e612c8b39a746597bf12cd085785f910560d74c261", func := "loop.example/classicalcontrol/laws.FnExactFormulaPush", spec := "fnExactFormulaPush", unfollowed := true, recurses := true, apart := false, narrowed := true }
def FnExactFormulaPushUptoSaid : Prop := fnExactFormulaPushUptoRow.holds Try.pinned (OpenSpec.upto fnExactFormulaPushSpec)

/-- 'laws.FnExactSequentHolds', WHERE WHAT IT READS IS OF BULK AT MOST 1048576: true; the input reads as it did. -/
def fnExactSequentHoldsUptoRow : OpenClaim := { program := "ytmnppkmgohpmaaa", sum := "1e59842a7291802b5f35e1e612c8b39a746597bf12cd085785f910560d74c261", func := "loop.example/classicalcontrol/laws.FnExactSequentHolds", spec := "fnExactSequentHolds", unfollowed := true, recurses := true, apart := false, narrowed := true }
def FnExactSequentHoldsUptoSaid : Prop := fnExactSequentHoldsUptoRow.holds Try.pinned (OpenSpec.upto fnExactSequentHoldsSpec)

/-- 'laws.FnExactSequentValid', WHERE WHAT IT READS IS OF BULK AT MOST 1048576: true; the input reads as it did. -/
def fnExactSequentValidUptoRow : OpenClaim := { program := "ytmnppkmgohpmaaa", sum := "1e59842a7291802b5f35e1e612c8b39a746597bf12cd085785f910560d74c261", func := "loop.example/classicalcontrol/laws.FnExactSequentValid", spec := "fnExactSequentValid", unfollowed := true, recurses := true, apart := false, narrowed := true }
def FnExactSequentValidUptoSaid : Prop := fnExactSequentValidUptoRow.holds Try.pinned (OpenSpec.upto fnExactSequentValidSpec)

/-- 'laws.FnExactSequentFails', WHERE WHAT IT READS IS OF BULK AT MOST 1048576: true; the input reads as it did. -/
def fnExactSequentFailsUptoRow : OpenClaim := { program := "ytmnppkmgohpmaaa", sum := "1e59842a7291802b5f35e1e612c8b39a746597bf12cd085785f910560d74c261", func := "loop.example/classicalcontrol/laws.FnExactSequentFails", spec := "fnExactSequentFails", unfollowed := true, recurses := true, apart := false, narrowed := true }
def FnExactSequentFailsUptoSaid : Prop := fnExactSequentFailsUptoRow.holds Try.pinned (OpenSpec.upto fnExactSequentFailsSpec)

end Rows
end Go.Proofs.Ytmnppkmgohpmaaa
