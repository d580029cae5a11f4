/- Calls of the methods text, uses and renamed of programs' types. -/
import Derived.Test.YtaagbnbekfogiaaPiV
namespace Go.Proofs.Ytaagbnbekfogiaa
set_option linter.unusedVariables false
open Go.RowKit
set_option maxRecDepth 100000
theorem text_c (p : P) (x : Array Value) (w : World) : (callFunc (textPFn p) x).run Try.prog w = .ok (.enter (textPFn p) x) w := mfn_call (fun x w => by kernel_rfl) (fun x w => by kernel_rfl) (fun x w => by kernel_rfl) (fun x w => by kernel_rfl) p x w
end Go.Proofs.Ytaagbnbekfogiaa
