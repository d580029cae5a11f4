/- spec.l2Flip, spec.l2Word, spec.l2Dual. -/
import Derived.Test.YtaihmfmfaejhiaaFlip
import Derived.Test.YtaihmfmfaejhiaaFormT
import Derived.Test.YtaihmfmfaejhiaaMathD
import Derived.Test.YtaihmfmfaejhiaaListT
namespace Go.Proofs.Ytaihmfmfaejhiaa
set_option linter.unusedVariables false
open Go.RowKit

end Go.Proofs.Ytaihmfmfaejhiaa
