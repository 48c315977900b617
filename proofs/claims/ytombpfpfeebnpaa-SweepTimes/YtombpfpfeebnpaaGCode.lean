/- The reader: a number up to a bound, its fault. -/
import Derived.Test.YtombpfpfeebnpaaVCode
namespace Go.Proofs.Ytombpfpfeebnpaa
open Go.RowKit
set_option linter.unusedVariables false

end Go.Proofs.Ytombpfpfeebnpaa
