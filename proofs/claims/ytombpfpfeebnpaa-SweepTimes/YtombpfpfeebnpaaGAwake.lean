/- A program that does nothing is not awake. -/
import Derived.Test.YtombpfpfeebnpaaGEncode
import Derived.Test.YtombpfpfeebnpaaGSameA
namespace Go.Proofs.Ytombpfpfeebnpaa
open Go.RowKit Go.Maps
set_option linter.unusedVariables false
set_option linter.unusedSimpArgs false
set_option maxRecDepth 100000

theorem num_small (v : Nat) (h : v < 128) : numB v = [(v : Int)] := by
  unfold numB numF
  rw [if_pos h]
end Go.Proofs.Ytombpfpfeebnpaa
