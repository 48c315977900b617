/- What the reference's Add answers. -/
import Derived.Test.YtlecflgapaahgaaNumW
namespace Go.Proofs.Ytlecflgapaahgaa
set_option linter.unusedVariables false

set_option maxHeartbeats 400000 in
theorem refadd_walk (a b : Int) (w : World) :
    Calls Try.prog 11 #[.int .i64 a, .int .i64 b] w fun e w' => e = .returned (.int .i64 (addS a b)) ∧ w' = w := by
  go_enter Try.func11, Try.ntmps11
  go_wp2
  all_goals
    go_ret
    refine ⟨ret_int ?_, rfl⟩
    unfold addS
    split <;> omega

end Go.Proofs.Ytlecflgapaahgaa
