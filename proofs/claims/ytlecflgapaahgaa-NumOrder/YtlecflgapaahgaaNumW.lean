import Derived.Test.YtlecflgapaahgaaBase
namespace Go.Proofs.Ytlecflgapaahgaa
set_option linter.unusedVariables false

/-- the end of sums -/
def addS (a b : Int) : Int := if 1152921504606846976 ≤ max a 0 + max b 0 then 1152921504606846976 else max a 0 + max b 0
def minS (a b : Int) : Int := if b < a then b else a
def lessS (a b : Int) : Bool := decide (a < b ∧ a < 1152921504606846976)

set_option maxHeartbeats 400000 in
theorem add_walk (a b : Int) (w : World) :
    Calls Try.prog 10 #[.int .i64 a, .int .i64 b] w fun e w' => e = .returned (.int .i64 (addS a b)) ∧ w' = w := by
  go_enter Try.func10, Try.ntmps10
  go_wp2
  all_goals
    go_ret
    refine ⟨ret_int ?_, rfl⟩
    unfold addS
    split <;> omega

set_option maxHeartbeats 400000 in
theorem min_walk (a b : Int) (w : World) :
    Calls Try.prog 12 #[.int .i64 a, .int .i64 b] w fun e w' => e = .returned (.int .i64 (minS a b)) ∧ w' = w := by
  go_enter Try.func12, Try.ntmps12
  go_wp2
  all_goals
    go_ret
    refine ⟨ret_int ?_, rfl⟩
    unfold minS
    try split <;> omega

set_option maxHeartbeats 400000 in
theorem less_walk (a b : Int) (w : World) :
    Calls Try.prog 13 #[.int .i64 a, .int .i64 b] w fun e w' => e = .returned (.bool (lessS a b)) ∧ w' = w := by
  go_enter Try.func13, Try.ntmps13
  go_wp2
  all_goals
    go_ret
    refine ⟨ret_bool ?_, rfl⟩
    unfold lessS
    simp
    try omega
end Go.Proofs.Ytlecflgapaahgaa
