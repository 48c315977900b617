import Derived.Test.YtlecflgapaahgaaAwakeW
import Derived.Test.YtlecflgapaahgaaRefAddW
namespace Go.Proofs.Ytlecflgapaahgaa
open Go.RowKit
set_option linter.unusedVariables false

set_option maxHeartbeats 400000 in
theorem NumAdds_law (w : World) (a : Int) (wa : (Lit.int .i64 a).wf = true) (b : Int) (wb : (Lit.int .i64 b).wf = true) :
    Calls Try.prog 3 #[.int .i64 a, .int .i64 b] w fun e w' => e = .returned (.bool true) ∧ Below w.heap.size w w' := by
  go_enter Try.func3, Try.ntmps3
  go_wp2_with fail
  refine (awake_walk w).mono ?_
  rintro e w1 ⟨rfl, hb1⟩
  go_wp2_with fail
  refine (add_walk a b _).mono ?_
  rintro e w2 ⟨rfl, hb2⟩
  subst hb2
  go_wp2_with fail
  refine (refadd_walk a b _).mono ?_
  rintro e w3 ⟨rfl, hb3⟩
  subst hb3
  have he : (addS a b == addS a b) = true := by simp
  go_wp2_with fail
  refine (min_walk a b _).mono ?_
  rintro e w4 ⟨rfl, hb4⟩
  subst hb4
  by_cases hab : b < a
  · have hm : minS a b = b := by unfold minS; rw [if_pos hab]
    rw [hm]
    go_wp2_with fail
    refine (less_walk a b _).mono ?_
    rintro e w5 ⟨rfl, hb5⟩
    subst hb5
    have hl : lessS a b = false := by unfold lessS; simp; omega
    rw [hl]
    go_wp2
    go_ret
    exact ⟨rfl, hb1⟩
  · have hm : minS a b = a := by unfold minS; rw [if_neg hab]
    rw [hm]
    go_wp2_with fail
    refine (less_walk a b _).mono ?_
    rintro e w5 ⟨rfl, hb5⟩
    subst hb5
    by_cases h1 : a < b
    · have hl : lessS a b = decide (a < 1152921504606846976) := by unfold lessS; simp [h1]
      rw [hl]
      go_wp2
      go_ret
      exact ⟨by simp, hb1⟩
    · have hl : lessS a b = false := by unfold lessS; simp; omega
      rw [hl]
      go_wp2
      go_ret
      exact ⟨rfl, hb1⟩
end Go.Proofs.Ytlecflgapaahgaa
