import Derived.Test.YtlecflgapaahgabAwakeW
namespace Go.Proofs.Ytlecflgapaahgab
open Go.RowKit
set_option linter.unusedVariables false

theorem addS_mono (a b c : Int) (h : a ≤ b) : addS a c ≤ addS b c := by
  unfold addS
  split <;> split <;> omega

set_option maxHeartbeats 400000 in
theorem NumGrows_law (w : World) (a : Int) (wa : (Lit.int .i64 a).wf = true) (b : Int) (wb : (Lit.int .i64 b).wf = true) (c : Int) (wc : (Lit.int .i64 c).wf = true) :
    Calls Try.prog 5 #[.int .i64 a, .int .i64 b, .int .i64 c] w fun e w' => e = .returned (.bool true) ∧ Below w.heap.size w w' := by
  by_cases hab : b < a
  · have hm : minS a b = b := by unfold minS; rw [if_pos hab]
    have hl : lessS a b = false := by unfold lessS; simp; omega
    go_enter Try.func5, Try.ntmps5
    go_wp2_with fail
    refine (min_walk a b _).mono ?_
    rintro e w1 ⟨rfl, hw1⟩
    subst hw1
    rw [hm]
    go_wp2_with fail
    refine (awake_walk w1).mono ?_
    rintro e w2 ⟨rfl, hb2⟩
    have h1 : (b == a) = false := by simp; omega
    go_wp2_with fail
    refine (less_walk a b _).mono ?_
    rintro e w3 ⟨rfl, hw3⟩
    subst hw3
    rw [hl]
    go_wp2
    go_ret
    exact ⟨rfl, hb2⟩
  · have hm : minS a b = a := by unfold minS; rw [if_neg hab]
    have ham := addS_mono a b c (by omega)
    go_enter Try.func5, Try.ntmps5
    go_wp2_with fail
    refine (min_walk a b _).mono ?_
    rintro e w1 ⟨rfl, hw1⟩
    subst hw1
    rw [hm]
    go_wp2_with fail
    refine (awake_walk w1).mono ?_
    rintro e w2 ⟨rfl, hb2⟩
    go_wp2_with fail
    refine (add_walk a c _).mono ?_
    rintro e w3 ⟨rfl, hw3⟩
    subst hw3
    go_wp2_with fail
    refine (add_walk b c _).mono ?_
    rintro e w3 ⟨rfl, hw3⟩
    subst hw3
    go_wp2_with fail
    refine (less_walk a b _).mono ?_
    rintro e w3 ⟨rfl, hw3⟩
    subst hw3
    by_cases h1 : a < b
    · have hl : lessS a b = decide (a < 1152921504606846976) := by unfold lessS; simp [h1]
      have h2 : (a != b) = true := by rw [bne_iff_ne]; omega
      rw [hl]
      go_wp2
      go_ret
      exact ⟨by simp, hb2⟩
    · have hl : lessS a b = false := by unfold lessS; simp; omega
      have h2 : a = b := by omega
      subst h2
      rw [hl]
      go_wp2
      go_ret
      exact ⟨rfl, hb2⟩
end Go.Proofs.Ytlecflgapaahgab
