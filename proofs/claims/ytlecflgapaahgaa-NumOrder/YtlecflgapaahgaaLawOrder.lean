import Derived.Test.YtlecflgapaahgaaAwakeW
namespace Go.Proofs.Ytlecflgapaahgaa
open Go.RowKit
set_option linter.unusedVariables false

theorem addS_nn (a b : Int) (ha : 0 ≤ a) (hb : 0 ≤ b) : addS a b = if 1152921504606846976 ≤ a + b then 1152921504606846976 else a + b := by
  unfold addS
  rw [Int.max_eq_left ha, Int.max_eq_left hb]
theorem addS_comm (a b : Int) : addS a b = addS b a := by
  unfold addS; rw [Int.add_comm]
theorem addS_bd (a b : Int) (ha : 0 ≤ a) (hb : 0 ≤ b) : 0 ≤ addS a b ∧ addS a b ≤ 1152921504606846976 := by
  rw [addS_nn a b ha hb]; split <;> omega
theorem addS_assoc (a b c : Int) (ha : 0 ≤ a) (hb : 0 ≤ b) (hc : 0 ≤ c) : addS (addS a b) c = addS a (addS b c) := by
  have h1 := addS_bd a b ha hb
  have h2 := addS_bd b c hb hc
  rw [addS_nn _ c h1.1 hc, addS_nn a _ ha h2.1, addS_nn a b ha hb, addS_nn b c hb hc]
  split <;> split <;> split <;> (try split) <;> omega
theorem addS_three (a b c : Int) (ha : 0 ≤ a) (hb : 0 ≤ b) (hc : 0 ≤ c) :
    addS (addS a b) c ≤ 1152921504606846976 ∧ (a ≤ addS (addS a b) c ∨ addS (addS a b) c = 1152921504606846976) ∧ (addS (addS a b) c = 1152921504606846976 ∨ (addS (addS a b) c = a + b + c ∧ a + b + c < 1152921504606846976)) := by
  have h1 := addS_bd a b ha hb
  rw [addS_nn _ c h1.1 hc, addS_nn a b ha hb]
  split <;> split <;> omega

set_option maxHeartbeats 400000 in
theorem NumOrder_law (w : World) (a : Int) (wa : (Lit.int .i64 a).wf = true) (b : Int) (wb : (Lit.int .i64 b).wf = true) (c : Int) (wc : (Lit.int .i64 c).wf = true) :
    Calls Try.prog 8 #[.int .i64 a, .int .i64 b, .int .i64 c] w fun e w' => e = .returned (.bool true) ∧ Below w.heap.size w w' := by
  by_cases hneg : a < 0 ∨ b < 0 ∨ c < 0
  · have fin : ∀ w1, Below w.heap.size w w1 → Below w.heap.size w w1 := fun _ h => h
    by_cases ha : a < 0
    · go_enter Try.func8, Try.ntmps8
      go_wp2_with fail
      refine (awake_walk w).mono ?_
      rintro e w1 ⟨rfl, hb1⟩
      go_wp2_with fail
      refine (awake_walk w1).mono ?_
      rintro e w2 ⟨rfl, hb2⟩
      go_wp2
      go_ret
      exact ⟨rfl, hb1.trans (hb2.mono hb1.size)⟩
    · by_cases hb : b < 0
      · go_enter Try.func8, Try.ntmps8
        go_wp2_with fail
        refine (awake_walk w).mono ?_
        rintro e w1 ⟨rfl, hb1⟩
        go_wp2_with fail
        refine (awake_walk w1).mono ?_
        rintro e w2 ⟨rfl, hb2⟩
        go_wp2
        go_ret
        exact ⟨rfl, hb1.trans (hb2.mono hb1.size)⟩
      · have hc : c < 0 := by omega
        go_enter Try.func8, Try.ntmps8
        go_wp2_with fail
        refine (awake_walk w).mono ?_
        rintro e w1 ⟨rfl, hb1⟩
        go_wp2_with fail
        refine (awake_walk w1).mono ?_
        rintro e w2 ⟨rfl, hb2⟩
        go_wp2
        go_ret
        exact ⟨rfl, hb1.trans (hb2.mono hb1.size)⟩
  · have ha : 0 ≤ a := by omega
    have hb : 0 ≤ b := by omega
    have hc : 0 ≤ c := by omega
    clear hneg
    have e1 : (addS (addS a b) c == addS a (addS b c)) = true := by rw [addS_assoc a b c ha hb hc]; simp
    have e2 : (addS a b == addS b a) = true := by rw [addS_comm]; simp
    obtain ⟨l1, l2, l3⟩ := addS_three a b c ha hb hc
    go_enter Try.func8, Try.ntmps8
    go_wp2_with fail
    refine (awake_walk w).mono ?_
    rintro e w1 ⟨rfl, hb1⟩
    go_wp2_with fail
    refine (add_walk a b _).mono ?_
    rintro e w2 ⟨rfl, hw2⟩
    subst hw2
    go_wp2_with fail
    refine (add_walk (addS a b) c _).mono ?_
    rintro e w2 ⟨rfl, hw2⟩
    subst hw2
    go_wp2_with fail
    refine (add_walk b c _).mono ?_
    rintro e w2 ⟨rfl, hw2⟩
    subst hw2
    go_wp2_with fail
    refine (add_walk a (addS b c) _).mono ?_
    rintro e w2 ⟨rfl, hw2⟩
    subst hw2
    go_wp2_with fail
    refine (add_walk a b _).mono ?_
    rintro e w2 ⟨rfl, hw2⟩
    subst hw2
    go_wp2_with fail
    refine (add_walk b a _).mono ?_
    rintro e w2 ⟨rfl, hw2⟩
    subst hw2
    generalize addS (addS a b) c = s at *
    clear e1
    by_cases hs : s = 1152921504606846976
    · subst hs
      by_cases hm : 1152921504606846976 < a
      · go_wp2
        go_ret
        exact ⟨rfl, hb1⟩
      · go_wp2
        go_ret
        exact ⟨rfl, hb1⟩
    · have l4 : s = a + b + c := by omega
      have l5 : a + b + c < 1152921504606846976 := by omega
      clear l2 l3
      subst l4
      have hm : ¬ 1152921504606846976 < a := by omega
      have hne : (a + b + c == 1152921504606846976) = false := by simp; omega
      go_wp2
      go_ret
      exact ⟨rfl, hb1⟩
end Go.Proofs.Ytlecflgapaahgaa
