/- Pairs: what Key answers, package num's and the reference's. -/
import Derived.Test.YtlecflgapaahgaaBase
namespace Go.Proofs.Ytlecflgapaahgaa
open Go.RowKit
set_option linter.unusedVariables false

/-- may both be in a pair? -/
def keyB (a b : Int) : Bool := decide (0 ≤ a ∧ a ≤ 2147483647 ∧ 0 ≤ b ∧ b ≤ 2147483647)
def keyV (a b : Int) : Value := if keyB a b = true then .agg #[.int .i32 a, .int .i32 b] else .agg #[.int .i32 0, .int .i32 0]

theorem keyV_yes (a b : Int) (h : 0 ≤ a ∧ a ≤ 2147483647 ∧ 0 ≤ b ∧ b ≤ 2147483647) : keyV a b = .agg #[.int .i32 a, .int .i32 b] ∧ keyB a b = true := by
  have : keyB a b = true := by unfold keyB; simpa using h
  exact ⟨by unfold keyV; rw [if_pos this], this⟩
theorem keyV_no (a b : Int) (h : ¬ (0 ≤ a ∧ a ≤ 2147483647 ∧ 0 ≤ b ∧ b ≤ 2147483647)) : keyV a b = .agg #[.int .i32 0, .int .i32 0] ∧ keyB a b = false := by
  have : keyB a b = false := by unfold keyB; simpa using h
  exact ⟨by unfold keyV; rw [if_neg (by simp [this])], this⟩

set_option maxHeartbeats 400000 in
theorem isNode_walk (n : Int) (w : World) : Calls Try.prog 37 #[.int .i64 n] w fun e w' => e = .returned (.bool (decide (0 ≤ n ∧ n ≤ 2147483647))) ∧ w' = w := by
  by_cases h : 0 ≤ n
  · go_enter Try.func37, Try.ntmps37
    go_wp2
    go_ret
    exact ⟨ret_bool (by simp [h]), rfl⟩
  · go_enter Try.func37, Try.ntmps37
    go_wp2
    go_ret
    exact ⟨ret_bool (by simp; omega), rfl⟩

theorem fits32 (a : Int) (h0 : 0 ≤ a) (h1 : a ≤ 2147483647) : wrap32 a = a := by unfold wrap32; omega

set_option maxHeartbeats 400000 in
theorem key_walk (a b : Int) (w : World) : Calls Try.prog 25 #[.int .i64 a, .int .i64 b] w fun e w' => e = .returned (.tuple #[keyV a b, .bool (keyB a b)]) ∧ Below w.heap.size w w' := by
  by_cases h : 0 ≤ a ∧ a ≤ 2147483647 ∧ 0 ≤ b ∧ b ≤ 2147483647
  · obtain ⟨e1, e2⟩ := keyV_yes a b h
    rw [e1, e2]
    obtain ⟨ha0, ha1, hb0, hb1⟩ := h
    have d1 : decide (0 ≤ a ∧ a ≤ 2147483647) = true := by simp [ha0, ha1]
    have d2 : decide (0 ≤ b ∧ b ≤ 2147483647) = true := by simp [hb0, hb1]
    have f1 := fits32 a ha0 ha1
    have f2 := fits32 b hb0 hb1
    clear e1 e2
    go_enter Try.func25, Try.ntmps25
    go_wp2_with fail
    refine (isNode_walk a _).mono ?_
    rintro e w1 ⟨rfl, hw1⟩
    subst hw1
    rw [d1]
    go_wp2_with fail
    refine (isNode_walk b _).mono ?_
    rintro e w1 ⟨rfl, hw1⟩
    subst hw1
    rw [d2]
    go_wp2
    exact bodyPost_ret (v := .tuple #[.agg #[.int .i32 a, .int .i32 b], .bool true]) (by simp [results, Try.results25, go_sem]) rfl ⟨rfl, (Below.refl _ _).alloc (Nat.le_refl _) _⟩
  · obtain ⟨e1, e2⟩ := keyV_no a b h
    rw [e1, e2]
    clear e1 e2
    by_cases ha : 0 ≤ a ∧ a ≤ 2147483647
    · have d1 : decide (0 ≤ a ∧ a ≤ 2147483647) = true := by simp [ha]
      have d2 : decide (0 ≤ b ∧ b ≤ 2147483647) = false := by rw [decide_eq_false_iff_not]; omega
      clear h ha
      go_enter Try.func25, Try.ntmps25
      go_wp2_with fail
      refine (isNode_walk a _).mono ?_
      rintro e w1 ⟨rfl, hw1⟩
      subst hw1
      rw [d1]
      go_wp2_with fail
      refine (isNode_walk b _).mono ?_
      rintro e w1 ⟨rfl, hw1⟩
      subst hw1
      rw [d2]
      go_wp2
      exact bodyPost_ret (v := .tuple #[.agg #[.int .i32 0, .int .i32 0], .bool false]) (by simp [results, Try.results25, go_sem]) rfl ⟨rfl, (Below.refl _ _).alloc (Nat.le_refl _) _⟩
    · have d1 : decide (0 ≤ a ∧ a ≤ 2147483647) = false := by rw [decide_eq_false_iff_not]; omega
      clear h ha
      go_enter Try.func25, Try.ntmps25
      go_wp2_with fail
      refine (isNode_walk a _).mono ?_
      rintro e w1 ⟨rfl, hw1⟩
      subst hw1
      rw [d1]
      go_wp2
      exact bodyPost_ret (v := .tuple #[.agg #[.int .i32 0, .int .i32 0], .bool false]) (by simp [results, Try.results25, go_sem]) rfl ⟨rfl, (Below.refl _ _).alloc (Nat.le_refl _) _⟩

set_option maxHeartbeats 400000 in
theorem refkey_walk (a b : Int) (w : World) : Calls Try.prog 26 #[.int .i64 a, .int .i64 b] w fun e w' => e = .returned (.tuple #[keyV a b, .bool (keyB a b)]) ∧ Below w.heap.size w w' := by
  by_cases h : 0 ≤ a ∧ a ≤ 2147483647 ∧ 0 ≤ b ∧ b ≤ 2147483647
  · obtain ⟨e1, e2⟩ := keyV_yes a b h
    rw [e1, e2]
    obtain ⟨ha0, ha1, hb0, hb1⟩ := h
    have f1 := fits32 a ha0 ha1
    have f2 := fits32 b hb0 hb1
    clear e1 e2
    go_enter Try.func26, Try.ntmps26
    go_wp2
    exact bodyPost_ret (v := .tuple #[.agg #[.int .i32 a, .int .i32 b], .bool true]) (by simp [results, Try.results26, go_sem]) rfl ⟨rfl, (Below.refl _ _).alloc (Nat.le_refl _) _⟩
  · obtain ⟨e1, e2⟩ := keyV_no a b h
    rw [e1, e2]
    clear e1 e2
    by_cases h1 : a < 0
    · go_enter Try.func26, Try.ntmps26
      go_wp2
      exact bodyPost_ret (v := .tuple #[.agg #[.int .i32 0, .int .i32 0], .bool false]) (by simp [results, Try.results26, go_sem]) rfl ⟨rfl, (Below.refl _ _).alloc (Nat.le_refl _) _⟩
    by_cases h2 : b < 0
    · go_enter Try.func26, Try.ntmps26
      go_wp2
      exact bodyPost_ret (v := .tuple #[.agg #[.int .i32 0, .int .i32 0], .bool false]) (by simp [results, Try.results26, go_sem]) rfl ⟨rfl, (Below.refl _ _).alloc (Nat.le_refl _) _⟩
    by_cases h3 : 2147483647 < a
    · go_enter Try.func26, Try.ntmps26
      go_wp2
      exact bodyPost_ret (v := .tuple #[.agg #[.int .i32 0, .int .i32 0], .bool false]) (by simp [results, Try.results26, go_sem]) rfl ⟨rfl, (Below.refl _ _).alloc (Nat.le_refl _) _⟩
    have h4 : 2147483647 < b := by omega
    go_enter Try.func26, Try.ntmps26
    go_wp2
    exact bodyPost_ret (v := .tuple #[.agg #[.int .i32 0, .int .i32 0], .bool false]) (by simp [results, Try.results26, go_sem]) rfl ⟨rfl, (Below.refl _ _).alloc (Nat.le_refl _) _⟩
end Go.Proofs.Ytlecflgapaahgaa
