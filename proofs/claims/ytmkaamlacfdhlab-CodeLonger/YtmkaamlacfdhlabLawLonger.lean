/- Greater numbers have no fewer bytes; a number below 0 has as many as its other one. -/
import Derived.Test.YtmkaamlacfdhlabCAwake
namespace Go.Proofs.Ytmkaamlacfdhlab
open Go.RowKit
set_option linter.unusedVariables false

theorem zig_other (c : Int) : (numB (zig c)).length = (numB (zig (-c - 1))).length := by
  have e : zig c / 2 = zig (-c - 1) / 2 := by unfold zig; split <;> split <;> omega
  generalize zig c = a at *
  generalize zig (-c - 1) = b at *
  by_cases ha : a < 128
  · rw [numB_low ha, numB_low (show b < 128 by omega)]; simp
  · rw [numB_high (show 128 ≤ a by omega), numB_high (show 128 ≤ b by omega), show a / 128 = b / 128 by omega]; simp

set_option maxHeartbeats 1000000 in
theorem longer_walk (w : World) (a b : Nat) (c : Int) (ha : a < 18446744073709551616) (hb : b < 18446744073709551616) (hc0 : -9223372036854775808 ≤ c) (hc1 : c ≤ 9223372036854775807) :
    Calls Try.prog 3 #[.int .u64 (a : Int), .int .u64 (b : Int), .int .i64 c] w fun e w' => e = .returned (.bool true) ∧ Below w.heap.size w w' := by
  have hz := zig_other c
  have h1 := numB_pos a
  have h10 := numB_ten a ha
  have h10b := numB_ten b hb
  have hw : wrap64 (wrap64 (-c) - 1) = -c - 1 := by unfold wrap64; omega
  by_cases hab : b < a
  · have hmono : True := trivial
    go_enter Try.func3, Try.ntmps3
    go_wp2_with fail
    refine (awake_walk _).mono ?_
    rintro e w1 ⟨rfl, b1⟩
    go_wp2_with fail
    refine (int_walk c _ hc0 hc1).mono ?_
    rintro e w2 ⟨x2, rfl, h2, k2⟩
    have b2 := below_then b1 k2
    obtain ⟨p2, c2, rfl⟩ := (row_of_owns h2).slice
    clear h2 k2 b1
    go_wp2_with fail
    refine (int_walk (-c - 1) _ (by omega) (by omega)).mono ?_
    rintro e w3 ⟨x3, rfl, h3, k3⟩
    have b3 := below_then b2 k3
    obtain ⟨p3, c3, rfl⟩ := (row_of_owns h3).slice
    clear h3 k3 b2
    go_wp2_with fail
    refine (num_walk a _ ha).mono ?_
    rintro e w4 ⟨x4, rfl, h4, k4⟩
    have b4 := below_then b3 k4
    obtain ⟨p4, c4, rfl⟩ := (row_of_owns h4).slice
    clear h4 k4 b3
    go_wp2_with fail
    refine (num_walk a _ ha).mono ?_
    rintro e w5 ⟨x5, rfl, h5, k5⟩
    have b5 := below_then b4 k5
    obtain ⟨p5, c5, rfl⟩ := (row_of_owns h5).slice
    clear h5 k5 b4
    go_wp2
    go_ret
    exact ⟨ret_bool (by rw [decide_eq_true_iff]; omega), b5⟩
  · have hmono := numB_mono b a (by omega)
    go_enter Try.func3, Try.ntmps3
    go_wp2_with fail
    refine (awake_walk _).mono ?_
    rintro e w1 ⟨rfl, b1⟩
    go_wp2_with fail
    refine (num_walk a _ ha).mono ?_
    rintro e w2 ⟨x2, rfl, h2, k2⟩
    have b2 := below_then b1 k2
    obtain ⟨p2, c2, rfl⟩ := (row_of_owns h2).slice
    clear h2 k2 b1
    go_wp2_with fail
    refine (num_walk b _ hb).mono ?_
    rintro e w3 ⟨x3, rfl, h3, k3⟩
    have b3 := below_then b2 k3
    obtain ⟨p3, c3, rfl⟩ := (row_of_owns h3).slice
    clear h3 k3 b2
    go_wp2_with fail
    refine (int_walk c _ hc0 hc1).mono ?_
    rintro e w4 ⟨x4, rfl, h4, k4⟩
    have b4 := below_then b3 k4
    obtain ⟨p4, c4, rfl⟩ := (row_of_owns h4).slice
    clear h4 k4 b3
    go_wp2_with fail
    refine (int_walk (-c - 1) _ (by omega) (by omega)).mono ?_
    rintro e w5 ⟨x5, rfl, h5, k5⟩
    have b5 := below_then b4 k5
    obtain ⟨p5, c5, rfl⟩ := (row_of_owns h5).slice
    clear h5 k5 b4
    go_wp2_with fail
    refine (num_walk a _ ha).mono ?_
    rintro e w6 ⟨x6, rfl, h6, k6⟩
    have b6 := below_then b5 k6
    obtain ⟨p6, c6, rfl⟩ := (row_of_owns h6).slice
    clear h6 k6 b5
    go_wp2_with fail
    refine (num_walk a _ ha).mono ?_
    rintro e w7 ⟨x7, rfl, h7, k7⟩
    have b7 := below_then b6 k7
    obtain ⟨p7, c7, rfl⟩ := (row_of_owns h7).slice
    clear h7 k7 b6
    go_wp2
    go_ret
    exact ⟨ret_bool (by rw [decide_eq_true_iff]; omega), b7⟩

theorem CodeLonger_law (w : World) (a : Int) (ha : (Lit.int .u64 a).wf = true) (b : Int) (hb : (Lit.int .u64 b).wf = true) (c : Int) (hc : (Lit.int .i64 c).wf = true) :
    Calls Try.prog 3 #[.int .u64 a, .int .u64 b, .int .i64 c] w fun e w' => e = .returned (.bool true) ∧ Below w.heap.size w w' := by
  have a1 := wf_u64 ha
  have b1 := wf_u64 hb
  have c1 := wf_i64 hc
  obtain ⟨A, rfl⟩ := Int.eq_ofNat_of_zero_le a1.1
  obtain ⟨B, rfl⟩ := Int.eq_ofNat_of_zero_le b1.1
  exact longer_walk w A B c (by omega) (by omega) c1.1 c1.2
end Go.Proofs.Ytmkaamlacfdhlab
