/- Numbers made narrow: what package num's Narrow answers. -/
import Derived.Test.YtlecflgapaahgaaBase
import Derived.Test.YtlecflgapaahgaaNarrowP
namespace Go.Proofs.Ytlecflgapaahgaa
open Go.RowKit
set_option linter.unusedVariables false

/-- of any width: what is told, and whether it is the number itself -/
def narrowOut (v b : Int) : Int × Bool := if 1 ≤ b ∧ b ≤ 64 then (narrowS v b.toNat, narrowS v b.toNat == v) else (0, false)

set_option maxHeartbeats 400000 in
theorem narrow_in (v : Int) (n : Nat) (w : World) (h1 : 1 ≤ n) (h2 : n ≤ 64) :
    Calls Try.prog 23 #[.int .i64 v, .int .i64 n] w fun e w' => e = .returned (.tuple #[.int .i64 (narrowS v n), .bool (narrowS v n == v)]) ∧ w' = w := by
  have e := narrow_eq v n (64 - n) h1 (by omega)
  go_enter Try.func23, Try.ntmps23
  go_wp2
  go_ret2
  exact ⟨rfl, rfl⟩

set_option maxHeartbeats 400000 in
theorem narrow_out (v b : Int) (w : World) (h : ¬ (1 ≤ b ∧ b ≤ 64)) :
    Calls Try.prog 23 #[.int .i64 v, .int .i64 b] w fun e w' => e = .returned (.tuple #[.int .i64 0, .bool false]) ∧ w' = w := by
  by_cases h1 : b < 1
  · go_enter Try.func23, Try.ntmps23
    go_wp2
    go_ret2
    exact ⟨rfl, rfl⟩
  · have h2 : 64 < b := by omega
    go_enter Try.func23, Try.ntmps23
    go_wp2
    go_ret2
    exact ⟨rfl, rfl⟩

/-- Narrow, of any number and width -/
theorem narrow_any (v b : Int) (w : World) :
    Calls Try.prog 23 #[.int .i64 v, .int .i64 b] w fun e w' => e = .returned (.tuple #[.int .i64 (narrowOut v b).1, .bool (narrowOut v b).2]) ∧ w' = w := by
  by_cases h : 1 ≤ b ∧ b ≤ 64
  · obtain ⟨n, rfl⟩ := Int.eq_ofNat_of_zero_le (show 0 ≤ b by omega)
    have e : narrowOut v n = (narrowS v n, narrowS v n == v) := by unfold narrowOut; rw [if_pos h]; rfl
    rw [e]
    exact narrow_in v n w (by omega) (by omega)
  · have e : narrowOut v b = (0, false) := by unfold narrowOut; rw [if_neg h]
    rw [e]
    exact narrow_out v b w h
end Go.Proofs.Ytlecflgapaahgaa
