/- Plain facts on numbers made narrow. -/
import Derived.Test.YtlecflgapaahgaaPlain
import Derived.RowKit
namespace Go.Proofs.Ytlecflgapaahgaa
open Go.RowKit
set_option linter.unusedVariables false

/-- the number that the lowest n bits are, with their sign -/
def narrowS (v : Int) (n : Nat) : Int := if v % 2 ^ n < 2 ^ (n - 1) then v % 2 ^ n else v % 2 ^ n - 2 ^ n

theorem pow_half (n : Nat) (h : 1 ≤ n) : (2 : Int) ^ n = 2 * 2 ^ (n - 1) := by
  obtain ⟨k, rfl⟩ : ∃ k, n = k + 1 := ⟨n - 1, by omega⟩
  rw [Int.pow_succ, Int.mul_comm]; rfl

theorem narrowS_bd (v : Int) (n : Nat) (h : 1 ≤ n) : -2 ^ (n - 1) ≤ narrowS v n ∧ narrowS v n < 2 ^ (n - 1) := by
  have hp := pow_half n h
  have h0 := pow_pos' (n - 1)
  have h1 := Int.emod_nonneg v (show (2 : Int) ^ n ≠ 0 by omega)
  have h2 := Int.emod_lt_of_pos v (show (0 : Int) < 2 ^ n by omega)
  unfold narrowS
  split <;> omega

theorem narrowS_mod (v v' : Int) (n : Nat) (h : v % 2 ^ n = v' % 2 ^ n) : narrowS v n = narrowS v' n := by
  unfold narrowS; rw [h]

theorem narrowS_self (v : Int) (n : Nat) (h : 1 ≤ n) (h1 : -2 ^ (n - 1) ≤ v) (h2 : v < 2 ^ (n - 1)) : narrowS v n = v := by
  have hp := pow_half n h
  have h0 := pow_pos' (n - 1)
  unfold narrowS
  by_cases hv : 0 ≤ v
  · have e : v % 2 ^ n = v := Int.emod_eq_of_lt hv (by omega)
    rw [e, if_pos h2]
  · have e : v % 2 ^ n = v + 2 ^ n := by
      rw [← Int.add_emod_right]
      exact Int.emod_eq_of_lt (by omega) (by omega)
    rw [e, if_neg (by omega)]
    omega

theorem narrowS_emod (v : Int) (n m : Nat) (h : m ≤ n) : narrowS v n % 2 ^ m = v % 2 ^ m := by
  have hd : (2 : Int) ^ m ∣ 2 ^ n := by
    obtain ⟨k, rfl⟩ := Nat.exists_eq_add_of_le h
    rw [Int.pow_add]; exact Int.dvd_mul_right _ _
  have e1 : v % 2 ^ n % 2 ^ m = v % 2 ^ m := Int.emod_emod_of_dvd v hd
  unfold narrowS
  split
  · exact e1
  · rw [Int.sub_emod, Int.emod_eq_zero_of_dvd hd, e1]; simp

theorem pow_mono' (a b : Nat) (h : a ≤ b) : (2 : Int) ^ a ≤ 2 ^ b := by
  have := Nat.pow_le_pow_right (show 2 > 0 by omega) h
  have e1 : ((2 : Int) ^ a) = ((2 ^ a : Nat) : Int) := by push_cast; rfl
  have e2 : ((2 : Int) ^ b) = ((2 ^ b : Nat) : Int) := by push_cast; rfl
  rw [e1, e2]; omega

/-- narrow twice is narrow once, whichever width comes first -/
theorem narrowS_twice (v : Int) (m n : Nat) (h1 : 1 ≤ m) (h : m ≤ n) : narrowS (narrowS v n) m = narrowS v m ∧ narrowS (narrowS v m) n = narrowS v m ∧ (narrowS v m = v → narrowS v n = v) := by
  have hb := narrowS_bd v m h1
  have hm := pow_mono' (m - 1) (n - 1) (by omega)
  refine ⟨narrowS_mod _ _ m (narrowS_emod v n m h), narrowS_self _ n (by omega) (by omega) (by omega), fun e => ?_⟩
  rw [e] at hb
  exact narrowS_self v n (by omega) (by omega) (by omega)

/-- the lowest bits brought to the top, and down again with their sign -/
theorem narrow_eq (v : Int) (n a : Nat) (hn : 1 ≤ n) (h : n + a = 64) : wrap64 (IntKind.u64.wrap (IntKind.u64.wrap v * 2 ^ a)) / 2 ^ a = narrowS v n := by
  have hp := pow_half n hn
  have h0 := pow_pos' (n - 1)
  have hN := pow_pos' n
  have hP := pow_pos' a
  have e64 : (2 : Int) ^ n * 2 ^ a = 18446744073709551616 := by rw [← Int.pow_add, h, pow64]
  have e63 : (2 : Int) ^ (n - 1) * 2 ^ a = 9223372036854775808 := by
    rw [hp] at e64
    rw [Int.mul_assoc] at e64
    omega
  have hd : (2 : Int) ^ n ∣ 18446744073709551616 := by rw [← e64]; exact Int.dvd_mul_right _ _
  have er : v % 18446744073709551616 % 2 ^ n = v % 2 ^ n := Int.emod_emod_of_dvd v hd
  have e1 : (v % 18446744073709551616 * 2 ^ a) % 18446744073709551616 = (v % 2 ^ n) * 2 ^ a := by
    rw [← er]
    generalize v % 18446744073709551616 = V
    rw [← e64, Int.mul_comm V, Int.mul_comm (2 ^ n), Int.mul_emod_mul_of_pos _ _ hP, Int.mul_comm]
  rw [IntKind.wrap_u64, IntKind.wrap_u64, e1]
  have h1 := Int.emod_nonneg v (show (2 : Int) ^ n ≠ 0 by omega)
  have h2 := Int.emod_lt_of_pos v hN
  unfold narrowS
  generalize v % 2 ^ n = r at *
  have hr0 := Int.mul_nonneg h1 (Int.le_of_lt hP)
  by_cases hc : r < 2 ^ (n - 1)
  · have hlt := Int.mul_lt_mul_of_pos_right hc hP
    rw [if_pos hc]
    have e2 : wrap64 (r * 2 ^ a) = r * 2 ^ a := by unfold wrap64; omega
    rw [e2, Int.mul_ediv_cancel _ (by omega)]
  · have hge := Int.mul_le_mul_of_nonneg_right (show (2 : Int) ^ (n - 1) ≤ r by omega) (Int.le_of_lt hP)
    have hlt := Int.mul_lt_mul_of_pos_right h2 hP
    rw [if_neg hc]
    have e2 : wrap64 (r * 2 ^ a) = (r - 2 ^ n) * 2 ^ a := by
      rw [Int.sub_mul, e64]
      unfold wrap64
      omega
    rw [e2, Int.mul_ediv_cancel _ (by omega)]
end Go.Proofs.Ytlecflgapaahgaa
