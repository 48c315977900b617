/- Plain facts on bits of words: lowest bits, words that differ above or below a place. -/
import Derived.Test.YtlecflgapaahgaaPlain
import Derived.RowKit
namespace Go.Proofs.Ytlecflgapaahgaa
open Go.RowKit
set_option linter.unusedVariables false

theorem int_mod_pow (n m : Nat) : ((n % 2 ^ m : Nat) : Int) = (n : Int) % 2 ^ m := by push_cast; rfl

theorem mask_val (m : Nat) (hm : m ≤ 64) : IntKind.u64.wrap (IntKind.u64.wrap (2 ^ m) - 1) = 2 ^ m - 1 := by
  have hp := pow_pos' m
  by_cases h : m = 64
  · subst h; decide
  · have hq : (2 : Int) ^ m < 18446744073709551616 := by
      have h2 : (2 : Int) ^ m ≤ 2 ^ 63 := by exact_mod_cast Nat.pow_le_pow_right (by omega) (show m ≤ 63 by omega)
      omega
    rw [IntKind.wrap_u64, IntKind.wrap_u64]
    rw [Int.emod_eq_of_lt (Int.le_of_lt hp) hq, Int.emod_eq_of_lt (by omega) (by omega)]

theorem and_low (a : Int) (m : Nat) (h0 : 0 ≤ a) (h1 : a < 18446744073709551616) (hm : m ≤ 64) : bits .and .u64 a (2 ^ m - 1) = a % 2 ^ m := by
  have hq := pow_le64 m hm
  obtain ⟨n, rfl⟩ := Int.eq_ofNat_of_zero_le h0
  have e2 : ((2 : Int) ^ m - 1) = ((2 ^ m - 1 : Nat) : Int) := by
    have := Nat.two_pow_pos m
    rw [Int.natCast_sub (by omega)]
    push_cast
    rfl
  rw [e2] at *
  have e3 : (2 : Nat) ^ m ≤ 2 ^ 64 := Nat.pow_le_pow_right (by omega) hm
  rw [u64_and_nat n (2 ^ m - 1) (by omega) (by omega), Nat.and_two_pow_sub_one_eq_mod]
  exact int_mod_pow n m

/-- 'x & (1<<m - 1)' -/
theorem and_mask (a : Int) (m : Nat) (h0 : 0 ≤ a) (h1 : a < 18446744073709551616) (hm : m ≤ 64) :
    bits .and .u64 a (IntKind.u64.wrap (IntKind.u64.wrap (2 ^ m) - 1)) = a % 2 ^ m := by
  rw [mask_val m hm]
  exact and_low a m h0 h1 hm

theorem pack_two (a b : Int) (m n : Nat) (ha : a < 2 ^ m) (hb : b < 2 ^ n) (ha0 : 0 ≤ a) (hb0 : 0 ≤ b) (hm : 1 ≤ m) (hn : 1 ≤ n) (h : m + n ≤ 64) :
    packS [a, b] [(m : Int), (n : Int)] = (a + b * 2 ^ m, 0) := by
  have e1 : a / 2 ^ m = 0 := (div_pow_zero a m ha0).2 ha
  have e2 : b / 2 ^ n = 0 := (div_pow_zero b n hb0).2 hb
  have ht : (totTo [(m : Int), (n : Int)] 0).isSome = true := by
    unfold totTo
    rw [if_neg (by omega)]
    unfold totTo
    rw [if_neg (by omega)]
    rfl
  unfold packS
  rw [if_pos ⟨ht, rfl⟩]
  simp [packTo, e1, e2, packOut]

theorem nat_parts (a b m : Nat) (h : a < 2 ^ m) : (a + b * 2 ^ m) / 2 ^ m = b ∧ (a + b * 2 ^ m) % 2 ^ m = a := by
  have hp := Nat.two_pow_pos m
  refine ⟨?_, ?_⟩
  · rw [Nat.add_mul_div_right _ _ hp, Nat.div_eq_of_lt h, Nat.zero_add]
  · rw [Nat.add_mul_mod_self_right, Nat.mod_eq_of_lt h]

/-- words that differ in their lowest bits alone -/
theorem xor_low (a b c : Int) (m n : Nat) (ha0 : 0 ≤ a) (ha : a < 2 ^ m) (hc0 : 0 ≤ c) (hc : c < 2 ^ m) (hb0 : 0 ≤ b) (hb : b < 2 ^ n) (h : m + n ≤ 64) :
    bits .xor .u64 (a + b * 2 ^ m) (c + b * 2 ^ m) / 2 ^ m = 0 := by
  have h1 := mul_pow_lt b m n hb
  have h2 := pow_le64 (m + n) h
  obtain ⟨x, rfl⟩ := Int.eq_ofNat_of_zero_le ha0
  obtain ⟨y, rfl⟩ := Int.eq_ofNat_of_zero_le hb0
  obtain ⟨z, rfl⟩ := Int.eq_ofNat_of_zero_le hc0
  have e1 : ((x : Int) + y * 2 ^ m) = ((x + y * 2 ^ m : Nat) : Int) := by push_cast; rfl
  have e2 : ((z : Int) + y * 2 ^ m) = ((z + y * 2 ^ m : Nat) : Int) := by push_cast; rfl
  have hx : x < 2 ^ m := by exact_mod_cast ha
  have hz : z < 2 ^ m := by exact_mod_cast hc
  have l1 : ((x : Int) + y * 2 ^ m) < 18446744073709551616 := by omega
  have l2 : ((z : Int) + y * 2 ^ m) < 18446744073709551616 := by omega
  rw [e1] at l1
  rw [e2] at l2
  rw [e1, e2, u64_xor_nat _ _ (by omega) (by omega)]
  have e3 : ((x + y * 2 ^ m) ^^^ (z + y * 2 ^ m)) / 2 ^ m = 0 := by
    rw [← Nat.shiftRight_eq_div_pow, Nat.shiftRight_xor_distrib, Nat.shiftRight_eq_div_pow, Nat.shiftRight_eq_div_pow, (nat_parts x y m hx).1, (nat_parts z y m hz).1, Nat.xor_self]
  exact_mod_cast e3

/-- words that differ above a place alone -/
theorem xor_high (b c d : Int) (m n : Nat) (hc0 : 0 ≤ c) (hc : c < 2 ^ m) (hb0 : 0 ≤ b) (hb : b < 2 ^ n) (hd0 : 0 ≤ d) (hd : d < 2 ^ n) (h : m + n ≤ 64) (hn : 1 ≤ n) :
    bits .and .u64 (bits .xor .u64 (c + b * 2 ^ m) (c + d * 2 ^ m)) (IntKind.u64.wrap (IntKind.u64.wrap (2 ^ m) - 1)) = 0 := by
  have h1 := mul_pow_lt b m n hb
  have h1' := mul_pow_lt d m n hd
  have h2 := pow_le64 (m + n) h
  obtain ⟨x, rfl⟩ := Int.eq_ofNat_of_zero_le hd0
  obtain ⟨y, rfl⟩ := Int.eq_ofNat_of_zero_le hb0
  obtain ⟨z, rfl⟩ := Int.eq_ofNat_of_zero_le hc0
  have e1 : ((z : Int) + y * 2 ^ m) = ((z + y * 2 ^ m : Nat) : Int) := by push_cast; rfl
  have e2 : ((z : Int) + x * 2 ^ m) = ((z + x * 2 ^ m : Nat) : Int) := by push_cast; rfl
  have hz : z < 2 ^ m := by exact_mod_cast hc
  have l1 : ((z : Int) + y * 2 ^ m) < 18446744073709551616 := by omega
  have l2 : ((z : Int) + x * 2 ^ m) < 18446744073709551616 := by omega
  rw [e1] at l1
  rw [e2] at l2
  have l1n : z + y * 2 ^ m < 2 ^ 64 := by omega
  have l2n : z + x * 2 ^ m < 2 ^ 64 := by omega
  have l3 := Nat.xor_lt_two_pow l1n l2n
  rw [e1, e2, u64_xor_nat _ _ (by omega) (by omega), and_mask _ m (by omega) (by omega) (by omega)]
  have e3 : ((z + y * 2 ^ m) ^^^ (z + x * 2 ^ m)) % 2 ^ m = 0 := by
    rw [Nat.xor_mod_two_pow, (nat_parts z y m hz).2, (nat_parts z x m hz).2, Nat.xor_self]
  rw [← int_mod_pow, e3]
  rfl

theorem width_of (wa : Int) : ∃ m : Nat, 1 ≤ m ∧ m ≤ 31 ∧ wrap64 (1 + wrap64 ((IntKind.u64.wrap wa).tmod 31)) = (m : Int) := by
  rw [IntKind.wrap_u64, tmod_of_emod]
  have h1 := Int.emod_nonneg (wa % 18446744073709551616) (show (31 : Int) ≠ 0 by decide)
  have h2 := Int.emod_lt_of_pos (wa % 18446744073709551616) (show (0 : Int) < 31 by decide)
  generalize wa % 18446744073709551616 % 31 = r at *
  refine ⟨(1 + r).toNat, by omega, by omega, ?_⟩
  unfold wrap64
  omega

theorem grow_word (b c d : Int) (m : Nat) (h : b < d) : c + b * 2 ^ m < c + d * 2 ^ m := by
  have := Int.mul_lt_mul_of_pos_right h (pow_pos' m)
  omega
theorem wrap_nat (n : Nat) (h : n < 18446744073709551616) : IntKind.u64.wrap (n : Int) = (n : Int) := by
  rw [IntKind.wrap_u64]; omega
theorem wrap_add (a b : Nat) (h : a + b < 18446744073709551616) : IntKind.u64.wrap ((a : Int) + (b : Int)) = ((a + b : Nat) : Int) := by
  rw [IntKind.wrap_u64]; omega
theorem wrap_as (I : Int) (n : Nat) (e : I = (n : Int)) (h : n < 18446744073709551616) : IntKind.u64.wrap I = (n : Int) := by
  rw [e]; exact wrap_nat n h
theorem and_as (I J : Int) (a b : Nat) (hI : I = (a : Int)) (hJ : J = (b : Int)) (ha : a < 18446744073709551616) (hb : b < 18446744073709551616) : bits .and .u64 I J = ((a &&& b : Nat) : Int) := by
  rw [hI, hJ]; exact u64_and_nat a b ha hb
theorem bit_at (x : Nat) (k : Nat) (h : x < 18446744073709551616) : bits .and .u64 ((x : Int) / 2 ^ k) 1 = ((x / 2 ^ k % 2 : Nat) : Int) := by
  have hp : ((2 : Int) ^ k) = ((2 ^ k : Nat) : Int) := by push_cast; rfl
  have e := and_as ((x : Int) / 2 ^ k) 1 (x / 2 ^ k) 1 (by rw [hp, ← Int.natCast_ediv]) (by omega) (Nat.lt_of_le_of_lt (Nat.div_le_self _ _) h) (by omega)
  rw [e, nat_mask1]

theorem mod_succ_bit (x k : Nat) : x % 2 ^ (k + 1) = x % 2 ^ k + 2 ^ k * (x / 2 ^ k % 2) := by
  rw [Nat.pow_succ, Nat.mod_mul]

end Go.Proofs.Ytlecflgapaahgaa
