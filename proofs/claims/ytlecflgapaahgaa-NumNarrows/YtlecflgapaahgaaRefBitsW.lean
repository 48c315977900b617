/- The reference's counts, highest bits and narrow numbers, bit by bit. -/
import Derived.Test.YtlecflgapaahgaaOnesW
import Derived.Test.YtlecflgapaahgaaLogW
import Derived.Test.YtlecflgapaahgaaNarrowW
namespace Go.Proofs.Ytlecflgapaahgaa
open Go.RowKit
set_option linter.unusedVariables false

set_option maxHeartbeats 400000 in
theorem refones_nat (x : Nat) (w : World) (h1 : x < 18446744073709551616) :
    Calls Try.prog 28 #[.int .u64 x] w fun e w' => e = .returned (.int .i64 (popS 64 x)) ∧ w' = w := by
  go_enter Try.func28, Try.ntmps28
  go_wp2
  go_loop [3, 4] (fun n i => ∃ k : Nat, k ≤ 64 ∧ i = .int .i64 k ∧ ∃ p : Nat, n = .int .i64 p ∧ p ≤ k ∧ Hid (p = popS k x)) (fun _ i => 64 - (intOf i).toNat)
  case atStart => exact ⟨0, by omega, rfl, 0, rfl, by omega, hide rfl⟩
  case round =>
    obtain ⟨k, hk, rfl, p, rfl, hp, Hp⟩ := hrel
    by_cases hlt : k < 64
    · have hbit := bit_at x k h1
      have hlt2 : x / 2 ^ k % 2 < 2 := Nat.mod_lt _ (by omega)
      have Hs : Hid (popS (k + 1) x = popS k x + x / 2 ^ k % 2) := hide (popS_snoc k x)
      generalize x / 2 ^ k % 2 = t at *
      go_wp2
      refine ⟨⟨k + 1, by omega, by go_num, p + t, by go_num, by omega, hide (by rw [unhide Hs, unhide Hp])⟩, by simp [intOf]; omega⟩
    · have hk64 : k = 64 := by omega
      subst hk64
      go_wp2
      go_ret
      exact ⟨ret_int (by rw [unhide Hp]), rfl⟩

theorem log_step (x k : Nat) (hk : k < 64) : (x / 2 ^ k % 2 = 1 → Lib.bitLen (x % 2 ^ (k + 1)) = k + 1) ∧ (x / 2 ^ k % 2 = 0 → x % 2 ^ (k + 1) = x % 2 ^ k) := by
  have e := mod_succ_bit x k
  have hl : x % 2 ^ k < 2 ^ k := Nat.mod_lt _ (Nat.two_pow_pos k)
  refine ⟨fun h => ?_, fun h => ?_⟩
  · rw [h, Nat.mul_one] at e
    have h64 : (2 : Nat) ^ (k + 1) ≤ 2 ^ 64 := Nat.pow_le_pow_right (by omega) (by omega)
    have hlt : x % 2 ^ (k + 1) < 2 ^ (k + 1) := Nat.mod_lt _ (Nat.two_pow_pos _)
    have s := Lib.bitLen_shift k (x % 2 ^ (k + 1)) (by omega) (by omega)
    have d : x % 2 ^ (k + 1) / 2 ^ k = 1 := by
      rw [e, Nat.add_div_right _ (Nat.two_pow_pos k), Nat.div_eq_of_lt hl]
    rw [s, d]
    have : Lib.bitLen 1 = 1 := by decide
    omega
  · rw [e, h, Nat.mul_zero, Nat.add_zero]

set_option maxHeartbeats 400000 in
theorem reflog_nat (x : Nat) (w : World) (h1 : x < 18446744073709551616) :
    Calls Try.prog 30 #[.int .u64 x] w fun e w' => e = .returned (.int .i64 ((Lib.bitLen x : Int) - 1)) ∧ w' = w := by
  go_enter Try.func30, Try.ntmps30
  go_wp2
  go_loop [3, 4] (fun n i => ∃ k : Nat, k ≤ 64 ∧ i = .int .i64 k ∧ ∃ p : Int, n = .int .i64 p ∧ Hid (p = (Lib.bitLen (x % 2 ^ k) : Int) - 1)) (fun _ i => 64 - (intOf i).toNat)
  case atStart => exact ⟨0, by omega, rfl, -1, rfl, hide (by rw [Nat.pow_zero, Nat.mod_one]; decide)⟩
  case round =>
    obtain ⟨k, hk, rfl, p, rfl, Hp⟩ := hrel
    by_cases hlt : k < 64
    · have hbit := bit_at x k h1
      have hlt2 : x / 2 ^ k % 2 < 2 := Nat.mod_lt _ (by omega)
      obtain ⟨s1, s2⟩ := log_step x k hlt
      have S1 := hide s1
      have S2 := hide s2
      clear s1 s2
      generalize x / 2 ^ k % 2 = t at *
      by_cases ht : t = 1
      · subst ht
        go_wp2
        refine ⟨⟨k + 1, by omega, by go_num, k, by go_num, hide (by rw [unhide S1 rfl]; omega)⟩, by simp [intOf]; omega⟩
      · have ht0 : t = 0 := by omega
        subst ht0
        go_wp2
        refine ⟨⟨k + 1, by omega, by go_num, p, by go_num, hide (by rw [unhide S2 rfl]; exact unhide Hp)⟩, by simp [intOf]; omega⟩
    · have hk64 : k = 64 := by omega
      subst hk64
      go_wp2
      go_ret
      exact ⟨ret_int (by rw [unhide Hp, Nat.mod_eq_of_lt h1]), rfl⟩

theorem i64_bv (y : BitVec 64) : IntKind.i64.wrap (y.toNat : Int) = y.toInt := by
  rw [BitVec.toInt_eq_toNat_cond]
  have := y.isLt
  generalize y.toNat = n at *
  simp [IntKind.wrap, IntKind.bits, IntKind.signed]
  split <;> omega

theorem or_bv (a b : Int) : bits .or .i64 a b = (BitVec.ofInt 64 a ||| BitVec.ofInt 64 b).toInt := i64_bv _
theorem andNot_bv (a b : Int) : bits .andNot .i64 a b = (BitVec.ofInt 64 a &&& ~~~ BitVec.ofInt 64 b).toInt := i64_bv _

theorem two_bv (k : Nat) (h : k < 64) : BitVec.ofInt 64 (wrap64 (2 ^ k)) = BitVec.twoPow 64 k := by
  apply BitVec.eq_of_toNat_eq
  rw [BitVec.toNat_ofInt, BitVec.toNat_twoPow]
  have hp : ((2 : Int) ^ k) = ((2 ^ k : Nat) : Int) := by push_cast; rfl
  have hlt : (2 : Nat) ^ k < 2 ^ 64 := Nat.pow_lt_pow_right (by omega) h
  rw [hp, Nat.mod_eq_of_lt hlt]
  generalize (2 : Nat) ^ k = t at *
  unfold wrap64
  omega

/-- bit j of a number that is held in 64 bits -/
theorem bit_bv (v : Int) (j : Nat) (h : j < 64) : (BitVec.ofInt 64 v).getLsbD j = decide (v / 2 ^ j % 2 = 1) := by
  rw [BitVec.getLsbD, Nat.testBit_eq_decide_div_mod_eq, BitVec.toNat_ofInt]
  have hj := pow_pos' j
  obtain ⟨d, hd⟩ : ∃ d, 64 = j + (d + 1) := ⟨63 - j, by omega⟩
  have e64 : (2 : Int) ^ j * (2 ^ d * 2) = 18446744073709551616 := by
    rw [← Int.pow_succ, ← Int.pow_add, ← hd, pow64]
  have hv := Int.emod_add_mul_ediv v 18446744073709551616
  have h0 := Int.emod_nonneg v (show (18446744073709551616 : Int) ≠ 0 by omega)
  have h1 := Int.emod_lt_of_pos v (show (0 : Int) < 18446744073709551616 by omega)
  have hc : ((2 ^ 64 : Nat) : Int) = 18446744073709551616 := by decide
  rw [hc]
  generalize v % 18446744073709551616 = V at *
  generalize v / 18446744073709551616 = q at *
  obtain ⟨u, rfl⟩ := Int.eq_ofNat_of_zero_le h0
  have ev : v / 2 ^ j = u / 2 ^ j + (2 ^ d * q) * 2 := by
    rw [← hv, ← e64]
    have : ((u : Int) + 2 ^ j * (2 ^ d * 2) * q) = u + 2 ^ j * ((2 ^ d * q) * 2) := by
      rw [Int.mul_assoc, Int.mul_assoc, Int.mul_assoc, Int.mul_comm 2 q]
    rw [this, Int.add_mul_ediv_left _ _ (by omega)]
  rw [ev, Int.toNat_natCast]
  have hp : ((2 : Int) ^ j) = ((2 ^ j : Nat) : Int) := by push_cast; rfl
  rw [hp, ← Int.natCast_ediv]
  generalize u / 2 ^ j = t
  generalize 2 ^ d * q = g
  apply Bool.eq_iff_iff.2
  simp
  omega

theorem signed_bv (v : Int) (n : Nat) (hn : 1 ≤ n) (hn2 : n ≤ 64) (x : BitVec 64) (hx : ∀ i, i < 64 → x.getLsbD i = if n ≤ i then (BitVec.ofInt 64 v).getLsbD (n - 1) else (BitVec.ofInt 64 v).getLsbD i) :
    x.toInt = narrowS v n := by
  have e : x = ((BitVec.ofInt 64 v).setWidth n).signExtend 64 := by
    apply BitVec.eq_of_getLsbD_eq
    intro i hi
    rw [hx i hi, BitVec.getLsbD_signExtend, BitVec.msb_eq_getLsbD_last, BitVec.getLsbD_setWidth, BitVec.getLsbD_setWidth]
    by_cases h : n ≤ i
    · rw [if_pos h, if_neg (by omega)]
      simp [hi, show n - 1 < n by omega]
    · rw [if_neg h, if_pos (by omega)]
      simp [hi, show i < n by omega]
  rw [e, BitVec.toInt_signExtend_of_le hn2, BitVec.toInt_eq_toNat_cond, BitVec.toNat_setWidth, BitVec.toNat_ofInt]
  have hc : ((2 ^ 64 : Nat) : Int) = 18446744073709551616 := by decide
  rw [hc]
  have hp := pow_half n hn
  have hq : ((2 : Int) ^ n) = ((2 ^ n : Nat) : Int) := by push_cast; rfl
  have hd : (2 : Int) ^ n ∣ 18446744073709551616 := by
    obtain ⟨k, hk⟩ := Nat.exists_eq_add_of_le hn2
    rw [← pow64, hk, Int.pow_add]; exact Int.dvd_mul_right _ _
  have er : v % 18446744073709551616 % 2 ^ n = v % 2 ^ n := Int.emod_emod_of_dvd v hd
  have h0 := Int.emod_nonneg v (show (18446744073709551616 : Int) ≠ 0 by omega)
  generalize v % 18446744073709551616 = V at *
  obtain ⟨u, rfl⟩ := Int.eq_ofNat_of_zero_le h0
  rw [Int.toNat_natCast]
  have er2 : v % 2 ^ n = ((u % 2 ^ n : Nat) : Int) := by rw [← er, hq]; rfl
  unfold narrowS
  rw [er2, hp]
  rw [hq] at hp
  generalize u % 2 ^ n = r at *
  split <;> split <;> omega

theorem sign_bit (v : Int) (j : Nat) (h : j < 64) : (bits .and .i64 (v / 2 ^ j) 1 == 1) = (BitVec.ofInt 64 v).getLsbD j := by
  have e : bits .and .i64 (v / 2 ^ j) 1 = (BitVec.ofInt 64 (v / 2 ^ j) &&& BitVec.ofInt 64 1).toInt := i64_bv _
  rw [bit_bv v j h, e]
  generalize v / 2 ^ j = y
  rw [← i64_bv, BitVec.toNat_and, BitVec.toNat_ofInt, show (BitVec.ofInt 64 1).toNat = 1 by decide, nat_mask1]
  have hc : ((2 ^ 64 : Nat) : Int) = 18446744073709551616 := by decide
  rw [hc]
  have h0 := Int.emod_nonneg y (show (18446744073709551616 : Int) ≠ 0 by omega)
  have h2 : ((y % 18446744073709551616).toNat % 2 : Nat) = (y % 2).toNat := by omega
  rw [h2]
  have h3 : IntKind.i64.wrap ((y % 2).toNat : Int) = y % 2 := by
    generalize hr : y % 2 = r at *
    simp [IntKind.wrap, IntKind.bits, IntKind.signed]
    omega
  rw [h3]
  apply Bool.eq_iff_iff.2
  simp

theorem set_bv (x V : BitVec 64) (n k : Nat) (S : Bool) (hk : n ≤ k) (hk2 : k < 64) (h : ∀ i, i < 64 → x.getLsbD i = if n ≤ i ∧ i < k then S else V.getLsbD i) :
    (S = true → ∀ i, i < 64 → (x ||| BitVec.twoPow 64 k).getLsbD i = if n ≤ i ∧ i < k + 1 then S else V.getLsbD i) ∧ (S = false → ∀ i, i < 64 → (x &&& ~~~ BitVec.twoPow 64 k).getLsbD i = if n ≤ i ∧ i < k + 1 then S else V.getLsbD i) := by
  refine ⟨fun hS i hi => ?_, fun hS i hi => ?_⟩
  · rw [BitVec.getLsbD_or, h i hi, BitVec.getLsbD_twoPow]
    by_cases e : i = k
    · subst e
      rw [if_neg (by omega), if_pos (by omega), hS]
      simp [hk2]
    · by_cases c : n ≤ i ∧ i < k
      · rw [if_pos c, if_pos (by omega), hS]; simp
      · rw [if_neg c, if_neg (by omega)]
        simp [show ¬ k = i by omega]
  · rw [BitVec.getLsbD_and, BitVec.getLsbD_not, h i hi, BitVec.getLsbD_twoPow]
    by_cases e : i = k
    · subst e
      rw [if_neg (by omega), if_pos (by omega), hS]
      simp [hk2]
    · by_cases c : n ≤ i ∧ i < k
      · rw [if_pos c, if_pos (by omega), hS]; simp
      · rw [if_neg c, if_neg (by omega)]
        simp [hi, show ¬ k = i by omega]

theorem self_bv (v : Int) (h0 : -9223372036854775808 ≤ v) (h1 : v < 9223372036854775808) : (BitVec.ofInt 64 v).toInt = v := by
  rw [← i64_bv, BitVec.toNat_ofInt, IntKind.wrap_i64]
  have hc : ((2 ^ 64 : Nat) : Int) = 18446744073709551616 := by decide
  rw [hc]
  omega

set_option maxHeartbeats 1000000 in
theorem refnarrow_in (v : Int) (n : Nat) (w : World) (h1 : 1 ≤ n) (h2 : n ≤ 64) (hv0 : -9223372036854775808 ≤ v) (hv1 : v < 9223372036854775808) :
    Calls Try.prog 24 #[.int .i64 v, .int .i64 n] w fun e w' => e = .returned (.tuple #[.int .i64 (narrowS v n), .bool (narrowS v n == v)]) ∧ w' = w := by
  have hs := sign_bit v (n - 1) (by omega)
  have HB := hide (signed_bv v n h1 h2)
  have Hv := hide (self_bv v hv0 hv1)
  generalize BitVec.ofInt 64 v = V at *
  generalize V.getLsbD (n - 1) = S at *
  go_enter Try.func24, Try.ntmps24
  go_wp2
  go_loop [6, 8] (fun s i => ∃ k : Nat, n ≤ k ∧ k ≤ 64 ∧ i = .int .i64 k ∧ ∃ x : BitVec 64, s = .int .i64 x.toInt ∧ Hid (∀ i, i < 64 → x.getLsbD i = if n ≤ i ∧ i < k then S else V.getLsbD i)) (fun _ i => 64 - (intOf i).toNat)
  case atStart => exact ⟨n, Nat.le_refl _, h2, rfl, V, by rw [unhide Hv], hide (fun i hi => by rw [if_neg (by omega)])⟩
  case round =>
    obtain ⟨k, hk, hk2, rfl, x, rfl, hx⟩ := hrel
    by_cases hlt : k < 64
    · obtain ⟨g1, g2⟩ := set_bv x V n k S hk hlt (unhide hx)
      obtain ⟨y1, o1, G1⟩ : ∃ y : BitVec 64, bits .or .i64 x.toInt (wrap64 (2 ^ k)) = y.toInt ∧ Hid (S = true → ∀ i, i < 64 → y.getLsbD i = if n ≤ i ∧ i < k + 1 then S else V.getLsbD i) :=
        ⟨x ||| BitVec.twoPow 64 k, by rw [or_bv, two_bv k hlt, BitVec.ofInt_toInt], hide g1⟩
      obtain ⟨y2, o2, G2⟩ : ∃ y : BitVec 64, bits .andNot .i64 x.toInt (wrap64 (2 ^ k)) = y.toInt ∧ Hid (S = false → ∀ i, i < 64 → y.getLsbD i = if n ≤ i ∧ i < k + 1 then S else V.getLsbD i) :=
        ⟨x &&& ~~~ BitVec.twoPow 64 k, by rw [andNot_bv, two_bv k hlt, BitVec.ofInt_toInt], hide g2⟩
      clear g1 g2
      cases S with
      | true =>
        go_wp2
        exact ⟨⟨k + 1, by omega, by omega, by go_num, y1, rfl, hide (unhide G1 rfl)⟩, by simp [intOf]; omega⟩
      | false =>
        go_wp2
        exact ⟨⟨k + 1, by omega, by omega, by go_num, y2, rfl, hide (unhide G2 rfl)⟩, by simp [intOf]; omega⟩
    · have hk64 : k = 64 := by omega
      subst hk64
      have hfin : x.toInt = narrowS v n := unhide HB x (fun i hi => by
        rw [unhide hx i hi]
        by_cases c : n ≤ i
        · rw [if_pos ⟨c, hi⟩, if_pos c]
        · rw [if_neg (by omega), if_neg c])
      rw [hfin]
      clear hfin
      go_wp2
      go_ret2
      exact ⟨rfl, rfl⟩

set_option maxHeartbeats 400000 in
theorem refnarrow_out (v b : Int) (w : World) (h : ¬ (1 ≤ b ∧ b ≤ 64)) :
    Calls Try.prog 24 #[.int .i64 v, .int .i64 b] w fun e w' => e = .returned (.tuple #[.int .i64 0, .bool false]) ∧ w' = w := by
  by_cases h1 : b < 1
  · go_enter Try.func24, Try.ntmps24
    go_wp2
    go_ret2
    exact ⟨rfl, rfl⟩
  · have h2 : 64 < b := by omega
    go_enter Try.func24, Try.ntmps24
    go_wp2
    go_ret2
    exact ⟨rfl, rfl⟩

theorem refnarrow_any (v b : Int) (w : World) (hv0 : -9223372036854775808 ≤ v) (hv1 : v < 9223372036854775808) :
    Calls Try.prog 24 #[.int .i64 v, .int .i64 b] w fun e w' => e = .returned (.tuple #[.int .i64 (narrowOut v b).1, .bool (narrowOut v b).2]) ∧ w' = w := by
  by_cases h : 1 ≤ b ∧ b ≤ 64
  · obtain ⟨n, rfl⟩ := Int.eq_ofNat_of_zero_le (show 0 ≤ b by omega)
    have e : narrowOut v n = (narrowS v n, narrowS v n == v) := by unfold narrowOut; rw [if_pos h]; rfl
    rw [e]
    exact refnarrow_in v n w (by omega) (by omega) hv0 hv1
  · have e : narrowOut v b = (0, false) := by unfold narrowOut; rw [if_neg h]
    rw [e]
    exact refnarrow_out v b w h
end Go.Proofs.Ytlecflgapaahgaa
