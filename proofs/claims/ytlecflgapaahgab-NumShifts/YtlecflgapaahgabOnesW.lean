/- How many bits are set: what the library's count answers, and package num's. -/
import Derived.Test.YtlecflgapaahgabBase
import Derived.Test.YtlecflgapaahgabOnesP
import Derived.Test.YtlecflgapaahgabBitsP
namespace Go.Proofs.Ytlecflgapaahgab
open Go.RowKit
set_option linter.unusedVariables false

theorem i64_mask (n : Nat) (h : n < 9223372036854775808) : bits .and .i64 (wrap64 (n : Int)) 127 = ((n % 128 : Nat) : Int) := by
  have e : wrap64 (n : Int) = n := by unfold wrap64; omega
  have e1 : (BitVec.ofInt 64 (n : Int)).toNat = n := ofInt_u64 n (by omega)
  have e2 : (BitVec.ofInt 64 (127 : Int)).toNat = 127 := by decide
  have e3 : (BitVec.ofInt 64 (n : Int) &&& BitVec.ofInt 64 (127 : Int)).toNat = n % 128 := by
    rw [BitVec.toNat_and, e1, e2]; exact Nat.and_two_pow_sub_one_eq_mod n 7
  rw [e]
  show IntKind.i64.wrap ((BitVec.ofInt 64 (n : Int) &&& BitVec.ofInt 64 (127 : Int)).toNat : Int) = _
  rw [e3]
  simp [IntKind.wrap, IntKind.bits, IntKind.signed]
  omega

theorem ones_form (x : Nat) (h : x < 18446744073709551616) :
    ∀ A B C Z U V : Int, A = IntKind.u64.wrap (bits .and .u64 ((x : Int) / 2) 6148914691236517205 + bits .and .u64 (x : Int) 6148914691236517205) →
      B = IntKind.u64.wrap (bits .and .u64 (A / 4) 3689348814741910323 + bits .and .u64 A 3689348814741910323) → C = bits .and .u64 (IntKind.u64.wrap (B / 16 + B)) 1085102592571150095 →
      Z = IntKind.u64.wrap (C + C / 256) → U = IntKind.u64.wrap (Z + Z / 65536) → V = IntKind.u64.wrap (U + U / 4294967296) → bits .and .i64 (wrap64 V) 127 = (popS 64 x : Int) := by
  intro A B C Z U V hA hB hC hZ hU hV
  obtain ⟨p, la, lb, lb2, lc, lz, lu, lv⟩ := ones_of x _ _ _ _ _ _ h rfl rfl rfl rfl rfl rfl
  have k1 : bits .and .u64 ((x : Int) / 2) 6148914691236517205 = ((x / 2 &&& 6148914691236517205 : Nat) : Int) := by
    exact and_as _ _ (x / 2) 6148914691236517205 (by omega) (by omega) (by omega) (by omega)
  have k2 : bits .and .u64 (x : Int) 6148914691236517205 = ((x &&& 6148914691236517205 : Nat) : Int) := by
    exact and_as _ _ x 6148914691236517205 (by omega) (by omega) (by omega) (by omega)
  rw [k1, k2, wrap_add _ _ la] at hA
  generalize (x / 2 &&& 6148914691236517205) + (x &&& 6148914691236517205) = a at *
  subst hA
  have k3 : bits .and .u64 ((a : Int) / 4) 3689348814741910323 = ((a / 4 &&& 3689348814741910323 : Nat) : Int) := by
    exact and_as _ _ (a / 4) 3689348814741910323 (by omega) (by omega) (by omega) (by omega)
  have k4 : bits .and .u64 (a : Int) 3689348814741910323 = ((a &&& 3689348814741910323 : Nat) : Int) := by
    exact and_as _ _ a 3689348814741910323 (by omega) (by omega) (by omega) (by omega)
  rw [k3, k4, wrap_add _ _ lb] at hB
  generalize (a / 4 &&& 3689348814741910323) + (a &&& 3689348814741910323) = b at *
  subst hB
  have k5 : IntKind.u64.wrap ((b : Int) / 16 + b) = ((b / 16 + b : Nat) : Int) := wrap_as _ _ (by omega) lb2
  rw [k5] at hC
  have k6 : bits .and .u64 ((b / 16 + b : Nat) : Int) 1085102592571150095 = (((b / 16 + b) &&& 1085102592571150095 : Nat) : Int) := by
    exact and_as _ _ (b / 16 + b) 1085102592571150095 (by omega) (by omega) (by omega) (by omega)
  rw [k6] at hC
  generalize (b / 16 + b) &&& 1085102592571150095 = c at *
  subst hC
  have k7 : IntKind.u64.wrap ((c : Int) + c / 256) = ((c + c / 256 : Nat) : Int) := wrap_as _ _ (by omega) (by omega)
  rw [k7] at hZ
  generalize c + c / 256 = z at *
  subst hZ
  have k8 : IntKind.u64.wrap ((z : Int) + z / 65536) = ((z + z / 65536 : Nat) : Int) := wrap_as _ _ (by omega) (by omega)
  rw [k8] at hU
  generalize z + z / 65536 = u at *
  subst hU
  have k9 : IntKind.u64.wrap ((u : Int) + u / 4294967296) = ((u + u / 4294967296 : Nat) : Int) := wrap_as _ _ (by omega) (by omega)
  rw [k9] at hV
  generalize u + u / 4294967296 = v at *
  subst hV
  rw [i64_mask v (by omega), p]

set_option maxHeartbeats 400000 in
theorem ones64_walk (x : Nat) (w : World) (h1 : x < 18446744073709551616) :
    Calls Try.prog 14 #[.int .u64 x] w fun e w' => e = .returned (.int .i64 (popS 64 x)) ∧ w' = w := by
  have Hf := hide (ones_form x h1 _ _ _ _ _ _ rfl rfl rfl rfl rfl rfl)
  go_enter Try.func14, Try.ntmps14
  go_wp2
  go_ret
  exact ⟨ret_int (unhide Hf), rfl⟩

set_option maxHeartbeats 400000 in
theorem ones_nat (x : Nat) (w : World) (h1 : x < 18446744073709551616) :
    Calls Try.prog 7 #[.int .u64 x] w fun e w' => e = .returned (.int .i64 (popS 64 x)) ∧ w' = w := by
  go_enter Try.func7, Try.ntmps7
  go_wp2_with fail
  refine (ones64_walk x _ h1).mono ?_
  rintro e w' ⟨rfl, hw'⟩
  subst hw'
  go_wp2
  go_ret
  exact ⟨rfl, rfl⟩

theorem ones_walk (x : Int) (w : World) (h0 : 0 ≤ x) (h1 : x < 18446744073709551616) :
    Calls Try.prog 7 #[.int .u64 x] w fun e w' => e = .returned (.int .i64 (popS 64 x.toNat)) ∧ w' = w := by
  obtain ⟨n, rfl⟩ := Int.eq_ofNat_of_zero_le h0
  exact ones_nat n w (by omega)
end Go.Proofs.Ytlecflgapaahgab
