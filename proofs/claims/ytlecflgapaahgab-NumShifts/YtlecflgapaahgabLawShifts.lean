import Derived.Test.YtlecflgapaahgabAwakeW
import Derived.Test.YtlecflgapaahgabOnesW
import Derived.Test.YtlecflgapaahgabLogW
import Derived.Test.YtlecflgapaahgabNarrowW
namespace Go.Proofs.Ytlecflgapaahgab
open Go.RowKit
set_option linter.unusedVariables false

theorem wf_u64 {a : Int} (h : (Lit.int .u64 a).wf = true) : 0 ≤ a ∧ a < 18446744073709551616 := by
  simp [Lit.wf, IntKind.min, IntKind.max, IntKind.signed, IntKind.bits] at h
  omega

theorem ones_halves (x : Nat) (h : x < 18446744073709551616) : popS 64 x = popS 64 (x / 4294967296) + popS 64 (x % 4294967296) := by
  have a1 : popS 64 x = popS 32 x + popS 32 (x / 2 ^ 32) := popS_split 32 32 x
  have a2 : popS 64 (x / 4294967296) = popS 32 (x / 4294967296) + popS 32 (x / 4294967296 / 2 ^ 32) := popS_split 32 32 _
  have a3 : popS 64 (x % 4294967296) = popS 32 (x % 4294967296) + popS 32 (x % 4294967296 / 2 ^ 32) := popS_split 32 32 _
  have z1 : x / 4294967296 / 2 ^ 32 = 0 := by omega
  have z2 : x % 4294967296 / 2 ^ 32 = 0 := by omega
  have a4 : popS 32 (x % 4294967296) = popS 32 x := popS_mod 32 32 x (Nat.le_refl _)
  rw [a1, a2, a3, z1, z2, popS_zero, a4]
  show popS 32 x + popS 32 (x / 4294967296) = _
  omega

set_option maxHeartbeats 400000 in
theorem shifts_out (w : World) (x v m n : Int) (hx0 : 0 ≤ x) (hx1 : x < 18446744073709551616) (h : m < 1 ∨ n < m ∨ 64 < n) :
    Calls Try.prog 3 #[.int .u64 x, .int .i64 v, .int .i64 m, .int .i64 n] w fun e w' => e = .returned (.bool true) ∧ Below w.heap.size w w' := by
  have hand : bits .and .u64 x 4294967295 = x % 4294967296 := and_low32 x hx0 hx1
  have hm0 := Int.emod_nonneg x (show (4294967296 : Int) ≠ 0 by omega)
  have hm1 := Int.emod_lt_of_pos x (show (0 : Int) < 4294967296 by omega)
  have hsum : (popS 64 x.toNat : Int) = popS 64 (x / 4294967296).toNat + popS 64 (x % 4294967296).toNat := by
    obtain ⟨k, rfl⟩ := Int.eq_ofNat_of_zero_le hx0
    have := ones_halves k (by omega)
    have e1 : ((k : Int) / 4294967296).toNat = k / 4294967296 := by omega
    have e2 : ((k : Int) % 4294967296).toNat = k % 4294967296 := by omega
    rw [e1, e2, Int.toNat_natCast, this]
    omega
  have l1 := popS_le 64 (x / 4294967296).toNat
  have l2 := popS_le 64 (x % 4294967296).toNat
  have HS := hide hsum
  clear hsum
  by_cases h1 : m < 1
  · go_enter Try.func3, Try.ntmps3
    go_wp2_with fail
    refine (awake_walk w).mono ?_
    rintro e w1 ⟨rfl, hb1⟩
    go_wp2_with fail
    refine (awake_walk w1).mono ?_
    rintro e w2 ⟨rfl, hb2⟩
    go_wp2_with fail
    refine (ones_walk x _ hx0 hx1).mono ?_
    rintro e w3 ⟨rfl, hw3⟩
    subst hw3
    go_wp2_with fail
    refine (ones_walk (x / 4294967296) _ (by omega) (by omega)).mono ?_
    rintro e w3 ⟨rfl, hw3⟩
    subst hw3
    go_wp2_with fail
    refine (ones_walk (x % 4294967296) _ (by omega) (by omega)).mono ?_
    rintro e w3 ⟨rfl, hw3⟩
    subst hw3
    rw [unhide HS]
    generalize popS 64 (x / 4294967296).toNat = p at *
    generalize popS 64 (x % 4294967296).toNat = q at *
    go_wp2
    go_ret
    exact ⟨by simp, hb1.trans (hb2.mono hb1.size)⟩
  · by_cases h2 : n < m
    · go_enter Try.func3, Try.ntmps3
      go_wp2_with fail
      refine (awake_walk w).mono ?_
      rintro e w1 ⟨rfl, hb1⟩
      go_wp2_with fail
      refine (awake_walk w1).mono ?_
      rintro e w2 ⟨rfl, hb2⟩
      go_wp2_with fail
      refine (ones_walk x _ hx0 hx1).mono ?_
      rintro e w3 ⟨rfl, hw3⟩
      subst hw3
      go_wp2_with fail
      refine (ones_walk (x / 4294967296) _ (by omega) (by omega)).mono ?_
      rintro e w3 ⟨rfl, hw3⟩
      subst hw3
      go_wp2_with fail
      refine (ones_walk (x % 4294967296) _ (by omega) (by omega)).mono ?_
      rintro e w3 ⟨rfl, hw3⟩
      subst hw3
      rw [unhide HS]
      generalize popS 64 (x / 4294967296).toNat = p at *
      generalize popS 64 (x % 4294967296).toNat = q at *
      go_wp2
      go_ret
      exact ⟨by simp, hb1.trans (hb2.mono hb1.size)⟩
    · have h3 : 64 < n := by omega
      go_enter Try.func3, Try.ntmps3
      go_wp2_with fail
      refine (awake_walk w).mono ?_
      rintro e w1 ⟨rfl, hb1⟩
      go_wp2_with fail
      refine (awake_walk w1).mono ?_
      rintro e w2 ⟨rfl, hb2⟩
      go_wp2_with fail
      refine (ones_walk x _ hx0 hx1).mono ?_
      rintro e w3 ⟨rfl, hw3⟩
      subst hw3
      go_wp2_with fail
      refine (ones_walk (x / 4294967296) _ (by omega) (by omega)).mono ?_
      rintro e w3 ⟨rfl, hw3⟩
      subst hw3
      go_wp2_with fail
      refine (ones_walk (x % 4294967296) _ (by omega) (by omega)).mono ?_
      rintro e w3 ⟨rfl, hw3⟩
      subst hw3
      rw [unhide HS]
      generalize popS 64 (x / 4294967296).toNat = p at *
      generalize popS 64 (x % 4294967296).toNat = q at *
      go_wp2
      go_ret
      exact ⟨by simp, hb1.trans (hb2.mono hb1.size)⟩

theorem log_lt (x : Int) (n : Nat) (h0 : 0 ≤ x) (hn : 1 ≤ n) (hn2 : n ≤ 64) (h : x / 2 ^ (n - 1) / 2 = 0) : (Lib.bitLen x.toNat : Int) - 1 < n := by
  obtain ⟨k, rfl⟩ := Int.eq_ofNat_of_zero_le h0
  have hp := pow_half n hn
  have hq := pow_pos' (n - 1)
  have e1 : (k : Int) / 2 ^ (n - 1) / 2 = k / 2 ^ n := by
    rw [Int.ediv_ediv_of_nonneg (Int.le_of_lt hq), hp, Int.mul_comm]
  rw [e1] at h
  have h2 := (div_pow_zero (k : Int) n h0).1 h
  have h3 : k < 2 ^ n := by
    have e2 : ((2 : Int) ^ n) = ((2 ^ n : Nat) : Int) := by push_cast; rfl
    rw [e2] at h2; omega
  have := bitLen_le n k hn2 h3
  rw [Int.toNat_natCast]
  omega

set_option maxHeartbeats 1000000 in
theorem shifts_in (w : World) (x v : Int) (m n : Nat) (hx0 : 0 ≤ x) (hx1 : x < 18446744073709551616) (h1 : 1 ≤ m) (h2 : m ≤ n) (h3 : n ≤ 64) :
    Calls Try.prog 3 #[.int .u64 x, .int .i64 v, .int .i64 m, .int .i64 n] w fun e w' => e = .returned (.bool true) ∧ Below w.heap.size w w' := by
  obtain ⟨t1, t2, t3⟩ := narrowS_twice v m n h1 h2
  have T1 := hide t1
  have T2 := hide t2
  have T3 := hide t3
  have HL := hide (log_lt x n hx0 (by omega) h3)
  clear t1 t2 t3
  go_enter Try.func3, Try.ntmps3
  go_wp2_with fail
  refine (awake_walk w).mono ?_
  rintro e w1 ⟨rfl, hb1⟩
  go_wp2_with fail
  refine (narrow_in v n _ (by omega) h3).mono ?_
  rintro e w2 ⟨rfl, hw2⟩
  subst hw2
  go_wp2_with fail
  refine (narrow_in (narrowS v n) m _ h1 (by omega)).mono ?_
  rintro e w2 ⟨rfl, hw2⟩
  subst hw2
  rw [unhide T1]
  go_wp2_with fail
  refine (narrow_in v m _ h1 (by omega)).mono ?_
  rintro e w2 ⟨rfl, hw2⟩
  subst hw2
  go_wp2_with fail
  refine (narrow_in (narrowS v m) n _ (by omega) h3).mono ?_
  rintro e w2 ⟨rfl, hw2⟩
  subst hw2
  rw [unhide T2]
  have T3' := unhide T3
  clear T1 T2 T3
  generalize narrowS v n = a at *
  generalize narrowS v m = c at *
  have hcc : (c == c) = true := by simp
  by_cases hz : x / 2 ^ (n - 1) / 2 = 0
  · have hz' : (x / 2 ^ (n - 1) / 2 != 0) = false := by rw [hz]; rfl
    have hl := unhide HL hz
    clear HL hz
    by_cases hok : c = v
    · have ha := T3' hok
      subst ha
      subst hok
      clear T3'
      go_wp2_with fail
      refine (log_walk x _ hx0 hx1).mono ?_
      rintro e w2 ⟨rfl, hw2⟩
      subst hw2
      go_wp2
      go_ret
      exact ⟨rfl, hb1⟩
    · have hok' : (c == v) = false := by simp [hok]
      clear T3' hok
      go_wp2_with fail
      refine (log_walk x _ hx0 hx1).mono ?_
      rintro e w2 ⟨rfl, hw2⟩
      subst hw2
      go_wp2
      go_ret
      exact ⟨rfl, hb1⟩
  · have hz' : (x / 2 ^ (n - 1) / 2 != 0) = true := by rw [bne_iff_ne]; exact hz
    clear HL hz
    by_cases hok : c = v
    · have ha := T3' hok
      subst ha
      subst hok
      clear T3'
      go_wp2
      go_ret
      exact ⟨rfl, hb1⟩
    · have hok' : (c == v) = false := by simp [hok]
      clear T3' hok
      go_wp2
      go_ret
      exact ⟨rfl, hb1⟩

theorem NumShifts_law (w : World) (x : Int) (hx : (Lit.int .u64 x).wf = true) (v : Int) (hv : (Lit.int .i64 v).wf = true) (m : Int) (hm : (Lit.int .i64 m).wf = true) (n : Int) (hn : (Lit.int .i64 n).wf = true) :
    Calls Try.prog 3 #[.int .u64 x, .int .i64 v, .int .i64 m, .int .i64 n] w fun e w' => e = .returned (.bool true) ∧ Below w.heap.size w w' := by
  have hx' := wf_u64 hx
  by_cases h : m < 1 ∨ n < m ∨ 64 < n
  · exact shifts_out w x v m n hx'.1 hx'.2 h
  · obtain ⟨m', rfl⟩ := Int.eq_ofNat_of_zero_le (show 0 ≤ m by omega)
    obtain ⟨n', rfl⟩ := Int.eq_ofNat_of_zero_le (show 0 ≤ n by omega)
    exact shifts_in w x v m' n' hx'.1 hx'.2 (by omega) (by omega) (by omega)
end Go.Proofs.Ytlecflgapaahgab
