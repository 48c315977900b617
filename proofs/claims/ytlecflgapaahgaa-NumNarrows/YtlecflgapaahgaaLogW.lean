/- The highest bit that is set: what the library's length answers, and package num's Log. -/
import Derived.Test.YtlecflgapaahgaaBase
import Derived.Lib.BitFns
namespace Go.Proofs.Ytlecflgapaahgaa
open Go.RowKit
set_option linter.unusedVariables false

theorem tab_at (n : Nat) (h : n < Lib.len8tab.size) : ((Lib.len8tab[n]'h).toNat : Int) = Lib.bitLen n ∧ Lib.bitLen n ≤ 8 := by
  have h2 : n < 256 := by rw [Lib.len8tab_size] at h; exact h
  have e := Lib.len8_eq ⟨n, h2⟩
  have l := Lib.bitLen_le8 ⟨n, h2⟩
  simp only at e l
  refine ⟨?_, l⟩
  rw [← e]
  simp [Lib.len8, ByteArray.getElem?_lt' _ _ h]

theorem len_way (x : Int) (K : Nat) (q : Int) (h0 : 0 ≤ x) (h1 : x < 18446744073709551616) (hK : K ≤ 63) (hq : q = x / 2 ^ K) (hlo : 2 ^ K ≤ x) (h : q.toNat < Lib.len8tab.size) :
    wrap64 ((K : Int) + wrap64 ((Lib.len8tab[q.toNat]'h).toNat : Int)) = Lib.bitLen x.toNat := by
  obtain ⟨e, l⟩ := tab_at q.toNat h
  rw [e]
  clear e
  obtain ⟨n, rfl⟩ := Int.eq_ofNat_of_zero_le h0
  have hp : ((2 : Int) ^ K) = ((2 ^ K : Nat) : Int) := by push_cast; rfl
  have hn : 2 ^ K ≤ n := by rw [hp] at hlo; omega
  have s := Lib.bitLen_shift K n hn (by omega)
  have eq : q.toNat = n / 2 ^ K := by
    rw [hq, hp, ← Int.natCast_ediv, Int.toNat_natCast]
  rw [eq] at l ⊢
  rw [Int.toNat_natCast, s]
  generalize Lib.bitLen (n / 2 ^ K) = t at *
  clear s hn hq hlo h eq hp
  unfold wrap64
  omega

theorem len_low (x : Int) (h0 : 0 ≤ x) (h : x.toNat < Lib.len8tab.size) : wrap64 (wrap64 ((Lib.len8tab[x.toNat]'h).toNat : Int)) = Lib.bitLen x.toNat := by
  obtain ⟨e, l⟩ := tab_at x.toNat h
  rw [e]
  unfold wrap64
  omega

theorem bitLen_le : ∀ (n x : Nat), n ≤ 64 → x < 2 ^ n → Lib.bitLen x ≤ n
  | 0, x, _, h => by
    have : x = 0 := by simpa using h
    subst this; decide
  | n + 1, x, hn, h => by
    by_cases h0 : x = 0
    · subst h0
      have : Lib.bitLen 0 = 0 := by decide
      omega
    · have h64 : x < 2 ^ 64 := Nat.lt_of_lt_of_le h (Nat.pow_le_pow_right (by omega) hn)
      have := bitLen_le n (x / 2) (by omega) (by rw [Nat.pow_succ] at h; omega)
      rw [Lib.bitLen_half x h0 h64]
      omega

set_option maxHeartbeats 1000000 in
set_option maxRecDepth 100000 in
theorem len_walk (x : Int) (w : World) (h0 : 0 ≤ x) (h1 : x < 18446744073709551616) :
    Calls Try.prog 39 #[.int .u64 x] w fun e w' => e = .returned (.int .i64 (Lib.bitLen x.toNat)) ∧ w' = w := by
  go_enter Try.func39, Try.ntmps39
  go_wp2
  all_goals first
    | (rename_i h; exfalso; rw [Lib.len8tab_size] at h; omega)
    | skip
  all_goals (go_ret; refine ⟨ret_int ?_, rfl⟩)
  all_goals first
    | exact len_low x h0 _
    | exact len_way x 56 _ h0 h1 (by omega) (by omega) (by omega) _
    | exact len_way x 48 _ h0 h1 (by omega) (by omega) (by omega) _
    | exact len_way x 40 _ h0 h1 (by omega) (by omega) (by omega) _
    | exact len_way x 32 _ h0 h1 (by omega) (by omega) (by omega) _
    | exact len_way x 24 _ h0 h1 (by omega) (by omega) (by omega) _
    | exact len_way x 16 _ h0 h1 (by omega) (by omega) (by omega) _
    | exact len_way x 8 _ h0 h1 (by omega) (by omega) (by omega) _

set_option maxHeartbeats 400000 in
theorem log_walk (x : Int) (w : World) (h0 : 0 ≤ x) (h1 : x < 18446744073709551616) :
    Calls Try.prog 29 #[.int .u64 x] w fun e w' => e = .returned (.int .i64 ((Lib.bitLen x.toNat : Int) - 1)) ∧ w' = w := by
  have hb := bitLen_le 64 x.toNat (Nat.le_refl _) (by omega)
  go_enter Try.func29, Try.ntmps29
  go_wp2_with fail
  refine (len_walk x _ h0 h1).mono ?_
  rintro e w' ⟨rfl, hw'⟩
  subst hw'
  go_wp2
  go_ret
  exact ⟨rfl, rfl⟩
end Go.Proofs.Ytlecflgapaahgaa
