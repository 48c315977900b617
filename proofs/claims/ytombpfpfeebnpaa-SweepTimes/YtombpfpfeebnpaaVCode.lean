/- Numbers as bytes, and a reader that takes one: code's calls that slots lean on. -/
import Derived.Test.YtombpfpfeebnpaaPack2
namespace Go.Proofs.Ytombpfpfeebnpaa
open Go.RowKit
set_option linter.unusedVariables false

set_option maxRecDepth 100000 in
theorem byte_high (u : Nat) (h : 128 ≤ u) : bits .or .u8 ((u : Int) % 256) 128 = ((u % 128 + 128 : Nat) : Int) := by
  have e : (u : Int) % 256 = ((u % 256 : Nat) : Int) := by omega
  have h2 : u % 256 < 256 := Nat.mod_lt _ (by omega)
  rw [e, show (128 : Int) = ((128 : Nat) : Int) from rfl, u8_or_nat _ _ h2 (by omega)]
  have key : ∀ n : Fin 256, (n.val ||| 128) = n.val % 128 + 128 := by decide
  have := key ⟨u % 256, h2⟩
  simp only at this
  rw [this]
  omega
theorem byte_low (u : Nat) (h : u < 128) : (u : Int) % 256 = (u : Int) := by omega

theorem pow128 (k : Nat) : (2 : Int) ^ (7 * k) = ((128 ^ k : Nat) : Int) := by
  rw [Int.pow_mul]; push_cast; rfl

set_option maxRecDepth 100000 in
theorem seven (x : Int) (h0 : 0 ≤ x) (h1 : x < 256) : bits .andNot .u8 x 128 = ((x.toNat % 128 : Nat) : Int) := by
  obtain ⟨n, rfl⟩ := Int.eq_ofNat_of_zero_le h0
  rw [show (128 : Int) = ((128 : Nat) : Int) from rfl, u8_andNot_nat _ _ (by omega) (by omega)]
  have key : ∀ n : Fin 256, (n.val &&& (255 - 128)) = n.val % 128 := by decide
  have := key ⟨n, by omega⟩
  simp only at this
  rw [this]; simp

theorem or_more (v d k : Nat) (hk : k ≤ 9) (hv : v < 128 ^ k) (hd : d * 128 ^ k < 18446744073709551616) (hd7 : d < 128) :
    bits .or .u64 (v : Int) (IntKind.u64.wrap (IntKind.u64.wrap (d : Int) * 2 ^ (7 * k))) = ((v + d * 128 ^ k : Nat) : Int) := by
  have hp := pow_le9 hk
  have e : (d : Int) * 2 ^ (7 * k) = ((d * 128 ^ k : Nat) : Int) := by rw [pow128]; push_cast; rfl
  rw [show IntKind.u64.wrap (d : Int) = (d : Int) by rw [IntKind.wrap_u64]; omega, e, IntKind.wrap_u64, show (((d * 128 ^ k : Nat) : Int) % 18446744073709551616) = ((d * 128 ^ k : Nat) : Int) by omega, u64_or_nat _ _ (by omega) hd, Nat.or_comm]
  have hj := nat_join (7 * k) (d * 128 ^ k) v (by rw [show (128 : Nat) ^ k = 2 ^ (7 * k) by rw [Nat.pow_mul]]; exact Nat.mul_mod_left _ _) (by rw [Nat.pow_mul]; exact hv)
  rw [hj]; push_cast; omega

theorem more_lt (v d k : Nat) (hv : v < 128 ^ k) (hd : d < 128) : v + d * 128 ^ k < 128 ^ (k + 1) := by
  rw [Nat.pow_succ, Nat.mul_comm (128 ^ k) 128]
  have : d * 128 ^ k + 128 ^ k ≤ 128 * 128 ^ k := by
    rw [← Nat.succ_mul]; exact Nat.mul_le_mul_right _ (by omega)
  omega

theorem dec_step (k v : Nat) (x : Int) (r : List Int) (h9 : ¬ (k = 9 ∧ 1 < x)) (hx : 128 ≤ x) : dec k v (x :: r) = dec (k + 1) (v + x.toNat % 128 * 128 ^ k) r := by
  show (if _ then _ else _) = _
  rw [if_neg h9, if_pos hx]
theorem dec_big (k v : Nat) (x : Int) (r : List Int) (h9 : k = 9 ∧ 1 < x) : dec k v (x :: r) = (0, 0, 10) := by
  show (if _ then _ else _) = _
  rw [if_pos h9]
theorem dec_twice (k v : Nat) (x : Int) (r : List Int) (hx : x = 0) (hk : 0 < k) : dec k v (x :: r) = (0, 0, 10) := by
  show (if _ then _ else _) = _
  rw [if_neg (by omega), if_neg (by omega), if_pos ⟨hx, hk⟩]
theorem dec_last (k v : Nat) (x : Int) (r : List Int) (h9 : ¬ (k = 9 ∧ 1 < x)) (hx : x < 128) (h0 : ¬ (x = 0 ∧ 0 < k)) (hx0 : 0 ≤ x) : dec k v (x :: r) = (v + x.toNat % 128 * 128 ^ k, k + 1, 0) := by
  show (if _ then _ else _) = _
  rw [if_neg h9, if_neg (by omega), if_neg h0, show x.toNat % 128 = x.toNat by omega]

theorem digit_fits (k : Nat) (x : Int) (hk : k ≤ 9) (h9 : ¬ (k = 9 ∧ 1 < x)) (h0 : 0 ≤ x) (h1 : x < 256) : x.toNat % 128 * 128 ^ k < 18446744073709551616 := by
  rcases Nat.lt_or_ge k 9 with h | h
  · exact Nat.lt_of_le_of_lt (Nat.mul_le_mul (show x.toNat % 128 ≤ 127 by omega) (pow_le8 (show k ≤ 8 by omega))) (by decide)
  · obtain rfl : k = 9 := by omega
    rw [pow9]; omega

theorem ret3 {a b c a' b' c' : Int} (h : a = a') (h' : b = b') (h'' : c = c') : Ending.returned (.tuple #[.int .u64 a, .int .i64 b, .int .i64 c]) = .returned (.tuple #[.int .u64 a', .int .i64 b', .int .i64 c']) := by rw [h, h', h'']

def only (p : Nat) : Nat → Prop := fun k => k = p

theorem turn_set (w : World) (p j : Nat) (u : Value) : Turn (only p) w (w.setCell ⟨p, j, none⟩ u) := Turn.setCell (F := only p) (Turn.refl _ w) (p := ⟨p, j, none⟩) (.inl rfl) u
theorem dec_fault0 {zs : List Int} (h : (dec 0 0 zs).2.2 ≠ 0) : dec 0 0 zs = (0, 0, (dec 0 0 zs).2.2) := dec_fault zs 0 0 h

theorem smallT_e {m : Nat} {r : List Int} {e : Int} (h : e ≠ 0) : smallT m r e = (0, r, e) := by unfold smallT; rw [if_pos h]
theorem smallT_f {m : Nat} {r : List Int} {f : Int} (hd : dec 0 0 r = (0, 0, f)) (h : f ≠ 0) : smallT m r 0 = (0, r, f) := by
  unfold smallT; rw [if_neg (by simp), hd, if_pos h]
theorem smallT_m {m : Nat} {r : List Int} {v n : Nat} (hd : dec 0 0 r = (v, n, 0)) (h : m < v) : smallT m r 0 = (0, r, 10) := by
  unfold smallT; rw [if_neg (by simp), hd, if_neg (by simp), if_pos h]
theorem smallT_k {m : Nat} {r : List Int} {v n : Nat} (hd : dec 0 0 r = (v, n, 0)) (h : v ≤ m) : smallT m r 0 = (v, r.drop n, 0) := by
  unfold smallT; rw [if_neg (by simp), hd, if_neg (by simp), if_neg (show ¬ m < v by omega)]

def wide : Nat := 18446744073709551615
theorem smallT_le (m : Nat) (zs : List Int) (e : Int) : (smallT m zs e).1 ≤ m := by
  unfold smallT
  generalize dec 0 0 zs = D
  obtain ⟨v, n, f⟩ := D
  by_cases h1 : e ≠ 0
  · rw [if_pos h1]; exact Nat.zero_le _
  rw [if_neg h1]
  by_cases h2 : f ≠ 0
  · rw [if_pos h2]; exact Nat.zero_le _
  rw [if_neg h2]
  by_cases h3 : m < v
  · rw [if_pos h3]; exact Nat.zero_le _
  rw [if_neg h3]
  exact Nat.le_of_not_lt h3


def from_ (n : Nat) : Nat → Prop := fun b => n ≤ b
end Go.Proofs.Ytombpfpfeebnpaa
