/- Plain facts on numbers, bits and lists that the walks of layer 1 use: nothing of the program is named here. -/
import Derived.WalkKit
import Derived.Laws.BitsAllLaws
import Derived.Laws.Bits64
import Derived.Laws.Wrap64
namespace Go.Proofs.Ytlecflgapaahgab
set_option linter.unusedVariables false

/-- the sum of widths, from a sum on; none: not right -/
def totTo : List Int → Int → Option Int
  | [], s => some s
  | b :: r, s => if b < 1 ∨ 64 - s < b then none else totTo r (s + b)

/-- numbers laid one above the other; none: one does not fit -/
def packTo : List Int → List Int → Int → Int → Option Int
  | x :: xs, z :: zs, W, t => if x / 2 ^ z.toNat ≠ 0 then none else packTo xs zs (W + x * 2 ^ t.toNat) (t + z)
  | _, _, W, _ => some W

theorem pow64 : (2 : Int) ^ 64 = 18446744073709551616 := by decide
theorem pow_le64 (n : Nat) (h : n ≤ 64) : (2 : Int) ^ n ≤ 18446744073709551616 := by
  rw [← pow64]
  exact_mod_cast Nat.pow_le_pow_right (by omega) h
theorem pow_pos' (n : Nat) : (0 : Int) < 2 ^ n := by exact_mod_cast Nat.two_pow_pos n

theorem mul_pow_lt (x : Int) (t z : Nat) (hx : x < 2 ^ z) : x * 2 ^ t + 2 ^ t ≤ 2 ^ (t + z) := by
  have h1 : x + 1 ≤ 2 ^ z := hx
  have h2 := Int.mul_le_mul_of_nonneg_right h1 (Int.le_of_lt (pow_pos' t))
  rw [Int.add_mul, Int.one_mul, ← Int.pow_add, Nat.add_comm z t] at h2
  exact h2

theorem or_join (W x : Int) (t : Nat) (hW0 : 0 ≤ W) (hW : W < 2 ^ t) (hx0 : 0 ≤ x) (hx : x * 2 ^ t < 18446744073709551616) (hW1 : W < 18446744073709551616) :
    bits .or .u64 W (x * 2 ^ t) = W + x * 2 ^ t := by
  obtain ⟨n, rfl⟩ := Int.eq_ofNat_of_zero_le hW0
  obtain ⟨m, rfl⟩ := Int.eq_ofNat_of_zero_le hx0
  have e : ((m : Int) * 2 ^ t) = ((m * 2 ^ t : Nat) : Int) := by push_cast; rfl
  rw [e] at hx ⊢
  have hn : n < 2 ^ t := by exact_mod_cast hW
  rw [u64_or_nat n (m * 2 ^ t) (by omega) (by omega), Nat.or_comm, nat_join t (m * 2 ^ t) n (Nat.mul_mod_left _ _) hn]
  push_cast; omega

theorem or_step (W x : Int) (t z : Nat) (hW0 : 0 ≤ W) (hW : W < 2 ^ t) (hx0 : 0 ≤ x) (hx : x < 2 ^ z) (h : t + z ≤ 64) :
    bits .or .u64 W (IntKind.u64.wrap (x * 2 ^ t)) = W + x * 2 ^ t ∧ 0 ≤ W + x * 2 ^ t ∧ W + x * 2 ^ t < 2 ^ (t + z) := by
  have h1 := mul_pow_lt x t z hx
  have h2 := pow_le64 (t + z) h
  have h3 := pow_pos' t
  have h4 := Int.mul_nonneg hx0 (Int.le_of_lt h3)
  have e : IntKind.u64.wrap (x * 2 ^ t) = x * 2 ^ t := by rw [IntKind.wrap_u64]; omega
  refine ⟨?_, by omega, by omega⟩
  rw [e]
  exact or_join W x t hW0 hW hx0 (by omega) (by omega)

theorem div_pow_zero (x : Int) (z : Nat) (h0 : 0 ≤ x) : x / 2 ^ z = 0 ↔ x < 2 ^ z := by
  have hp := pow_pos' z
  constructor
  · intro h
    have h1 := Int.lt_mul_ediv_self_add (x := x) hp
    rw [h] at h1; omega
  · intro h
    exact Int.ediv_eq_zero_of_lt h0 h

/-- what right widths are -/
theorem totTo_some : ∀ (zs : List Int) (s t : Int), 0 ≤ s → s ≤ 64 → totTo zs s = some t → s + zs.length ≤ t ∧ t ≤ 64 := by
  intro zs
  induction zs with
  | nil => intro s t h0 h1 h; simp [totTo] at h; simp; omega
  | cons b r ih =>
    intro s t h0 h1 h
    unfold totTo at h
    split at h
    · cases h
    · have := ih (s + b) t (by omega) (by omega) h
      simp; omega

/-- the answer of Pack: the word, the error's number -/
def packOut : Option Int → Int × Int
  | none => (0, 8)
  | some W => (W, 0)
def packS (xs zs : List Int) : Int × Int :=
  if (totTo zs 0).isSome = true ∧ xs.length = zs.length then packOut (packTo xs zs 0 0) else (0, 1)

/-- the numbers of a word, by widths -/
def unTo : List Int → Int → List Int
  | [], _ => []
  | z :: zs, r => r % 2 ^ z.toNat :: unTo zs (r / 2 ^ z.toNat)

def unOut (w : Int) (zs : List Int) : Option Int → List Int × Int
  | none => ([], 1)
  | some T => if w / 2 ^ T.toNat = 0 then (unTo zs w, 0) else ([], 10)
/-- the answer of Unpack: the numbers, the error's number -/
def unpackS (w : Int) (zs : List Int) : List Int × Int := unOut w zs (totTo zs 0)

theorem unpackS_none (w : Int) (zs : List Int) (h : totTo zs 0 = none) : unpackS w zs = ([], 1) := by
  unfold unpackS; rw [h]; rfl
theorem unpackS_fit (w : Int) (zs : List Int) (T : Nat) (h : totTo zs 0 = some (T : Int)) (hw : w / 2 ^ T = 0) : unpackS w zs = (unTo zs w, 0) := by
  unfold unpackS; rw [h]
  show (if w / 2 ^ (T : Int).toNat = 0 then (unTo zs w, (0 : Int)) else ([], 10)) = _
  rw [if_pos (by simpa using hw)]
theorem unpackS_form (w : Int) (zs : List Int) (T : Nat) (h : totTo zs 0 = some (T : Int)) (hw : ¬ w / 2 ^ T = 0) : unpackS w zs = ([], 10) := by
  unfold unpackS; rw [h]
  show (if w / 2 ^ (T : Int).toNat = 0 then (unTo zs w, (0 : Int)) else ([], 10)) = _
  rw [if_neg (by simpa using hw)]

theorem unTo_length : ∀ (zs : List Int) (r : Int), (unTo zs r).length = zs.length
  | [], r => rfl
  | z :: zs, r => by simp [unTo, unTo_length zs]

theorem drop_cons (zs : List Int) (k : Nat) (h : k < zs.length) : zs.drop k = zs.getD k 0 :: zs.drop (k + 1) := by
  rw [List.drop_eq_getElem_cons h]; simp [h]
theorem getD_mem (zs : List Int) (k : Nat) (h : k < zs.length) : zs.getD k 0 ∈ zs := by
  simp [h]

/-- words: each from 0 to 2^64 - 1 -/
def Words (xs : List Int) : Prop := ∀ x ∈ xs, 0 ≤ x ∧ x < 18446744073709551616

end Go.Proofs.Ytlecflgapaahgab
