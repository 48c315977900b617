/- Plain facts on numbers as bytes, seven bits each: what a number's bytes are, what bytes begin with, and that both fit. Nothing of the program is named here. -/
import Derived.WalkKit
import Derived.Laws.BitsAllLaws
import Derived.Laws.Bits64
import Derived.Laws.Wrap64
namespace Go.Proofs.Ytombpfpfeebnpaa
set_option linter.unusedVariables false

/-- the bytes of a number: so many at most -/
def numF : Nat → Nat → List Int
  | 0, _ => []
  | f + 1, v => if v < 128 then [(v : Int)] else ((v % 128 + 128 : Nat) : Int) :: numF f (v / 128)
theorem numF_more : ∀ (f g v : Nat), v < f → v < g → numF f v = numF g v
  | 0, _, _, h, _ => by omega
  | _ + 1, 0, _, _, h => by omega
  | f + 1, g + 1, v, h, k => by
    unfold numF
    split
    · rfl
    · rw [numF_more f g (v / 128) (by omega) (by omega)]
/-- the bytes of a number -/
def numB (v : Nat) : List Int := numF (v + 1) v

theorem numB_low {v : Nat} (h : v < 128) : numB v = [(v : Int)] := by unfold numB numF; rw [if_pos h]
theorem numB_high {v : Nat} (h : 128 ≤ v) : numB v = ((v % 128 + 128 : Nat) : Int) :: numB (v / 128) := by
  have e : numB v = ((v % 128 + 128 : Nat) : Int) :: numF v (v / 128) := by unfold numB; rw [numF, if_neg (by omega)]
  rw [e, numF_more v (v / 128 + 1) (v / 128) (by omega) (by omega)]; rfl

def Bytes (xs : List Int) : Prop := ∀ x ∈ xs, 0 ≤ x ∧ x < 256

theorem numB_bytes : ∀ v : Nat, Bytes (numB v) := by
  intro v
  induction v using Nat.strongRecOn with
  | ind v ih =>
    by_cases h : v < 128
    · rw [numB_low h]; intro x hx; simp at hx; omega
    · rw [numB_high (by omega)]
      intro x hx
      rcases List.mem_cons.1 hx with rfl | hx
      · omega
      · exact ih (v / 128) (by omega) x hx

theorem numB_pos : ∀ v : Nat, 1 ≤ (numB v).length := by
  intro v
  by_cases h : v < 128
  · rw [numB_low h]; simp
  · rw [numB_high (by omega)]; simp

theorem numB_len : ∀ (k v : Nat), v < 128 ^ (k + 1) → (numB v).length ≤ k + 1
  | 0, v, h => by rw [numB_low (by simpa using h)]; simp
  | k + 1, v, h => by
    by_cases hv : v < 128
    · rw [numB_low hv]; simp
    · rw [numB_high (by omega), List.length_cons]
      have := numB_len k (v / 128) (by rw [Nat.div_lt_iff_lt_mul (by omega), ← Nat.pow_succ]; exact h)
      omega
theorem numB_ten (v : Nat) (h : v < 18446744073709551616) : (numB v).length ≤ 10 := numB_len 9 v (by omega)

theorem numB_mono : ∀ (b a : Nat), a ≤ b → (numB a).length ≤ (numB b).length := by
  intro b
  induction b using Nat.strongRecOn with
  | ind b ih =>
    intro a h
    by_cases ha : a < 128
    · rw [numB_low ha]; exact numB_pos b
    · rw [numB_high (show 128 ≤ a by omega), numB_high (show 128 ≤ b by omega)]
      have := ih (b / 128) (by omega) (a / 128) (Nat.div_le_div_right h)
      simp; omega

/-- what bytes begin with: the number, how many bytes it has, the fault's number; i bytes are behind already, which are v -/
def dec : Nat → Nat → List Int → Nat × Nat × Int
  | i, v, [] => (0, 0, 9)
  | i, v, x :: r =>
    if i = 9 ∧ 1 < x then (0, 0, 10)
    else if 128 ≤ x then dec (i + 1) (v + x.toNat % 128 * 128 ^ i) r
    else if x = 0 ∧ 0 < i then (0, 0, 10)
    else (v + x.toNat * 128 ^ i, i + 1, 0)

theorem pow9 : 128 ^ 9 = 9223372036854775808 := by decide
theorem pow_le9 {i : Nat} (h : i ≤ 9) : 128 ^ i ≤ 9223372036854775808 := by rw [← pow9]; exact Nat.pow_le_pow_right (by omega) h
theorem pow_le8 {i : Nat} (h : i ≤ 8) : 128 ^ i ≤ 72057594037927936 := by
  have : 128 ^ i ≤ 128 ^ 8 := Nat.pow_le_pow_right (by omega) h
  simpa using this
theorem pow_gt0 (i : Nat) : 0 < 128 ^ i := Nat.pow_pos (by omega)

theorem dec_num : ∀ (v i a : Nat) (r : List Int), i ≤ 9 → v * 128 ^ i < 18446744073709551616 → (0 < i → 0 < v) → dec i a (numB v ++ r) = (a + v * 128 ^ i, i + (numB v).length, 0) := by
  intro v
  induction v using Nat.strongRecOn with
  | ind v ih =>
    intro i a r hi hv hp
    by_cases h : v < 128
    · rw [numB_low h]
      show (if i = 9 ∧ (1 : Int) < (v : Int) then _ else _) = _
      rw [if_neg (by
        rintro ⟨rfl, h1⟩
        rw [pow9] at hv; omega), if_neg (by omega), if_neg (by
        rintro ⟨h1, h2⟩
        have := hp h2; omega)]
      simp
    · have hi9 : i ≠ 9 := by rintro rfl; rw [pow9] at hv; omega
      have hs : v / 128 * 128 ^ (i + 1) ≤ v * 128 ^ i := by
        rw [Nat.pow_succ, Nat.mul_comm (128 ^ i) 128, ← Nat.mul_assoc]
        exact Nat.mul_le_mul_right _ (by omega)
      rw [numB_high (by omega)]
      show (if i = 9 ∧ (1 : Int) < ((v % 128 + 128 : Nat) : Int) then _ else _) = _
      rw [if_neg (by omega), if_pos (by omega), show dec (i + 1) (a + ((v % 128 + 128 : Nat) : Int).toNat % 128 * 128 ^ i) (List.append (numB (v / 128)) r) = _ from ih (v / 128) (by omega) (i + 1) _ r (by omega) (by omega) (by omega)]
      have e1 : ((v % 128 + 128 : Nat) : Int).toNat % 128 = v % 128 := by omega
      have e2 : v % 128 * 128 ^ i + v / 128 * 128 ^ (i + 1) = v * 128 ^ i := by
        rw [Nat.pow_succ, Nat.mul_comm (128 ^ i) 128, ← Nat.mul_assoc, ← Nat.add_mul]
        congr 1; omega
      rw [e1, Nat.add_assoc, e2, List.length_cons]
      congr 2; omega

theorem dec_zero (v : Nat) (r : List Int) (h : v < 18446744073709551616) : dec 0 0 (numB v ++ r) = (v, (numB v).length, 0) := by
  rw [dec_num v 0 0 r (by omega) (by simpa using h) (by omega)]; simp

/-- bytes that are read are the number's own -/
theorem dec_form : ∀ (zs : List Int) (i a y n : Nat), Bytes zs → i ≤ 9 → dec i a zs = (y, n, 0) →
    ∃ u m, y = a + u * 128 ^ i ∧ n = i + m ∧ zs.take m = numB u ∧ (0 < i → 0 < u) ∧ u * 128 ^ i < 18446744073709551616 ∧ m ≤ zs.length ∧ 0 < m ∧ n ≤ 10
  | [], i, a, y, n, hb, hi, h => by simp [dec] at h
  | x :: r, i, a, y, n, hb, hi, h => by
    have hx := hb x (by simp)
    unfold dec at h
    split at h
    · simp at h
    rename_i h9
    split at h
    · rename_i h128
      obtain ⟨u, m, h1, h2, h3, h4, h5, h6, h7, h8⟩ := dec_form r (i + 1) _ y n (fun z hz => hb z (by simp [hz])) (by omega) h
      have hu := h4 (by omega)
      have e : x.toNat % 128 * 128 ^ i + u * 128 ^ (i + 1) = (x.toNat % 128 + 128 * u) * 128 ^ i := by
        rw [Nat.pow_succ, Nat.mul_comm (128 ^ i) 128, ← Nat.mul_assoc, ← Nat.add_mul, Nat.mul_comm u 128]
      refine ⟨x.toNat % 128 + 128 * u, m + 1, by rw [h1, Nat.add_assoc, e], by omega, ?_, by omega, ?_, by simp; omega, by omega, h8⟩
      · rw [List.take_succ_cons, numB_high (by omega), h3]
        congr 1
        · omega
        · congr 1; omega
      · rw [← e]
        have h10 := pow_le8 (show i ≤ 8 by omega)
        have hdiv : 128 ^ (i + 1) ∣ 18446744073709551616 ∨ i = 8 := by
          rcases Nat.lt_or_ge i 8 with hl | hl
          · left
            match i, hl with
            | 0, _ => decide
            | 1, _ => decide
            | 2, _ => decide
            | 3, _ => decide
            | 4, _ => decide
            | 5, _ => decide
            | 6, _ => decide
            | 7, _ => decide
          · right; omega
        have hlt : x.toNat % 128 * 128 ^ i < 128 ^ (i + 1) := by
          rw [Nat.pow_succ, Nat.mul_comm (128 ^ i) 128]
          exact Nat.mul_lt_mul_of_pos_right (by omega) (pow_gt0 i)
        have hd2 : 128 ^ (i + 1) ∣ 18446744073709551616 := by
          rcases hdiv with h | rfl
          · exact h
          · exact ⟨2, by decide⟩
        obtain ⟨q, hq⟩ := hd2
        rw [hq] at h5 ⊢
        have hp1 := pow_gt0 (i + 1)
        rw [Nat.mul_comm u] at h5 ⊢
        have hu2 : u < q := Nat.lt_of_mul_lt_mul_left h5
        have : 128 ^ (i + 1) * (u + 1) ≤ 128 ^ (i + 1) * q := Nat.mul_le_mul_left _ hu2
        rw [Nat.mul_add, Nat.mul_one] at this
        omega
    · rename_i h128
      split at h
      · simp at h
      rename_i h0
      simp only [Prod.mk.injEq] at h
      obtain ⟨rfl, rfl, _⟩ := h
      refine ⟨x.toNat, 1, rfl, rfl, ?_, by omega, ?_, by simp, by omega, by omega⟩
      · rw [numB_low (by omega)]; simp; omega
      · rcases Nat.lt_or_ge i 9 with hl | hl
        · have h10 := pow_le8 (show i ≤ 8 by omega)
          exact Nat.lt_of_le_of_lt (Nat.mul_le_mul (show x.toNat ≤ 127 by omega) h10) (by decide)
        · have h9' : i = 9 := by omega
          subst h9'
          rw [pow9]; omega

theorem dec_ok {zs : List Int} {y n : Nat} (hb : Bytes zs) (h : dec 0 0 zs = (y, n, 0)) : zs.take n = numB y ∧ y < 18446744073709551616 ∧ n ≤ zs.length ∧ 0 < n ∧ n ≤ 10 := by
  obtain ⟨u, m, h1, h2, h3, _, h5, h6, h7, h8⟩ := dec_form zs 0 0 y n hb (by omega) h
  simp at h1 h2 h5
  subst h1 h2
  exact ⟨h3, h5, h6, h7, h8⟩

/-- a fault leaves nothing else -/
theorem dec_fault : ∀ (zs : List Int) (i a : Nat), (dec i a zs).2.2 ≠ 0 → dec i a zs = (0, 0, (dec i a zs).2.2)
  | [], i, a, h => by simp [dec]
  | x :: r, i, a, h => by
    unfold dec at h ⊢
    split
    · rfl
    · rename_i h1
      rw [if_neg h1] at h
      split
      · rename_i h2
        rw [if_pos h2] at h
        exact dec_fault r _ _ h
      · rename_i h2
        rw [if_neg h2] at h
        split
        · rfl
        · rename_i h3
          rw [if_neg h3] at h
          simp at h

/-- a number without its last byte ends too early -/
theorem dec_cut : ∀ (v i a : Nat), v * 128 ^ i < 18446744073709551616 → i ≤ 9 → dec i a (numB v).dropLast = (0, 0, 9) := by
  intro v
  induction v using Nat.strongRecOn with
  | ind v ih =>
    intro i a hv hi
    by_cases h : v < 128
    · rw [numB_low h]; simp [dec]
    · have hi9 : i ≠ 9 := by rintro rfl; rw [pow9] at hv; omega
      have hs : v / 128 * 128 ^ (i + 1) ≤ v * 128 ^ i := by
        rw [Nat.pow_succ, Nat.mul_comm (128 ^ i) 128, ← Nat.mul_assoc]
        exact Nat.mul_le_mul_right _ (by omega)
      have hne : numB (v / 128) ≠ [] := by intro e; have := numB_pos (v / 128); rw [e] at this; simp at this
      rw [numB_high (by omega), List.dropLast_cons_of_ne_nil hne]
      show (if i = 9 ∧ (1 : Int) < ((v % 128 + 128 : Nat) : Int) then _ else _) = _
      rw [if_neg (by omega), if_pos (by omega)]
      exact ih (v / 128) (by omega) (i + 1) _ (by omega) (by omega)

/-- a number with a sign, as one without -/
def zig (v : Int) : Nat := if v < 0 then (-2 * v - 1).toNat else (2 * v).toNat
def unzig (v : Nat) : Int := if v % 2 = 1 then -((v / 2 : Nat) : Int) - 1 else ((v / 2 : Nat) : Int)
theorem unzig_zig (v : Int) : unzig (zig v) = v := by
  unfold zig unzig
  split <;> split <;> omega
theorem zig_lt {v : Int} (h0 : -9223372036854775808 ≤ v) (h1 : v ≤ 9223372036854775807) : zig v < 18446744073709551616 := by
  unfold zig; split <;> omega

/-- the reader's steps: what is answered, what is left, the fault -/
def numT (r : List Int) (e : Int) : Nat × List Int × Int :=
  if e ≠ 0 then (0, r, e) else if (dec 0 0 r).2.2 ≠ 0 then (0, r, (dec 0 0 r).2.2) else ((dec 0 0 r).1, r.drop (dec 0 0 r).2.1, 0)
def smallT (most : Nat) (r : List Int) (e : Int) : Nat × List Int × Int :=
  if e ≠ 0 then (0, r, e) else if (dec 0 0 r).2.2 ≠ 0 then (0, r, (dec 0 0 r).2.2) else if most < (dec 0 0 r).1 then (0, r, 10) else ((dec 0 0 r).1, r.drop (dec 0 0 r).2.1, 0)
def textT (most : Nat) (r : List Int) (e : Int) : List Int × List Int × Int :=
  if (smallT most r e).2.2 ≠ 0 then ([], r, (smallT most r e).2.2)
  else if (smallT most r e).2.1.length < (smallT most r e).1 then ([], r, 9)
  else ((smallT most r e).2.1.take (smallT most r e).1, (smallT most r e).2.1.drop (smallT most r e).1, 0)
def endT (r : List Int) (e : Int) : Int := if e ≠ 0 then e else if 0 < r.length then 10 else 0

end Go.Proofs.Ytombpfpfeebnpaa
