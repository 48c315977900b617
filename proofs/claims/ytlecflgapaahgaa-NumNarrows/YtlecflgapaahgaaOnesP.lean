/- Plain facts on counting bits: by ones, twos, fours within bytes, then over the bytes. Nothing of the program is named here. -/
import Derived.Test.YtlecflgapaahgaaPlain
namespace Go.Proofs.Ytlecflgapaahgaa
set_option linter.unusedVariables false

/-- how many of the lowest n bits are set -/
def popS : Nat → Nat → Nat
  | 0, _ => 0
  | n + 1, x => x % 2 + popS n (x / 2)

/-- f, byte by byte, of the lowest n bytes -/
def mapB (f : Nat → Nat) : Nat → Nat → Nat
  | 0, _ => 0
  | n + 1, x => f (x % 256) + 256 * mapB f n (x / 256)

/-- a byte n times over -/
def repB (m : Nat) : Nat → Nat
  | 0 => 0
  | n + 1 => m + 256 * repB m n

theorem repB_div (m n : Nat) (h : m < 256) : repB m (n + 1) / 256 = repB m n ∧ repB m (n + 1) % 256 = m := by
  have e : repB m (n + 1) = m + 256 * repB m n := rfl
  rw [e]; omega

theorem and_cons (x y : Nat) : x &&& y = (x % 256 &&& y % 256) + 256 * (x / 256 &&& y / 256) := by
  have h1 : (x &&& y) % 2 ^ 8 = x % 2 ^ 8 &&& y % 2 ^ 8 := Nat.and_mod_two_pow
  have h2 : (x &&& y) / 2 ^ 8 = x / 2 ^ 8 &&& y / 2 ^ 8 := by
    rw [← Nat.shiftRight_eq_div_pow, Nat.shiftRight_and_distrib, Nat.shiftRight_eq_div_pow, Nat.shiftRight_eq_div_pow]
  have e : (2 : Nat) ^ 8 = 256 := rfl
  rw [e] at h1 h2
  omega

def s1 (b : Nat) : Nat := (b / 2 &&& 85) + (b &&& 85)
def s2 (b : Nat) : Nat := (b / 4 &&& 51) + (b &&& 51)
def s3 (b : Nat) : Nat := (b / 16 + b) &&& 15

theorem s1_bit : ∀ b : Fin 256, ∀ t : Fin 2, ((b.val / 2 + 128 * t.val) &&& 85) = (b.val / 2 &&& 85) := by decide +kernel
theorem s2_bit : ∀ b : Fin 256, ∀ t : Fin 4, ((b.val / 4 + 64 * t.val) &&& 51) = (b.val / 4 &&& 51) := by decide +kernel
theorem s_bd : ∀ b : Fin 256, s1 b.val < 256 ∧ s2 (s1 b.val) < 256 ∧ s2 (s1 b.val) % 16 ≤ 4 ∧ s2 (s1 b.val) / 16 ≤ 4 ∧ s3 (s2 (s1 b.val)) = popS 8 b.val ∧ popS 8 b.val ≤ 8 := by decide +kernel

theorem step1 : ∀ (n x : Nat), (x / 2 &&& repB 85 n) + (x &&& repB 85 n) = mapB s1 n x
  | 0, x => by simp [repB, mapB]
  | n + 1, x => by
    have ih := step1 n (x / 256)
    have hr := repB_div 85 n (by omega)
    have hb := s1_bit ⟨x % 256, by omega⟩ ⟨x / 256 % 2, by omega⟩
    simp only at hb
    rw [and_cons (x / 2), and_cons x, hr.1, hr.2]
    have e1 : x / 2 % 256 = x % 256 / 2 + 128 * (x / 256 % 2) := by omega
    have e2 : x / 2 / 256 = x / 256 / 2 := by omega
    rw [e1, e2, hb]
    show _ = s1 (x % 256) + 256 * mapB s1 n (x / 256)
    rw [← ih]
    unfold s1
    omega

theorem step2 : ∀ (n x : Nat), (x / 4 &&& repB 51 n) + (x &&& repB 51 n) = mapB s2 n x
  | 0, x => by simp [repB, mapB]
  | n + 1, x => by
    have ih := step2 n (x / 256)
    have hr := repB_div 51 n (by omega)
    have hb := s2_bit ⟨x % 256, by omega⟩ ⟨x / 256 % 4, by omega⟩
    simp only at hb
    rw [and_cons (x / 4), and_cons x, hr.1, hr.2]
    have e1 : x / 4 % 256 = x % 256 / 4 + 64 * (x / 256 % 4) := by omega
    have e2 : x / 4 / 256 = x / 256 / 4 := by omega
    rw [e1, e2, hb]
    show _ = s2 (x % 256) + 256 * mapB s2 n (x / 256)
    rw [← ih]
    unfold s2
    omega

theorem mapB_mod (f : Nat → Nat) (n x : Nat) (h : ∀ b, b < 256 → f b < 256) : mapB f (n + 1) x % 256 = f (x % 256) ∧ mapB f (n + 1) x / 256 = mapB f n (x / 256) := by
  have := h (x % 256) (by omega)
  have e : mapB f (n + 1) x = f (x % 256) + 256 * mapB f n (x / 256) := rfl
  rw [e]
  omega

theorem mapB_comp (f g : Nat → Nat) (h : ∀ b, b < 256 → f b < 256) : ∀ (n x : Nat), mapB g n (mapB f n x) = mapB (fun b => g (f b)) n x
  | 0, x => rfl
  | n + 1, x => by
    have h1 := mapB_mod f n x h
    show g (mapB f (n + 1) x % 256) + 256 * mapB g n (mapB f (n + 1) x / 256) = g (f (x % 256)) + 256 * mapB (fun b => g (f b)) n (x / 256)
    rw [h1.1, h1.2, mapB_comp f g h n]

theorem mapB_congr (f g : Nat → Nat) (h : ∀ b, b < 256 → f b = g b) : ∀ (n x : Nat), mapB f n x = mapB g n x
  | 0, x => rfl
  | n + 1, x => by
    show f (x % 256) + 256 * mapB f n (x / 256) = g (x % 256) + 256 * mapB g n (x / 256)
    rw [h _ (by omega), mapB_congr f g h n]

/-- every byte's two halves are at most 4: adding the word shifted by 4 stays within each byte's lower half -/
theorem step3 (f : Nat → Nat) (h : ∀ b, b < 256 → f b < 256 ∧ f b % 16 ≤ 4 ∧ f b / 16 ≤ 4) : ∀ (n x : Nat), (mapB f n x / 16 + mapB f n x) &&& repB 15 n = mapB (fun b => s3 (f b)) n x
  | 0, x => by simp [repB, mapB]
  | n + 1, x => by
    have ih := step3 f h n (x / 256)
    have hr := repB_div 15 n (by omega)
    have hb := h (x % 256) (by omega)
    have h1 := mapB_mod f n x (fun b hb => (h b hb).1)
    generalize hy : mapB f (n + 1) x = y at *
    rw [and_cons, hr.1, hr.2]
    have hn : mapB f n (x / 256) % 16 ≤ 4 := by
      cases n with
      | zero => simp [mapB]
      | succ n =>
        have h2 := mapB_mod f n (x / 256) (fun b hb => (h b hb).1)
        have h3 := h (x / 256 % 256) (by omega)
        omega
    have e2 : (y / 16 + y) / 256 = mapB f n (x / 256) / 16 + mapB f n (x / 256) := by omega
    have e1 : (y / 16 + y) % 256 &&& 15 = s3 (f (x % 256)) := by
      unfold s3
      rw [Nat.and_two_pow_sub_one_eq_mod _ 4, Nat.and_two_pow_sub_one_eq_mod _ 4]
      omega
    rw [e1, e2, ih]
    rfl

theorem rep85 : repB 85 8 = 6148914691236517205 := by decide +kernel
theorem rep51 : repB 51 8 = 3689348814741910323 := by decide +kernel
theorem rep15 : repB 15 8 = 1085102592571150095 := by decide +kernel

theorem popS_split : ∀ (m n x : Nat), popS (m + n) x = popS m x + popS n (x / 2 ^ m)
  | 0, n, x => by simp [popS]
  | m + 1, n, x => by
    rw [Nat.add_right_comm]
    show x % 2 + popS (m + n) (x / 2) = (x % 2 + popS m (x / 2)) + popS n (x / 2 ^ (m + 1))
    rw [popS_split m n, Nat.div_div_eq_div_mul, Nat.pow_succ, Nat.mul_comm 2]
    omega

theorem popS_mod : ∀ (m k x : Nat), m ≤ k → popS m (x % 2 ^ k) = popS m x
  | 0, k, x, h => rfl
  | m + 1, 0, x, h => by omega
  | m + 1, k + 1, x, h => by
    show x % 2 ^ (k + 1) % 2 + popS m (x % 2 ^ (k + 1) / 2) = x % 2 + popS m (x / 2)
    have e1 : x % 2 ^ (k + 1) % 2 = x % 2 := by
      rw [Nat.pow_succ, Nat.mul_comm]
      exact Nat.mod_mul_right_mod x 2 (2 ^ k)
    have e2 : x % 2 ^ (k + 1) / 2 = x / 2 % 2 ^ k := by
      rw [Nat.pow_succ, Nat.mul_comm]
      exact Nat.mod_mul_right_div_self x 2 (2 ^ k)
    rw [e1, e2, popS_mod m k (x / 2) (by omega)]

theorem popS_le : ∀ (m x : Nat), popS m x ≤ m
  | 0, x => by simp [popS]
  | m + 1, x => by
    have := popS_le m (x / 2)
    unfold popS
    omega

theorem popS_snoc (k x : Nat) : popS (k + 1) x = popS k x + x / 2 ^ k % 2 := by
  rw [popS_split k 1 x]; simp [popS]

theorem popS_zero : ∀ (m : Nat), popS m 0 = 0
  | 0 => rfl
  | m + 1 => by simp [popS, popS_zero m]

/-- the sum of the bytes, by three shifts -/
theorem gather (p0 p1 p2 p3 p4 p5 p6 p7 y z u v : Nat) (h0 : p0 ≤ 8) (h1 : p1 ≤ 8) (h2 : p2 ≤ 8) (h3 : p3 ≤ 8) (h4 : p4 ≤ 8) (h5 : p5 ≤ 8) (h6 : p6 ≤ 8) (h7 : p7 ≤ 8)
    (hy : y = p0 + 256 * (p1 + 256 * (p2 + 256 * (p3 + 256 * (p4 + 256 * (p5 + 256 * (p6 + 256 * p7)))))))
    (hz : z = y + y / 256) (hu : u = z + z / 65536) (hv : v = u + u / 4294967296) : v % 128 = p0 + p1 + p2 + p3 + p4 + p5 + p6 + p7 ∧ z < 4611686018427387904 ∧ u < 4611686018427387904 ∧ v < 4611686018427387904 := by
  have ez : z = (p0 + p1) + 256 * ((p1 + p2) + 256 * ((p2 + p3) + 256 * ((p3 + p4) + 256 * ((p4 + p5) + 256 * ((p5 + p6) + 256 * ((p6 + p7) + 256 * p7)))))) := by omega
  have eu : u = (p0 + p1 + p2 + p3) + 256 * ((p1 + p2 + p3 + p4) + 256 * ((p2 + p3 + p4 + p5) + 256 * ((p3 + p4 + p5 + p6) + 256 * ((p4 + p5 + p6 + p7) + 256 * ((p5 + p6 + p7) + 256 * ((p6 + p7) + 256 * p7)))))) := by omega
  clear hz hy
  have eb : u / 4294967296 = (p4 + p5 + p6 + p7) + 256 * ((p5 + p6 + p7) + 256 * ((p6 + p7) + 256 * p7)) := by omega
  have ev : v = (p0 + p1 + p2 + p3 + p4 + p5 + p6 + p7) + 128 * (2 * ((p1 + p2 + p3 + p4 + p5 + p6 + p7) + 256 * ((p2 + p3 + p4 + p5 + p6 + p7) + 256 * ((p3 + p4 + p5 + p6 + p7) + 256 * ((p4 + p5 + p6 + p7) + 256 * ((p5 + p6 + p7) + 256 * ((p6 + p7) + 256 * p7))))))) := by
    rw [hv, eb, eu]; omega
  refine ⟨?_, ?_, ?_, ?_⟩
  · rw [ev, Nat.add_mul_mod_self_left, Nat.mod_eq_of_lt (by clear ev eb hv hu ez eu; omega)]
  · clear ev eb hv hu eu; omega
  · clear ev eb hv hu ez; omega
  · clear eb hv hu ez eu; omega

/-- the count of the set bits of a word, as it is reckoned -/
theorem ones_of (x a b c z u v : Nat) (hx : x < 18446744073709551616) (ha : a = (x / 2 &&& 6148914691236517205) + (x &&& 6148914691236517205)) (hb : b = (a / 4 &&& 3689348814741910323) + (a &&& 3689348814741910323))
    (hc : c = (b / 16 + b) &&& 1085102592571150095) (hz : z = c + c / 256) (hu : u = z + z / 65536) (hv : v = u + u / 4294967296) :
    v % 128 = popS 64 x ∧ a < 18446744073709551616 ∧ b < 18446744073709551616 ∧ b / 16 + b < 18446744073709551616 ∧ c < 18446744073709551616 ∧ z < 4611686018427387904 ∧ u < 4611686018427387904 ∧ v < 4611686018427387904 := by
  have f1 : ∀ b, b < 256 → s1 b < 256 := fun b hb => (s_bd ⟨b, hb⟩).1
  have ea : a = mapB s1 8 x := by rw [ha, ← rep85, step1]
  have eb : b = mapB (fun b => s2 (s1 b)) 8 x := by rw [hb, ← rep51, step2, ea, mapB_comp s1 s2 f1]
  have f2 : ∀ b, b < 256 → s2 (s1 b) < 256 ∧ s2 (s1 b) % 16 ≤ 4 ∧ s2 (s1 b) / 16 ≤ 4 := fun b hb => by
    have := s_bd ⟨b, hb⟩
    simp only at this
    exact ⟨this.2.1, this.2.2.1, this.2.2.2.1⟩
  have ec : c = mapB (popS 8) 8 x := by
    rw [hc, ← rep15, eb, step3 (fun b => s2 (s1 b)) f2]
    exact mapB_congr _ _ (fun b hb => (s_bd ⟨b, hb⟩).2.2.2.2.1) 8 x
  have lt8 : ∀ (f : Nat → Nat) (h : ∀ b, b < 256 → f b < 256) (n y : Nat), mapB f n y < 256 ^ n := by
    intro f h n
    induction n with
    | zero => intro y; simp [mapB]
    | succ n ih =>
      intro y
      have h1 := ih (y / 256)
      have h2 := h (y % 256) (by omega)
      show f (y % 256) + 256 * mapB f n (y / 256) < 256 ^ (n + 1)
      rw [Nat.pow_succ]
      omega
  have e8 : (256 : Nat) ^ 8 = 18446744073709551616 := by decide
  have la := lt8 s1 f1 8 x
  have lb := lt8 (fun b => s2 (s1 b)) (fun b hb => (f2 b hb).1) 8 x
  rw [e8, ← ea] at la
  rw [e8, ← eb] at lb
  have top : mapB (fun b => s2 (s1 b)) 8 x / 72057594037927936 / 16 ≤ 4 := by
    have g : ∀ b, b < 256 → s2 (s1 b) < 256 := fun b hb => (f2 b hb).1
    have k := f2 (x / 256 / 256 / 256 / 256 / 256 / 256 / 256 % 256) (by omega)
    have m1 : mapB (fun b => s2 (s1 b)) 8 x / 256 = mapB (fun b => s2 (s1 b)) 7 (x / 256) := (mapB_mod _ 7 x g).2
    have m2 : mapB (fun b => s2 (s1 b)) 7 (x / 256) / 256 = mapB (fun b => s2 (s1 b)) 6 (x / 256 / 256) := (mapB_mod _ 6 _ g).2
    have m3 : mapB (fun b => s2 (s1 b)) 6 (x / 256 / 256) / 256 = mapB (fun b => s2 (s1 b)) 5 (x / 256 / 256 / 256) := (mapB_mod _ 5 _ g).2
    have m4 : mapB (fun b => s2 (s1 b)) 5 (x / 256 / 256 / 256) / 256 = mapB (fun b => s2 (s1 b)) 4 (x / 256 / 256 / 256 / 256) := (mapB_mod _ 4 _ g).2
    have m5 : mapB (fun b => s2 (s1 b)) 4 (x / 256 / 256 / 256 / 256) / 256 = mapB (fun b => s2 (s1 b)) 3 (x / 256 / 256 / 256 / 256 / 256) := (mapB_mod _ 3 _ g).2
    have m6 : mapB (fun b => s2 (s1 b)) 3 (x / 256 / 256 / 256 / 256 / 256) / 256 = mapB (fun b => s2 (s1 b)) 2 (x / 256 / 256 / 256 / 256 / 256 / 256) := (mapB_mod _ 2 _ g).2
    have m7 : mapB (fun b => s2 (s1 b)) 2 (x / 256 / 256 / 256 / 256 / 256 / 256) / 256 = mapB (fun b => s2 (s1 b)) 1 (x / 256 / 256 / 256 / 256 / 256 / 256 / 256) := (mapB_mod _ 1 _ g).2
    have m8 : mapB (fun b => s2 (s1 b)) 1 (x / 256 / 256 / 256 / 256 / 256 / 256 / 256) = s2 (s1 (x / 256 / 256 / 256 / 256 / 256 / 256 / 256 % 256)) := by simp [mapB]
    generalize mapB (fun b => s2 (s1 b)) 8 x = y8 at *
    generalize mapB (fun b => s2 (s1 b)) 7 _ = y7 at *
    generalize mapB (fun b => s2 (s1 b)) 6 _ = y6 at *
    generalize mapB (fun b => s2 (s1 b)) 5 _ = y5 at *
    generalize mapB (fun b => s2 (s1 b)) 4 _ = y4 at *
    generalize mapB (fun b => s2 (s1 b)) 3 _ = y3 at *
    generalize mapB (fun b => s2 (s1 b)) 2 _ = y2 at *
    generalize mapB (fun b => s2 (s1 b)) 1 _ = y1 at *
    generalize s2 (s1 (x / 256 / 256 / 256 / 256 / 256 / 256 / 256 % 256)) = t at *
    clear hu hv hz hc ha hb ea eb ec lt8 f1 f2 g la lb
    omega
  rw [← eb] at top
  have p8 : ∀ y, y < 256 → popS 8 y ≤ 8 := fun y _ => popS_le 8 y
  have ec2 : c = popS 8 (x % 256) + 256 * (popS 8 (x / 256 % 256) + 256 * (popS 8 (x / 256 / 256 % 256) + 256 * (popS 8 (x / 256 / 256 / 256 % 256) + 256 * (popS 8 (x / 256 / 256 / 256 / 256 % 256) + 256 * (popS 8 (x / 256 / 256 / 256 / 256 / 256 % 256) + 256 * (popS 8 (x / 256 / 256 / 256 / 256 / 256 / 256 % 256) + 256 * popS 8 (x / 256 / 256 / 256 / 256 / 256 / 256 / 256 % 256))))))) := by
    rw [ec]
    simp only [mapB, Nat.mul_zero, Nat.add_zero]
  have g := gather _ _ _ _ _ _ _ _ c z u v (popS_le 8 _) (popS_le 8 _) (popS_le 8 _) (popS_le 8 _) (popS_le 8 _) (popS_le 8 _) (popS_le 8 _) (popS_le 8 _) ec2 hz hu hv
  have sp : popS 64 x = popS 8 (x % 256) + popS 8 (x / 256 % 256) + popS 8 (x / 256 / 256 % 256) + popS 8 (x / 256 / 256 / 256 % 256) + popS 8 (x / 256 / 256 / 256 / 256 % 256) + popS 8 (x / 256 / 256 / 256 / 256 / 256 % 256) + popS 8 (x / 256 / 256 / 256 / 256 / 256 / 256 % 256) + popS 8 (x / 256 / 256 / 256 / 256 / 256 / 256 / 256 % 256) := by
    have q : ∀ n y, popS (8 + n) y = popS 8 (y % 256) + popS n (y / 256) := fun n y => by
      rw [popS_split 8 n y, ← popS_mod 8 8 y (Nat.le_refl _)]
    have a1 : popS 64 x = _ := q 56 x
    have a2 : popS 56 (x / 256) = _ := q 48 (x / 256)
    have a3 : popS 48 (x / 256 / 256) = _ := q 40 (x / 256 / 256)
    have a4 : popS 40 (x / 256 / 256 / 256) = _ := q 32 (x / 256 / 256 / 256)
    have a5 : popS 32 (x / 256 / 256 / 256 / 256) = _ := q 24 (x / 256 / 256 / 256 / 256)
    have a6 : popS 24 (x / 256 / 256 / 256 / 256 / 256) = _ := q 16 (x / 256 / 256 / 256 / 256 / 256)
    have a7 : popS 16 (x / 256 / 256 / 256 / 256 / 256 / 256) = _ := q 8 (x / 256 / 256 / 256 / 256 / 256 / 256)
    have a8 : popS 8 (x / 256 / 256 / 256 / 256 / 256 / 256 / 256 % 256) = popS 8 (x / 256 / 256 / 256 / 256 / 256 / 256 / 256) := popS_mod 8 8 _ (Nat.le_refl _)
    rw [a1, a2, a3, a4, a5, a6, a7, a8]
    simp only [Nat.add_assoc]
  have lc : c ≤ z := by omega
  exact ⟨by rw [sp]; exact g.1, la, lb, by clear g hz hu hv ec2 sp; omega, by have := g.2.1; omega, g.2.1, g.2.2.1, g.2.2.2⟩
end Go.Proofs.Ytlecflgapaahgaa
