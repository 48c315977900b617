import Derived.Test.YtlecflgapaahgaaAwakeW
import Derived.Test.YtlecflgapaahgaaSameW
import Derived.Test.YtlecflgapaahgaaUnpackW
namespace Go.Proofs.Ytlecflgapaahgaa
open Go.RowKit
set_option linter.unusedVariables false

theorem wf_u64 {a : Int} (h : (Lit.int .u64 a).wf = true) : 0 ≤ a ∧ a < 18446744073709551616 := by
  simp [Lit.wf, IntKind.min, IntKind.max, IntKind.signed, IntKind.bits] at h
  omega

theorem nat_pow_cast (n : Nat) : ((2 : Int) ^ n) = ((2 ^ n : Nat) : Int) := by push_cast; rfl

theorem split_low (X W x : Int) (t z : Nat) (hW0 : 0 ≤ W) (hW : W < 2 ^ t) (hx0 : 0 ≤ x) (hX0 : 0 ≤ X) (h : X % 2 ^ (t + z) = W + x * 2 ^ t) : X % 2 ^ t = W ∧ X / 2 ^ t % 2 ^ z = x ∧ X / 2 ^ t / 2 ^ z = X / 2 ^ (t + z) := by
  obtain ⟨a, rfl⟩ := Int.eq_ofNat_of_zero_le hX0
  obtain ⟨b, rfl⟩ := Int.eq_ofNat_of_zero_le hW0
  obtain ⟨c, rfl⟩ := Int.eq_ofNat_of_zero_le hx0
  rw [nat_pow_cast] at hW
  rw [nat_pow_cast, nat_pow_cast] at h
  have hb : b < 2 ^ t := by omega
  have h' : a % 2 ^ (t + z) = b + c * 2 ^ t := by exact_mod_cast h
  have hp := Nat.two_pow_pos t
  have e1 : a % 2 ^ t = b := by
    have : a % 2 ^ (t + z) % 2 ^ t = a % 2 ^ t := by
      rw [Nat.pow_add]; exact Nat.mod_mul_right_mod a (2 ^ t) (2 ^ z)
    rw [← this, h', Nat.add_mul_mod_self_right, Nat.mod_eq_of_lt hb]
  have e2 : a / 2 ^ t % 2 ^ z = c := by
    have : a % 2 ^ (t + z) / 2 ^ t = a / 2 ^ t % 2 ^ z := by
      rw [Nat.pow_add]; exact Nat.mod_mul_right_div_self a (2 ^ t) (2 ^ z)
    rw [← this, h', Nat.add_mul_div_right _ _ hp, Nat.div_eq_of_lt hb, Nat.zero_add]
  have e3 : a / 2 ^ t / 2 ^ z = a / 2 ^ (t + z) := by rw [Nat.div_div_eq_div_mul, ← Nat.pow_add]
  rw [nat_pow_cast, nat_pow_cast, nat_pow_cast]
  refine ⟨?_, ?_, ?_⟩
  · exact_mod_cast e1
  · exact_mod_cast e2
  · exact_mod_cast e3

/-- what is packed is unpacked -/
theorem unTo_packTo : ∀ (zs xs : List Int) (W X : Int) (t T : Nat), xs.length = zs.length → Words xs → 0 ≤ W → W < 2 ^ t → t ≤ 64 → totTo zs t = some (T : Int) → packTo xs zs W t = some X →
    X % 2 ^ t = W ∧ unTo zs (X / 2 ^ t) = xs ∧ 0 ≤ X ∧ X < 2 ^ T := by
  intro zs
  induction zs with
  | nil =>
    intro xs W X t T hl _ hW0 hW _ hT hX
    have : xs = [] := List.eq_nil_of_length_eq_zero (by simpa using hl)
    subst this
    simp [packTo] at hX
    simp [totTo] at hT
    have hT' : t = T := by omega
    subst hX hT'
    exact ⟨Int.emod_eq_of_lt hW0 hW, rfl, hW0, hW⟩
  | cons z zs ih =>
    intro xs W X t T hl hx hW0 hW ht hT hX
    cases xs with
    | nil => simp at hl
    | cons x xs =>
      unfold totTo at hT
      split at hT
      · cases hT
      rename_i hz
      obtain ⟨n, rfl⟩ := Int.eq_ofNat_of_zero_le (show 0 ≤ z by omega)
      unfold packTo at hX
      split at hX
      · cases hX
      rename_i hq
      have hx0 := (hx x (by simp)).1
      have hq' : x / 2 ^ n = 0 := by simpa using hq
      have hfit := (div_pow_zero x n hx0).1 hq'
      obtain ⟨_, o2, o3⟩ := or_step W x t n hW0 hW hx0 hfit (by omega)
      have hX' : packTo xs zs (W + x * 2 ^ t) ((t + n : Nat) : Int) = some X := by rw [Int.natCast_add]; simpa using hX
      have hT' : totTo zs ((t + n : Nat) : Int) = some (T : Int) := by rw [Int.natCast_add]; exact hT
      obtain ⟨r1, r2, r3, r4⟩ := ih xs (W + x * 2 ^ t) X (t + n) T (by simpa using hl) (fun y hy => hx y (by simp [hy])) o2 o3 (by omega) hT' hX'
      obtain ⟨s1, s2, s3⟩ := split_low X W x t n hW0 hW hx0 r3 r1
      refine ⟨s1, ?_, r3, r4⟩
      show X / 2 ^ t % 2 ^ (n : Int).toNat :: unTo zs (X / 2 ^ t / 2 ^ (n : Int).toNat) = x :: xs
      rw [Int.toNat_natCast, s2, s3, r2]

/-- what is unpacked, packed again -/
theorem packTo_unTo : ∀ (zs : List Int) (W R : Int) (t T : Nat), 0 ≤ R → t ≤ 64 → totTo zs t = some (T : Int) → R < 2 ^ (T - t) → packTo (unTo zs R) zs W t = some (W + R * 2 ^ t) := by
  intro zs
  induction zs with
  | nil =>
    intro W R t T hR0 ht hT hR
    simp [totTo] at hT
    have hT' : t = T := by omega
    subst hT'
    have : R = 0 := by simp at hR; omega
    subst this
    simp [packTo, unTo]
  | cons z zs ih =>
    intro W R t T hR0 ht hT hR
    unfold totTo at hT
    split at hT
    · cases hT
    rename_i hz
    obtain ⟨n, rfl⟩ := Int.eq_ofNat_of_zero_le (show 0 ≤ z by omega)
    have hp := pow_pos' n
    have hT' : totTo zs ((t + n : Nat) : Int) = some (T : Int) := by rw [Int.natCast_add]; exact hT
    have hb := totTo_some zs _ _ (by omega) (by omega) hT'
    have m0 := Int.emod_nonneg R (show (2 : Int) ^ n ≠ 0 by omega)
    have m1 := Int.emod_lt_of_pos R hp
    have hq : R % 2 ^ n / 2 ^ n = 0 := (div_pow_zero _ n m0).2 m1
    have hRq : R / 2 ^ n < 2 ^ (T - (t + n)) := by
      apply Int.ediv_lt_of_lt_mul hp
      rw [← Int.pow_add, show T - (t + n) + n = T - t by omega]
      exact hR
    have hi := ih (W + R % 2 ^ n * 2 ^ t) (R / 2 ^ n) (t + n) T (Int.ediv_nonneg hR0 (Int.le_of_lt hp)) (by omega) hT' hRq
    show packTo (R % 2 ^ (n : Int).toNat :: unTo zs (R / 2 ^ (n : Int).toNat)) ((n : Int) :: zs) W t = _
    unfold packTo
    rw [Int.toNat_natCast, if_neg (by simpa using hq), Int.toNat_natCast]
    rw [Int.natCast_add] at hi
    rw [hi]
    congr 1
    have e := Int.emod_add_mul_ediv R (2 ^ n)
    rw [Int.pow_add, Int.add_assoc]
    congr 1
    have e2 : R / 2 ^ n * (2 ^ t * 2 ^ n) = (2 ^ n * (R / 2 ^ n)) * 2 ^ t := by
      rw [Int.mul_comm (2 ^ t) (2 ^ n), ← Int.mul_assoc, Int.mul_comm (R / 2 ^ n)]
    rw [e2, ← Int.add_mul, e]

theorem words_unTo : ∀ (zs : List Int) (R : Int), 0 ≤ R → R < 18446744073709551616 → Words (unTo zs R) := by
  intro zs
  induction zs with
  | nil => intro R _ _ x hx; simp [unTo] at hx
  | cons z zs ih =>
    intro R h0 h1 x hx
    have hp := pow_pos' z.toNat
    have m0 := Int.emod_nonneg R (show (2 : Int) ^ z.toNat ≠ 0 by omega)
    have d0 := Int.ediv_nonneg h0 (Int.le_of_lt hp)
    have d1 := Int.ediv_le_self (2 ^ z.toNat) h0
    have m1 : R % 2 ^ z.toNat ≤ R := by
      have e := Int.emod_add_mul_ediv R (2 ^ z.toNat)
      have := Int.mul_nonneg (Int.le_of_lt hp) d0
      omega
    rcases List.mem_cons.1 (show x ∈ R % 2 ^ z.toNat :: unTo zs (R / 2 ^ z.toNat) from hx) with rfl | h
    · exact ⟨m0, by omega⟩
    · exact ih _ d0 (by omega) x h

theorem words_unpackS (zs : List Int) (R : Int) (h0 : 0 ≤ R) (h1 : R < 18446744073709551616) : Words (unpackS R zs).1 := by
  unfold unpackS unOut
  split
  · intro x hx; simp at hx
  · split
    · exact words_unTo zs R h0 h1
    · intro x hx; simp at hx

theorem unpackS_le (zs : List Int) (R : Int) : (unpackS R zs).1.length ≤ zs.length := by
  unfold unpackS unOut
  split
  · simp
  · split
    · rw [unTo_length]; exact Nat.le_refl _
    · simp

/-- packed, then unpacked -/
theorem there_back (xs zs : List Int) (hx : Words xs) (h : (packS xs zs).2 = 0) : 0 ≤ (packS xs zs).1 ∧ (packS xs zs).1 < 18446744073709551616 ∧ unpackS (packS xs zs).1 zs = (xs, 0) := by
  unfold packS at *
  split at h
  · rename_i hc
    rw [if_pos hc]
    obtain ⟨hs, hl⟩ := hc
    cases hT : totTo zs 0 with
    | none => rw [hT] at hs; cases hs
    | some T' =>
      have hb := totTo_some zs 0 T' (by omega) (by omega) hT
      obtain ⟨T, rfl⟩ := Int.eq_ofNat_of_zero_le (show 0 ≤ T' by omega)
      cases hX : packTo xs zs 0 0 with
      | none => rw [hX] at h; simp [packOut] at h
      | some X =>
        obtain ⟨r1, r2, r3, r4⟩ := unTo_packTo zs xs 0 X 0 T hl hx (by omega) (by simp) (by omega) (by simpa using hT) (by simpa using hX)
        have h64 := pow_le64 T (by omega)
        refine ⟨r3, by show X < _; omega, ?_⟩
        show unpackS X zs = _
        rw [unpackS_fit X zs T hT ((div_pow_zero X T r3).2 r4)]
        simp at r2
        rw [r2]
  · simp at h

/-- unpacked, then packed -/
theorem back_there (zs : List Int) (R : Int) (h0 : 0 ≤ R) (h : (unpackS R zs).2 = 0) : packS (unpackS R zs).1 zs = (R, 0) := by
  cases hT : totTo zs 0 with
  | none => rw [unpackS_none R zs hT] at h; simp at h
  | some T' =>
    have hb := totTo_some zs 0 T' (by omega) (by omega) hT
    obtain ⟨T, rfl⟩ := Int.eq_ofNat_of_zero_le (show 0 ≤ T' by omega)
    by_cases hW : R / 2 ^ T = 0
    · rw [unpackS_fit R zs T hT hW]
      have hlt := (div_pow_zero R T h0).1 hW
      have := packTo_unTo zs 0 R 0 T h0 (by omega) (by simpa using hT) (by simpa using hlt)
      unfold packS
      rw [if_pos ⟨by rw [hT]; rfl, unTo_length zs R⟩]
      have e : packTo (unTo zs R) zs 0 0 = some R := by simpa using this
      show packOut (packTo (unTo zs R) zs 0 0) = _
      rw [e]; rfl
    · rw [unpackS_form R zs T hT hW] at h; simp at h

set_option maxHeartbeats 2000000 in
theorem back_walk (w : World) (a : Option Addr) (c : Nat) (xs : List Int) (rx : Row .u64 w (.slice a xs.length c) xs) (hx : Words xs) (a' : Option Addr) (c' : Nat) (zs : List Int) (rz : Row .i64 w (.slice a' zs.length c') zs) (zz : zs.length * 8 ≤ 140737488351232) (R : Int) (h0 : 0 ≤ R) (h1 : R < 18446744073709551616) :
    Calls Try.prog 7 #[.slice a xs.length c, .slice a' zs.length c', .int .u64 R] w fun e w' => e = .returned (.bool true) ∧ Below w.heap.size w w' := by
  go_enter Try.func7, Try.ntmps7
  go_wp2_with fail
  refine (pack_any _ _ xs zs _ rx rz hx).mono ?_
  rintro e w1 ⟨rfl, hw1⟩
  subst hw1
  by_cases he : (packS xs zs).2 = 0
  · obtain ⟨t0, t1, t2⟩ := there_back xs zs hx he
    have he2 : ((packS xs zs).2 == 0) = true := by rw [he]; rfl
    have T2 := hide t2
    clear t2 he
    generalize (packS xs zs).2 = ee at *
    generalize (packS xs zs).1 = X at *
    go_wp2_with fail
    refine (unpack_any _ zs X _ zz rz t0 t1).mono ?_
    rintro e w2 ⟨u, rfl, ru, b2⟩
    rw [unhide T2] at ru ⊢
    go_wp2_with fail
    refine (plain_any_u64 _ _ xs xs w2 ru (rx.below b2)).mono ?_
    rintro e w3 ⟨rfl, m, hw3⟩
    rw [show decide (xs = xs) = true by simp]
    have b3 : Below w2.heap.size w2 w3 := by rw [hw3]; exact drewN_below _ _
    have B3 : Below w1.heap.size w1 w3 := b2.trans (b3.mono b2.size)
    clear hw3 ru
    go_wp2_with fail
    refine (unpack_any _ zs R w3 zz (rz.below B3) h0 h1).mono ?_
    rintro e w5 ⟨y, rfl, ry, b5⟩
    have B5 : Below w1.heap.size w1 w5 := B3.trans (b5.mono B3.size)
    go_wp2_with fail
    refine (pack_any _ _ _ zs _ ry (rz.below B5) (words_unpackS zs R h0 h1)).mono ?_
    rintro e w6 ⟨rfl, hw6⟩
    subst hw6
    go_wp2_with fail
    refine (awake_walk _).mono ?_
    rintro e w7 ⟨rfl, b7⟩
    have B7 : Below w1.heap.size w1 w7 := B5.trans (b7.mono B5.size)
    by_cases hf : (unpackS R zs).2 = 0
    · have hb := back_there zs R h0 hf
      have hf2 : ((unpackS R zs).2 != 0) = false := by rw [hf]; rfl
      rw [hb]
      generalize (unpackS R zs).2 = f at *
      clear ry hf hb
      go_wp2
      go_ret
      exact ⟨rfl, B7⟩
    · have hf2 : ((unpackS R zs).2 != 0) = true := by rw [bne_iff_ne]; exact hf
      generalize (unpackS R zs).2 = f at *
      generalize packS (unpackS R zs).1 zs = p at *
      clear ry hf
      go_wp2
      go_ret
      exact ⟨rfl, B7⟩
  · have he2 : ((packS xs zs).2 == 0) = false := by simpa using he
    clear he
    generalize (packS xs zs).2 = ee at *
    generalize (packS xs zs).1 = X at *
    have B0 : Below w1.heap.size w1 w1 := Below.refl _ _
    go_wp2_with fail
    refine (unpack_any _ zs R w1 zz (rz.below B0) h0 h1).mono ?_
    rintro e w5 ⟨y, rfl, ry, b5⟩
    have B5 : Below w1.heap.size w1 w5 := B0.trans (b5.mono B0.size)
    go_wp2_with fail
    refine (pack_any _ _ _ zs _ ry (rz.below B5) (words_unpackS zs R h0 h1)).mono ?_
    rintro e w6 ⟨rfl, hw6⟩
    subst hw6
    go_wp2_with fail
    refine (awake_walk _).mono ?_
    rintro e w7 ⟨rfl, b7⟩
    have B7 : Below w1.heap.size w1 w7 := B5.trans (b7.mono B5.size)
    by_cases hf : (unpackS R zs).2 = 0
    · have hb := back_there zs R h0 hf
      have hf2 : ((unpackS R zs).2 != 0) = false := by rw [hf]; rfl
      rw [hb]
      generalize (unpackS R zs).2 = f at *
      clear ry hf hb
      go_wp2
      go_ret
      exact ⟨rfl, B7⟩
    · have hf2 : ((unpackS R zs).2 != 0) = true := by rw [bne_iff_ne]; exact hf
      generalize (unpackS R zs).2 = f at *
      generalize packS (unpackS R zs).1 zs = p at *
      clear ry hf
      go_wp2
      go_ret
      exact ⟨rfl, B7⟩

theorem NumBack_law (w : World) (v : Value) (xs : List Int) (rx : Row .u64 w v xs) (wx : ∀ n ∈ xs, (Lit.int .u64 n).wf = true) (zx : xs.length * 8 ≤ 140737488351232)
    (v' : Value) (zs : List Int) (rz : Row .i64 w v' zs) (wz : ∀ n ∈ zs, (Lit.int .i64 n).wf = true) (zz : zs.length * 8 ≤ 140737488351232) (R : Int) (wR : (Lit.int .u64 R).wf = true) :
    Calls Try.prog 7 #[v, v', .int .u64 R] w fun e w' => e = .returned (.bool true) ∧ Below w.heap.size w w' := by
  have hx : Words xs := fun n hn => wf_u64 (wx n hn)
  have h := wf_u64 wR
  obtain ⟨a, c, rfl⟩ := rx.slice
  obtain ⟨a', c', rfl⟩ := rz.slice
  exact back_walk w a c xs rx hx a' c' zs rz zz R h.1 h.2
end Go.Proofs.Ytlecflgapaahgaa
