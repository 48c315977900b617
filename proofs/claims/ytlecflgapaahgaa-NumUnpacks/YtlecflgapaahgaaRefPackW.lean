/- The reference's widths and words, bit by bit. -/
import Derived.Test.YtlecflgapaahgaaBase
import Derived.Test.YtlecflgapaahgaaBitsP
namespace Go.Proofs.Ytlecflgapaahgaa
open Go.RowKit
set_option linter.unusedVariables false

set_option maxHeartbeats 400000 in
theorem right_some (b off c : Nat) (zs : List Int) (w : World) (hm : zs.length ≤ 64) (hc : Cells .i64 w b off zs) :
    Calls Try.prog 32 #[.slice (some ⟨b, off, none⟩) zs.length c] w fun e w' => e = .returned (.bool (totTo zs 0).isSome) ∧ w' = w := by
  go_enter Try.func32, Try.ntmps32
  go_wp2
  go_loop [3, 4] (fun s i => ∃ k : Nat, k ≤ zs.length ∧ i = .int .i64 k ∧ ∃ t : Int, s = .int .i64 (64 - t) ∧ 0 ≤ t ∧ t ≤ 64 ∧ Hid (totTo zs 0 = totTo (zs.drop k) t)) (fun _ i => zs.length - (intOf i).toNat)
  case atStart => exact ⟨0, Nat.zero_le _, rfl, 0, rfl, by omega, by omega, hide (by simp)⟩
  case round =>
    obtain ⟨k, hk, rfl, t, rfl, ht0, ht1, hinv⟩ := hrel
    by_cases hlt : k < zs.length
    · have hcell := hc k hlt
      have Hd : Hid (zs.drop k = zs.getD k 0 :: zs.drop (k + 1)) := hide (drop_cons zs k (by omega))
      generalize zs.getD k 0 = z at *
      by_cases hz1 : z < 1
      · have Hfin : Hid (totTo zs 0 = none) := by refine hide ?_; rw [unhide hinv, unhide Hd]; simp [totTo, hz1]
        go_wp2
        go_ret
        exact ⟨ret_bool (by rw [unhide Hfin]; rfl), rfl⟩
      · by_cases hz2 : 64 - t < z
        · have Hfin : Hid (totTo zs 0 = none) := by refine hide ?_; rw [unhide hinv, unhide Hd]; simp [totTo, hz2]
          go_wp2
          go_ret
          exact ⟨ret_bool (by rw [unhide Hfin]; rfl), rfl⟩
        · go_wp2
          go_round
          case rel => exact ⟨k + 1, by omega, by go_num, t + z, by go_num, by omega, by omega, hide (by rw [unhide hinv, unhide Hd]; simp [totTo, hz1, hz2])⟩
          case measure => simp [intOf]; omega
    · have Hfin : Hid (totTo zs 0 = some t) := by refine hide ?_; rw [unhide hinv, List.drop_of_length_le (by omega)]; rfl
      go_wp2
      go_ret
      exact ⟨ret_bool (by rw [unhide Hfin]; rfl), rfl⟩

set_option maxHeartbeats 400000 in
theorem right_nil (a : Option Addr) (c : Nat) (w : World) :
    Calls Try.prog 32 #[.slice a 0 c] w fun e w' => e = .returned (.bool true) ∧ w' = w := by
  go_enter Try.func32, Try.ntmps32
  go_wp2
  refine wp_loop_rounds 1 ?_; rw [rounds_succ]
  go_wp2
  go_ret
  exact ⟨rfl, rfl⟩

set_option maxHeartbeats 400000 in
theorem right_long (a : Option Addr) (n c : Nat) (w : World) (h : 64 < n) (hm : n ≤ maxLen) :
    Calls Try.prog 32 #[.slice a n c] w fun e w' => e = .returned (.bool false) ∧ w' = w := by
  unfold maxLen at hm
  go_enter Try.func32, Try.ntmps32
  go_wp2
  go_ret
  exact ⟨rfl, rfl⟩

theorem totTo_long (zs : List Int) (h : 64 < zs.length) : (totTo zs 0).isSome = false := by
  cases e : totTo zs 0 with
  | none => rfl
  | some t => have := totTo_some zs 0 t (by omega) (by omega) e; omega

theorem right_any (v : Value) (zs : List Int) (w : World) (hr : Row .i64 w v zs) :
    Calls Try.prog 32 #[v] w fun e w' => e = .returned (.bool (totTo zs 0).isSome) ∧ w' = w := by
  rcases hr with ⟨a, c, rfl, _, rfl⟩ | ⟨b, off, c, rfl, hl, hm, hc⟩
  · exact right_nil a c w
  · by_cases h : 64 < zs.length
    · rw [totTo_long zs h]
      exact right_long _ _ c w h (by omega)
    · exact right_some b off c zs w (by omega) hc

theorem bit_or (W : Int) (y t q n : Nat) (hW0 : 0 ≤ W) (hW : W < 2 ^ t) (hq : q < n) (h : t + n ≤ 64) (hb : y / 2 ^ q % 2 = 1) :
    bits .or .u64 (W + ((y % 2 ^ q : Nat) : Int) * 2 ^ t) (IntKind.u64.wrap (2 ^ (t + q))) = W + ((y % 2 ^ (q + 1) : Nat) : Int) * 2 ^ t ∧ y % 2 ^ (q + 1) < 2 ^ n := by
  have hp : ((2 : Int) ^ q) = ((2 ^ q : Nat) : Int) := by push_cast; rfl
  have hlt : y % 2 ^ q < 2 ^ q := Nat.mod_lt _ (Nat.two_pow_pos q)
  have e := mod_succ_bit y q
  rw [hb, Nat.mul_one] at e
  have hm := mul_pow_lt ((y % 2 ^ q : Nat) : Int) t q (by rw [hp]; omega)
  have hnn : 0 ≤ ((y % 2 ^ q : Nat) : Int) * 2 ^ t := Int.mul_nonneg (by omega) (Int.le_of_lt (pow_pos' t))
  obtain ⟨s1, _, _⟩ := or_step (W + ((y % 2 ^ q : Nat) : Int) * 2 ^ t) 1 (t + q) 1 (by omega) (by omega) (by omega) (by decide) (by omega)
  rw [Int.one_mul] at s1
  refine ⟨?_, ?_⟩
  · rw [s1, e, Int.natCast_add, Int.add_mul, ← hp, Int.pow_add, Int.mul_comm (2 ^ t) (2 ^ q)]
    omega
  · have h1 : (2 : Nat) ^ (q + 1) ≤ 2 ^ n := Nat.pow_le_pow_right (by omega) (by omega)
    have h2 : y % 2 ^ (q + 1) < 2 ^ (q + 1) := Nat.mod_lt _ (Nat.two_pow_pos _)
    omega

theorem bit_high (y q n : Nat) (hq : n ≤ q) (hb : y / 2 ^ q % 2 = 1) : ¬ ((y : Int) / 2 ^ n = 0) := by
  intro h0
  have h1 := (div_pow_zero (y : Int) n (by omega)).1 h0
  have hp : ((2 : Int) ^ n) = ((2 ^ n : Nat) : Int) := by push_cast; rfl
  rw [hp] at h1
  have h2 : (2 : Nat) ^ n ≤ 2 ^ q := Nat.pow_le_pow_right (by omega) hq
  have h3 : y / 2 ^ q = 0 := Nat.div_eq_of_lt (by omega)
  rw [h3] at hb
  omega

set_option maxHeartbeats 1000000 in
theorem refpack_some (b off c b' off' c' : Nat) (xs zs : List Int) (w : World) (hm' : xs.length ≤ maxLen) (hm : zs.length ≤ maxLen) (hcx : Cells .u64 w b off xs) (hc : Cells .i64 w b' off' zs) (hx : Words xs) (hl : xs.length = zs.length) (ht : (totTo zs 0).isSome = true) (hr : Row .i64 w (.slice (some ⟨b', off', none⟩) zs.length c') zs) :
    Calls Try.prog 17 #[.slice (some ⟨b, off, none⟩) xs.length c, .slice (some ⟨b', off', none⟩) zs.length c'] w fun e w' => e = .returned (.tuple #[.int .u64 (packS xs zs).1, .int .i64 (packS xs zs).2]) ∧ w' = w := by
  unfold maxLen at hm hm'
  have hps : packS xs zs = packOut (packTo xs zs 0 0) := by unfold packS; rw [if_pos ⟨ht, hl⟩]
  have Hps := hide hps
  have Hl := hide hl
  have hne : ((xs.length : Int) != (zs.length : Int)) = false := by rw [unhide Hl]; simp
  clear hl hps
  obtain ⟨T, hT⟩ : ∃ T, totTo zs 0 = some T := by cases h : totTo zs 0 with | none => rw [h] at ht; cases ht | some T => exact ⟨T, rfl⟩
  have HT := hide hT
  clear hT
  go_enter Try.func17, Try.ntmps17
  go_wp2_with fail
  refine (right_any _ zs _ hr).mono ?_
  rintro e w' ⟨rfl, hw'⟩
  subst hw'
  rw [ht]
  go_wp2_with fail
  go_loop [6, 7, 8] (fun s a i => ∃ k : Nat, k ≤ xs.length ∧ i = .int .i64 k ∧ ∃ (t : Nat) (W : Int), s = .int .u64 W ∧ a = .int .i64 t ∧ 0 ≤ W ∧ W < 2 ^ t ∧ t ≤ 64 ∧ Hid (totTo (zs.drop k) t = some T) ∧ Hid (packTo xs zs 0 0 = packTo (xs.drop k) (zs.drop k) W t)) (fun _ _ i => xs.length - (intOf i).toNat)
  case atStart => exact ⟨0, Nat.zero_le _, rfl, 0, 0, rfl, rfl, by omega, by simp, by omega, hide (by simpa using unhide HT), hide (by simp)⟩
  case round =>
    obtain ⟨k, hk, rfl, t, W, rfl, rfl, hW0, hW1, ht1, hi1, hi2⟩ := hrel
    by_cases hlt : k < xs.length
    · have hlt' : k < zs.length := by rw [← unhide Hl]; exact hlt
      have hcell := hc k hlt'
      have hcellx := hcx k hlt
      have hxw := hx _ (getD_mem xs k hlt)
      have hdx := drop_cons xs k hlt
      have hdz := drop_cons zs k hlt'
      rw [hdx, hdz] at hi2
      rw [hdz] at hi1
      clear hdx hdz
      generalize zs.getD k 0 = z at *
      generalize xs.getD k 0 = x at *
      have hi1' := unhide hi1
      unfold totTo at hi1'
      split at hi1'
      · cases hi1'
      rename_i hz
      obtain ⟨n, rfl⟩ := Int.eq_ofNat_of_zero_le (show 0 ≤ z by omega)
      obtain ⟨y, rfl⟩ := Int.eq_ofNat_of_zero_le hxw.1
      have Hi1 := hide hi1'
      clear hi1' hi1
      have hn1 : 1 ≤ n := by omega
      have hn2 : n ≤ 64 - t := by omega
      have hy : y < 18446744073709551616 := by omega
      clear hz hxw
      go_wp2_with fail
      go_loop [6, 9] (fun s j => ∃ q : Nat, q ≤ 64 ∧ j = .int .i64 q ∧ ∃ U : Int, s = .int .u64 U ∧ Hid (U = W + ((y % 2 ^ q : Nat) : Int) * 2 ^ t) ∧ Hid (y % 2 ^ q < 2 ^ n)) (fun _ j => 64 - (intOf j).toNat)
      case atStart => exact ⟨0, by omega, rfl, W, rfl, hide (by simp [Nat.mod_one]), hide (by simp [Nat.mod_one]; exact Nat.two_pow_pos n)⟩
      case round =>
        obtain ⟨q, hq, rfl, U, rfl, hU, hyq⟩ := hrel
        by_cases hq2 : q < 64
        · have hbit := bit_at y q hy
          have hr2 : y / 2 ^ q % 2 < 2 := Nat.mod_lt _ (by omega)
          have B0 : Hid (y / 2 ^ q % 2 = 0 → y % 2 ^ (q + 1) = y % 2 ^ q) := hide (fun h => by rw [mod_succ_bit, h, Nat.mul_zero, Nat.add_zero])
          have B1 := hide (bit_or W y t q n hW0 hW1)
          have B2 := hide (bit_high y q n)
          generalize y / 2 ^ q % 2 = r at *
          by_cases hr0 : r = 0
          · subst hr0
            go_wp2
            exact ⟨⟨q + 1, by omega, by go_num, U, rfl, hide (by rw [unhide B0 rfl]; exact unhide hU), hide (by rw [unhide B0 rfl]; exact unhide hyq)⟩, by simp [intOf]; omega⟩
          · have hr1 : r = 1 := by omega
            subst hr1
            by_cases hqn : q < n
            · obtain ⟨b1, b2⟩ := unhide B1 hqn (by omega) rfl
              rw [← unhide hU] at b1
              have Hb2 := hide b2
              have Hb1 := hide b1
              clear b2 b1
              go_wp2
              exact ⟨⟨q + 1, by omega, by go_num, _, rfl, hide (unhide Hb1), hide (unhide Hb2)⟩, by simp [intOf]; omega⟩
            · have hz := unhide B2 (by omega) rfl
              have Hfin : Hid (packTo xs zs 0 0 = none) := by
                refine hide ?_
                rw [unhide hi2]
                simp [packTo, hz]
              clear hz
              go_wp2
              go_ret2
              refine ⟨?_, rfl⟩
              rw [unhide Hps, unhide Hfin]
              rfl
        · have hq64 : q = 64 := by omega
          subst hq64
          have hU' := unhide hU
          have hyn := unhide hyq
          rw [Nat.mod_eq_of_lt hy] at hU' hyn
          have hp : ((2 : Int) ^ n) = ((2 ^ n : Nat) : Int) := by push_cast; rfl
          have hfit : (y : Int) < 2 ^ n := by rw [hp]; omega
          obtain ⟨_, ho2, ho3⟩ := or_step W y t n hW0 hW1 (by omega) hfit (by omega)
          have Hw : Hid (packTo xs zs 0 0 = packTo (xs.drop (k + 1)) (zs.drop (k + 1)) (W + y * 2 ^ t) (t + n)) := by
            refine hide ?_
            rw [unhide hi2]
            have : (y : Int) / 2 ^ n = 0 := (div_pow_zero y n (by omega)).2 hfit
            simp [packTo, this]
          subst hU'
          clear hU hyq hyn hp hfit
          go_wp2
          refine ⟨⟨k + 1, by omega, by go_num, t + n, _, rfl, by go_num, ho2, ho3, by omega, hide ?_, hide ?_⟩, by simp [intOf]; omega⟩
          · rw [Int.natCast_add]; exact unhide Hi1
          · rw [Int.natCast_add]; exact unhide Hw
    · have hfin : packTo xs zs 0 0 = some W := by rw [unhide hi2, List.drop_of_length_le (by omega)]; rfl
      have Hfin := hide hfin
      clear hfin
      go_wp2
      go_ret2
      refine ⟨?_, rfl⟩
      rw [unhide Hps, unhide Hfin]
      rfl

set_option maxHeartbeats 400000 in
theorem refpack_wrong (a a' : Option Addr) (n c n' c' : Nat) (xs zs : List Int) (w : World) (hn : n = xs.length) (hn' : n' = zs.length) (hr : Row .i64 w (.slice a' n' c') zs)
    (h : ¬ ((totTo zs 0).isSome = true ∧ xs.length = zs.length)) :
    Calls Try.prog 17 #[.slice a n c, .slice a' n' c'] w fun e w' => e = .returned (.tuple #[.int .u64 (packS xs zs).1, .int .i64 (packS xs zs).2]) ∧ w' = w := by
  subst hn hn'
  have hpw : packS xs zs = (0, 1) := by unfold packS; rw [if_neg h]
  rw [hpw]
  by_cases ht : (totTo zs 0).isSome = true
  · have hl : ¬ xs.length = zs.length := fun e => h ⟨ht, e⟩
    have hne : ((xs.length : Int) != (zs.length : Int)) = true := by rw [bne_iff_ne]; omega
    clear h hl hpw
    go_enter Try.func17, Try.ntmps17
    go_wp2_with fail
    refine (right_any _ zs _ hr).mono ?_
    rintro e w' ⟨rfl, hw'⟩
    subst hw'
    rw [ht]
    go_wp2_with fail
    go_ret2
    exact ⟨rfl, rfl⟩
  · have hf : (totTo zs 0).isSome = false := by simpa using ht
    clear h ht hpw
    go_enter Try.func17, Try.ntmps17
    go_wp2_with fail
    refine (right_any _ zs _ hr).mono ?_
    rintro e w' ⟨rfl, hw'⟩
    subst hw'
    rw [hf]
    go_wp2_with fail
    go_ret2
    exact ⟨rfl, rfl⟩

set_option maxHeartbeats 400000 in
theorem refpack_nil (w : World) (a a' : Option Addr) (c c' : Nat) (hr : Row .i64 w (.slice a' 0 c') []) :
    Calls Try.prog 17 #[.slice a 0 c, .slice a' 0 c'] w fun e w' => e = .returned (.tuple #[.int .u64 (packS [] []).1, .int .i64 (packS [] []).2]) ∧ w' = w := by
  go_enter Try.func17, Try.ntmps17
  go_wp2_with fail
  refine (right_any _ [] _ hr).mono ?_
  rintro e w' ⟨rfl, hw'⟩
  subst hw'
  rw [show (totTo [] 0).isSome = true from rfl]
  go_wp2_with fail
  refine wp_loop_rounds 1 ?_; rw [rounds_succ]
  go_wp2
  go_ret2
  exact ⟨rfl, rfl⟩

/-- the reference's Pack, of any numbers and widths -/
theorem refpack_any (v v' : Value) (xs zs : List Int) (w : World) (hr : Row .u64 w v xs) (hr' : Row .i64 w v' zs) (hx : Words xs) :
    Calls Try.prog 17 #[v, v'] w fun e w' => e = .returned (.tuple #[.int .u64 (packS xs zs).1, .int .i64 (packS xs zs).2]) ∧ w' = w := by
  by_cases h : (totTo zs 0).isSome = true ∧ xs.length = zs.length
  · obtain ⟨ht, hl⟩ := h
    by_cases h0 : xs.length = 0
    · have e1 := List.eq_nil_of_length_eq_zero h0
      have e2 := List.eq_nil_of_length_eq_zero (hl.symm.trans h0)
      subst e1 e2
      obtain ⟨a, c, rfl⟩ := hr.slice
      obtain ⟨a', c', rfl⟩ := hr'.slice
      exact refpack_nil w a a' c c' hr'
    · have hr2 := hr'
      rcases hr with ⟨_, _, rfl, _, rfl⟩ | ⟨b, off, c, rfl, hlc, hm, hc⟩
      · exact absurd rfl h0
      rcases hr' with ⟨_, _, rfl, _, rfl⟩ | ⟨b', off', c', rfl, hlc', hm', hc'⟩
      · exact absurd hl h0
      exact refpack_some b off c b' off' c' xs zs w (by omega) (by omega) hc hc' hx hl ht hr2
  · obtain ⟨a, c, rfl⟩ := hr.slice
    obtain ⟨a', c', rfl⟩ := hr'.slice
    exact refpack_wrong a a' _ c _ c' xs zs w rfl rfl hr' h
end Go.Proofs.Ytlecflgapaahgaa
