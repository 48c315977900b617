import Derived.Test.YtlecflgapaahgabTotW
namespace Go.Proofs.Ytlecflgapaahgab
open Go.RowKit
set_option linter.unusedVariables false

set_option maxHeartbeats 400000 in
theorem pack_some (b off c b' off' c' : Nat) (xs zs : List Int) (w : World) (hm' : xs.length ≤ maxLen) (hm : zs.length ≤ maxLen) (hcx : Cells .u64 w b off xs) (hc : Cells .i64 w b' off' zs) (hx : Words xs) (hl : xs.length = zs.length) (ht : (totTo zs 0).isSome = true) :
    Calls Try.prog 10 #[.slice (some ⟨b, off, none⟩) xs.length c, .slice (some ⟨b', off', none⟩) zs.length c'] w fun e w' => e = .returned (.tuple #[.int .u64 (packS xs zs).1, .int .i64 (packS xs zs).2]) ∧ w' = w := by
  unfold maxLen at hm hm'
  have hps : packS xs zs = packOut (packTo xs zs 0 0) := by unfold packS; rw [if_pos ⟨ht, hl⟩]
  have Hps := hide hps
  have Hl := hide hl
  have hne : ((xs.length : Int) != (zs.length : Int)) = false := by rw [unhide Hl]; simp
  clear hl hps
  obtain ⟨T, hT⟩ : ∃ T, totTo zs 0 = some T := by cases h : totTo zs 0 with | none => rw [h] at ht; cases ht | some T => exact ⟨T, rfl⟩
  have HT := hide hT
  clear hT
  go_enter Try.func10, Try.ntmps10
  go_wp2_with fail
  refine (total_some b' off' c' zs _ (by unfold maxLen; omega) hc).mono ?_
  rintro e w' ⟨rfl, rfl⟩
  generalize (totTo zs 0).getD 0 = t at *
  rw [ht]
  go_wp2_with fail
  go_loop [8, 9, 29] (fun s a i => ∃ k : Nat, k ≤ xs.length ∧ i = .int .i64 k ∧ ∃ (t : Nat) (W : Int), s = .int .u64 W ∧ a = .int .u64 t ∧ 0 ≤ W ∧ W < 2 ^ t ∧ t ≤ 64 ∧ Hid (totTo (zs.drop k) t = some T) ∧ Hid (packTo xs zs 0 0 = packTo (xs.drop k) (zs.drop k) W t)) (fun _ _ i => xs.length - (intOf i).toNat)
  case atStart => exact ⟨0, Nat.zero_le _, rfl, 0, 0, rfl, rfl, by omega, by simp, by omega, hide (by simpa using unhide HT), hide (by simp)⟩
  case round =>
    obtain ⟨k, hk, rfl, t, W, rfl, rfl, hW0, hW1, ht1, hi1, hi2⟩ := hrel
    by_cases hlt : k < xs.length
    · have hlt' : k < zs.length := by rw [← unhide Hl]; exact hlt
      have hcell := hc k hlt'
      have hcellx := hcx k hlt
      have hxw := hx _ (getD_mem xs k hlt)
      have hdx := drop_cons xs k hlt
      have hdz := drop_cons zs k hlt'
      rw [hdx, hdz] at hi2
      rw [hdz] at hi1
      clear hdx hdz
      generalize zs.getD k 0 = z at *
      generalize xs.getD k 0 = x at *
      have hi1' := unhide hi1
      unfold totTo at hi1'
      split at hi1'
      · cases hi1'
      rename_i hz
      obtain ⟨n, rfl⟩ := Int.eq_ofNat_of_zero_le (show 0 ≤ z by omega)
      have Hi1 := hide hi1'
      clear hi1' hi1
      have hn1 : 1 ≤ n := by omega
      have hn2 : n ≤ 64 - t := by omega
      obtain ⟨hx0, hx1⟩ := hxw
      by_cases hfit : x < 2 ^ n
      · have hq : (x / 2 ^ n != 0) = false := by rw [(div_pow_zero x n hx0).2 hfit]; rfl
        obtain ⟨ho1, ho2, ho3⟩ := or_step W x t n hW0 hW1 hx0 hfit (by omega)
        have Hw : Hid (packTo xs zs 0 0 = packTo (xs.drop (k + 1)) (zs.drop (k + 1)) (W + x * 2 ^ t) (t + n)) := by
          refine hide ?_
          rw [unhide hi2]
          have : x / 2 ^ n = 0 := (div_pow_zero x n hx0).2 hfit
          simp [packTo, this]
        clear hz hi2
        go_wp2
        refine ⟨⟨k + 1, by omega, by go_num, t + n, _, rfl, by go_num, ho2, ho3, by omega, hide ?_, hide ?_⟩, by simp [intOf]; omega⟩
        · rw [Int.natCast_add]; exact unhide Hi1
        · rw [Int.natCast_add]; exact unhide Hw
      · have hq : (x / 2 ^ n != 0) = true := by rw [bne_iff_ne]; intro h; exact hfit ((div_pow_zero x n hx0).1 h)
        have Hfin : Hid (packTo xs zs 0 0 = none) := by
          refine hide ?_
          rw [unhide hi2]
          have : ¬ x / 2 ^ n = 0 := fun h => hfit ((div_pow_zero x n hx0).1 h)
          simp [packTo, this]
        clear hz
        go_wp2
        go_ret2
        refine ⟨?_, rfl⟩
        rw [unhide Hps, unhide Hfin]
        rfl
    · have hfin : packTo xs zs 0 0 = some W := by rw [unhide hi2, List.drop_of_length_le (by omega)]; rfl
      have Hfin := hide hfin
      clear hfin
      go_wp2
      go_ret2
      refine ⟨?_, rfl⟩
      rw [unhide Hps, unhide Hfin]
      rfl

theorem packS_args (xs zs : List Int) (h : ¬ ((totTo zs 0).isSome = true ∧ xs.length = zs.length)) : packS xs zs = (0, 1) := by
  unfold packS; rw [if_neg h]

set_option maxHeartbeats 400000 in
theorem pack_wrong (a a' : Option Addr) (n c n' c' : Nat) (xs zs : List Int) (w : World) (hn : n = xs.length) (hn' : n' = zs.length) (hr : Row .i64 w (.slice a' n' c') zs)
    (h : ¬ ((totTo zs 0).isSome = true ∧ xs.length = zs.length)) :
    Calls Try.prog 10 #[.slice a n c, .slice a' n' c'] w fun e w' => e = .returned (.tuple #[.int .u64 (packS xs zs).1, .int .i64 (packS xs zs).2]) ∧ w' = w := by
  subst hn hn'
  rw [packS_args xs zs h]
  by_cases ht : (totTo zs 0).isSome = true
  · have hl : ¬ xs.length = zs.length := fun e => h ⟨ht, e⟩
    have hne : ((xs.length : Int) != (zs.length : Int)) = true := by rw [bne_iff_ne]; omega
    clear h hl
    go_enter Try.func10, Try.ntmps10
    go_wp2_with fail
    refine (total_any _ zs _ hr).mono ?_
    rintro e w' ⟨rfl, rfl⟩
    generalize (totTo zs 0).getD 0 = t at *
    rw [ht]
    go_wp2_with fail
    go_ret2
    exact ⟨rfl, rfl⟩
  · have hf : (totTo zs 0).isSome = false := by simpa using ht
    clear h ht
    go_enter Try.func10, Try.ntmps10
    go_wp2_with fail
    refine (total_any _ zs _ hr).mono ?_
    rintro e w' ⟨rfl, rfl⟩
    generalize (totTo zs 0).getD 0 = t at *
    rw [hf]
    go_wp2_with fail
    go_ret2
    exact ⟨rfl, rfl⟩

set_option maxHeartbeats 400000 in
theorem pack_nil (w : World) (a a' : Option Addr) (c c' : Nat) (hr : Row .i64 w (.slice a' 0 c') []) :
    Calls Try.prog 10 #[.slice a 0 c, .slice a' 0 c'] w fun e w' => e = .returned (.tuple #[.int .u64 (packS [] []).1, .int .i64 (packS [] []).2]) ∧ w' = w := by
  go_enter Try.func10, Try.ntmps10
  go_wp2_with fail
  refine (total_any _ [] _ hr).mono ?_
  rintro e w' ⟨rfl, rfl⟩
  go_wp2_with fail
  refine wp_loop_rounds 1 ?_; rw [rounds_succ]
  go_wp2
  go_ret2
  exact ⟨rfl, rfl⟩

/-- Pack, of any numbers and widths -/
theorem pack_any (v v' : Value) (xs zs : List Int) (w : World) (hr : Row .u64 w v xs) (hr' : Row .i64 w v' zs) (hx : Words xs) :
    Calls Try.prog 10 #[v, v'] w fun e w' => e = .returned (.tuple #[.int .u64 (packS xs zs).1, .int .i64 (packS xs zs).2]) ∧ w' = w := by
  by_cases h : (totTo zs 0).isSome = true ∧ xs.length = zs.length
  · obtain ⟨ht, hl⟩ := h
    by_cases h0 : xs.length = 0
    · have e1 := List.eq_nil_of_length_eq_zero h0
      have e2 := List.eq_nil_of_length_eq_zero (hl.symm.trans h0)
      subst e1 e2
      obtain ⟨a, c, rfl⟩ := hr.slice
      obtain ⟨a', c', rfl⟩ := hr'.slice
      exact pack_nil w a a' c c' hr'
    · rcases hr with ⟨_, _, rfl, _, rfl⟩ | ⟨b, off, c, rfl, hlc, hm, hc⟩
      · exact absurd rfl h0
      rcases hr' with ⟨_, _, rfl, _, rfl⟩ | ⟨b', off', c', rfl, hlc', hm', hc'⟩
      · exact absurd hl h0
      exact pack_some b off c b' off' c' xs zs w (by omega) (by omega) hc hc' hx hl ht
  · obtain ⟨a, c, rfl⟩ := hr.slice
    obtain ⟨a', c', rfl⟩ := hr'.slice
    exact pack_wrong a a' _ c _ c' xs zs w rfl rfl hr' h
end Go.Proofs.Ytlecflgapaahgab
