/- What bytes begin with: the program's number and the reference's take. -/
import Derived.Test.YtmkaamlacfdhlaaCBase
namespace Go.Proofs.Ytmkaamlacfdhlaa
open Go.RowKit
set_option linter.unusedVariables false

theorem pow128 (k : Nat) : (2 : Int) ^ (7 * k) = ((128 ^ k : Nat) : Int) := by
  rw [Int.pow_mul]; push_cast; rfl

set_option maxRecDepth 100000 in
theorem seven (x : Int) (h0 : 0 ≤ x) (h1 : x < 256) : bits .andNot .u8 x 128 = ((x.toNat % 128 : Nat) : Int) := by
  obtain ⟨n, rfl⟩ := Int.eq_ofNat_of_zero_le h0
  rw [show (128 : Int) = ((128 : Nat) : Int) from rfl, u8_andNot_nat _ _ (by omega) (by omega)]
  have key : ∀ n : Fin 256, (n.val &&& (255 - 128)) = n.val % 128 := by decide
  have := key ⟨n, by omega⟩
  simp only at this
  rw [this]; simp

theorem or_more (v d k : Nat) (hk : k ≤ 9) (hv : v < 128 ^ k) (hd : d * 128 ^ k < 18446744073709551616) (hd7 : d < 128) :
    bits .or .u64 (v : Int) (IntKind.u64.wrap (IntKind.u64.wrap (d : Int) * 2 ^ (7 * k))) = ((v + d * 128 ^ k : Nat) : Int) := by
  have hp := pow_le9 hk
  have e : (d : Int) * 2 ^ (7 * k) = ((d * 128 ^ k : Nat) : Int) := by rw [pow128]; push_cast; rfl
  rw [show IntKind.u64.wrap (d : Int) = (d : Int) by rw [IntKind.wrap_u64]; omega, e, IntKind.wrap_u64, show (((d * 128 ^ k : Nat) : Int) % 18446744073709551616) = ((d * 128 ^ k : Nat) : Int) by omega, u64_or_nat _ _ (by omega) hd, Nat.or_comm]
  have hj := nat_join (7 * k) (d * 128 ^ k) v (by rw [show (128 : Nat) ^ k = 2 ^ (7 * k) by rw [Nat.pow_mul]]; exact Nat.mul_mod_left _ _) (by rw [Nat.pow_mul]; exact hv)
  rw [hj]; push_cast; omega

theorem more_lt (v d k : Nat) (hv : v < 128 ^ k) (hd : d < 128) : v + d * 128 ^ k < 128 ^ (k + 1) := by
  rw [Nat.pow_succ, Nat.mul_comm (128 ^ k) 128]
  have : d * 128 ^ k + 128 ^ k ≤ 128 * 128 ^ k := by
    rw [← Nat.succ_mul]; exact Nat.mul_le_mul_right _ (by omega)
  omega

theorem dec_step (k v : Nat) (x : Int) (r : List Int) (h9 : ¬ (k = 9 ∧ 1 < x)) (hx : 128 ≤ x) : dec k v (x :: r) = dec (k + 1) (v + x.toNat % 128 * 128 ^ k) r := by
  show (if _ then _ else _) = _
  rw [if_neg h9, if_pos hx]
theorem dec_big (k v : Nat) (x : Int) (r : List Int) (h9 : k = 9 ∧ 1 < x) : dec k v (x :: r) = (0, 0, 10) := by
  show (if _ then _ else _) = _
  rw [if_pos h9]
theorem dec_twice (k v : Nat) (x : Int) (r : List Int) (hx : x = 0) (hk : 0 < k) : dec k v (x :: r) = (0, 0, 10) := by
  show (if _ then _ else _) = _
  rw [if_neg (by omega), if_neg (by omega), if_pos ⟨hx, hk⟩]
theorem dec_last (k v : Nat) (x : Int) (r : List Int) (h9 : ¬ (k = 9 ∧ 1 < x)) (hx : x < 128) (h0 : ¬ (x = 0 ∧ 0 < k)) (hx0 : 0 ≤ x) : dec k v (x :: r) = (v + x.toNat % 128 * 128 ^ k, k + 1, 0) := by
  show (if _ then _ else _) = _
  rw [if_neg h9, if_neg (by omega), if_neg h0, show x.toNat % 128 = x.toNat by omega]

theorem digit_fits (k : Nat) (x : Int) (hk : k ≤ 9) (h9 : ¬ (k = 9 ∧ 1 < x)) (h0 : 0 ≤ x) (h1 : x < 256) : x.toNat % 128 * 128 ^ k < 18446744073709551616 := by
  rcases Nat.lt_or_ge k 9 with h | h
  · exact Nat.lt_of_le_of_lt (Nat.mul_le_mul (show x.toNat % 128 ≤ 127 by omega) (pow_le8 (show k ≤ 8 by omega))) (by decide)
  · obtain rfl : k = 9 := by omega
    rw [pow9]; omega

theorem ret3 {a b c a' b' c' : Int} (h : a = a') (h' : b = b') (h'' : c = c') : Ending.returned (.tuple #[.int .u64 a, .int .i64 b, .int .i64 c]) = .returned (.tuple #[.int .u64 a', .int .i64 b', .int .i64 c']) := by rw [h, h', h'']

set_option maxRecDepth 100000 in
set_option maxHeartbeats 1000000 in
theorem number_some (b off c : Nat) (zs : List Int) (w : World) (hb : Bytes zs) (hm : zs.length ≤ maxLen) (hc : Cells .u8 w b off zs) :
    Calls Try.prog 41 #[.slice (some ⟨b, off, none⟩) zs.length c] w fun e w' => e = .returned (.tuple #[.int .u64 ((dec 0 0 zs).1 : Nat), .int .i64 ((dec 0 0 zs).2.1 : Nat), .int .i64 (dec 0 0 zs).2.2]) ∧ w' = w := by
  unfold maxLen at hm
  go_enter Try.func41, Try.ntmps41
  go_wp2_with fail
  go_loop [5, 10] (fun a i => ∃ (k v : Nat), a = .int .u64 (v : Int) ∧ i = .int .i64 (k : Int) ∧ k ≤ 9 ∧ k ≤ zs.length ∧ Hid (v < 128 ^ k ∧ dec 0 0 zs = dec k v (zs.drop k))) (fun _ i => zs.length - (intOf i).toNat)
  case atStart => exact ⟨0, 0, rfl, rfl, by omega, by omega, hide ⟨by simp, by simp⟩⟩
  case round =>
    obtain ⟨k, v, rfl, rfl, hk9, hkl, hq⟩ := hrel
    by_cases hlt : k < zs.length
    · have hcell := hc k hlt
      have hx := getD_byte hb hlt
      have hdr := drop_cons zs k hlt
      have hq2 := unhide hq
      rw [hdr] at hq2
      have Hq := hide hq2
      clear hq hdr hq2
      generalize zs.getD k 0 = x at *
      obtain ⟨hx0, hx1⟩ := hx
      by_cases h9 : k = 9 ∧ 1 < x
      · have Hd : Hid (dec 0 0 zs = (0, 0, 10)) := hide ((unhide Hq).2.trans (dec_big k v x _ h9))
        obtain ⟨rfl, h9x⟩ := h9
        clear Hq
        go_wp2
        go_ret3
        rw [unhide Hd]
        exact ⟨rfl, rfl⟩
      · have hs := seven x hx0 hx1
        have ho := or_more v (x.toNat % 128) k hk9 (unhide Hq).1 (digit_fits k x hk9 h9 hx0 hx1) (Nat.mod_lt _ (by omega))
        have Hml := hide (more_lt v (x.toNat % 128) k (unhide Hq).1 (Nat.mod_lt _ (by omega)))
        have Hst : Hid (128 ≤ x → dec 0 0 zs = dec (k + 1) (v + x.toNat % 128 * 128 ^ k) (zs.drop (k + 1))) := hide (fun h => (unhide Hq).2.trans (dec_step k v x _ h9 h))
        have Hla : Hid (x < 128 → ¬ (x = 0 ∧ 0 < k) → dec 0 0 zs = (v + x.toNat % 128 * 128 ^ k, k + 1, 0)) := hide (fun h h' => (unhide Hq).2.trans (dec_last k v x _ h9 h h' hx0))
        have Htw : Hid (x = 0 → 0 < k → dec 0 0 zs = (0, 0, 10)) := hide (fun h h' => (unhide Hq).2.trans (dec_twice k v x _ h h'))
        have h99 : k = 9 → x ≤ 1 := by omega
        clear Hq h9
        generalize v + x.toNat % 128 * 128 ^ k = V at *
        generalize x.toNat % 128 = d at *
        have ho9 : k = 9 → bits .or .u64 (v : Int) (IntKind.u64.wrap (IntKind.u64.wrap (d : Int) * 9223372036854775808)) = (V : Int) := by
          rintro rfl; exact ho
        by_cases hk : k = 9
        · subst hk
          have hx2 := h99 rfl
          have ho9' := ho9 rfl
          clear h99 ho9 ho
          by_cases h0 : x = 0
          · have Hd := hide (unhide Htw h0 (by omega))
            clear Htw Hla Hst
            subst h0
            go_wp2
            go_ret3
            rw [unhide Hd]
            exact ⟨rfl, rfl⟩
          · have Hd := hide (unhide Hla (by omega) (by omega))
            clear Htw Hla Hst
            obtain rfl : x = 1 := by omega
            go_wp2
            go_ret3
            rw [unhide Hd]
            exact ⟨ret3 rfl rfl rfl, rfl⟩
        · have hk8 : k < 9 := by omega
          clear h99 ho9
          by_cases h128 : 128 ≤ x
          · have Hd := hide (unhide Hst h128)
            clear Htw Hla Hst
            go_wp2
            exact ⟨⟨k + 1, V, rfl, by go_num, by omega, by omega, hide ⟨unhide Hml, unhide Hd⟩⟩, by simp [intOf]; omega⟩
          · by_cases h0 : x = 0
            · by_cases hk0 : 0 < k
              · have Hd := hide (unhide Htw h0 hk0)
                clear Htw Hla Hst
                subst h0
                go_wp2
                go_ret3
                rw [unhide Hd]
                exact ⟨rfl, rfl⟩
              · have Hd := hide (unhide Hla (by omega) (by omega))
                clear Htw Hla Hst
                obtain rfl : k = 0 := by omega
                subst h0
                rw [Nat.add_zero] at hcell
                simp only [Nat.mul_zero, Int.pow_zero, Int.mul_one] at ho
                go_wp2
                go_ret3
                rw [unhide Hd]
                exact ⟨ret3 rfl rfl rfl, rfl⟩
            · have Hd := hide (unhide Hla (by omega) (by omega))
              clear Htw Hla Hst
              go_wp2
              go_ret3
              rw [unhide Hd]
              exact ⟨ret3 rfl (show (k : Int) + 1 = ((k + 1 : Nat) : Int) by omega) rfl, rfl⟩
    · have Hd : Hid (dec 0 0 zs = (0, 0, 9)) := by
        refine hide ?_
        rw [(unhide hq).2, List.drop_of_length_le (by omega)]; rfl
      clear hq
      go_wp2
      go_ret3
      rw [unhide Hd]
      exact ⟨rfl, rfl⟩
theorem or_more2 (v : Nat) (x : Int) (k : Nat) (hk : k ≤ 9) (h0 : 0 ≤ x) (hv : v < 128 ^ k) (hd : x.toNat % 128 * 128 ^ k < 18446744073709551616) :
    bits .or .u64 (v : Int) (IntKind.u64.wrap (x % 128 * 2 ^ (7 * k))) = ((v + x.toNat % 128 * 128 ^ k : Nat) : Int) := by
  have h := or_more v (x.toNat % 128) k hk hv hd (Nat.mod_lt _ (by omega))
  rw [show IntKind.u64.wrap ((x.toNat % 128 : Nat) : Int) = x % 128 by rw [IntKind.wrap_u64]; omega] at h
  exact h

set_option maxRecDepth 100000 in
set_option maxHeartbeats 1000000 in
theorem take_some (b off c : Nat) (zs : List Int) (w : World) (hb : Bytes zs) (hm : zs.length ≤ maxLen) (hc : Cells .u8 w b off zs) :
    Calls Try.prog 38 #[.slice (some ⟨b, off, none⟩) zs.length c] w fun e w' => e = .returned (.tuple #[.int .u64 ((dec 0 0 zs).1 : Nat), .int .i64 ((dec 0 0 zs).2.1 : Nat), .int .i64 (dec 0 0 zs).2.2]) ∧ w' = w := by
  unfold maxLen at hm
  go_enter Try.func38, Try.ntmps38
  go_wp2_with fail
  go_loop [5, 6] (fun a i => ∃ (k v : Nat), a = .int .u64 (v : Int) ∧ i = .int .i64 (k : Int) ∧ k ≤ 9 ∧ k ≤ zs.length ∧ Hid (v < 128 ^ k ∧ dec 0 0 zs = dec k v (zs.drop k))) (fun _ i => 10 - (intOf i).toNat)
  case atStart => exact ⟨0, 0, rfl, rfl, by omega, by omega, hide ⟨by simp, by simp⟩⟩
  case round =>
    obtain ⟨k, v, rfl, rfl, hk9, hkl, hq⟩ := hrel
    by_cases hlt : k < zs.length
    · have hcell := hc k hlt
      have hx := getD_byte hb hlt
      have hdr := drop_cons zs k hlt
      have hq2 := unhide hq
      rw [hdr] at hq2
      have Hq := hide hq2
      clear hq hdr hq2
      generalize zs.getD k 0 = x at *
      obtain ⟨hx0, hx1⟩ := hx
      by_cases h9 : k = 9 ∧ 1 < x
      · have Hd : Hid (dec 0 0 zs = (0, 0, 10)) := hide ((unhide Hq).2.trans (dec_big k v x _ h9))
        obtain ⟨rfl, h9x⟩ := h9
        clear Hq
        go_wp2
        go_ret3
        rw [unhide Hd]
        exact ⟨rfl, rfl⟩
      · have ho := or_more2 v x k hk9 hx0 (unhide Hq).1 (digit_fits k x hk9 h9 hx0 hx1)
        have Hml := hide (more_lt v (x.toNat % 128) k (unhide Hq).1 (Nat.mod_lt _ (by omega)))
        have Hst : Hid (128 ≤ x → dec 0 0 zs = dec (k + 1) (v + x.toNat % 128 * 128 ^ k) (zs.drop (k + 1))) := hide (fun h => (unhide Hq).2.trans (dec_step k v x _ h9 h))
        have Hla : Hid (x < 128 → ¬ (x = 0 ∧ 0 < k) → dec 0 0 zs = (v + x.toNat % 128 * 128 ^ k, k + 1, 0)) := hide (fun h h' => (unhide Hq).2.trans (dec_last k v x _ h9 h h' hx0))
        have Htw : Hid (x = 0 → 0 < k → dec 0 0 zs = (0, 0, 10)) := hide (fun h h' => (unhide Hq).2.trans (dec_twice k v x _ h h'))
        have h99 : k = 9 → x ≤ 1 := by omega
        clear Hq h9
        generalize v + x.toNat % 128 * 128 ^ k = V at *
        have ho9 : k = 9 → bits .or .u64 (v : Int) (IntKind.u64.wrap (x % 128 * 9223372036854775808)) = (V : Int) := by
          rintro rfl; exact ho
        by_cases hk : k = 9
        · subst hk
          have hx2 := h99 rfl
          have ho9' := ho9 rfl
          clear h99 ho9 ho
          by_cases h0 : x = 0
          · have Hd := hide (unhide Htw h0 (by omega))
            clear Htw Hla Hst
            subst h0
            go_wp2
            go_ret3
            rw [unhide Hd]
            exact ⟨rfl, rfl⟩
          · have Hd := hide (unhide Hla (by omega) (by omega))
            clear Htw Hla Hst
            obtain rfl : x = 1 := by omega
            have ho1 : bits .or .u64 (v : Int) 9223372036854775808 = (V : Int) := by simpa [IntKind.wrap_u64] using ho9'
            go_wp2
            go_ret3
            rw [unhide Hd]
            exact ⟨ret3 rfl rfl rfl, rfl⟩
        · have hk8 : k < 9 := by omega
          clear h99 ho9
          by_cases h128 : 128 ≤ x
          · have Hd := hide (unhide Hst h128)
            clear Htw Hla Hst
            go_wp2
            exact ⟨⟨k + 1, V, rfl, by go_num, by omega, by omega, hide ⟨unhide Hml, unhide Hd⟩⟩, by simp [intOf]; omega⟩
          · by_cases h0 : x = 0
            · by_cases hk0 : 0 < k
              · have Hd := hide (unhide Htw h0 hk0)
                clear Htw Hla Hst
                subst h0
                go_wp2
                go_ret3
                rw [unhide Hd]
                exact ⟨rfl, rfl⟩
              · have Hd := hide (unhide Hla (by omega) (by omega))
                clear Htw Hla Hst
                obtain rfl : k = 0 := by omega
                subst h0
                rw [Nat.add_zero] at hcell
                simp only [Nat.mul_zero, Int.pow_zero, Int.mul_one] at ho
                have hne : zs ≠ [] := by rintro rfl; simp at hlt
                have ho0 : Hid (bits .or .u64 (v : Int) 0 = (V : Int)) := hide (by simpa [IntKind.wrap_u64] using ho)
                clear ho
                go_wp2
                go_ret3
                rw [unhide Hd]
                exact ⟨ret3 (unhide ho0) rfl rfl, rfl⟩
            · have Hd := hide (unhide Hla (by omega) (by omega))
              clear Htw Hla Hst
              go_wp2
              go_ret3
              rw [unhide Hd]
              exact ⟨ret3 rfl (show (k : Int) + 1 = ((k + 1 : Nat) : Int) by omega) rfl, rfl⟩
    · have Hd : Hid (dec 0 0 zs = (0, 0, 9)) := by
        refine hide ?_
        rw [(unhide hq).2, List.drop_of_length_le (by omega)]; rfl
      clear hq
      go_wp2
      all_goals
        go_ret3
        first
          | (rw [unhide Hd]; exact ⟨rfl, rfl⟩)
          | exact ⟨rfl, rfl⟩
set_option maxHeartbeats 400000 in
theorem number_none (a : Option Addr) (c : Nat) (w : World) :
    Calls Try.prog 41 #[.slice a 0 c] w fun e w' => e = .returned (.tuple #[.int .u64 ((dec 0 0 []).1 : Nat), .int .i64 ((dec 0 0 []).2.1 : Nat), .int .i64 (dec 0 0 []).2.2]) ∧ w' = w := by
  go_enter Try.func41, Try.ntmps41
  go_wp2_with fail
  refine wp_loop_rounds 1 ?_; rw [rounds_succ]
  go_wp2
  go_ret3
  exact ⟨rfl, rfl⟩
set_option maxHeartbeats 400000 in
theorem take_none (a : Option Addr) (c : Nat) (w : World) :
    Calls Try.prog 38 #[.slice a 0 c] w fun e w' => e = .returned (.tuple #[.int .u64 ((dec 0 0 []).1 : Nat), .int .i64 ((dec 0 0 []).2.1 : Nat), .int .i64 (dec 0 0 []).2.2]) ∧ w' = w := by
  go_enter Try.func38, Try.ntmps38
  go_wp2_with fail
  refine wp_loop_rounds 1 ?_; rw [rounds_succ]
  go_wp2
  go_ret3
  exact ⟨rfl, rfl⟩

theorem number_any (B : Nat → Prop) (v : Value) (zs : List Int) (w : World) (hb : Bytes zs) (hr : Row .u8 B w v zs) :
    Calls Try.prog 41 #[v] w fun e w' => e = .returned (.tuple #[.int .u64 ((dec 0 0 zs).1 : Nat), .int .i64 ((dec 0 0 zs).2.1 : Nat), .int .i64 (dec 0 0 zs).2.2]) ∧ w' = w := by
  rcases hr with ⟨a, c, rfl, hn, _, rfl⟩ | ⟨b, off, c, rfl, h1, h2, h3, h4⟩
  · exact number_none a c w
  · exact number_some b off c zs w hb (by omega) h4
theorem take_any (B : Nat → Prop) (v : Value) (zs : List Int) (w : World) (hb : Bytes zs) (hr : Row .u8 B w v zs) :
    Calls Try.prog 38 #[v] w fun e w' => e = .returned (.tuple #[.int .u64 ((dec 0 0 zs).1 : Nat), .int .i64 ((dec 0 0 zs).2.1 : Nat), .int .i64 (dec 0 0 zs).2.2]) ∧ w' = w := by
  rcases hr with ⟨a, c, rfl, hn, _, rfl⟩ | ⟨b, off, c, rfl, h1, h2, h3, h4⟩
  · exact take_none a c w
  · exact take_some b off c zs w hb (by omega) h4

end Go.Proofs.Ytmkaamlacfdhlaa
