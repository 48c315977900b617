/- What the reference's sums are: bit by bit. -/
import Derived.Test.YtkmeedefaceknaaKAdd
namespace Go.Proofs.Ytkmeedefaceknaa
open Go.RowKit
set_option linter.unusedVariables false

theorem odd_bits (r : Nat) (x : Int) (k : Nat) (hr : r < 4294967296) (h0 : 0 ≤ x) (h1 : x < 256) : bits .and .u32 (bits .xor .u32 (r : Int) (x / 2 ^ k % 4294967296)) 1 = (((r ^^^ x.toNat / 2 ^ k) % 2 : Nat) : Int) := by
  obtain ⟨n, rfl⟩ := Int.eq_ofNat_of_zero_le h0
  have e : (n : Int) / 2 ^ k = ((n / 2 ^ k : Nat) : Int) := by push_cast; rfl
  have hn : n / 2 ^ k < 4294967296 := Nat.lt_of_le_of_lt (Nat.div_le_self _ _) (by omega)
  have hm : ∀ m : Nat, m < 4294967296 → (m : Int) % 4294967296 = (m : Int) := fun m h => by omega
  rw [e, hm _ hn, u32_xor_nat _ _ hr hn, and_one _ (xor_lt hr hn)]
  rfl

set_option maxHeartbeats 1000000 in
theorem refadd_some (b off c : Nat) (zs : List Int) (s : Nat) (w : World) (hs : s < 4294967296) (hb : Bytes zs) (hm : zs.length ≤ maxLen) (hc : Cells .u8 w b off zs) :
    Calls Try.prog 25 #[.int .u32 (s : Int), .slice (some ⟨b, off, none⟩) zs.length c] w fun e w' => e = .returned (.int .u32 ((sumAdd s (nat zs) : Nat) : Int)) ∧ w' = w := by
  unfold maxLen at hm
  have ht := turn_bits s hs
  go_enter Try.func25, Try.ntmps25
  go_wp2_with (fail)
  go_loop [5, 6] (fun a i => ∃ k r : Nat, k ≤ zs.length ∧ r < 4294967296 ∧ a = .int .u32 (r : Int) ∧ i = .int .i64 (k : Int) ∧ Hid (run (tn s) (nat zs) = run r (nat (zs.drop k)))) (fun _ i => zs.length - (intOf i).toNat)
  case atStart => exact ⟨0, tn s, by omega, tn_lt s, rfl, rfl, hide rfl⟩
  case round =>
    obtain ⟨k, r, hk, hr, rfl, rfl, hq⟩ := hrel
    by_cases hlt : k < zs.length
    · have hx := getD_byte hb hlt
      have hcell := hc k hlt
      have hq1 : Hid (run (tn s) (nat zs) = run (it 8 (r ^^^ (zs.getD k 0).toNat)) (nat (zs.drop (k + 1)))) := by
        refine hide ?_
        rw [unhide hq, nat_drop zs k hlt]; rfl
      generalize zs.getD k 0 = x at *
      go_wp2_with (fail)
      go_loop [5, 7] (fun a i => ∃ j q : Nat, j ≤ 8 ∧ q < 4294967296 ∧ a = .int .u32 (q : Int) ∧ i = .int .i64 (j : Int) ∧ Hid (it j (r ^^^ x.toNat) = q ^^^ x.toNat / 2 ^ j)) (fun _ i => 8 - (intOf i).toNat)
      case atStart => exact ⟨0, r, by omega, hr, rfl, rfl, hide (by simp [it])⟩
      case round =>
        obtain ⟨j, q, hj, hq0, rfl, rfl, hqq⟩ := hrel
        by_cases hlt8 : j < 8
        · have h1 := odd_bits q x j hq0 hx.1 hx.2
          have hnext : Hid (it (j + 1) (r ^^^ x.toNat) = rst x.toNat j q ^^^ x.toNat / 2 ^ (j + 1)) := by
            refine hide ?_
            rw [it_succ, unhide hqq, rst_st]
          have hlt3 : rst x.toNat j q < 4294967296 := rst_lt hq0
          have e2 : (q : Int) / 2 = ((q / 2 : Nat) : Int) := by omega
          rcases Nat.mod_two_eq_zero_or_one (q ^^^ x.toNat / 2 ^ j) with ho | ho
          · have h2 : bits .and .u32 (bits .xor .u32 (q : Int) (x / 2 ^ j % 4294967296)) 1 = 0 := by rw [h1, ho]; rfl
            have hv : (q : Int) / 2 = ((rst x.toNat j q : Nat) : Int) := by
              unfold rst; rw [ho, e2, Nat.zero_mul, Nat.xor_zero]
            have Hv := hide hv
            clear ho hv e2 h1
            generalize rst x.toNat j q = q' at *
            go_wp2
            exact ⟨⟨j + 1, q', by omega, hlt3, by rw [unhide Hv], by go_num, hnext⟩, by simp [intOf]; omega⟩
          · have h2 : bits .and .u32 (bits .xor .u32 (q : Int) (x / 2 ^ j % 4294967296)) 1 = 1 := by rw [h1, ho]; rfl
            have hv : bits .xor .u32 ((q : Int) / 2) 3988292384 = ((rst x.toNat j q : Nat) : Int) := by
              unfold rst; rw [ho, e2, Nat.one_mul, show (3988292384 : Int) = ((3988292384 : Nat) : Int) from rfl, u32_xor_nat _ _ (by omega) (by omega)]
            clear ho e2 h1
            generalize rst x.toNat j q = q' at *
            go_wp2
            exact ⟨⟨j + 1, q', by omega, hlt3, rfl, by go_num, hnext⟩, by simp [intOf]; omega⟩
        · have hj8 : j = 8 := by omega
          subst hj8
          have hq2 : Hid (run (tn s) (nat zs) = run q (nat (zs.drop (k + 1)))) := by
            refine hide ?_
            rw [unhide hq1, unhide hqq, show x.toNat / 2 ^ 8 = 0 by omega, Nat.xor_zero]
          go_wp2
          exact ⟨⟨k + 1, q, by omega, hq0, rfl, by go_num, hq2⟩, by simp [intOf]; omega⟩
    · have hk8 : k = zs.length := by omega
      subst hk8
      have h1 := turn_bits r hr
      go_wp2
      go_ret
      refine ⟨ret_int ?_, rfl⟩
      unfold sumAdd
      rw [unhide hq]; simp [nat, run]

set_option maxHeartbeats 400000 in
theorem refadd_none (a : Option Addr) (c : Nat) (s : Nat) (w : World) (hs : s < 4294967296) :
    Calls Try.prog 25 #[.int .u32 (s : Int), .slice a 0 c] w fun e w' => e = .returned (.int .u32 ((sumAdd s (nat []) : Nat) : Int)) ∧ w' = w := by
  have ht := turn_bits s hs
  have ht2 := turn_bits (tn s) (tn_lt s)
  go_enter Try.func25, Try.ntmps25
  go_wp2_with (fail)
  refine wp_loop_rounds 1 ?_; rw [rounds_succ]
  go_wp2
  go_ret
  exact ⟨rfl, rfl⟩
theorem refadd_walk (B : Nat → Prop) (v : Value) (zs : List Int) (s : Nat) (w : World) (hs : s < 4294967296) (hb : Bytes zs) (hr : Row .u8 B w v zs) :
    Calls Try.prog 25 #[.int .u32 (s : Int), v] w fun e w' => e = .returned (.int .u32 ((sumAdd s (nat zs) : Nat) : Int)) ∧ w' = w := by
  rcases hr with ⟨a, c, rfl, _, _, rfl⟩ | ⟨b, off, c, rfl, h1, h2, _, h4⟩
  · exact refadd_none a c s w hs
  · exact refadd_some b off c zs s w hs hb (by omega) h4
set_option maxHeartbeats 400000 in
theorem refsum_walk (B : Nat → Prop) (v : Value) (zs : List Int) (w : World) (hb : Bytes zs) (hr : Row .u8 B w v zs) :
    Calls Try.prog 26 #[v] w fun e w' => e = .returned (.int .u32 ((sumAdd 0 (nat zs) : Nat) : Int)) ∧ w' = w := by
  go_enter Try.func26, Try.ntmps26
  go_wp2_with (fail)
  refine (refadd_walk B v zs 0 _ (by omega) hb hr).mono ?_
  rintro e w1 ⟨rfl, rfl⟩
  go_wp2
  go_ret
  exact ⟨rfl, rfl⟩
end Go.Proofs.Ytkmeedefaceknaa
