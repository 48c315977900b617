/- What Num answers, the program's and the reference's. -/
import Derived.Test.YtmkaamlacfdhlaaCBase
namespace Go.Proofs.Ytmkaamlacfdhlaa
open Go.RowKit
set_option linter.unusedVariables false

set_option maxRecDepth 100000 in
theorem byte_high (u : Nat) (h : 128 ≤ u) : bits .or .u8 ((u : Int) % 256) 128 = ((u % 128 + 128 : Nat) : Int) := by
  have e : (u : Int) % 256 = ((u % 256 : Nat) : Int) := by omega
  have h2 : u % 256 < 256 := Nat.mod_lt _ (by omega)
  rw [e, show (128 : Int) = ((128 : Nat) : Int) from rfl, u8_or_nat _ _ h2 (by omega)]
  have key : ∀ n : Fin 256, (n.val ||| 128) = n.val % 128 + 128 := by decide
  have := key ⟨u % 256, h2⟩
  simp only at this
  rw [this]
  omega
theorem byte_low (u : Nat) (h : u < 128) : (u : Int) % 256 = (u : Int) := by omega

set_option maxRecDepth 100000 in
set_option maxHeartbeats 1000000 in
theorem num_walk (v : Nat) (w : World) (hv : v < 18446744073709551616) :
    Calls Try.prog 13 #[.int .u64 (v : Int)] w fun e w' => ∃ x, e = .returned x ∧ w'.ownsRow w.heap.size 5 1 x (numB v).length ((numB v).map (Value.int .u8)) ∧ Below w.heap.size w w' := by
  obtain ⟨i0, hi, hz0, hz1, hz2⟩ := info_parts info_u8
  have H10 := hide (numB_ten v hv)
  go_enter Try.func13, Try.ntmps13
  go_wp2_with (at_make; refine wpList_make_own _ rfl _ _ 23 rfl w.heap.size 5 i0 (.int .u8 0) 1 Try.underlying23 hi hz0 hz1 .i64 .i64 _ 10 rfl rfl (by omega) (by rw [hz2]; omega) (by unfold maxLen; omega) (Nat.le_refl _) ?_; intro w1 hown1 hgrow1)
  have hb1 : Below w.heap.size w w1 := below_grown hgrow1 (Nat.le_refl _) (fun k h => by cases h)
  clear hgrow1
  go_loopw [0, 3] (fun a s wr => ∃ (u : Nat) (ys : List Int), a = .int .u64 (u : Int) ∧ u < 18446744073709551616 ∧ wr.ownsRow w.heap.size 5 1 s ys.length (ys.map (Value.int .u8)) ∧ Below w.heap.size w wr ∧ Hid (numB v = ys ++ numB u)) (fun a _ _ => (intOf a).toNat)
  case atStart => exact ⟨v, [], rfl, hv, hown1, hb1, hide (by simp)⟩
  case round =>
    obtain ⟨u, ys, rfl, hu, hown, hbel, hq⟩ := hrel
    have hyl : ys.length + 1 ≤ 10 := by
      have h1 := unhide H10
      rw [unhide hq, List.length_append] at h1
      have := numB_pos u
      omega
    by_cases h128 : 128 ≤ u
    · have hbyte := byte_high u h128
      have hq2 : Hid (numB v = (ys ++ [((u % 128 + 128 : Nat) : Int)]) ++ numB (u / 128)) := by
        refine hide ?_
        rw [unhide hq, numB_high h128]; simp
      generalize hB : u % 128 + 128 = B at *
      clear hB
      have hone := one_new wr 5 (.int .u8 (B : Int))
      go_wp2_with (at_builtin; refine wpList_append_own _ rfl _ _ 23 rfl w.heap.size 5 i0 (.int .u8 0) 1 1 Try.underlying23 hi hz0 hz1 hz2 rfl (by decide) _ _ _ rfl (hown.alloc _) ⟨wr.heap.size, 0, none⟩ 1 1 [.int .u8 (B : Int)] rfl rfl hone (fun u hu => by simp at hu; subst hu; rfl) (by unfold maxLen; omega) (by omega) (by have := hbel.size; simp; omega) ?_)
      intro s' w2 hown2 hgrow2 _
      have hbel2 : Below w.heap.size w w2 := (hbel.alloc hbel.size _).grown hgrow2 (by have := hbel.size; simp; omega) (own_base hown)
      have hown3 : w2.ownsRow w.heap.size 5 1 s' (ys ++ [(B : Int)]).length ((ys ++ [(B : Int)]).map (Value.int .u8)) := by rw [List.map_append, List.length_append]; exact hown2
      clear hown2 hgrow2 hown hone hq
      go_wp2
      exact ⟨⟨u / 128, ys ++ [(B : Int)], by go_num, by omega, hown3, hbel2, hq2⟩, by simp [intOf]; omega⟩
    · have hbyte := byte_low u (by omega)
      have hq2 : Hid (numB v = ys ++ [(u : Int)]) := by
        refine hide ?_
        rw [unhide hq, numB_low (by omega)]
      have hone := one_new wr 5 (.int .u8 (u : Int))
      go_wp2_with (at_builtin; refine wpList_append_own _ rfl _ _ 23 rfl w.heap.size 5 i0 (.int .u8 0) 1 1 Try.underlying23 hi hz0 hz1 hz2 rfl (by decide) _ _ _ rfl (hown.alloc _) ⟨wr.heap.size, 0, none⟩ 1 1 [.int .u8 (u : Int)] rfl rfl hone (fun u hu => by simp at hu; subst hu; rfl) (by unfold maxLen; omega) (by omega) (by have := hbel.size; simp; omega) ?_)
      intro s' w2 hown2 hgrow2 _
      have hbel2 : Below w.heap.size w w2 := (hbel.alloc hbel.size _).grown hgrow2 (by have := hbel.size; simp; omega) (own_base hown)
      have hown3 : w2.ownsRow w.heap.size 5 1 s' (numB v).length ((numB v).map (Value.int .u8)) := by rw [unhide hq2, List.map_append, List.length_append]; exact hown2
      clear hown2 hgrow2 hown hone hq hq2
      go_wp2
      go_ret
      exact ⟨s', rfl, hown3, hbel2⟩
theorem xor_ones (b : Nat) (hb : b < 18446744073709551616) : b ^^^ 18446744073709551615 = 18446744073709551615 - b := by
  have h := hb
  apply Nat.eq_of_testBit_eq
  intro i
  rw [Nat.testBit_xor, show (18446744073709551615 : Nat) = 2 ^ 64 - 1 by decide, Nat.testBit_two_pow_sub_one, show 2 ^ 64 - 1 - b = 2 ^ 64 - (b + 1) by omega, Nat.testBit_two_pow_sub_succ (by omega)]
  by_cases hi : i < 64
  · simp [hi]
  · have : b.testBit i = false := Nat.testBit_lt_two_pow (Nat.lt_of_lt_of_le (show b < 2 ^ 64 by omega) (Nat.pow_le_pow_right (by decide) (by omega)))
    simp [hi, this]

/-- the sign, drawn out over all bits, turns those of 2 v over -/
theorem zig_bits (v : Int) (h0 : -9223372036854775808 ≤ v) (h1 : v ≤ 9223372036854775807) :
    bits .xor .u64 (IntKind.u64.wrap (IntKind.u64.wrap v * 2)) (IntKind.u64.wrap (v / 9223372036854775808)) = ((zig v : Nat) : Int) := by
  by_cases hn : v < 0
  · have e1 : IntKind.u64.wrap (IntKind.u64.wrap v * 2) = (((2 * v + 18446744073709551616).toNat : Nat) : Int) := by
      rw [IntKind.wrap_u64, IntKind.wrap_u64]; omega
    have e2 : IntKind.u64.wrap (v / 9223372036854775808) = ((18446744073709551615 : Nat) : Int) := by
      rw [IntKind.wrap_u64]; omega
    rw [e1, e2, bits_xor_u64_nat _ _ (by omega) (by omega), xor_ones _ (by omega)]
    unfold zig
    rw [if_pos hn]; omega
  · have e1 : IntKind.u64.wrap (IntKind.u64.wrap v * 2) = (((2 * v).toNat : Nat) : Int) := by
      rw [IntKind.wrap_u64, IntKind.wrap_u64]; omega
    have e2 : IntKind.u64.wrap (v / 9223372036854775808) = ((0 : Nat) : Int) := by
      rw [IntKind.wrap_u64]; omega
    rw [e1, e2, bits_xor_u64_nat _ _ (by omega) (by omega), Nat.xor_zero]
    unfold zig
    rw [if_neg hn]

set_option maxHeartbeats 1000000 in
theorem int_walk (v : Int) (w : World) (h0 : -9223372036854775808 ≤ v) (h1 : v ≤ 9223372036854775807) :
    Calls Try.prog 15 #[.int .i64 v] w fun e w' => ∃ x, e = .returned x ∧ w'.ownsRow w.heap.size 5 1 x (numB (zig v)).length ((numB (zig v)).map (Value.int .u8)) ∧ Below w.heap.size w w' := by
  have hz := zig_lt h0 h1
  have hbits := zig_bits v h0 h1
  go_enter Try.func15, Try.ntmps15
  go_wp2_with fail
  refine (num_walk (zig v) _ hz).mono ?_
  rintro e w' ⟨x, rfl, hx, hb⟩
  go_wp2
  go_ret
  exact ⟨x, rfl, hx, hb⟩

end Go.Proofs.Ytmkaamlacfdhlaa
