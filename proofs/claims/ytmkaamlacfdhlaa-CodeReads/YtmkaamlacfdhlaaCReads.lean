/- The program's reader: what each of its calls answers. -/
import Derived.Test.YtmkaamlacfdhlaaCRead
import Derived.Test.YtmkaamlacfdhlaaCRefNum
namespace Go.Proofs.Ytmkaamlacfdhlaa
open Go.RowKit
set_option linter.unusedVariables false

def wide : Nat := 18446744073709551615

theorem smallT_le (m : Nat) (zs : List Int) (e : Int) : (smallT m zs e).1 ≤ m := by
  unfold smallT
  generalize dec 0 0 zs = D
  obtain ⟨v, n, f⟩ := D
  by_cases h1 : e ≠ 0
  · rw [if_pos h1]; exact Nat.zero_le _
  rw [if_neg h1]
  by_cases h2 : f ≠ 0
  · rw [if_pos h2]; exact Nat.zero_le _
  rw [if_neg h2]
  by_cases h3 : m < v
  · rw [if_pos h3]; exact Nat.zero_le _
  rw [if_neg h3]
  exact Nat.le_of_not_lt h3

theorem i64_flip (x : Nat) (hx : x < 9223372036854775808) : bits .xor .i64 (x : Int) (-1) = -(x : Int) - 1 := by
  show IntKind.i64.wrap ((BitVec.ofInt 64 (x : Int) ^^^ BitVec.ofInt 64 (-1)).toNat : Int) = _
  have h1 : (BitVec.ofInt 64 (-1)).toNat = 18446744073709551615 := by decide
  have h2 : (BitVec.ofInt 64 (x : Int)).toNat = x := by
    rw [BitVec.ofInt_natCast, BitVec.toNat_ofNat]; exact Nat.mod_eq_of_lt (by omega)
  rw [BitVec.toNat_xor, h1, h2, xor_ones x (by omega), IntKind.wrap_i64]
  omega
theorem i64_keep (x : Nat) (hx : x < 9223372036854775808) : bits .xor .i64 (x : Int) 0 = (x : Int) := by
  show IntKind.i64.wrap ((BitVec.ofInt 64 (x : Int) ^^^ BitVec.ofInt 64 0).toNat : Int) = _
  have h1 : (BitVec.ofInt 64 0).toNat = 0 := by decide
  have h2 : (BitVec.ofInt 64 (x : Int)).toNat = x := by
    rw [BitVec.ofInt_natCast, BitVec.toNat_ofNat]; exact Nat.mod_eq_of_lt (by omega)
  rw [BitVec.toNat_xor, h1, h2, Nat.xor_zero, IntKind.wrap_i64]
  omega
theorem unzig_bits (v : Nat) (h : v < 18446744073709551616) :
    bits .xor .i64 (wrap64 ((v : Int) / 2)) (wrap64 (-wrap64 (bits .and .u64 (v : Int) 1))) = unzig v := by
  have e1 : bits .and .u64 (v : Int) 1 = ((v % 2 : Nat) : Int) := by
    rw [show (1 : Int) = ((1 : Nat) : Int) from rfl, u64_and_nat _ _ h (by omega), Nat.and_one_is_mod]
  have e2 : wrap64 ((v : Int) / 2) = ((v / 2 : Nat) : Int) := by unfold wrap64; omega
  rw [e1, e2]
  unfold unzig
  by_cases h2 : v % 2 = 1
  · rw [if_pos h2, h2, show wrap64 (-wrap64 ((1 : Nat) : Int)) = -1 by unfold wrap64; omega, i64_flip _ (by omega)]
  · rw [if_neg h2, show v % 2 = 0 by omega, show wrap64 (-wrap64 ((0 : Nat) : Int)) = 0 by unfold wrap64; omega, i64_keep _ (by omega)]

set_option maxHeartbeats 400000 in
theorem bound_walk (m : Int) (w : World) (h0 : -9223372036854775808 ≤ m) (h1 : m ≤ 9223372036854775807) :
    Calls Try.prog 36 #[.int .i64 m] w fun e w' => e = .returned (.int .u64 (m.toNat : Nat)) ∧ w' = w := by
  by_cases hm : 0 ≤ m
  · go_enter Try.func36, Try.ntmps36
    go_wp2
    go_ret
    exact ⟨ret_int (by omega), rfl⟩
  · go_enter Try.func36, Try.ntmps36
    go_wp2
    go_ret
    exact ⟨ret_int (by omega), rfl⟩

set_option maxHeartbeats 400000 in
theorem rnum_walk (B : Nat → Prop) (p : Nat) (zs : List Int) (e : Int) (w : World) (hr : RD B w p zs e) (hb : Bytes zs) :
    Calls Try.prog 27 #[.pointer (some ⟨p, 0, none⟩)] w fun en w' => en = .returned (.int .u64 ((smallT wide zs e).1 : Nat)) ∧ RD B w' p (smallT wide zs e).2.1 (smallT wide zs e).2.2 ∧ Turn (only p) w w' := by
  go_enter Try.func27, Try.ntmps27
  go_wp2_with fail
  refine (rtake_walk B p zs e wide _ hr hb (by decide)).mono ?_
  rintro en w' ⟨rfl, h1, h2⟩
  go_wp2
  go_ret
  exact ⟨rfl, h1, h2⟩

set_option maxHeartbeats 400000 in
theorem rsmall_walk (B : Nat → Prop) (p : Nat) (zs : List Int) (e m : Int) (w : World) (hr : RD B w p zs e) (hb : Bytes zs) (h0 : -9223372036854775808 ≤ m) (h1 : m ≤ 9223372036854775807) :
    Calls Try.prog 23 #[.pointer (some ⟨p, 0, none⟩), .int .i64 m] w fun en w' => en = .returned (.int .i64 ((smallT m.toNat zs e).1 : Nat)) ∧ RD B w' p (smallT m.toNat zs e).2.1 (smallT m.toNat zs e).2.2 ∧ Turn (only p) w w' := by
  have hle := smallT_le m.toNat zs e
  have hmt : m.toNat ≤ 9223372036854775807 := by omega
  have hbound := bound_walk m w h0 h1
  generalize m.toNat = M at *
  go_enter Try.func23, Try.ntmps23
  go_wp2_with fail
  refine hbound.mono ?_
  rintro en w' ⟨rfl, hw⟩
  subst hw
  clear hbound
  go_wp2_with fail
  refine (rtake_walk B p zs e M _ hr hb (by omega)).mono ?_
  rintro en w' ⟨rfl, h1, h2⟩
  go_wp2
  go_ret
  exact ⟨rfl, h1, h2⟩

set_option maxHeartbeats 400000 in
theorem rint_walk (B : Nat → Prop) (p : Nat) (zs : List Int) (e : Int) (w : World) (hr : RD B w p zs e) (hb : Bytes zs) :
    Calls Try.prog 21 #[.pointer (some ⟨p, 0, none⟩)] w fun en w' => en = .returned (.int .i64 (unzig (smallT wide zs e).1)) ∧ RD B w' p (smallT wide zs e).2.1 (smallT wide zs e).2.2 ∧ Turn (only p) w w' := by
  have hle := smallT_le wide zs e
  have hzz := unzig_bits (smallT wide zs e).1 (Nat.lt_of_le_of_lt hle (by decide))
  go_enter Try.func21, Try.ntmps21
  go_wp2_with fail
  refine (rtake_walk B p zs e wide _ hr hb (by decide)).mono ?_
  rintro en w' ⟨rfl, h1, h2⟩
  go_wp2
  go_ret
  exact ⟨rfl, h1, h2⟩

set_option maxHeartbeats 400000 in
theorem rleft_walk (B : Nat → Prop) (p : Nat) (zs : List Int) (e : Int) (w : World) (hr : RD B w p zs e) :
    Calls Try.prog 29 #[.pointer (some ⟨p, 0, none⟩)] w fun en w' => en = .returned (.int .i64 (zs.length : Nat)) ∧ w' = w := by
  obtain ⟨x, hx, hrow, hp⟩ := hr
  have hc0 : w.cell? ⟨p, 0, none⟩ = some x := cell_obj hx
  obtain ⟨a, c, rfl⟩ := hrow.slice
  go_enter Try.func29, Try.ntmps29
  go_wp2
  go_ret
  exact ⟨rfl, rfl⟩
set_option maxHeartbeats 400000 in
theorem rerr_walk (B : Nat → Prop) (p : Nat) (zs : List Int) (e : Int) (w : World) (hr : RD B w p zs e) :
    Calls Try.prog 30 #[.pointer (some ⟨p, 0, none⟩)] w fun en w' => en = .returned (.int .i64 e) ∧ w' = w := by
  obtain ⟨x, hx, hrow, hp⟩ := hr
  have hc1 : w.cell? ⟨p, 1, none⟩ = some (.int .i64 e) := cell_obj hx
  go_enter Try.func30, Try.ntmps30
  go_wp2
  go_ret
  exact ⟨rfl, rfl⟩
set_option maxHeartbeats 400000 in
theorem rend_walk (B : Nat → Prop) (p : Nat) (zs : List Int) (e : Int) (w : World) (hr : RD B w p zs e) :
    Calls Try.prog 31 #[.pointer (some ⟨p, 0, none⟩)] w fun en w' => en = .returned (.int .i64 (endT zs e)) ∧ w' = w := by
  by_cases he : e = 0
  · subst he
    by_cases hz : zs = []
    · subst hz
      go_enter Try.func31, Try.ntmps31
      go_wp2_with fail
      refine (rerr_walk B p [] 0 _ hr).mono ?_
      rintro en w' ⟨rfl, rfl⟩
      go_wp2_with fail
      refine (rleft_walk B p [] 0 _ hr).mono ?_
      rintro en w' ⟨rfl, rfl⟩
      go_wp2
      go_ret
      exact ⟨rfl, rfl⟩
    · have hpos : 0 < zs.length := List.length_pos_iff.2 hz
      have He : Hid (endT zs 0 = 10) := hide (by unfold endT; rw [if_neg (by simp), if_pos hpos])
      go_enter Try.func31, Try.ntmps31
      go_wp2_with fail
      refine (rerr_walk B p zs 0 _ hr).mono ?_
      rintro en w' ⟨rfl, rfl⟩
      go_wp2_with fail
      refine (rleft_walk B p zs 0 _ hr).mono ?_
      rintro en w' ⟨rfl, rfl⟩
      go_wp2
      go_ret
      exact ⟨ret_int (unhide He).symm, rfl⟩
  · have He : Hid (endT zs e = e) := hide (by unfold endT; rw [if_pos he])
    go_enter Try.func31, Try.ntmps31
    go_wp2_with fail
    refine (rerr_walk B p zs e _ hr).mono ?_
    rintro en w' ⟨rfl, rfl⟩
    go_wp2
    go_ret
    exact ⟨ret_int (unhide He).symm, rfl⟩
end Go.Proofs.Ytmkaamlacfdhlaa
