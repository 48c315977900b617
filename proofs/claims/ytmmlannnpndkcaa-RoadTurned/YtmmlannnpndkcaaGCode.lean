/- The reader: a number up to a bound, its fault. -/
import Derived.Test.YtmmlannnpndkcaaVCode
namespace Go.Proofs.Ytmmlannnpndkcaa
open Go.RowKit
set_option linter.unusedVariables false

set_option maxHeartbeats 400000 in
theorem bound_walk (m : Int) (w : World) (h0 : -9223372036854775808 ≤ m) (h1 : m ≤ 9223372036854775807) :
    Calls Try.prog 62 #[.int .i64 m] w fun e w' => e = .returned (.int .u64 (m.toNat : Nat)) ∧ w' = w := by
  by_cases hm : 0 ≤ m
  · go_enter Try.func62, Try.ntmps62
    go_wp2
    go_ret
    exact ⟨ret_int (by omega), rfl⟩
  · go_enter Try.func62, Try.ntmps62
    go_wp2
    go_ret
    exact ⟨ret_int (by omega), rfl⟩


set_option maxHeartbeats 400000 in
theorem rsmall_walk (B : Nat → Prop) (p : Nat) (zs : List Int) (e m : Int) (w : World) (hr : RD B w p zs e) (hb : Bytes zs) (h0 : -9223372036854775808 ≤ m) (h1 : m ≤ 9223372036854775807) :
    Calls Try.prog 55 #[.pointer (some ⟨p, 0, none⟩), .int .i64 m] w fun en w' => en = .returned (.int .i64 ((smallT m.toNat zs e).1 : Nat)) ∧ RD B w' p (smallT m.toNat zs e).2.1 (smallT m.toNat zs e).2.2 ∧ Turn (only p) w w' := by
  have hle := smallT_le m.toNat zs e
  have hmt : m.toNat ≤ 9223372036854775807 := by omega
  have hbound := bound_walk m w h0 h1
  generalize m.toNat = M at *
  go_enter Try.func55, Try.ntmps55
  go_wp2_with fail
  refine hbound.mono ?_
  rintro en w' ⟨rfl, hw⟩
  subst hw
  clear hbound
  go_wp2_with fail
  refine (rtake_walk B p zs e M _ hr hb (by omega)).mono ?_
  rintro en w' ⟨rfl, h1, h2⟩
  go_wp2
  go_ret
  exact ⟨rfl, h1, h2⟩


set_option maxHeartbeats 400000 in
theorem rerr_walk (B : Nat → Prop) (p : Nat) (zs : List Int) (e : Int) (w : World) (hr : RD B w p zs e) :
    Calls Try.prog 36 #[.pointer (some ⟨p, 0, none⟩)] w fun en w' => en = .returned (.int .i64 e) ∧ w' = w := by
  obtain ⟨x, hx, hrow, hp⟩ := hr
  have hc1 : w.cell? ⟨p, 1, none⟩ = some (.int .i64 e) := cell_obj hx _
  go_enter Try.func36, Try.ntmps36
  go_wp2
  go_ret
  exact ⟨rfl, rfl⟩

end Go.Proofs.Ytmmlannnpndkcaa
