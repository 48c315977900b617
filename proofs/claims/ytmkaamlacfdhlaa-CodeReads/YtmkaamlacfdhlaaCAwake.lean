/- The program is awake. -/
import Derived.Test.YtmkaamlacfdhlaaCNum
namespace Go.Proofs.Ytmkaamlacfdhlaa
open Go.RowKit
set_option linter.unusedVariables false

theorem wf_u64 {a : Int} (h : (Lit.int .u64 a).wf = true) : 0 ≤ a ∧ a < 18446744073709551616 := by
  simp [Lit.wf, IntKind.min, IntKind.max, IntKind.signed, IntKind.bits] at h
  omega
theorem wf_i64 {a : Int} (h : (Lit.int .i64 a).wf = true) : -9223372036854775808 ≤ a ∧ a ≤ 9223372036854775807 := by
  simp [Lit.wf, IntKind.min, IntKind.max, IntKind.signed, IntKind.bits] at h
  omega
theorem wf_u8 {a : Int} (h : (Lit.int .u8 a).wf = true) : 0 ≤ a ∧ a < 256 := by
  simp [Lit.wf, IntKind.min, IntKind.max, IntKind.signed, IntKind.bits] at h
  omega

theorem numB_300 : numB 300 = [172, 2] := by
  rw [numB_high (by omega), show 300 / 128 = 2 by decide, numB_low (by omega)]; rfl

set_option maxHeartbeats 1000000 in
theorem awake_walk (w : World) :
    Calls Try.prog 11 #[] w fun e w' => e = .returned (.bool true) ∧ Below w.heap.size w w' := by
  go_enter Try.func11, Try.ntmps11
  go_wp2_with fail
  refine (num_walk 300 _ (by omega)).mono ?_
  rintro e w1 ⟨x, rfl, hx, hb⟩
  rw [numB_300] at hx
  have hrow := row_of_owns hx
  clear hx
  rcases hrow with ⟨_, _, _, _, _, h⟩ | ⟨b, off, c, rfl, h1, h2, h3, h4⟩
  · cases h
  have c0 : w1.cell? ⟨b, off, none⟩ = some (.int .u8 172) := h4 0 (by decide)
  have c1 : w1.cell? ⟨b, off + 1, none⟩ = some (.int .u8 2) := h4 1 (by decide)
  clear h4
  go_wp2
  go_ret
  exact ⟨rfl, hb⟩
end Go.Proofs.Ytmkaamlacfdhlaa
