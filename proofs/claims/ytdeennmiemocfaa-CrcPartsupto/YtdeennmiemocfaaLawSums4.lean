/- The sum of any bytes, and of what has any sum, with any bytes behind; what is handed in stays. -/
import Derived.Test.YtdeennmiemocfaaKRef
import Derived.Test.YtdeennmiemocfaaBOwn
namespace Go.Proofs.Ytdeennmiemocfaa
open Go.RowKit
set_option linter.unusedVariables false

theorem wf_u8 {a : Int} (h : (Lit.int .u8 a).wf = true) : 0 ≤ a ∧ a < 256 := by
  simp [Lit.wf, IntKind.min, IntKind.max, IntKind.signed, IntKind.bits] at h
  omega
theorem wf_u32' {a : Int} (h : (Lit.int .u32 a).wf = true) : 0 ≤ a ∧ a < 4294967296 := by
  simp [Lit.wf, IntKind.min, IntKind.max, IntKind.signed, IntKind.bits] at h
  omega
theorem bytes_wf {zs : List Int} (h : ∀ n ∈ zs, (Lit.int .u8 n).wf = true) : Bytes zs := fun x hx => wf_u8 (h x hx)
theorem drewN_below (w : World) (n : Nat) : Below w.heap.size w (w.drewN n) := by
  induction n with
  | zero => exact Below.refl _ _
  | succ n ih => exact ⟨ih.os, ih.tape, ih.output, ih.size, ih.block⟩

set_option maxHeartbeats 1000000 in
theorem CrcSums_law (w : World) (b : Value) (zs : List Int) (hr : Row .u8 any w b zs) (hwf : ∀ n ∈ zs, (Lit.int .u8 n).wf = true) (hz : zs.length * 1 ≤ 140737488351232) (s : Int) (hs : (Lit.int .u32 s).wf = true) :
    Calls Try.prog 3 #[b, .int .u32 s] w fun e w' => e = .returned (.bool true) ∧ Below w.heap.size w w' := by
  have s1 := wf_u32' hs
  obtain ⟨S, rfl⟩ := Int.eq_ofNat_of_zero_le s1.1
  have hS : S < 4294967296 := by omega
  have hb := bytes_wf hwf
  have hl : zs.length ≤ 140737488351232 := by omega
  go_enter Try.func3, Try.ntmps3
  go_wp2_with fail
  refine (own_any_u8 b zs 71 _ hl hr).mono ?_
  rintro e w1 ⟨rfl, hc1, b1, _⟩
  have hr1 := hr.below b1
  go_wp2_with fail
  refine (awake_walk _).mono ?_
  rintro e w2 ⟨rfl, k2⟩
  have hr2 := hr1.below k2
  have hc2 := hc1.turn (F := fun _ => False) (Turn.of_below k2) (fun h => h)
  have b2 := below_then b1 k2
  have hin : Row .u8 any w2 (.slice (some ⟨w.heap.size, 0, none⟩) zs.length (zs.length + 3)) zs := row_of_cells hc2 rfl (by omega) (by unfold maxLen; omega)
  clear hc1 hr1 b1 k2 hr
  go_wp2_with fail
  refine (sum_walk any _ zs _ hb hin).mono ?_
  rintro e w3 ⟨rfl, rfl⟩
  go_wp2_with fail
  refine (refsum_walk any _ zs _ hb hr2).mono ?_
  rintro e w3 ⟨rfl, rfl⟩
  go_wp2_with fail
  refine (add_walk any _ zs S _ hS hb hin).mono ?_
  rintro e w3 ⟨rfl, rfl⟩
  go_wp2_with fail
  refine (refadd_walk any _ zs S _ hS hb hr2).mono ?_
  rintro e w3 ⟨rfl, rfl⟩
  go_wp2_with fail
  refine (kept_any_u8 w.heap.size b zs 71 _ hl hc2 hr2).mono ?_
  rintro e w3 ⟨rfl, n, hw3⟩
  have b3 : Below w.heap.size w w3 := by subst hw3; exact below_then b2 (drewN_below _ n)
  clear hw3
  go_wp2
  go_ret
  exact ⟨rfl, b3⟩
end Go.Proofs.Ytdeennmiemocfaa
