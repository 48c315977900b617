/- The bytes of any number and text; what is handed in stays. -/
import Derived.Test.YtmkaamlacfdhlaaCAwake
import Derived.Test.YtmkaamlacfdhlaaCOwn
namespace Go.Proofs.Ytmkaamlacfdhlaa
open Go.RowKit
set_option linter.unusedVariables false

theorem bytes_wf {zs : List Int} (h : ∀ n ∈ zs, (Lit.int .u8 n).wf = true) : Bytes zs := fun x hx => wf_u8 (h x hx)
theorem textB_bytes {zs : List Int} (h : Bytes zs) : Bytes (textB zs) := (numB_bytes _).append h

set_option maxHeartbeats 2000000 in
theorem CodeWrites_law (w : World) (v : Int) (hv : (Lit.int .u64 v).wf = true) (i : Int) (hi : (Lit.int .i64 i).wf = true) (b : Value) (zs : List Int) (hr : Row .u8 any w b zs) (hwf : ∀ n ∈ zs, (Lit.int .u8 n).wf = true) (hz : zs.length * 1 ≤ 140737488351232) :
    Calls Try.prog 3 #[.int .u64 v, .int .i64 i, b] w fun e w' => e = .returned (.bool true) ∧ Below w.heap.size w w' := by
  have v1 := wf_u64 hv
  have i1 := wf_i64 hi
  obtain ⟨V, rfl⟩ := Int.eq_ofNat_of_zero_le v1.1
  have hV : V < 18446744073709551616 := by omega
  have hb := bytes_wf hwf
  have hl : zs.length ≤ 140737488351232 := by omega
  go_enter Try.func3, Try.ntmps3
  go_wp2_with fail
  refine (own_any_u8 b zs 71 _ hl hr).mono ?_
  rintro e w1 ⟨rfl, hc1, b1, _⟩
  have hin : Row .u8 any w1 (.slice (some ⟨w.heap.size, 0, none⟩) zs.length (zs.length + 3)) zs := row_of_cells hc1 rfl (by omega) (by unfold maxLen; omega)
  have hr1 := hr.below b1
  go_wp2_with fail
  refine (text_walk any _ zs _ hin hl).mono ?_
  rintro e w2 ⟨x2, rfl, h2, k2⟩
  have t2 := row_of_owns h2
  have b2 := below_then b1 k2
  go_wp2_with fail
  refine (awake_walk _).mono ?_
  rintro e w3 ⟨rfl, k3⟩
  have t3 := t2.below k3
  have b3 := below_then b2 k3
  have K3 := below_then k2 k3
  clear h2 t2 b2 k2 k3
  go_wp2_with fail
  refine (num_walk V _ hV).mono ?_
  rintro e w4 ⟨x4, rfl, h4, k4⟩
  have n4 := row_of_owns h4
  go_wp2_with fail
  refine (refnum_walk V _ hV).mono ?_
  rintro e w5 ⟨x5, rfl, h5, k5⟩
  have n5 := row_of_owns h5
  go_wp2_with fail
  refine (bytes_walk _ _ _ _ _ _ _ (n4.below k5) n5 (numB_bytes V) (numB_bytes V)).mono ?_
  rintro e w6 ⟨rfl, rfl⟩
  rw [show decide (numB V = numB V) = true by simp]
  have t5 := (t3.below k4).below k5
  have b5 := below_then (below_then b3 k4) k5
  have K5 := below_then (below_then K3 k4) k5
  clear h4 n4 h5 n5 k4 k5 t3 b3 K3
  go_wp2_with fail
  refine (int_walk i _ i1.1 i1.2).mono ?_
  rintro e w4 ⟨x4, rfl, h4, k4⟩
  have n4 := row_of_owns h4
  go_wp2_with fail
  refine (refint_walk i _ i1.1 i1.2).mono ?_
  rintro e w5 ⟨x5, rfl, h5, k5⟩
  have n5 := row_of_owns h5
  go_wp2_with fail
  refine (bytes_walk _ _ _ _ _ _ _ (n4.below k5) n5 (numB_bytes _) (numB_bytes _)).mono ?_
  rintro e w7 ⟨rfl, rfl⟩
  rw [show decide (numB (zig i) = numB (zig i)) = true by simp]
  have t7 := (t5.below k4).below k5
  have b7 := below_then (below_then b5 k4) k5
  have K7 := below_then (below_then K5 k4) k5
  clear h4 n4 h5 n5 k4 k5 t5 b5 K5
  go_wp2_with fail
  refine (reftext_walk any _ zs _ (hr1.below K7) hl).mono ?_
  rintro e w8 ⟨x8, rfl, h8, k8⟩
  have n8 := row_of_owns h8
  go_wp2_with fail
  refine (bytes_walk _ _ _ _ _ _ _ (t7.below k8) n8 (textB_bytes hb) (textB_bytes hb)).mono ?_
  rintro e w9 ⟨rfl, rfl⟩
  rw [show decide (textB zs = textB zs) = true by simp]
  have b8 := below_then b7 k8
  have K8 := below_then K7 k8
  clear h8 n8 t7 b7 K7 k8
  have hc8 := hc1.turn (F := fun _ => False) (Turn.of_below K8) (fun h => h)
  go_wp2_with fail
  refine (kept_any_u8 w.heap.size b zs 71 _ hl hc8 (hr1.below K8)).mono ?_
  rintro e w9 ⟨rfl, n, hw9⟩
  have b9 : Below w.heap.size w w9 := by subst hw9; exact below_then b8 (drewN_below _ n)
  clear hw9
  go_wp2
  go_ret
  exact ⟨rfl, b9⟩
end Go.Proofs.Ytmkaamlacfdhlaa
