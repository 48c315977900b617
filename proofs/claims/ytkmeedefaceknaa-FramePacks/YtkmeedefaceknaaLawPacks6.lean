/- Any bytes as a frame; what is handed in stays. -/
import Derived.Test.YtkmeedefaceknaaFRef
import Derived.Test.YtkmeedefaceknaaBOwn
import Derived.Test.YtkmeedefaceknaaBWf
namespace Go.Proofs.Ytkmeedefaceknaa
open Go.RowKit
set_option linter.unusedVariables false

theorem Turn.all {w w' : World} (h : Turn (fun _ => False) w w') : Below w.heap.size w w' := h.below (fun _ h => h.elim) (Nat.le_refl _)

set_option maxHeartbeats 1000000 in
theorem FramePacks_law (w : World) (b : Value) (zs : List Int) (hr : Row .u8 any w b zs) (hwf : ∀ n ∈ zs, (Lit.int .u8 n).wf = true) (hz : zs.length * 1 ≤ 140737488351232) :
    Calls Try.prog 3 #[b] w fun e w' => e = .returned (.bool true) ∧ Below w.heap.size w w' := by
  have hb := bytes_wf hwf
  have hl : zs.length ≤ 140737488351232 := by omega
  go_enter Try.func3, Try.ntmps3
  go_wp2_with fail
  refine (own_any_u8 b zs 71 _ hl hr).mono ?_
  rintro e w1 ⟨rfl, hc1, b1, _⟩
  have hr1 := hr.below b1
  have hin : Row .u8 any w1 (.slice (some ⟨w.heap.size, 0, none⟩) zs.length (zs.length + 3)) zs := row_of_cells hc1 rfl (by omega) (by unfold maxLen; omega)
  go_wp2_with fail
  refine (Pack_walk any _ zs _ hb hin).mono ?_
  rintro e w2 ⟨x2, rfl, ho2, hf2, T2⟩
  have hr2 := hr1.turn T2 (fun _ _ h => h)
  have hc2 := hc1.turn T2 (fun h => h)
  obtain ⟨a2, c2, rfl⟩ := (row_of_sl ho2).slice
  go_wp2_with fail
  refine (rPack_walk any _ zs _ hb hr2).mono ?_
  rintro e w3 ⟨x3, rfl, ho3, hf3, T3⟩
  have hr3 := hr2.turn T3 (fun _ _ h => h)
  have hc3 := hc2.turn T3 (fun h => h)
  have ho23 := ho2.turn T3 (fun _ _ h => h)
  obtain ⟨a3, c3, rfl⟩ := (row_of_sl ho3).slice
  generalize packC zs = C at *
  go_wp2_with fail
  refine (awake_walk _).mono ?_
  rintro e w4 ⟨rfl, k4⟩
  have T4 : Turn (fun _ => False) w3 w4 := Turn.of_below k4
  have hr4 := hr3.turn T4 (fun _ _ h => h)
  have hc4 := hc3.turn T4 (fun h => h)
  have q2 := row_of_sl (ho23.turn T4 (fun _ _ h => h))
  have q3 := row_of_sl (ho3.turn T4 (fun _ _ h => h))
  have b4 : Below w.heap.size w w4 := below_then b1 ((T2.then T3).then T4).all
  clear T2 T3 T4 b1 k4 ho2 ho3 ho23 hf2 hf3 hr hr1 hr2 hr3 hc1 hc2 hc3 hin
  go_wp2_with fail
  refine (bytes_walk _ _ _ _ (packD zs) _ q2 q3).mono ?_
  rintro e w5 ⟨rfl, rfl⟩
  go_wp2_with fail
  refine (kept_any_u8 w.heap.size b zs 71 _ hl hc4 hr4).mono ?_
  rintro e w6 ⟨rfl, n, hw6⟩
  have b6 : Below w.heap.size w w6 := by subst hw6; exact below_then b4 (drewN_below _ n)
  clear hw6
  go_wp2
  go_ret
  exact ⟨rfl, b6⟩
end Go.Proofs.Ytkmeedefaceknaa
