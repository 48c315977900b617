/- What any bytes are as a frame, and as frames one behind the other; what is handed in stays. -/
import Derived.Test.YtkmeedefaceknaaFRScan
import Derived.Test.YtkmeedefaceknaaBWf
namespace Go.Proofs.Ytkmeedefaceknaa
open Go.RowKit
set_option linter.unusedVariables false

theorem Turn.all {w w' : World} (h : Turn (fun _ => False) w w') : Below w.heap.size w w' := h.below (fun _ h => h.elim) (Nat.le_refl _)

set_option maxHeartbeats 2000000 in
theorem FrameTakes_law (w : World) (b : Value) (zs : List Int) (hr : Row .u8 any w b zs) (hwf : ∀ n ∈ zs, (Lit.int .u8 n).wf = true) (hz : zs.length ≤ 1048576) :
    Calls Try.prog 4 #[b] w fun e w' => e = .returned (.bool true) ∧ Below w.heap.size w w' := by
  have hb := bytes_wf hwf
  have hl : zs.length ≤ 140737488351232 := by omega
  have hl2 : zs.length ≤ 1099511627776 := by omega
  have hsl : (scanT zs).1.length ≤ 1099511627776 := by have := (scan_bounds _ zs (Nat.le_refl _)).2; omega
  go_enter Try.func4, Try.ntmps4
  go_wp2_with fail
  refine (own_any_u8 b zs 71 _ hl hr).mono ?_
  rintro e w1 ⟨rfl, hc1, b1, _⟩
  have hr1 := hr.below b1
  have hin : Row .u8 any w1 (.slice (some ⟨w.heap.size, 0, none⟩) zs.length (zs.length + 3)) zs := row_of_cells hc1 rfl (by omega) (by unfold maxLen; omega)
  go_wp2_with fail
  refine (Take_walk any _ zs _ hb hin).mono ?_
  rintro e w2 ⟨x2, rfl, ho2, hf2, T2⟩
  have hr2 := hr1.turn T2 (fun _ _ h => h)
  have hc2 := hc1.turn T2 (fun h => h)
  have hin2 := hin.turn T2 (fun _ _ h => h)
  obtain ⟨a2, c2, rfl⟩ := (row_of_sl ho2).slice
  go_wp2_with fail
  refine (rTake_walk any _ zs _ hb hr2).mono ?_
  rintro e w3 ⟨x3, rfl, ho3, hf3, T3⟩
  have hr3 := hr2.turn T3 (fun _ _ h => h)
  have hc3 := hc2.turn T3 (fun h => h)
  have hin3 := hin2.turn T3 (fun _ _ h => h)
  have ho23 := ho2.turn T3 (fun _ _ h => h)
  obtain ⟨a3, c3, rfl⟩ := (row_of_sl ho3).slice
  go_wp2_with fail
  refine (Scan_walk any _ zs _ hb hl2 hin3).mono ?_
  rintro e w4 ⟨x4, rfl, hL4, T4⟩
  have hr4 := hr3.turn T4 (fun _ _ h => h)
  have hc4 := hc3.turn T4 (fun h => h)
  have ho24 := ho23.turn T4 (fun _ _ h => h)
  have ho34 := ho3.turn T4 (fun _ _ h => h)
  obtain ⟨a4, c4, rfl⟩ := hL4.slice
  go_wp2_with fail
  refine (rScan_walk any _ zs _ hb hl2 hr4).mono ?_
  rintro e w5 ⟨x5, rfl, hL5, T5⟩
  have hr5 := hr4.turn T5 (fun _ _ h => h)
  have hc5 := hc4.turn T5 (fun h => h)
  have ho25 := ho24.turn T5 (fun _ _ h => h)
  have ho35 := ho34.turn T5 (fun _ _ h => h)
  have hL45 := hL4.turn T5 (fun _ _ h => h)
  obtain ⟨a5, c5, rfl⟩ := hL5.slice
  have T25 := ((T2.then T3).then T4).then T5
  clear T2 T3 T4 T5 ho2 ho3 ho23 ho24 ho34 hf2 hf3 hr hr1 hr2 hr3 hr4 hc1 hc2 hc3 hc4 hin hin2 hin3 hL4
  generalize (takeT zs).2.2 = E1 at *
  generalize (takeT zs).2.1 = N1 at *
  generalize (takeT zs).1 = Y1 at *
  generalize (scanT zs).2.2 = E2 at *
  generalize (scanT zs).2.1 = N2 at *
  generalize (scanT zs).1 = Y2 at *
  go_wp2_with fail
  refine (awake_walk _).mono ?_
  rintro e w6 ⟨rfl, k6⟩
  have T6 : Turn (fun _ => False) w5 w6 := Turn.of_below k6
  have hr6 := hr5.turn T6 (fun _ _ h => h)
  have hc6 := hc5.turn T6 (fun h => h)
  have q2 := row_of_sl (ho25.turn T6 (fun _ _ h => h))
  have q3 := row_of_sl (ho35.turn T6 (fun _ _ h => h))
  have p4 := hL45.turn T6 (fun _ _ h => h)
  have p5 := hL5.turn T6 (fun _ _ h => h)
  have b6 : Below w.heap.size w w6 := below_then b1 (T25.then T6).all
  clear T25 T6 b1 k6 ho25 ho35 hL45 hL5 hr5 hc5
  go_wp2_with fail
  refine (bytes_walk _ _ _ _ Y1 _ q2 q3).mono ?_
  rintro e w7 ⟨rfl, rfl⟩
  go_wp2_with fail
  refine (sames_walk _ _ _ _ _ Y2 p4 p5 hsl).mono ?_
  rintro e w8 ⟨rfl, n, hw8⟩
  have T8 : Turn (fun _ => False) w7 w8 := by subst hw8; exact (Turn.refl _ w7).drewN n
  have hr8 := hr6.turn T8 (fun _ _ h => h)
  have hc8 := hc6.turn T8 (fun h => h)
  have b8 := below_then b6 T8.all
  clear hw8 T8 hr6 hc6 b6 q2 q3 p4 p5
  go_wp2_with fail
  refine (kept_any_u8 w.heap.size b zs 71 _ hl hc8 hr8).mono ?_
  rintro e w9 ⟨rfl, m, hw9⟩
  have b9 : Below w.heap.size w w9 := by subst hw9; exact below_then b8 (drewN_below _ m)
  clear hw9
  go_wp2
  go_ret
  exact ⟨rfl, b9⟩
end Go.Proofs.Ytkmeedefaceknaa
