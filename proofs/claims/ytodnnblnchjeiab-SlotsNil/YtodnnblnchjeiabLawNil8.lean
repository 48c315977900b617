/- SlotsNil: nil slots. -/
import Derived.Test.YtodnnblnchjeiabVAwake
namespace Go.Proofs.Ytodnnblnchjeiab
open Go.RowKit Go.Maps
set_option linter.unusedVariables false

set_option maxRecDepth 100000 in
set_option maxHeartbeats 2000000 in
theorem nil_walk (w : World) (bv : Value) :
    Calls Try.prog 4 #[bv] w fun e w' => e = .returned (.bool true) ∧ Turn (fun _ => False) w w' := by
  go_enter Try.func4, Try.ntmps4
  go_wp2_with fail
  refine (openV_nil w).mono ?_
  rintro e w1 ⟨rfl, t1⟩
  go_wp2_with (first
    | (go_at_call 12; refine (lastV_nil _).mono ?_; rintro e w' ⟨rfl, hw⟩; have hw := hw.symm; subst hw)
    | (go_at_call 8; refine (awakeV _).mono ?_; rintro e w2 ⟨rfl, t2⟩)
    | (go_at_call 9; refine (saveV_nil _ _).mono ?_; rintro e w' ⟨rfl, hw⟩; have hw := hw.symm; subst hw))
  go_ret
  exact ⟨rfl, t1.then t2⟩
theorem SlotsNil_law (w : World) (bv : Value) (zs : List Int) (hr : Row .u8 any w bv zs) (hwf : ∀ n ∈ zs, (Lit.int .u8 n).wf = true) (hz : zs.length * 1 ≤ 140737488351232) :
    Calls Try.prog 4 #[bv] w fun e w' => e = .returned (.bool true) ∧ Below w.heap.size w w' :=
  (nil_walk w bv).mono (fun e w' h => ⟨h.1, h.2.bel⟩)
end Go.Proofs.Ytodnnblnchjeiab
