/- A program that does nothing is not awake. -/
import Derived.Test.YtmmlannnpndkcaaGEncode
import Derived.Test.YtmmlannnpndkcaaGSameA
namespace Go.Proofs.Ytmmlannnpndkcaa
open Go.RowKit Go.Maps
set_option linter.unusedVariables false
set_option linter.unusedSimpArgs false
set_option maxRecDepth 100000

theorem num_small (v : Nat) (h : v < 128) : numB v = [(v : Int)] := by
  unfold numB numF
  rw [if_pos h]
set_option maxHeartbeats 4000000 in
theorem awake_walk (w : World) : Calls Try.prog 12 #[] w fun e w' => e = .returned (.bool true) ∧ Turn (fun _ => False) w w' := by
  have T0 := (Turn.refl (fun _ => False) w).alloc (.cells #[.int .i64 0, .int .i64 1, .int .i64 5] 37)
  have hA := ar_one w (0, 1, 5)
  have He := encode_ok _ _ 2 _ [(0, 1, 5)] hA ⟨by omega, by omega, by simp, by intro a ha; rw [List.mem_singleton] at ha; subst ha; decide⟩ (rising_iff.2 (List.pairwise_singleton _ _))
  have hE : encB 2 [(0, 1, 5)] = [7, 2, 1, 0, 1, 5] := by
    have e0 := num_small 0 (by omega)
    have e1 := num_small 1 (by omega)
    have e2 := num_small 2 (by omega)
    have e5 := num_small 5 (by omega)
    unfold encB
    simp only [List.flatMap_cons, List.flatMap_nil, arcB, List.length_cons, List.length_nil]
    rw [show (2 : Int).toNat = 2 from rfl, show (0 : Int).toNat = 0 from rfl, show (1 : Int).toNat = 1 from rfl, show (5 : Int).toNat = 5 from rfl, show 0 + 1 = 1 from rfl, e0, e1, e2, e5]
    rfl
  rw [hE] at He
  clear hA hE
  go_enter Try.func12, Try.ntmps12
  go_wp2_with fail
  refine He.mono ?_
  rintro e w1 ⟨x, rfl, hO, t1, own⟩
  have T1 := T0.then t1
  rcases hO.row with ⟨_, _, rfl, _, _, h⟩ | ⟨g, off, c, rfl, _, _, _, hc⟩
  · simp at h
  have c5 : w1.cell? ⟨g, off + 5, none⟩ = some (.int .u8 5) := hc 5 (by simp)
  clear hc hO own t1 T0 He
  go_wp2
  go_ret
  exact ⟨rfl, T1⟩
end Go.Proofs.Ytmmlannnpndkcaa
