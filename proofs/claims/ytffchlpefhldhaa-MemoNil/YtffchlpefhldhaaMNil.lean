/- Calls of a nil memo. -/
import Derived.Test.YtffchlpefhldhaaMTold
namespace Go.Proofs.Ytffchlpefhldhaa
open Go.RowKit Go.Maps Go.Shelf
attribute [local go_sem] Oper.semAt_some
set_option linter.unusedVariables false

set_option maxHeartbeats 400000 in
theorem get_nil (w : World) (a b : Int) : Calls Try.prog 14 #[.pointer none, .agg #[.int .i32 a, .int .i32 b]] w fun e w' => e = .returned (.tuple #[.int .i64 0, .bool false]) ∧ Turn (fun _ => False) w w' := by
  go_enter Try.func14, Try.ntmps14
  go_wp2_with fail
  go_ret2
  exact ⟨rfl, (Turn.refl _ w).alloc _⟩
set_option maxHeartbeats 400000 in
theorem put_nil (w : World) (a b d : Int) : Calls Try.prog 10 #[.pointer none, .agg #[.int .i32 a, .int .i32 b], .int .i64 d] w fun e w' => e = .returned (.bool false) ∧ Turn (fun _ => False) w w' := by
  go_enter Try.func10, Try.ntmps10
  go_wp2_with fail
  go_ret
  exact ⟨rfl, (Turn.refl _ w).alloc _⟩
set_option maxHeartbeats 400000 in
theorem drop_nil (w : World) (n : Int) : Calls Try.prog 12 #[.pointer none, .int .i32 n] w fun e w' => e = .returned (.int .i64 0) ∧ Turn (fun _ => False) w w' := by
  go_enter Try.func12, Try.ntmps12
  go_wp2_with fail
  go_ret
  exact ⟨rfl, ((Turn.refl _ w).alloc _).alloc _⟩
set_option maxHeartbeats 400000 in
theorem len_nil (w : World) : Calls Try.prog 16 #[.pointer none] w fun e w' => e = .returned (.int .i64 0) ∧ w' = w := by
  go_enter Try.func16, Try.ntmps16
  go_wp2_with fail
  go_ret
  exact ⟨rfl, rfl⟩

set_option maxHeartbeats 4000000 in
theorem all_nil (w : World) :
    Calls Try.prog 17 #[.pointer none] w fun e w' => ∃ bp bs gp gs cp cd, e = .returned (.func (.func 23) #[] #[.pointer (some ⟨bp, 0, none⟩), .pointer (some ⟨bs, 0, none⟩)]) ∧ Turn (fun _ => False) w w' ∧ Laid w' w.heap.size 0 bp bs gp gs cp cd ∧ cp.toList = qcells [] ∧ cd.toList = dcells [] := by
  obtain ⟨cp0, hcp0, hmk1⟩ := make_pairs 0 (by omega)
  obtain ⟨cd0, hcd0, hmk2⟩ := make_dists 0 (by omega)
  simp only [Int.cast_ofNat_Int, Nat.zero_mul] at hmk1 hmk2 hcp0
  go_enter Try.func17, Try.ntmps17
  go_wp2_with fail
  refine (len_nil w).mono ?_
  rintro e w1 ⟨rfl, hw1⟩
  subst hw1
  go_wp2_with fail
  go_cut [4, 5] (fun s4 s5 wc => ∃ bp bs gp gs, s4 = .pointer (some ⟨bp, 0, none⟩) ∧ s5 = .pointer (some ⟨bs, 0, none⟩) ∧ Turn (fun _ => False) w1 wc ∧ Laid wc w1.heap.size 0 bp bs gp gs cp0 cd0)
  case first =>
    go_region
    all_goals (go_wp2_with fail)
    all_goals go_meet
    all_goals
      exact ⟨_, _, _, _, rfl, rfl, four_turn _ _ _ _ _, ⟨by first | exact four0 _ _ _ _ _ | exact four1 _ _ _ _ _ | exact four2 _ _ _ _ _ | exact four3 _ _ _ _ _, by first | exact four0 _ _ _ _ _ | exact four1 _ _ _ _ _ | exact four2 _ _ _ _ _ | exact four3 _ _ _ _ _, by first | exact four0 _ _ _ _ _ | exact four1 _ _ _ _ _ | exact four2 _ _ _ _ _ | exact four3 _ _ _ _ _, by first | exact four0 _ _ _ _ _ | exact four1 _ _ _ _ _ | exact four2 _ _ _ _ _ | exact four3 _ _ _ _ _, by omega, hcd0, by omega, by omega, by omega, by omega⟩⟩
  case rest =>
    obtain ⟨bp, bs, gp, gs, rfl, rfl, t1, l1⟩ := hcut
    go_wp2_with fail
    refine wp_loop_rounds 1 ?_; rw [rounds_succ]
    go_wp2_with fail
    go_ret
    exact ⟨bp, bs, gp, gs, cp0, cd0, rfl, t1, l1, by simpa [qcells] using hcp0, by simpa [dcells] using hcd0⟩

set_option maxHeartbeats 400000 in
theorem fork_nil (w : World) : Calls Try.prog 13 #[.pointer none] w fun e w' => e = .returned (.pointer none) ∧ w' = w := by
  go_enter Try.func13, Try.ntmps13
  go_wp2_with fail
  go_ret
  exact ⟨rfl, rfl⟩
end Go.Proofs.Ytffchlpefhldhaa
