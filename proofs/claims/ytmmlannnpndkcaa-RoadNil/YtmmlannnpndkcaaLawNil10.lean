/- RoadNil: a nil graph. -/
import Derived.Test.YtmmlannnpndkcaaGNets
namespace Go.Proofs.Ytmmlannnpndkcaa
open Go.RowKit Go.Maps
set_option linter.unusedVariables false
set_option linter.unusedSimpArgs false
set_option maxRecDepth 100000

set_option maxHeartbeats 1000000 in
theorem nodes_nil (w : World) : Calls Try.prog 26 #[.pointer none] w fun e w' => e = .returned (.int .i64 0) ∧ w' = w := by
  go_enter Try.func26, Try.ntmps26
  go_wp2
  go_ret
  exact ⟨rfl, rfl⟩
set_option maxHeartbeats 1000000 in
theorem arcs_nil (w : World) : Calls Try.prog 27 #[.pointer none] w fun e w' => e = .returned (.int .i64 0) ∧ w' = w := by
  go_enter Try.func27, Try.ntmps27
  go_wp2
  go_ret
  exact ⟨rfl, rfl⟩
set_option maxHeartbeats 1000000 in
theorem Out_nil (w : World) (v : Int) : Calls Try.prog 25 #[.pointer none, .int .i64 v] w fun e w' => e = .returned (.slice none 0 0) ∧ w' = w := by
  go_enter Try.func25, Try.ntmps25
  go_wp2_with fail
  refine (nodes_nil _).mono ?_
  rintro e w1 ⟨rfl, rfl⟩
  go_wp2_with fail
  refine (node_no _ v 0 (by omega)).mono ?_
  rintro e w1 ⟨rfl, rfl⟩
  go_wp2
  go_ret
  exact ⟨rfl, rfl⟩
set_option maxHeartbeats 1000000 in
theorem In_nil (w : World) (v : Int) : Calls Try.prog 30 #[.pointer none, .int .i64 v] w fun e w' => e = .returned (.slice none 0 0) ∧ w' = w := by
  go_enter Try.func30, Try.ntmps30
  go_wp2_with fail
  refine (nodes_nil _).mono ?_
  rintro e w1 ⟨rfl, rfl⟩
  go_wp2_with fail
  refine (node_no _ v 0 (by omega)).mono ?_
  rintro e w1 ⟨rfl, rfl⟩
  go_wp2
  go_ret
  exact ⟨rfl, rfl⟩
set_option maxHeartbeats 1000000 in
theorem weight_nil (w : World) (a b : Int) : Calls Try.prog 23 #[.pointer none, .agg #[.int .i32 a, .int .i32 b]] w fun e w' => e = .returned (.tuple #[.int .i64 0, .bool false]) ∧ Turn (fun _ => False) w w' := by
  go_enter Try.func23, Try.ntmps23
  go_wp2
  go_ret2
  exact ⟨rfl, (Turn.refl _ _).alloc _⟩
set_option maxHeartbeats 1000000 in
theorem net_nil (w : World) : Calls Try.prog 32 #[.pointer none] w fun e w' => e = .returned (.agg #[.int .i64 0, .slice none 0 0]) ∧ Turn (fun _ => False) w w' := by
  go_enter Try.func32, Try.ntmps32
  go_wp2
  exact bodyPost_ret (v := .agg #[.int .i64 0, .slice none 0 0]) (by simp [results, Try.results32, go_sem]) rfl ⟨rfl, (Turn.refl _ _).alloc _⟩

set_option maxHeartbeats 8000000 in
theorem nil_walk (w : World) (v a b : Int) :
    Calls Try.prog 7 #[.int .i64 v, .agg #[.int .i32 a, .int .i32 b]] w fun e w' => e = .returned (.bool true) ∧ Turn (fun _ => False) w w' := by
  have T0 := (Turn.refl (fun _ => False) w).alloc (.cells #[.int .i32 a, .int .i32 b] 44)
  go_enter Try.func7, Try.ntmps7
  go_wp2_with fail
  generalize w.alloc (.cells #[.int .i32 a, .int .i32 b] 44) = W at *
  refine (weight_nil _ a b).mono ?_
  rintro e w1 ⟨rfl, t1⟩
  have T1 := T0.then t1
  go_wp2_with fail
  refine (awake_walk _).mono ?_
  rintro e w2 ⟨rfl, t2⟩
  have T2 := T1.then t2
  go_wp2_with fail
  refine (nodes_nil _).mono ?_
  rintro e w3 ⟨rfl, rfl⟩
  go_wp2_with fail
  refine (arcs_nil _).mono ?_
  rintro e w3 ⟨rfl, rfl⟩
  go_wp2_with fail
  refine (Out_nil _ v).mono ?_
  rintro e w3 ⟨rfl, rfl⟩
  go_wp2_with fail
  refine (In_nil _ v).mono ?_
  rintro e w3 ⟨rfl, rfl⟩
  go_wp2_with fail
  refine (net_nil _).mono ?_
  rintro e w4 ⟨rfl, t4⟩
  go_wp2_with fail
  refine (net_same _ 0 0 _ _ [] [] (ar_none _ _) (ar_none _ _)).mono ?_
  rintro e w5 ⟨rfl, t5⟩
  go_wp2
  go_ret
  exact ⟨rfl, (T2.then t4).then t5⟩
theorem RoadNil_law (w : World) (v : Int) (hv : (Lit.int .i64 v).wf = true) (a b : Int) (ha : (Lit.int .i32 a).wf = true) (hb : (Lit.int .i32 b).wf = true) :
    Calls Try.prog 7 #[.int .i64 v, .agg #[.int .i32 a, .int .i32 b]] w fun e w' => e = .returned (.bool true) ∧ Below w.heap.size w w' :=
  (nil_walk w v a b).mono (fun e w' h => ⟨h.1, h.2.blw⟩)
end Go.Proofs.Ytmmlannnpndkcaa
