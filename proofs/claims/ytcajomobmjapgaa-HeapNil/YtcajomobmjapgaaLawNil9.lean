/- HeapNil: a nil heap; what may not be made. -/
import Derived.Test.YtcajomobmjapgaaHAwake
namespace Go.Proofs.Ytcajomobmjapgaa
open Go.RowKit Go.Maps
set_option linter.unusedVariables false
set_option linter.unusedSimpArgs false

set_option maxHeartbeats 1000000 in
theorem len_nil (w : World) : Calls Try.prog 16 #[.pointer none] w fun e w' => e = .returned (.int .i64 0) ∧ w' = w := by
  go_enter Try.func16, Try.ntmps16
  go_wp2
  go_ret
  exact ⟨rfl, rfl⟩
set_option maxHeartbeats 1000000 in
theorem peek_nil (w : World) : Calls Try.prog 15 #[.pointer none] w fun e w' => e = .returned (.tuple #[.agg #[.int .i64 0, .int .i64 0], .bool false]) ∧ Turn (fun _ => False) w w' := by
  go_enter Try.func15, Try.ntmps15
  go_wp2_with (go_at_call 16; refine (len_nil _).mono ?_; rintro e w1 ⟨rfl, rfl⟩)
  exact bodyPost_ret (v := .tuple #[.agg #[.int .i64 0, .int .i64 0], .bool false]) (by simp [results, Try.results15, go_sem]) rfl ⟨rfl, (Turn.refl _ _).alloc _⟩
set_option maxHeartbeats 1000000 in
theorem pop_nil (w : World) : Calls Try.prog 11 #[.pointer none] w fun e w' => e = .returned (.tuple #[.agg #[.int .i64 0, .int .i64 0], .bool false]) ∧ Turn (fun _ => False) w w' := by
  have ta := (Turn.refl (fun _ => False) w).alloc (.cells #[.int .i64 0, .int .i64 0] 36)
  have b0 : (w.alloc (.cells #[.int .i64 0, .int .i64 0] 36)).heap[w.heap.size]? = some (.cells #[.int .i64 0, .int .i64 0] 36 (0, 0)) := heap_alloc_new w _
  generalize hs : w.heap.size = s at *
  have Hp := peek_nil (w.alloc (.cells #[.int .i64 0, .int .i64 0] 36))
  go_enter Try.func11, Try.ntmps11
  go_wp2_with fail
  refine Hp.mono ?_
  rintro e w1 ⟨rfl, t1⟩
  have t2 := t1.alloc (.cells #[.int .i64 0, .int .i64 0] 36)
  have b2 := t2.same b0 (fun h => h)
  have sz2 : s < w1.heap.size := by
    have := (Array.getElem?_eq_some_iff.1 (t1.same b0 (fun h => h))).1; exact this
  have ss : s < (w1.alloc (.cells #[.int .i64 0, .int .i64 0] 36)).heap.size := (Array.getElem?_eq_some_iff.1 b2).1
  have b1 : w1.heap[s]? = some (.cells #[.int .i64 0, .int .i64 0] 36 (0, 0)) := t1.same b0 (fun h => h)
  have b3 := heap_setCell_obj (j := 0) b1 (.int .i64 0)
  have b4 := heap_setCell_obj (j := 1) b3 (.int .i64 0)
  have s3 : s < (w1.setCell ⟨s, 0, none⟩ (.int .i64 0)).heap.size := (Array.getElem?_eq_some_iff.1 b3).1
  have s4 : s < ((w1.setCell ⟨s, 0, none⟩ (.int .i64 0)).setCell ⟨s, 1, none⟩ (.int .i64 0)).heap.size := (Array.getElem?_eq_some_iff.1 b4).1
  have b5 := ((Turn.refl (fun _ => False) (w1.setCell ⟨s, 0, none⟩ (.int .i64 0))).alloc (.cells #[.int .i64 0, .int .i64 0] 36)).same b3 (fun h => h)
  have b6 := ((Turn.refl (fun _ => False) ((w1.setCell ⟨s, 0, none⟩ (.int .i64 0)).setCell ⟨s, 1, none⟩ (.int .i64 0))).alloc (.cells #[.int .i64 0, .int .i64 0] 36)).same b4 (fun h => h)
  have c0 : (w1.alloc (.cells #[.int .i64 0, .int .i64 0] 36)).cell? ⟨s, 0, none⟩ = some (.int .i64 0) := cell_obj b2 0
  have c1 : (w1.alloc (.cells #[.int .i64 0, .int .i64 0] 36)).cell? ⟨s, 1, none⟩ = some (.int .i64 0) := cell_obj b2 1
  have z0 : (w1.alloc (.cells #[.int .i64 0, .int .i64 0] 36)).frozen? ⟨s, 0, none⟩ = false := frozen_obj b2 _
  have z1 : ((w1.setCell ⟨s, 0, none⟩ (.int .i64 0)).alloc (.cells #[.int .i64 0, .int .i64 0] 36)).frozen? ⟨s, 1, none⟩ = false := frozen_obj b5 _
  have d1 : ((w1.setCell ⟨s, 0, none⟩ (.int .i64 0)).alloc (.cells #[.int .i64 0, .int .i64 0] 36)).cell? ⟨s, 1, none⟩ = some (.int .i64 0) := by rw [cell_obj b5 1]; rfl
  have e0 : (((w1.setCell ⟨s, 0, none⟩ (.int .i64 0)).setCell ⟨s, 1, none⟩ (.int .i64 0)).alloc (.cells #[.int .i64 0, .int .i64 0] 36)).cell? ⟨s, 0, none⟩ = some (.int .i64 0) := by rw [cell_obj b6 0]; rfl
  have e1 : (((w1.setCell ⟨s, 0, none⟩ (.int .i64 0)).setCell ⟨s, 1, none⟩ (.int .i64 0)).alloc (.cells #[.int .i64 0, .int .i64 0] 36)).cell? ⟨s, 1, none⟩ = some (.int .i64 0) := by rw [cell_obj b6 1]; rfl
  have T5 : Turn (fun j => j = s) w1 (((w1.setCell ⟨s, 0, none⟩ (.int .i64 0)).setCell ⟨s, 1, none⟩ (.int .i64 0)).alloc (.cells #[.int .i64 0, .int .i64 0] 36)) := (((Turn.refl (fun j => j = s) w1).setCell (p := ⟨s, 0, none⟩) (.inl rfl) _).setCell (p := ⟨s, 1, none⟩) (.inl rfl) _).alloc _
  have T6 : Turn (fun _ => False) w (((w1.setCell ⟨s, 0, none⟩ (.int .i64 0)).setCell ⟨s, 1, none⟩ (.int .i64 0)).alloc (.cells #[.int .i64 0, .int .i64 0] 36)) := (ta.then t1).trans T5 (fun j hj => .inr (by omega))
  clear b3 b4 b5 b6 b1 T5 Hp b0 ta t1 b2 t2
  go_wp2_with fail
  exact bodyPost_ret (v := .tuple #[.agg #[.int .i64 0, .int .i64 0], .bool false]) (by simp [results, Try.results11, go_sem, e0, e1]) rfl ⟨rfl, T6⟩
set_option maxHeartbeats 1000000 in
theorem place_nil (w : World) (id : Int) : Calls Try.prog 18 #[.pointer none, .int .i64 id] w fun e w' => e = .returned (.tuple #[.int .i64 0, .bool false]) ∧ w' = w := by
  go_enter Try.func18, Try.ntmps18
  go_wp2
  go_ret2
  exact ⟨rfl, rfl⟩
set_option maxHeartbeats 1000000 in
theorem rank_nil (w : World) (id : Int) : Calls Try.prog 13 #[.pointer none, .int .i64 id] w fun e w' => e = .returned (.tuple #[.int .i64 0, .bool false]) ∧ w' = w := by
  go_enter Try.func13, Try.ntmps13
  go_wp2_with (go_at_call 18; refine (place_nil _ _).mono ?_; rintro e w1 ⟨rfl, rfl⟩)
  go_ret2
  exact ⟨rfl, rfl⟩
set_option maxHeartbeats 1000000 in
theorem drop_nil (w : World) (id : Int) : Calls Try.prog 12 #[.pointer none, .int .i64 id] w fun e w' => e = .returned (.bool false) ∧ w' = w := by
  go_enter Try.func12, Try.ntmps12
  go_wp2_with (go_at_call 18; refine (place_nil _ _).mono ?_; rintro e w1 ⟨rfl, rfl⟩)
  go_ret
  exact ⟨rfl, rfl⟩
set_option maxHeartbeats 1000000 in
theorem Push_nil (w : World) (id rank : Int) : Calls Try.prog 14 #[.pointer none, .int .i64 id, .int .i64 rank] w fun e w' => e = .returned (.int .i64 2) ∧ w' = w := by
  go_enter Try.func14, Try.ntmps14
  go_wp2
  go_ret
  exact ⟨rfl, rfl⟩
set_option maxHeartbeats 1000000 in
theorem Lower_nil (w : World) (id rank : Int) : Calls Try.prog 9 #[.pointer none, .int .i64 id, .int .i64 rank] w fun e w' => e = .returned (.int .i64 2) ∧ w' = w := by
  go_enter Try.func9, Try.ntmps9
  go_wp2
  go_ret
  exact ⟨rfl, rfl⟩

set_option maxRecDepth 100000 in
set_option maxHeartbeats 8000000 in
theorem nil_walk (w : World) (id rank : Int) :
    Calls Try.prog 5 #[.int .i64 id, .int .i64 rank] w fun e w' => e = .returned (.bool true) ∧ Turn (fun _ => False) w w' := by
  go_enter Try.func5, Try.ntmps5
  go_wp2_with fail
  refine (pop_nil _).mono ?_
  rintro e w1 ⟨rfl, t1⟩
  have k1 : (w1.alloc (.cells #[.int .i64 0, .int .i64 0] 36)).heap[w1.heap.size]? = some (.cells #[.int .i64 0, .int .i64 0] 36 (0, 0)) := heap_alloc_new w1 _
  have t1' := t1.alloc (.cells #[.int .i64 0, .int .i64 0] 36)
  clear t1
  go_wp2_with fail
  generalize w1.alloc (.cells #[.int .i64 0, .int .i64 0] 36) = v1 at *
  generalize w1.heap.size = b1 at *
  refine (peek_nil _).mono ?_
  rintro e w2 ⟨rfl, t2⟩
  have k2 : (w2.alloc (.cells #[.int .i64 0, .int .i64 0] 36)).heap[w2.heap.size]? = some (.cells #[.int .i64 0, .int .i64 0] 36 (0, 0)) := heap_alloc_new w2 _
  have t2' := t2.alloc (.cells #[.int .i64 0, .int .i64 0] 36)
  have k1' := t2'.same k1 (fun h => h)
  have T2 := t1'.then t2'
  clear t2 t2' t1' k1
  go_wp2_with fail
  generalize w2.alloc (.cells #[.int .i64 0, .int .i64 0] 36) = v2 at *
  generalize w2.heap.size = b2 at *
  refine (rank_nil _ _).mono ?_
  rintro e w3 ⟨rfl, rfl⟩
  go_wp2_with fail
  refine (new_bad _ 0 (by omega)).mono ?_
  rintro e w4 ⟨rfl, rfl⟩
  go_wp2_with fail
  refine (new_bad _ 4194305 (by omega)).mono ?_
  rintro e w5 ⟨rfl, rfl⟩
  go_wp2_with fail
  refine (awake_walk _).mono ?_
  rintro e w6 ⟨rfl, t6⟩
  have T6 := T2.then t6
  have k1 := t6.same k1' (fun h => h)
  have k2' := t6.same k2 (fun h => h)
  have x0 : w6.cell? ⟨b1, 0, none⟩ = some (.int .i64 0) := cell_obj k1 0
  have x1 : w6.cell? ⟨b1, 1, none⟩ = some (.int .i64 0) := cell_obj k1 1
  have y0 : w6.cell? ⟨b2, 0, none⟩ = some (.int .i64 0) := cell_obj k2' 0
  have y1 : w6.cell? ⟨b2, 1, none⟩ = some (.int .i64 0) := cell_obj k2' 1
  clear t6 T2 k1 k1' k2 k2'
  go_wp2_with (first
    | (go_at_call 14; refine (Push_nil _ _ _).mono ?_; rintro e w7 ⟨rfl, rfl⟩)
    | (go_at_call 9; refine (Lower_nil _ _ _).mono ?_; rintro e w8 ⟨rfl, rfl⟩)
    | (go_at_call 12; refine (drop_nil _ _).mono ?_; rintro e w9 ⟨rfl, rfl⟩)
    | (go_at_call 16; refine (len_nil _).mono ?_; rintro e w10 ⟨rfl, rfl⟩))
  go_ret
  exact ⟨rfl, T6⟩
theorem HeapNil_law (w : World) (id : Int) (hi : (Lit.int .i64 id).wf = true) (rank : Int) (hr : (Lit.int .i64 rank).wf = true) :
    Calls Try.prog 5 #[.int .i64 id, .int .i64 rank] w fun e w' => e = .returned (.bool true) ∧ Below w.heap.size w w' :=
  (nil_walk w id rank).mono (fun e w' h => ⟨h.1, h.2.bel⟩)
end Go.Proofs.Ytcajomobmjapgaa
