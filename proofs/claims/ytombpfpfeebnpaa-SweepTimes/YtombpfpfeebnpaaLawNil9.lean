/- HeapNil: a nil heap; what may not be made. -/
import Derived.Test.YtombpfpfeebnpaaHAwake
namespace Go.Proofs.Ytombpfpfeebnpaa
open Go.RowKit Go.Maps
set_option linter.unusedVariables false
set_option linter.unusedSimpArgs false

set_option maxHeartbeats 1000000 in
theorem len_nil (w : World) : Calls Try.prog 62 #[.pointer none] w fun e w' => e = .returned (.int .i64 0) ∧ w' = w := by
  go_enter Try.func62, Try.ntmps62
  go_wp2
  go_ret
  exact ⟨rfl, rfl⟩
set_option maxHeartbeats 1000000 in
theorem peek_nil (w : World) : Calls Try.prog 56 #[.pointer none] w fun e w' => e = .returned (.tuple #[.agg #[.int .i64 0, .int .i64 0], .bool false]) ∧ Turn (fun _ => False) w w' := by
  go_enter Try.func56, Try.ntmps56
  go_wp2_with (go_at_call 62; refine (len_nil _).mono ?_; rintro e w1 ⟨rfl, rfl⟩)
  exact bodyPost_ret (v := .tuple #[.agg #[.int .i64 0, .int .i64 0], .bool false]) (by simp [results, Try.results56, go_sem]) rfl ⟨rfl, (Turn.refl _ _).alloc _⟩
set_option maxHeartbeats 1000000 in
theorem pop_nil (w : World) : Calls Try.prog 48 #[.pointer none] w fun e w' => e = .returned (.tuple #[.agg #[.int .i64 0, .int .i64 0], .bool false]) ∧ Turn (fun _ => False) w w' := by
  have ta := (Turn.refl (fun _ => False) w).alloc (.cells #[.int .i64 0, .int .i64 0] 71)
  have b0 : (w.alloc (.cells #[.int .i64 0, .int .i64 0] 71)).heap[w.heap.size]? = some (.cells #[.int .i64 0, .int .i64 0] 71 (0, 0)) := heap_alloc_new w _
  generalize hs : w.heap.size = s at *
  have Hp := peek_nil (w.alloc (.cells #[.int .i64 0, .int .i64 0] 71))
  go_enter Try.func48, Try.ntmps48
  go_wp2_with fail
  refine Hp.mono ?_
  rintro e w1 ⟨rfl, t1⟩
  have t2 := t1.alloc (.cells #[.int .i64 0, .int .i64 0] 71)
  have b2 := t2.same b0 (fun h => h)
  have sz2 : s < w1.heap.size := by
    have := (Array.getElem?_eq_some_iff.1 (t1.same b0 (fun h => h))).1; exact this
  have ss : s < (w1.alloc (.cells #[.int .i64 0, .int .i64 0] 71)).heap.size := (Array.getElem?_eq_some_iff.1 b2).1
  have b1 : w1.heap[s]? = some (.cells #[.int .i64 0, .int .i64 0] 71 (0, 0)) := t1.same b0 (fun h => h)
  have b3 := heap_setCell_obj (j := 0) b1 (.int .i64 0)
  have b4 := heap_setCell_obj (j := 1) b3 (.int .i64 0)
  have s3 : s < (w1.setCell ⟨s, 0, none⟩ (.int .i64 0)).heap.size := (Array.getElem?_eq_some_iff.1 b3).1
  have s4 : s < ((w1.setCell ⟨s, 0, none⟩ (.int .i64 0)).setCell ⟨s, 1, none⟩ (.int .i64 0)).heap.size := (Array.getElem?_eq_some_iff.1 b4).1
  have b5 := ((Turn.refl (fun _ => False) (w1.setCell ⟨s, 0, none⟩ (.int .i64 0))).alloc (.cells #[.int .i64 0, .int .i64 0] 71)).same b3 (fun h => h)
  have b6 := ((Turn.refl (fun _ => False) ((w1.setCell ⟨s, 0, none⟩ (.int .i64 0)).setCell ⟨s, 1, none⟩ (.int .i64 0))).alloc (.cells #[.int .i64 0, .int .i64 0] 71)).same b4 (fun h => h)
  have c0 : (w1.alloc (.cells #[.int .i64 0, .int .i64 0] 71)).cell? ⟨s, 0, none⟩ = some (.int .i64 0) := cell_obj b2 0
  have c1 : (w1.alloc (.cells #[.int .i64 0, .int .i64 0] 71)).cell? ⟨s, 1, none⟩ = some (.int .i64 0) := cell_obj b2 1
  have z0 : (w1.alloc (.cells #[.int .i64 0, .int .i64 0] 71)).frozen? ⟨s, 0, none⟩ = false := frozen_obj b2 _
  have z1 : ((w1.setCell ⟨s, 0, none⟩ (.int .i64 0)).alloc (.cells #[.int .i64 0, .int .i64 0] 71)).frozen? ⟨s, 1, none⟩ = false := frozen_obj b5 _
  have d1 : ((w1.setCell ⟨s, 0, none⟩ (.int .i64 0)).alloc (.cells #[.int .i64 0, .int .i64 0] 71)).cell? ⟨s, 1, none⟩ = some (.int .i64 0) := by rw [cell_obj b5 1]; rfl
  have e0 : (((w1.setCell ⟨s, 0, none⟩ (.int .i64 0)).setCell ⟨s, 1, none⟩ (.int .i64 0)).alloc (.cells #[.int .i64 0, .int .i64 0] 71)).cell? ⟨s, 0, none⟩ = some (.int .i64 0) := by rw [cell_obj b6 0]; rfl
  have e1 : (((w1.setCell ⟨s, 0, none⟩ (.int .i64 0)).setCell ⟨s, 1, none⟩ (.int .i64 0)).alloc (.cells #[.int .i64 0, .int .i64 0] 71)).cell? ⟨s, 1, none⟩ = some (.int .i64 0) := by rw [cell_obj b6 1]; rfl
  have T5 : Turn (fun j => j = s) w1 (((w1.setCell ⟨s, 0, none⟩ (.int .i64 0)).setCell ⟨s, 1, none⟩ (.int .i64 0)).alloc (.cells #[.int .i64 0, .int .i64 0] 71)) := (((Turn.refl (fun j => j = s) w1).setCell (p := ⟨s, 0, none⟩) (.inl rfl) _).setCell (p := ⟨s, 1, none⟩) (.inl rfl) _).alloc _
  have T6 : Turn (fun _ => False) w (((w1.setCell ⟨s, 0, none⟩ (.int .i64 0)).setCell ⟨s, 1, none⟩ (.int .i64 0)).alloc (.cells #[.int .i64 0, .int .i64 0] 71)) := (ta.then t1).trans T5 (fun j hj => .inr (by omega))
  clear b3 b4 b5 b6 b1 T5 Hp b0 ta t1 b2 t2
  go_wp2_with fail
  exact bodyPost_ret (v := .tuple #[.agg #[.int .i64 0, .int .i64 0], .bool false]) (by simp [results, Try.results48, go_sem, e0, e1]) rfl ⟨rfl, T6⟩
set_option maxHeartbeats 1000000 in
theorem place_nil (w : World) (id : Int) : Calls Try.prog 68 #[.pointer none, .int .i64 id] w fun e w' => e = .returned (.tuple #[.int .i64 0, .bool false]) ∧ w' = w := by
  go_enter Try.func68, Try.ntmps68
  go_wp2
  go_ret2
  exact ⟨rfl, rfl⟩
set_option maxHeartbeats 1000000 in
theorem Push_nil (w : World) (id rank : Int) : Calls Try.prog 60 #[.pointer none, .int .i64 id, .int .i64 rank] w fun e w' => e = .returned (.int .i64 2) ∧ w' = w := by
  go_enter Try.func60, Try.ntmps60
  go_wp2
  go_ret
  exact ⟨rfl, rfl⟩
set_option maxHeartbeats 1000000 in
theorem Lower_nil (w : World) (id rank : Int) : Calls Try.prog 59 #[.pointer none, .int .i64 id, .int .i64 rank] w fun e w' => e = .returned (.int .i64 2) ∧ w' = w := by
  go_enter Try.func59, Try.ntmps59
  go_wp2
  go_ret
  exact ⟨rfl, rfl⟩

end Go.Proofs.Ytombpfpfeebnpaa
