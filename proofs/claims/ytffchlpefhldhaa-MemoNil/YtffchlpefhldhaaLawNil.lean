/- MemoNil: for every pair and every distance the call returns true. -/
import Derived.Test.YtffchlpefhldhaaMNil
namespace Go.Proofs.Ytffchlpefhldhaa
open Go.RowKit Go.Maps Go.Shelf
attribute [local go_sem] Oper.semAt_some
set_option linter.unusedVariables false

set_option maxRecDepth 100000 in
set_option maxHeartbeats 4000000 in
theorem MemoNil_law (w : World) (a b : Int) (wa : I32 a) (wb : I32 b) (d : Int) (wd : (Lit.int .i64 d).wf = true) :
    Calls Try.prog 5 #[.agg #[.int .i32 a, .int .i32 b], .int .i64 d] w fun e w' => e = .returned (.bool true) ∧ Below w.heap.size w w' := by
  have hmix : Try.prog.follows .mixedOrders = true := by kernel_rfl
  refine (callsIn_wide (n := 3)).1 ?_
  refine callsIn_of_wp_marks Try.func5 rfl trivial ?_ rfl
  simp only [Try.ntmps5, List.size_toArray, List.length_cons, List.length_nil, Nat.reduceAdd, Nat.reduceSub, Array.replicate_succ, Array.replicate_zero, List.push_toArray, List.append_toArray, List.nil_append, List.cons_append]
  gi_wp2_with fail
  refine ⟨trivial, ?_⟩
  have t0 : Turn (fun _ => False) w ((w.alloc (.cells #[.int .i32 a, .int .i32 b] 30)).alloc (.cells #[.bool false] 4)) := ((Turn.refl _ w).alloc _).alloc _
  have bl : ((w.alloc (.cells #[.int .i32 a, .int .i32 b] 30)).alloc (.cells #[.bool false] 4)).heap[w.heap.size]? = some (.cells #[.int .i32 a, .int .i32 b] 30 (0, 0)) := (Below.heap_alloc _ _ _ (by simp)).trans (heap_alloc_new w _)
  have br : ((w.alloc (.cells #[.int .i32 a, .int .i32 b] 30)).alloc (.cells #[.bool false] 4)).heap[w.heap.size + 1]? = some (.cells #[.bool false] 4 (0, 0)) := by
    have := heap_alloc_new (w.alloc (.cells #[.int .i32 a, .int .i32 b] 30)) (.cells #[.bool false] 4)
    simpa using this
  generalize (w.alloc (.cells #[.int .i32 a, .int .i32 b] 30)).alloc (.cells #[.bool false] 4) = W0 at *
  refine (callsIn_wide.2 (get_nil W0 a b)).mono ?_
  rintro e w1 ⟨rfl, t1⟩
  have bl1 := t1.same bl id
  have br1 := t1.same br id
  have tt1 : Turn (fun _ => False) w w1 := t0.then t1
  clear t0 t1 bl br
  gi_wp2_with fail
  refine ⟨trivial, ?_⟩
  refine (callsIn_wide.2 (all_nil w1)).mono ?_
  rintro e w2 ⟨bp, bs, gp, gs, cp, cd, rfl, t2, l2, ecp, ecd⟩
  have bl2 := t2.same bl1 id
  have br2 := t2.same br1 id
  have tt2 := tt1.then t2
  have hnf := not_nil (.pointer (some ⟨bp, 0, none⟩)) (.pointer (some ⟨bs, 0, none⟩))
  clear bl1 br1 t2
  gi_wp2_with fail
  refine ⟨trivial, ?_⟩
  refine (callsIn_wide.2 (awake_walk w2)).mono ?_
  rintro e w3 ⟨rfl, t3⟩
  have bl3 := t3.same bl2 id
  have br3 := t3.same br2 id
  have tt3 := tt2.then t3
  have l3 := l2.turn t3 (fun _ _ => id)
  have hsz := tt2.size
  clear bl2 br2 t3 l2
  gi_wp2_with fail
  have q1 := (Array.getElem?_eq_some_iff.1 l3.b1).1
  have q2 := (Array.getElem?_eq_some_iff.1 l3.b2).1
  have q3 := (Array.getElem?_eq_some_iff.1 l3.r1).1
  have q4 := (Array.getElem?_eq_some_iff.1 l3.r2).1
  have hs3 := tt3.size
  refine wpIn_rangeFunc_ownH rfl (by omega) (gf := 23) (lb := #[.pointer (some ⟨bp, 0, none⟩), .pointer (some ⟨bs, 0, none⟩)]) rfl trivial (enters_of Try.func23 (by kernel_rfl) rfl)
    (seq_stops 2 (by omega) _ bp bs gp gs cp cd [] w3 l3 ecp ecd ⟨by simp, by simp⟩ (by simp)) keepSeq_t (keepSeq_b q1 q2 q3 q4) (Below.refl _ _) (fun _ => rfl)
    (fun pre W => W.heap[w.heap.size]? = some (.cells #[.int .i32 a, .int .i32 b] 30 (0, 0)) ∧ W.heap[w.heap.size + 1]? = some (.cells #[.bool false] 4 (0, 0)) ∧ Turn (fun _ => False) w W)
    (fun c pre W => False)
    (fun s A B' row hs hg hr => ⟨own_same hg hr hs.1 rfl, own_same hg hr hs.2.1 rfl, own_turn hg hr hs.2.2 (by omega)⟩)
    (fun c s A B' row hs hg hr => hs)
    ⟨bl3, br3, tt3⟩
    (fun x a' W => True)
    (fun x a' s A B' row hs hg hr => trivial)
    ?assign ?body ?done ?stop
  case assign =>
    rintro l pre x W K hi hK
    gi_wp2
    exact hK _ _ (KeepsFrom.refl _ _) ⟨rfl, rfl, rfl, rfl⟩ hi trivial
  case body =>
    rintro l pre x a' W hll hr hi _ hlt
    simp at hlt
  case done =>
    rintro D ys W hD hS ⟨i1, i2, i3⟩ hK
    have p0 : W.cell? ⟨w.heap.size, 0, none⟩ = some (.int .i32 a) := cell_obj i1 0
    have p1 : W.cell? ⟨w.heap.size, 1, none⟩ = some (.int .i32 b) := cell_obj i1 1
    gi_wp2_with fail
    refine ⟨trivial, ?_⟩
    refine (callsIn_wide.2 (put_nil W a b d)).mono ?_
    rintro e w4 ⟨rfl, t4⟩
    have p0 := t4.cell p0 id
    gi_wp2_with fail
    refine ⟨trivial, ?_⟩
    refine (callsIn_wide.2 (drop_nil w4 a)).mono ?_
    rintro e w5 ⟨rfl, t5⟩
    gi_wp2_with fail
    refine ⟨trivial, ?_⟩
    refine (callsIn_wide.2 (len_nil w5)).mono ?_
    rintro e w6 ⟨rfl, hw6⟩
    subst hw6
    gi_wp2_with fail
    refine ⟨trivial, ?_⟩
    refine (callsIn_wide.2 (fork_nil w6)).mono ?_
    rintro e w7 ⟨rfl, hw7⟩
    subst hw7
    have t7 := t4.then t5
    have i2' := t7.same i2 id
    have hK' := t7.same hK id
    have i3' := i3.then t7
    have cr : w7.cell? ⟨w.heap.size + 1, 0, none⟩ = some (.bool false) := cell_obj i2' 0
    have fr : w7.frozen? ⟨w.heap.size + 1, 0, none⟩ = false := frozen_obj i2' 0
    gi_wp2_with fail
    have tN : Turn (fun j => j = w.heap.size + 1) w7 (w7.setCell ⟨w.heap.size + 1, 0, none⟩ (.bool true)) := (Turn.refl (fun j => j = w.heap.size + 1) w7).setCell (p := ⟨w.heap.size + 1, 0, none⟩) (.inl rfl) _
    have bN := heap_setCell_obj (j := 0) i2' (.bool true)
    have kN := tN.same hK' (by rintro rfl; rw [i2'] at hK'; cases hK')
    have hc5 : ((w7.setCell ⟨w.heap.size + 1, 0, none⟩ (.bool true)).putObj D (.deferred none)).cell? ⟨w.heap.size + 1, 0, none⟩ = some (.bool true) := by
      have n1 : w.heap.size + 1 ≠ D := by rintro rfl; rw [i2'] at hK'; cases hK'
      exact cell_obj ((World.putObj_heap_other n1).trans bN) 0
    refine ⟨by simp, .inl ⟨_, _, rfl, run_takeDeferred kN, ?_⟩⟩
    refine ⟨.bool true, ?_, rfl, ?_⟩
    · simp [results, Try.f5, go_sem, hc5]
    · exact ((i3'.trans tN (fun j hj => .inr (by omega))).putObj (.inr (by omega)) _).below (fun j hj => hj.elim) (Nat.le_refl _)
  case stop =>
    rintro D c pre W _ _ h _
    exact h.elim
end Go.Proofs.Ytffchlpefhldhaa
