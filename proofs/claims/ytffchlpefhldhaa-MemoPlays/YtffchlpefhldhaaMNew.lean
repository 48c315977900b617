/- New. -/
import Derived.Test.YtffchlpefhldhaaMPut
import Derived.Test.YtffchlpefhldhaaMGet
namespace Go.Proofs.Ytffchlpefhldhaa
open Go.RowKit Go.Maps
set_option linter.unusedVariables false

theorem owns_new {w : World} {k : TypeId} {R : Value → Option (DataW Unit × List MemPlace)} {b : Nat} (h : w.heap[b]? = some (.map #[] 0)) : w.ownsMap Try.prog k R b 0 (.map []) :=
  ⟨#[], 0, h, ⟨by simp, MapKept.stamped_empty 0, by simp⟩, Nat.le_refl _, rfl⟩
theorem tells_new (f : Int → Int → Int) (h : ∀ a b, f a b = 0) : Tells (.map []) f := ⟨⟨_, rfl⟩, fun a b _ _ => by rw [h]; rfl⟩
theorem mem_new {w : World} {B bd bc g n most : Nat} {cur : Array Value} (hB : w.heap[B]? = some (.cells #[.int .i64 most, .map (some bd), .slice (some ⟨g, 0, none⟩) 0 n, .map (some bc)] 57 (0, 0))) (hd : w.heap[bd]? = some (.map #[] 0)) (hc : w.heap[bc]? = some (.map #[] 0)) (hne : bd ≠ bc)
    (hg : w.heap[g]? = some (.cells cur 30 (0, 0))) (hcur : cur.size = n * 2) (hn : n ≤ 65536) (m1 : 1 ≤ most) (m2 : most ≤ 65536) : Mem w B bd bc (.slice (some ⟨g, 0, none⟩) 0 n) 0 most [] :=
  ⟨hB, hne, ⟨⟨_, owns_new hd, tells_new _ (fun _ _ => rfl), fun _ _ _ _ => rfl⟩, ⟨_, owns_new hc, tells_new _ (fun _ _ => rfl)⟩⟩,
    ⟨rfl, .inr ⟨g, 0, n, cur, rfl, hg, Nat.zero_le _, by unfold maxLen; omega, by omega, by simp [qcells]⟩⟩, ⟨by simp, by simp⟩, m1, m2, Nat.zero_le _, by omega⟩

theorem four0 (w : World) (o0 o1 o2 o3 : Obj) : ((((w.alloc o0).alloc o1).alloc o2).alloc o3).drew.heap[w.heap.size]? = some o0 := by
  show ((((w.alloc o0).alloc o1).alloc o2).alloc o3).heap[w.heap.size]? = some o0
  rw [Below.heap_alloc _ _ _ (by simp <;> omega), Below.heap_alloc _ _ _ (by simp <;> omega), Below.heap_alloc _ _ _ (by simp)]
  exact heap_alloc_new w o0
theorem four1 (w : World) (o0 o1 o2 o3 : Obj) : ((((w.alloc o0).alloc o1).alloc o2).alloc o3).drew.heap[w.heap.size + 1]? = some o1 := by
  show ((((w.alloc o0).alloc o1).alloc o2).alloc o3).heap[w.heap.size + 1]? = some o1
  rw [Below.heap_alloc _ _ _ (by simp <;> omega), Below.heap_alloc _ _ _ (by simp)]
  have := heap_alloc_new (w.alloc o0) o1
  simpa using this
theorem four2 (w : World) (o0 o1 o2 o3 : Obj) : ((((w.alloc o0).alloc o1).alloc o2).alloc o3).drew.heap[w.heap.size + 1 + 1]? = some o2 := by
  show ((((w.alloc o0).alloc o1).alloc o2).alloc o3).heap[w.heap.size + 1 + 1]? = some o2
  rw [Below.heap_alloc _ _ _ (by simp)]
  have := heap_alloc_new ((w.alloc o0).alloc o1) o2
  simpa using this
theorem four3 (w : World) (o0 o1 o2 o3 : Obj) : ((((w.alloc o0).alloc o1).alloc o2).alloc o3).drew.heap[w.heap.size + 1 + 1 + 1]? = some o3 := by
  show ((((w.alloc o0).alloc o1).alloc o2).alloc o3).heap[w.heap.size + 1 + 1 + 1]? = some o3
  have := heap_alloc_new (((w.alloc o0).alloc o1).alloc o2) o3
  simpa using this
theorem four_turn (w : World) (o0 o1 o2 o3 : Obj) : Turn (fun _ => False) w ((((w.alloc o0).alloc o1).alloc o2).alloc o3).drew := (((((Turn.refl _ w).alloc o0).alloc o1).alloc o2).alloc o3).drew

set_option maxHeartbeats 2000000 in
theorem empty_walk (w : World) (most n : Nat) (m1 : 1 ≤ most) (m2 : most ≤ 65536) (hn : n ≤ 65536) :
    Calls Try.prog 18 #[.int .i64 most, .int .i64 n] w fun e w' => ∃ B bd bc qv, e = .returned (.pointer (some ⟨B, 0, none⟩)) ∧ Turn (fun _ => False) w w' ∧ Mem w' B bd bc qv 0 most [] ∧ ∀ j, Foot B bd bc qv j → w.heap.size ≤ j := by
  obtain ⟨i0, hi, hz0, hz1, hz2⟩ := info_parts info_pair
  obtain ⟨cur, hcur, hmk⟩ : ∃ cur : Array Value, cur.size = n * 2 ∧ ∀ u : World, (Instr.makeSlice 45 (.int .i64 0) (.int .i64 (n : Int))).run Try.prog u = .ok (.slice (some ⟨u.heap.size, 0, none⟩) 0 n) (u.alloc (.cells cur 30)) := by
    refine ⟨madeCells (Value.agg #[.int .i32 0, .int .i32 0]).cells (n * 2), by simp [madeCells], fun u => ?_⟩
    have := run_make (P := Try.prog) u 45 30 i0 _ Try.underlying45 hi hz0 .i64 .i64 0 (n : Int) (by omega) (by omega) (by rw [hz2]; omega) (by omega)
    rw [hz1] at this
    simpa using this
  have hm1 : ∀ u : World, (Instr.makeMap 54 (some (.int .i64 (n : Int)))).run Try.prog u = .ok (.map (some u.heap.size)) (u.alloc (.map #[] 0)) := by
    intro u
    simp [Instr.makeMap, run_underlying Try.underlying54, asInt, asIntOf, Result.andThen]
  have hm2 := @run_makeMap Try.prog
  go_enter Try.func18, Try.ntmps18
  go_wp2
  go_region
  all_goals go_wp2
  all_goals go_ret
  all_goals
    refine ⟨_, _, _, _, rfl, four_turn _ _ _ _ _, mem_new (cur := cur) (four3 _ _ _ _ _) (by first | exact four0 _ _ _ _ _ | exact four1 _ _ _ _ _ | exact four2 _ _ _ _ _) (by first | exact four0 _ _ _ _ _ | exact four1 _ _ _ _ _ | exact four2 _ _ _ _ _) (by omega) (by first | exact four0 _ _ _ _ _ | exact four1 _ _ _ _ _ | exact four2 _ _ _ _ _) hcur hn m1 m2, ?_⟩
    intro j hj
    rcases hj with rfl | rfl | rfl | hj
    · omega
    · omega
    · omega
    · simp [Value.ownBlock] at hj; omega

set_option maxHeartbeats 400000 in
theorem new_yes (w : World) (most : Nat) (m1 : 1 ≤ most) (m2 : most ≤ 65536) :
    Calls Try.prog 7 #[.int .i64 most] w fun e w' => ∃ B bd bc qv, e = .returned (.tuple #[.pointer (some ⟨B, 0, none⟩), .int .i64 0]) ∧ Turn (fun _ => False) w w' ∧ Mem w' B bd bc qv 0 most [] ∧ ∀ j, Foot B bd bc qv j → w.heap.size ≤ j := by
  have h1 : decide ((most : Int) < 1) = false := by simp; omega
  have h2 : decide (65536 < (most : Int)) = false := by simp; omega
  go_enter Try.func7, Try.ntmps7
  go_wp2_with fail
  refine (empty_walk w most 0 m1 m2 (by omega)).mono ?_
  rintro e w' ⟨B, bd, bc, qv, rfl, t, m, f⟩
  go_wp2_with fail
  go_ret2
  exact ⟨B, bd, bc, qv, rfl, t, m, f⟩

set_option maxHeartbeats 400000 in
theorem new_no (w : World) (most : Int) (h : ¬ (1 ≤ most ∧ most ≤ 65536)) :
    Calls Try.prog 7 #[.int .i64 most] w fun e w' => e = .returned (.tuple #[.pointer none, .int .i64 1]) ∧ w' = w := by
  by_cases h1 : most < 1
  · go_enter Try.func7, Try.ntmps7
    go_wp2_with fail
    go_ret2
    exact ⟨rfl, rfl⟩
  · have h2 : 65536 < most := by omega
    clear h
    go_enter Try.func7, Try.ntmps7
    go_wp2_with fail
    go_ret2
    exact ⟨rfl, rfl⟩

set_option maxHeartbeats 400000 in
theorem awake_walk (w : World) : Calls Try.prog 8 #[] w fun e w' => e = .returned (.bool true) ∧ Turn (fun _ => False) w w' := by
  go_enter Try.func8, Try.ntmps8
  go_wp2_with fail
  refine (new_yes w 2 (by omega) (by omega)).mono ?_
  rintro e w1 ⟨B, bd, bc, qv, rfl, t1, m1, f1⟩
  go_wp2_with fail
  refine (put_walk w1 B bd bc 0 2 qv [] 1 2 5 (by unfold I32; decide) (by unfold I32; decide) (by decide) m1 (by omega)).mono ?_
  rintro e w2 ⟨rfl, t2, qv2, m2, f2⟩
  rw [show (!keyed [] 1 2) = true from rfl]
  rw [show putL 2 [] 1 2 5 = [(1, 2, 5)] from rfl] at m2
  go_wp2_with fail
  refine (get_walk w2 B bd bc _ 2 qv2 [(1, 2, 5)] 1 2 (by unfold I32; decide) (by unfold I32; decide) m2).mono ?_
  rintro e w3 ⟨rfl, t3⟩
  rw [show keyed [(1, 2, 5)] 1 2 = true from rfl, show dist [(1, 2, 5)] 1 2 = 5 from rfl]
  go_wp2_with fail
  go_ret
  refine ⟨rfl, (t1.trans t2 (fun j hj => .inr (f1 j hj))).then t3⟩
end Go.Proofs.Ytffchlpefhldhaa
