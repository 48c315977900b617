/- The laws' begin: a journal on a new disk. -/
import Derived.Test.YthikiahhochjmaaGreatDoorJAwake
import Derived.Test.YthikiahhochjmaaGreatDoorJEven
namespace Go.Proofs.YthikiahhochjmaaGreatDoor
open Go.RowKit Go.Maps Go.Sort
set_option linter.unusedVariables false
set_option linter.unusedSimpArgs false

def TruthB (D J m : Nat) : Array Value := #[.pointer (some ⟨D, 0, none⟩), .pointer (some ⟨J, 0, none⟩), .int .i64 (m : Int), .slice none 0 0, .int .u64 0, .int .u64 0, .int .i64 0, .bool false, .bool false, .bool false]
set_option maxRecDepth 100000 in
set_option maxHeartbeats 1000000 in
theorem begin_t (w : World) (m : Nat) (h1 : 1 ≤ m) (h2 : m ≤ 1000) :
    Calls Tryz.prog 8 #[.int .i64 (m : Int)] w fun e w' => ∃ T J D, e = .returned (.pointer (some ⟨T, 0, none⟩)) ∧ Turn (fun _ => False) w w' ∧ w.heap.size ≤ T ∧ w'.heap[T]? = some (.cells (TruthB D J m) 32) ∧ JAt w' (fun j => w.heap.size ≤ j ∧ j ≠ T) J D (newX m []) (newS 262144) := by
  have hnew := New_walk 262144 w (by decide) (by decide)
  go_enter Tryz.func8, Tryz.ntmps8
  go_wp2_with fail
  refine hnew.mono ?_
  rintro e w1 ⟨rfl, t1, d1⟩
  go_wp2_with fail
  refine (open_new w1 _ _ m 262144 d1 (by decide) h1 h2).mono ?_
  rintro e w2 ⟨J, rfl, t2, hJ, J2⟩
  have s1 := t1.size
  have s2 := t2.size
  have T2 : Turn (fun _ => False) w w2 := ((t1.mono (fun _ h => h.elim)).then t2).fresh (Nat.le_refl _)
  have tA : Turn (fun _ => False) w2 (w2.alloc (.cells (TruthB w.heap.size J m) 32)) := (Turn.refl _ w2).alloc _
  have kA := heap_alloc_new w2 (.cells (TruthB w.heap.size J m) 32)
  have J3 := (J2.mono (H' := fun j => w.heap.size ≤ j ∧ j ≠ w2.heap.size) (fun j hj hl => by
    rcases hj with hj | hj
    · exact ⟨hj, by omega⟩
    · exact ⟨by omega, by omega⟩)).turn tA (fun _ _ h => h)
  have H := hide (And.intro J3 (T2.then tA))
  clear J2 J3 d1 hnew t1 t2 T2 tA
  go_wp2
  go_ret
  exact ⟨w2.heap.size, J, w.heap.size, rfl, (unhide H).2, by omega, kA, (unhide H).1⟩
end Go.Proofs.YthikiahhochjmaaGreatDoor
