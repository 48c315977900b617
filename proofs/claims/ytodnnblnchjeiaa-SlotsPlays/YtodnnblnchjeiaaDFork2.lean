/- Fork of a disk that never had a file; Fork whole. -/
import Derived.Test.YtodnnblnchjeiaaDFork
namespace Go.Proofs.Ytodnnblnchjeiaa
open Go.RowKit Go.Maps
set_option linter.unusedVariables false

set_option maxRecDepth 100000 in
set_option maxHeartbeats 2000000 in
theorem fork_nomap (w : World) (B : Nat) (E : List Ent) (S : Dk) (m : DMem w B none E S) :
    Calls Try.prog 39 #[.pointer (some ⟨B, 0, none⟩)] w fun e w' => ∃ B2, e = .returned (.pointer (some ⟨B2, 0, none⟩)) ∧ Turn (fun _ => False) w w' ∧ DAt w' B2 (fun j => w.heap.size ≤ j) S := by
  have hE : E = [] := by
    rcases m.map with ⟨_, h1⟩ | ⟨b, h1, _⟩
    · exact h1
    · cases h1
  subst hE
  have c0 : w.cell? ⟨B, 0, none⟩ = some (.int .i64 (S.size : Int)) := cell_obj m.obj 0
  have c1 : w.cell? ⟨B, 1, none⟩ = some (.map none) := cell_obj m.obj 1
  have c2 : w.cell? ⟨B, 2, none⟩ = some (.bool S.down) := cell_obj m.obj 2
  have c3 : w.cell? ⟨B, 3, none⟩ = some (.int .u64 (S.arm : Int)) := cell_obj m.obj 3
  have hBl := m.lt B (.inl rfl)
  have hlen := fun u : World => Maps.len_nil (P := Try.prog) (w := u) (ty := 3) Try.underlying50
  have hmk : ∀ u : World, (Instr.makeMap 50 (some (.int .i64 0))).run Try.prog u = .ok (.map (some u.heap.size)) (u.alloc (.map #[] 0)) := fun u => make_hint 0 u
  have tX : Turn (fun _ => False) w (((w.alloc (.cells #[.int .i64 (S.size : Int), .map (some (w.heap.size + 1)), .bool S.down, .int .u64 (S.arm : Int)] 52)).alloc (.map #[] 0)).alloc (.mapIter none 0 #[] 0)) := (((Turn.refl _ w).alloc _).alloc _).alloc _
  have kX : (((w.alloc (.cells #[.int .i64 (S.size : Int), .map (some (w.heap.size + 1)), .bool S.down, .int .u64 (S.arm : Int)] 52)).alloc (.map #[] 0)).alloc (.mapIter none 0 #[] 0)).heap[w.heap.size]? = some (.cells #[.int .i64 (S.size : Int), .map (some (w.heap.size + 1)), .bool S.down, .int .u64 (S.arm : Int)] 52 (0, 0)) :=
    Turn.same (F := fun _ => False) (((Turn.refl _ _).alloc (.map #[] 0)).alloc _) (heap_alloc_new w _) id
  have oX := World.ownsMap_made (w.alloc (.cells #[.int .i64 (S.size : Int), .map (some (w.heap.size + 1)), .bool S.down, .int .u64 (S.arm : Int)] 52)) Try.prog 9 rawR
  rw [show (w.alloc (.cells #[.int .i64 (S.size : Int), .map (some (w.heap.size + 1)), .bool S.down, .int .u64 (S.arm : Int)] 52)).heap.size = w.heap.size + 1 by simp] at oX
  have nX : DMem (((w.alloc (.cells #[.int .i64 (S.size : Int), .map (some (w.heap.size + 1)), .bool S.down, .int .u64 (S.arm : Int)] 52)).alloc (.map #[] 0)).alloc (.mapIter none 0 #[] 0)) w.heap.size (some (w.heap.size + 1)) [] S :=
    ⟨kX, .inr ⟨_, rfl, oX.alloc _⟩, by simp, List.Pairwise.nil, m.fs, m.well⟩
  have hF : DAt (((w.alloc (.cells #[.int .i64 (S.size : Int), .map (some (w.heap.size + 1)), .bool S.down, .int .u64 (S.arm : Int)] 52)).alloc (.map #[] 0)).alloc (.mapIter none 0 #[] 0)) w.heap.size (fun j => w.heap.size ≤ j) S := by
    refine ⟨_, _, nX, ?_⟩
    rintro j (rfl | h | ⟨e, he, _⟩)
    · exact Nat.le_refl _
    · cases h; omega
    · cases he
  have hrg := fun u : World => run_range_nilMap (P := Try.prog) u 50 9 62 Try.underlying50
  have hnx : ∀ (u : World) ty, (Instr.next (.pointer (some ⟨u.heap.size, 0, none⟩)) false ty).run Try.prog (u.alloc (.mapIter none 0 #[] 0)) = _ := fun u ty => run_next_nilMap u ty 0 0 #[]
  have hnx2 := hnx ((w.alloc (.cells #[.int .i64 (S.size : Int), .map (some (w.heap.size + 1)), .bool S.down, .int .u64 (S.arm : Int)] 52)).alloc (.map #[] 0))
  rw [show ((w.alloc (.cells #[.int .i64 (S.size : Int), .map (some (w.heap.size + 1)), .bool S.down, .int .u64 (S.arm : Int)] 52)).alloc (.map #[] 0)).heap.size = w.heap.size + 2 by simp] at hnx2
  have Ht := hide tX
  have HF := hide hF
  clear nX oX kX m tX hF hnx
  go_enter Try.func39, Try.ntmps39
  go_wp2
  refine wp_loop_rounds 1 ?_
  rw [rounds_succ]
  go_wp2
  go_ret
  exact ⟨_, rfl, unhide Ht, unhide HF⟩
theorem Fork_walk (w : World) (B : Nat) (F : Nat → Prop) (S : Dk) (h : DAt w B F S) :
    Calls Try.prog 39 #[.pointer (some ⟨B, 0, none⟩)] w fun e w' => ∃ B2, e = .returned (.pointer (some ⟨B2, 0, none⟩)) ∧ Turn (fun _ => False) w w' ∧ DAt w' B2 (fun j => w.heap.size ≤ j) S := by
  obtain ⟨mv, E, m, _⟩ := h
  cases mv with
  | none => exact fork_nomap w B E S m
  | some b => exact fork_map w B b E S m
end Go.Proofs.Ytodnnblnchjeiaa
