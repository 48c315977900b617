/- Arcs held against each other. -/
import Derived.Test.YtombpfpfeebnpaaGSmall
namespace Go.Proofs.Ytombpfpfeebnpaa
open Go.RowKit Go.Maps
set_option linter.unusedVariables false
set_option linter.unusedSimpArgs false
set_option maxRecDepth 100000

theorem ar_one (w : World) (a : Ar) : AR (fun j => j = w.heap.size) (w.alloc (.cells #[.int .i64 a.1, .int .i64 a.2.1, .int .i64 a.2.2] 46)) (.slice (some ⟨w.heap.size, 0, none⟩) 1 1) [a] := by
  refine .inr ⟨_, 0, 1, rfl, Nat.le_refl _, by unfold maxLen; omega, rfl, fun i x hx => ?_⟩
  match i, hx with
  | 0, hx =>
    simp at hx
    subst hx
    rw [cell_obj (heap_alloc_new w _), cell_obj (heap_alloc_new w _), cell_obj (heap_alloc_new w _)]
    exact ⟨rfl, rfl, rfl⟩
end Go.Proofs.Ytombpfpfeebnpaa
