/- Encode: which bytes a network is, and which are none. -/
import Derived.Test.YtombpfpfeebnpaaGEnc
namespace Go.Proofs.Ytombpfpfeebnpaa
open Go.RowKit Go.Maps
set_option linter.unusedVariables false
set_option linter.unusedSimpArgs false
set_option maxRecDepth 100000

theorem alloc_size (w : World) (o : Obj) : (w.alloc o).heap.size = w.heap.size + 1 := Array.size_push ..
def arcN (a : Ar) : List Int := [a.1, a.2.1, a.2.2]
theorem numsB_arc (a : Ar) : numsB (arcN a) = arcB a := by simp [numsB, arcN, arcB]
theorem row_three (w : World) (a b c : Int) : Row .i64 (fun j => j = w.heap.size) (w.alloc (.cells #[.int .i64 a, .int .i64 b, .int .i64 c] 3)) (.slice (some ⟨w.heap.size, 0, none⟩) 3 3) [a, b, c] := by
  refine .inr ⟨_, 0, 3, rfl, Nat.le_refl _, by unfold maxLen; omega, rfl, fun i hi => ?_⟩
  simp only [List.length_cons, List.length_nil] at hi
  rw [cell_obj (heap_alloc_new w _)]
  match i, hi with
  | 0, _ => rfl
  | 1, _ => rfl
  | 2, _ => rfl
theorem row_two (w : World) (a b : Int) : Row .i64 (fun j => j = w.heap.size) (w.alloc (.cells #[.int .i64 a, .int .i64 b] 3)) (.slice (some ⟨w.heap.size, 0, none⟩) 2 2) [a, b] := by
  refine .inr ⟨_, 0, 2, rfl, Nat.le_refl _, by unfold maxLen; omega, rfl, fun i hi => ?_⟩
  simp only [List.length_cons, List.length_nil] at hi
  rw [cell_obj (heap_alloc_new w _)]
  match i, hi with
  | 0, _ => rfl
  | 1, _ => rfl
theorem ob_lit (w : World) (x : Int) : OB (w.alloc (.cells #[.int .u8 x] 5)) (.slice (some ⟨w.heap.size, 0, none⟩) 1 1) [x] := by
  refine ⟨rfl, .inr ⟨_, 0, 1, _, rfl, heap_alloc_new w _, Nat.le_refl _, by unfold maxLen; omega, by simp, rfl⟩⟩

end Go.Proofs.Ytombpfpfeebnpaa
