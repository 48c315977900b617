/- Arcs held against each other. -/
import Derived.Test.YtmmlannnpndkcaaGSmall
namespace Go.Proofs.Ytmmlannnpndkcaa
open Go.RowKit Go.Maps
set_option linter.unusedVariables false
set_option linter.unusedSimpArgs false
set_option maxRecDepth 100000

set_option maxHeartbeats 1000000 in
theorem one_arc (a b : Ar) (w : World) : Calls Try.prog 51 #[arV a, arV b] w fun e w' => e = .returned (.bool (decide (a = b))) ∧ Turn (fun _ => False) w w' := by
  obtain ⟨f, t, v⟩ := a
  obtain ⟨f', t', v'⟩ := b
  unfold arV
  simp only
  by_cases h1 : f = f'
  · by_cases h2 : t = t'
    · by_cases h3 : v = v'
      · have Hd : Hid (decide (((f, t, v) : Ar) = (f', t', v')) = true) := hide (by simp [h1, h2, h3])
        generalize decide (((f, t, v) : Ar) = (f', t', v')) = D at *
        go_enter Try.func51, Try.ntmps51
        go_wp2
        go_ret
        exact ⟨ret_bool (unhide Hd).symm, ((Turn.refl _ _).alloc _).alloc _⟩
      · have Hd : Hid (decide (((f, t, v) : Ar) = (f', t', v')) = false) := hide (by simp [h1, h2, h3])
        generalize decide (((f, t, v) : Ar) = (f', t', v')) = D at *
        go_enter Try.func51, Try.ntmps51
        go_wp2
        go_ret
        exact ⟨ret_bool (unhide Hd).symm, ((Turn.refl _ _).alloc _).alloc _⟩
    · have Hd : Hid (decide (((f, t, v) : Ar) = (f', t', v')) = false) := hide (by simp [h1, h2])
      generalize decide (((f, t, v) : Ar) = (f', t', v')) = D at *
      go_enter Try.func51, Try.ntmps51
      go_wp2
      go_ret
      exact ⟨ret_bool (unhide Hd).symm, ((Turn.refl _ _).alloc _).alloc _⟩
  · have Hd : Hid (decide (((f, t, v) : Ar) = (f', t', v')) = false) := hide (by simp [h1])
    generalize decide (((f, t, v) : Ar) = (f', t', v')) = D at *
    go_enter Try.func51, Try.ntmps51
    go_wp2
    go_ret
    exact ⟨ret_bool (unhide Hd).symm, ((Turn.refl _ _).alloc _).alloc _⟩
theorem ar_one (w : World) (a : Ar) : AR (fun j => j = w.heap.size) (w.alloc (.cells #[.int .i64 a.1, .int .i64 a.2.1, .int .i64 a.2.2] 37)) (.slice (some ⟨w.heap.size, 0, none⟩) 1 1) [a] := by
  refine .inr ⟨_, 0, 1, rfl, Nat.le_refl _, by unfold maxLen; omega, rfl, fun i x hx => ?_⟩
  match i, hx with
  | 0, hx =>
    simp at hx
    subst hx
    rw [cell_obj (heap_alloc_new w _), cell_obj (heap_alloc_new w _), cell_obj (heap_alloc_new w _)]
    exact ⟨rfl, rfl, rfl⟩
end Go.Proofs.Ytmmlannnpndkcaa
