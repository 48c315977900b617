import Derived.Test.YtlecflgapaahgaaPackW
import Derived.Test.YtlecflgapaahgaaNumW
namespace Go.Proofs.Ytlecflgapaahgaa
open Go.RowKit
set_option linter.unusedVariables false

theorem awake_rows (w : World) (T T' : TypeId) :
    Row .u64 ((w.alloc (.cells #[.int .u64 5, .int .u64 1] T)).alloc (.cells #[.int .i64 3, .int .i64 1] T')) (.slice (some ⟨w.heap.size, 0, none⟩) 2 2) [5, 1] ∧
    Row .i64 ((w.alloc (.cells #[.int .u64 5, .int .u64 1] T)).alloc (.cells #[.int .i64 3, .int .i64 1] T')) (.slice (some ⟨w.heap.size + 1, 0, none⟩) 2 2) [3, 1] := by
  refine ⟨.inr ⟨_, _, _, rfl, by decide, by decide, ?_⟩, .inr ⟨_, _, _, rfl, by decide, by decide, ?_⟩⟩
  · intro i hi
    rcases i with _ | _ | i
    · simp
    · simp
    · simp at hi; omega
  · intro i hi
    rcases i with _ | _ | i
    · simp
    · simp
    · simp at hi; omega

theorem awake_words : Words [5, 1] := by
  intro x hx; simp at hx; omega

set_option maxHeartbeats 400000 in
theorem awake_walk (w : World) :
    Calls Try.prog 9 #[] w fun e w' => e = .returned (.bool true) ∧ Below w.heap.size w w' := by
  go_enter Try.func9, Try.ntmps9
  go_wp2_with fail
  refine (pack_any _ _ [5, 1] [3, 1] _ (awake_rows w _ _).1 (awake_rows w _ _).2 awake_words).mono ?_
  rintro e w' ⟨rfl, hw'⟩
  rw [show packS [5, 1] [3, 1] = (13, 0) by decide +kernel]
  go_wp2_with fail
  refine (add_walk 2 3 _).mono ?_
  rintro e w2 ⟨rfl, hw2⟩
  rw [show addS 2 3 = 5 by decide +kernel]
  go_wp2_with fail
  go_ret
  refine ⟨rfl, ?_⟩
  subst hw2 hw'
  exact ((Below.refl _ _).alloc (Nat.le_refl _) _).alloc (by simp) _
end Go.Proofs.Ytlecflgapaahgaa
