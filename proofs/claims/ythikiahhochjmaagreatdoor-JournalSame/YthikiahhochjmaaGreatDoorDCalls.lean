/- The calls of a disk that read or arm, over its footprint; New. -/
import Derived.Test.YthikiahhochjmaaGreatDoorDApp2
namespace Go.Proofs.YthikiahhochjmaaGreatDoor
open Go.RowKit Go.Maps
set_option linter.unusedVariables false

theorem Down_walk (w : World) (B : Nat) (F : Nat → Prop) (S : Dk) (h : DAt w B F S) : Calls Tryz.prog 10 #[.pointer (some ⟨B, 0, none⟩)] w fun e w' => e = .returned (.bool S.down) ∧ w' = w := by
  obtain ⟨mv, E, m, _⟩ := h
  exact down_walk w B mv E S m
theorem Used_walk (w : World) (B : Nat) (F : Nat → Prop) (S : Dk) (h : DAt w B F S) : Calls Tryz.prog 48 #[.pointer (some ⟨B, 0, none⟩)] w fun e w' => e = .returned (.int .i64 (used S.fs : Nat)) ∧ Turn (fun _ => False) w w' := by
  obtain ⟨mv, E, m, _⟩ := h
  exact used_walk w B mv E S m
theorem Arm_walk (w : World) (B : Nat) (F : Nat → Prop) (S : Dk) (x : Int) (hx : x ≤ 9223372036854775807) (h : DAt w B F S) : Calls Tryz.prog 13 #[.pointer (some ⟨B, 0, none⟩), .int .i64 x] w fun e w' => e = .returned (.int .i64 0) ∧ Turn F w w' ∧ DAt w' B F (armS S x) := by
  obtain ⟨mv, E, m, hF⟩ := h
  refine (arm_mem w B mv E S x hx m).mono ?_
  rintro e w' ⟨h1, t, m'⟩
  exact ⟨h1, t.mono (fun j hj => by subst hj; exact hF j (.inl rfl)), mv, E, m', hF⟩
theorem New_walk (n : Nat) (w : World) (h1 : 1 ≤ n) (h2 : n ≤ 16777216) : Calls Tryz.prog 26 #[.int .i64 (n : Int)] w fun e w' => e = .returned (.tuple #[.pointer (some ⟨w.heap.size, 0, none⟩), .int .i64 0]) ∧ Turn (fun _ => False) w w' ∧ DAt w' w.heap.size (fun j => w.heap.size ≤ j) (newS n) := by
  refine (new_mem n w h1 h2).mono ?_
  rintro e w' ⟨h1, t, m'⟩
  refine ⟨h1, t, none, [], m', ?_⟩
  rintro j (rfl | h | ⟨e, he, _⟩)
  · exact Nat.le_refl _
  · cases h
  · cases he

end Go.Proofs.YthikiahhochjmaaGreatDoor
