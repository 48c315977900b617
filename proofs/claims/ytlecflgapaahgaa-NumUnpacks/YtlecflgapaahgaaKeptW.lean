/- A copy with spare room that is as it was: what hansomhelp's Kept answers of it. -/
import Derived.Test.YtlecflgapaahgaaSameW
namespace Go.Proofs.Ytlecflgapaahgaa
open Go.RowKit
set_option linter.unusedVariables false

theorem row_of_cells {k : IntKind} {w : World} {g n c : Nat} {zs r : List Int} (h : Cells k w g 0 (zs ++ r)) (hn : n = zs.length) (hc : zs.length ≤ c) (hm : c ≤ maxLen) : Row k w (.slice (some ⟨g, 0, none⟩) n c) zs := by
  subst hn
  refine .inr ⟨g, 0, c, rfl, hc, hm, fun i hi => ?_⟩
  have := h i (by simp; omega)
  rw [this, List.getD_eq_getElem?_getD, List.getD_eq_getElem?_getD, List.getElem?_append_left hi]

theorem getD_three (zs : List Int) (f : Int) (j : Nat) (h1 : zs.length ≤ j) (h2 : j < zs.length + 3) : (zs ++ [f, f, f]).getD j 0 = f := by
  rw [List.getD_eq_getElem?_getD, List.getElem?_append_right h1]
  obtain ⟨r, hr⟩ : ∃ r, j - zs.length = r := ⟨_, rfl⟩
  rw [hr]
  have : r < 3 := by omega
  match r, this with
  | 0, _ => rfl
  | 1, _ => rfl
  | 2, _ => rfl

set_option maxHeartbeats 400000 in
theorem kept_u64 (g : Nat) (a : Option Addr) (c : Nat) (zs : List Int) (f : Int) (w : World) (hz : zs.length * 8 ≤ 140737488351232) (hcl : Cells .u64 w g 0 (zs ++ [f, f, f])) (hr : Row .u64 w (.slice a zs.length c) zs) :
    Calls Try.prog 18 #[.slice (some ⟨g, 0, none⟩) zs.length (zs.length + 3), .slice a zs.length c, .int .u64 f] w fun e w' => e = .returned (.bool true) ∧ ∃ n, w' = w.drewN n := by
  have hr0 : Row .u64 w (.slice (some ⟨g, 0, none⟩) zs.length (zs.length + 3)) zs := row_of_cells hcl rfl (by omega) (by unfold maxLen; omega)
  go_enter Try.func18, Try.ntmps18
  go_wp2_with fail
  refine (plain_any_u64 _ _ zs zs _ hr0 hr).mono ?_
  rintro e w1 ⟨rfl, m, hw1⟩
  rw [show decide (zs = zs) = true by simp]
  have hcl1 : Cells .u64 w1 g 0 (zs ++ [f, f, f]) := by subst hw1; exact hcl
  have Hw1 := hide hw1
  clear hw1 hcl hr hr0
  go_wp2
  go_loop [8] (fun i => ∃ k : Nat, zs.length ≤ k ∧ k ≤ zs.length + 3 ∧ i = .int .i64 k) (fun i => zs.length + 3 - (intOf i).toNat)
  case atStart => exact ⟨zs.length, Nat.le_refl _, by omega, rfl⟩
  case round =>
    obtain ⟨k, hk1, hk2, rfl⟩ := hrel
    by_cases hlt : k < zs.length + 3
    · have hc1 := hcl1 k (by simp; omega)
      rw [getD_three zs f k hk1 hlt, Nat.zero_add] at hc1
      go_wp2
      exact ⟨⟨k + 1, by omega, by omega, by go_num⟩, by simp [intOf]; omega⟩
    · go_wp2
      go_ret
      exact ⟨rfl, m, unhide Hw1⟩

theorem kept_any_u64 (g : Nat) (v : Value) (zs : List Int) (f : Int) (w : World) (hz : zs.length * 8 ≤ 140737488351232) (hcl : Cells .u64 w g 0 (zs ++ [f, f, f])) (hr : Row .u64 w v zs) :
    Calls Try.prog 18 #[.slice (some ⟨g, 0, none⟩) zs.length (zs.length + 3), v, .int .u64 f] w fun e w' => e = .returned (.bool true) ∧ ∃ n, w' = w.drewN n := by
  obtain ⟨a, c, rfl⟩ := hr.slice
  exact kept_u64 g a c zs f w hz hcl hr
set_option maxHeartbeats 400000 in
theorem kept_i64 (g : Nat) (a : Option Addr) (c : Nat) (zs : List Int) (f : Int) (w : World) (hz : zs.length * 8 ≤ 140737488351232) (hcl : Cells .i64 w g 0 (zs ++ [f, f, f])) (hr : Row .i64 w (.slice a zs.length c) zs) :
    Calls Try.prog 19 #[.slice (some ⟨g, 0, none⟩) zs.length (zs.length + 3), .slice a zs.length c, .int .i64 f] w fun e w' => e = .returned (.bool true) ∧ ∃ n, w' = w.drewN n := by
  have hr0 : Row .i64 w (.slice (some ⟨g, 0, none⟩) zs.length (zs.length + 3)) zs := row_of_cells hcl rfl (by omega) (by unfold maxLen; omega)
  go_enter Try.func19, Try.ntmps19
  go_wp2_with fail
  refine (plain_any_i64 _ _ zs zs _ hr0 hr).mono ?_
  rintro e w1 ⟨rfl, m, hw1⟩
  rw [show decide (zs = zs) = true by simp]
  have hcl1 : Cells .i64 w1 g 0 (zs ++ [f, f, f]) := by subst hw1; exact hcl
  have Hw1 := hide hw1
  clear hw1 hcl hr hr0
  go_wp2
  go_loop [8] (fun i => ∃ k : Nat, zs.length ≤ k ∧ k ≤ zs.length + 3 ∧ i = .int .i64 k) (fun i => zs.length + 3 - (intOf i).toNat)
  case atStart => exact ⟨zs.length, Nat.le_refl _, by omega, rfl⟩
  case round =>
    obtain ⟨k, hk1, hk2, rfl⟩ := hrel
    by_cases hlt : k < zs.length + 3
    · have hc1 := hcl1 k (by simp; omega)
      rw [getD_three zs f k hk1 hlt, Nat.zero_add] at hc1
      go_wp2
      exact ⟨⟨k + 1, by omega, by omega, by go_num⟩, by simp [intOf]; omega⟩
    · go_wp2
      go_ret
      exact ⟨rfl, m, unhide Hw1⟩

theorem kept_any_i64 (g : Nat) (v : Value) (zs : List Int) (f : Int) (w : World) (hz : zs.length * 8 ≤ 140737488351232) (hcl : Cells .i64 w g 0 (zs ++ [f, f, f])) (hr : Row .i64 w v zs) :
    Calls Try.prog 19 #[.slice (some ⟨g, 0, none⟩) zs.length (zs.length + 3), v, .int .i64 f] w fun e w' => e = .returned (.bool true) ∧ ∃ n, w' = w.drewN n := by
  obtain ⟨a, c, rfl⟩ := hr.slice
  exact kept_i64 g a c zs f w hz hcl hr
end Go.Proofs.Ytlecflgapaahgaa
