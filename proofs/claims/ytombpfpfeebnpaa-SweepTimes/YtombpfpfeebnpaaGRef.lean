/- The reference's numbers as bytes, and its reader. -/
import Derived.Test.YtombpfpfeebnpaaGCode
namespace Go.Proofs.Ytombpfpfeebnpaa
open Go.RowKit
set_option linter.unusedVariables false
set_option maxRecDepth 100000

theorem byte_sum (u : Nat) : (u : Int) % 128 + 128 = ((u % 128 + 128 : Nat) : Int) := by omega

theorem or_more2 (v : Nat) (x : Int) (k : Nat) (hk : k ≤ 9) (h0 : 0 ≤ x) (hv : v < 128 ^ k) (hd : x.toNat % 128 * 128 ^ k < 18446744073709551616) :
    bits .or .u64 (v : Int) (IntKind.u64.wrap (x % 128 * 2 ^ (7 * k))) = ((v + x.toNat % 128 * 128 ^ k : Nat) : Int) := by
  have h := or_more v (x.toNat % 128) k hk hv hd (Nat.mod_lt _ (by omega))
  rw [show IntKind.u64.wrap ((x.toNat % 128 : Nat) : Int) = x % 128 by rw [IntKind.wrap_u64]; omega] at h
  exact h


theorem drewN_below (w : World) (n : Nat) : Below w.heap.size w (w.drewN n) := by
  induction n with
  | zero => exact Below.refl _ _
  | succ n ih => exact ih.drew

theorem smallT_stay {m : Nat} {r : List Int} {e : Int} {v : Nat} {r' : List Int} {f : Int} (hs : smallT m r e = (v, r', f)) (h : f ≠ 0) : v = 0 ∧ r' = r := by
  unfold smallT at hs
  split at hs
  · simp at hs; exact ⟨hs.1.symm, hs.2.1.symm⟩
  split at hs
  · simp at hs; exact ⟨hs.1.symm, hs.2.1.symm⟩
  split at hs
  · simp at hs; exact ⟨hs.1.symm, hs.2.1.symm⟩
  simp at hs
  exact absurd hs.2.2.symm h
theorem numT_e {r : List Int} {e : Int} (h : e ≠ 0) : smallT wide r e = (0, r, e) := smallT_e h

theorem ge_wide {v : Nat} (h : v < 18446744073709551616) : v ≤ wide := by unfold wide; omega


theorem wide_small {M : Nat} {r : List Int} {e : Int} {v : Nat} {r' : List Int} {f : Int} (hM : M ≤ wide) (hs : smallT wide r e = (v, r', f)) : (f ≠ 0 → smallT M r e = (0, r, f)) ∧ (f = 0 → M < v → smallT M r e = (0, r, 10)) ∧ (f = 0 → v ≤ M → smallT M r e = (v, r', 0)) := by
  by_cases he : e = 0
  · subst he
    generalize hd : dec 0 0 r = D at *
    obtain ⟨y, n, g⟩ := D
    by_cases hg : g = 0
    · subst hg
      by_cases hy : wide < y
      · rw [smallT_m hd hy] at hs
        simp only [Prod.mk.injEq] at hs
        obtain ⟨rfl, rfl, rfl⟩ := hs
        refine ⟨fun _ => ?_, fun h => by simp at h, fun h => by simp at h⟩
        exact smallT_m hd (by omega)
      · rw [smallT_k hd (by omega)] at hs
        simp only [Prod.mk.injEq] at hs
        obtain ⟨rfl, rfl, rfl⟩ := hs
        exact ⟨fun h => absurd rfl h, fun _ h => smallT_m hd h, fun _ h => smallT_k hd h⟩
    · have hd2 := dec_fault0 (zs := r) (by rw [hd]; exact hg)
      rw [hd] at hd2
      simp only [Prod.mk.injEq, and_true] at hd2
      obtain ⟨rfl, rfl⟩ := hd2
      rw [smallT_f hd hg] at hs
      simp only [Prod.mk.injEq] at hs
      obtain ⟨rfl, rfl, rfl⟩ := hs
      exact ⟨fun h => smallT_f hd h, fun h => absurd h hg, fun h => absurd h hg⟩
  · rw [smallT_e he] at hs
    simp only [Prod.mk.injEq] at hs
    obtain ⟨rfl, rfl, rfl⟩ := hs
    exact ⟨fun h => smallT_e h, fun h => absurd h he, fun h => absurd h he⟩


end Go.Proofs.Ytombpfpfeebnpaa
