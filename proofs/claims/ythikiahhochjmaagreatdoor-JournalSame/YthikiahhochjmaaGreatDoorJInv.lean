/- Plain facts of a journal over a disk: which files there are, what each call makes of them. -/
import Derived.Test.YthikiahhochjmaaGreatDoorPack2
namespace Go.Proofs.YthikiahhochjmaaGreatDoor
set_option linter.unusedVariables false
set_option linter.unusedSimpArgs false

theorem refuse_name {S : Dk} (h : S.down = false) (f : Nat) : refuse S (nameS f) = 0 := by unfold refuse; rw [h, nameS_good]; rfl
theorem hit_none {S : Dk} (h : S.arm = 0) : hitB S = false ∧ hitS S = S := ⟨by simp [hitB, h], by unfold hitS; rw [if_pos h]⟩
theorem hitS_fs' (S : Dk) : (hitS S).fs = S.fs ∧ (hitS S).size = S.size := by unfold hitS; split <;> exact ⟨rfl, rfl⟩
theorem hitS_down {S : Dk} (h : S.down = false) : (hitS S).down = hitB S := by
  unfold hitS hitB; split
  · rename_i h0; rw [h, h0]; rfl
  · rfl
theorem append_good {S : Dk} {f : Nat} {b : List Int} (hd : S.down = false) (hr : used S.fs + b.length ≤ S.size) (hf : (getK Fl.n (nameS f) S.fs).isSome = true ∨ S.fs.length < 64) :
    appendC S (nameS f) b = (if hitB S then 3 else 0) ∧ appendS S (nameS f) b = hitS (appS S (nameS f) b) := by
  have hful : fullB S (nameS f) b = false := by
    unfold fullB
    rw [Bool.or_eq_false_iff]
    refine ⟨by simp; omega, ?_⟩
    rcases hf with h | h
    · cases hg : getK Fl.n (nameS f) S.fs with
      | none => rw [hg] at h; cases h
      | some x => rfl
    · rw [Bool.and_eq_false_iff]; right; simp; omega
  unfold appendC appendS
  rw [refuse_name hd, hful]
  exact ⟨by simp, by simp⟩

theorem frames_nil : frames [] = [] := rfl
theorem frames_one (b : List Int) : frames [b] = packB b := by simp [frames]
theorem frames_snoc (l : List (List Int)) (b : List Int) : frames (l ++ [b]) = frames l ++ packB b := by rw [frames_append, frames_one]

theorem openJ_new (n : Nat) : openJ (⟨n, [], false, 0⟩ : Dk) = (0, [], ⟨n, [], false, 0⟩) := rfl
end Go.Proofs.YthikiahhochjmaaGreatDoor
