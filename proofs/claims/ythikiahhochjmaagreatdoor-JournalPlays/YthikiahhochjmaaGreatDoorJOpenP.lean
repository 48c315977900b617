/- What a fallen disk holds: names that were there, bytes; started twice. -/
import Derived.Test.YthikiahhochjmaaGreatDoorPack7
import Derived.Test.YthikiahhochjmaaGreatDoorJBadQ
namespace Go.Proofs.YthikiahhochjmaaGreatDoor
open Go.RowKit Go.Maps
set_option linter.unusedVariables false
set_option linter.unusedSimpArgs false

theorem fall_mem (keep : List Int) : ∀ (l : List Fl) (k : Nat), ∀ y ∈ fallL keep k l, ∃ x ∈ l, ∃ z, y = fallF x z ∧ (fallD x z).length ≠ 0 := by
  intro l
  induction l with
  | nil => intro k y hy; cases hy
  | cons f r ih =>
    intro k y hy
    unfold fallL at hy
    split at hy
    · obtain ⟨x, hx, z, h⟩ := ih (k + 1) y hy
      exact ⟨x, by simp [hx], z, h⟩
    · rename_i hne
      rcases List.mem_cons.1 hy with rfl | hy
      · exact ⟨f, by simp, _, rfl, hne⟩
      · obtain ⟨x, hx, z, h⟩ := ih (k + 1) y hy
        exact ⟨x, by simp [hx], z, h⟩
theorem fallD_bytes {f : Fl} (h : Bytes f.d) (x : Int) : Bytes (fallD f x) := by
  unfold fallD
  split
  · exact h
  · intro b hb
    rcases List.mem_append.1 hb with hb | hb
    · exact h b (List.mem_of_mem_take hb)
    · rw [(List.mem_replicate.1 hb).2]; decide
theorem crash_bytes {S : Dk} (keep : List Int) (h : FsBytes S) : FsBytes (crashS S keep) := by
  intro y hy
  obtain ⟨x, hx, z, rfl, _⟩ := fall_mem keep S.fs 0 y hy
  exact fallD_bytes (h x hx) z
theorem crash_names (S : Dk) (keep : List Int) (n : Nm) : NamesIn S (crashS S keep) n := by
  intro y hy
  obtain ⟨x, hx, z, rfl, _⟩ := fall_mem keep S.fs 0 y hy
  exact .inr ⟨x, hx, rfl⟩
theorem crash_safe (S : Dk) (keep : List Int) : ∀ f ∈ (crashS S keep).fs, f.s = f.d.length ∧ f.d ≠ [] := by
  intro y hy
  obtain ⟨x, hx, z, rfl, hne⟩ := fall_mem keep S.fs 0 y hy
  refine ⟨rfl, fun e => hne ?_⟩
  have : fallD x z = [] := e
  rw [this]; rfl
/-- started behind a fall: that fall -/
theorem start_crash (S : Dk) (keep : List Int) : (startS (crashS S keep)).fs = (crashS S keep).fs ∧ (startS (crashS S keep)).down = false ∧ (startS (crashS S keep)).arm = 0 ∧ (startS (crashS S keep)).size = S.size := by
  obtain ⟨a, b, c, d⟩ := start_files (crash_safe S keep)
  exact ⟨a, b, c, d⟩
/-- started when down: a fall that keeps nothing -/
theorem start_down {S : Dk} (h : S.down = true) : (startS S).fs = (crashS S []).fs ∧ (startS S).down = false ∧ (startS S).arm = 0 ∧ (startS S).size = S.size := by
  unfold startS
  rw [if_pos h]
  exact ⟨rfl, rfl, rfl, rfl⟩
/-- what Open asks of a disk -/
structure Ready (S : Dk) : Prop where
  bytes : FsBytes S
  size : S.size ≤ 1000000
  num : ∀ w : World, Numbers w (namesL S)
  low : ∀ n ∈ namesL S, markB n = true → ∀ v, numOf n = some v → v < 100
theorem ready_of (w0 : World) {S S2 : Dk} {segs : List Sg} {m : Nat} (h : Hold S segs m) (hl : ∀ s ∈ segs, s.first < 100) (hb : FsBytes S2) (hz : S2.size ≤ 1000000) (hn : NamesIn S S2 (nameS 0)) : Ready S2 := by
  have hN : ∀ w : World, _ := fun w => numbers_in (w := w) (n := nameS 0) h hl hn (fun v hv => number_ok 0 (by decide) v) (fun _ v hv => by rw [num_nameS 0 (by decide)] at hv; cases hv; decide)
  exact ⟨hb, hz, fun w => (hN w).1, (hN w0).2⟩
end Go.Proofs.YthikiahhochjmaaGreatDoor
