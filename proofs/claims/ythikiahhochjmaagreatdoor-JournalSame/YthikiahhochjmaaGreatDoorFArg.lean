/- Byte lists that are handed in, one behind the other. -/
import Derived.Test.YthikiahhochjmaaGreatDoorPack2
namespace Go.Proofs.YthikiahhochjmaaGreatDoor
open Go.RowKit Go.Maps
set_option linter.unusedVariables false
set_option linter.unusedSimpArgs false

theorem Turn.all {w w' : World} (h : Turn (fun _ => False) w w') : Below w.heap.size w w' := h.below (fun _ h => h.elim) (Nat.le_refl _)

/-- a slice of byte lists that may be read -/
structure BArgs (w : World) (v : Value) (zss : List (List Int)) : Prop where
  len : zss.length ≤ maxLen
  form : ∃ a c, v = .slice a zss.length c
  cell : ∀ i, i < zss.length → ∃ g off c u, v = .slice (some ⟨g, off, none⟩) zss.length c ∧ w.cell? ⟨g, off + i, none⟩ = some u ∧ Row .u8 any w u (zss.getD i [])
  bytes : ∀ z ∈ zss, Bytes z

theorem BArgs.turn {w w' : World} {v : Value} {zss : List (List Int)} (h : BArgs w v zss) (T : Turn (fun _ => False) w w') : BArgs w' v zss :=
  ⟨h.len, h.form, fun i hi => by
    obtain ⟨g, off, c, u, h1, h2, h3⟩ := h.cell i hi
    exact ⟨g, off, c, u, h1, T.cell h2 (fun h => h), h3.turn T (fun _ _ h => h)⟩, h.bytes⟩
theorem BArgs.below {w w' : World} {v : Value} {zss : List (List Int)} (h : BArgs w v zss) (k : Below w.heap.size w w') : BArgs w' v zss := h.turn (Turn.of_below k)
/-- at one address -/
theorem BArgs.at {w : World} {v : Value} {zss : List (List Int)} (h : BArgs w v zss) (h0 : 0 < zss.length) : ∃ g off c, v = .slice (some ⟨g, off, none⟩) zss.length c ∧ ∀ i, i < zss.length → ∃ u, w.cell? ⟨g, off + i, none⟩ = some u ∧ Row .u8 any w u (zss.getD i []) := by
  obtain ⟨g, off, c, u, rfl, _, _⟩ := h.cell 0 h0
  refine ⟨g, off, c, rfl, fun i hi => ?_⟩
  obtain ⟨g', off', c', u, h1, h2, h3⟩ := h.cell i hi
  simp at h1
  obtain ⟨⟨rfl, rfl⟩, _⟩ := h1
  exact ⟨u, h2, h3⟩
theorem take_more (zss : List (List Int)) (k : Nat) (hk : k < zss.length) : zss.take (k + 1) = zss.take k ++ [zss.getD k []] := by
  rw [List.take_succ_eq_append_getElem hk]; simp [hk]
theorem frames_take (zss : List (List Int)) (k : Nat) (hk : k < zss.length) : frames (zss.take (k + 1)) = frames (zss.take k) ++ packB (zss.getD k []) := by
  rw [take_more zss k hk, frames_append]; simp [frames]
theorem mem_getD {zss : List (List Int)} {k : Nat} (hk : k < zss.length) : zss.getD k [] ∈ zss := by simp [hk]
theorem frames_bytes {zss : List (List Int)} (h : ∀ z ∈ zss, Bytes z) : Bytes (frames zss) := by
  intro x hx
  simp only [frames, List.mem_flatMap] at hx
  obtain ⟨z, hz, hx⟩ := hx
  exact packB_bytes (h z hz) x hx
end Go.Proofs.YthikiahhochjmaaGreatDoor
