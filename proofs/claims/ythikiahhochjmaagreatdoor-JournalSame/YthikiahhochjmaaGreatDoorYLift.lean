/- From a reading of a slice of truth values to what the walks ask of it. -/
import Derived.Test.YthikiahhochjmaaGreatDoorFLift
import Derived.Test.YthikiahhochjmaaGreatDoorLawSame7
namespace Go.Proofs.YthikiahhochjmaaGreatDoor
open Go.ChangeShapes Go.WideShapes Go.ChangeAt Go.RowKit
set_option linter.unusedVariables false

/-- a slice of truth values that came in -/
theorem open_bools {H : Type} {enc : TypeId × Value → H} {W : World} {v : Value} {d : DataW H} {p : List MemPlace} (h : DataW.Trod enc Tryz.prog W 0 (fun _ => true) true 60 v d p) (hv : ∃ a l c, v = .slice a l c) : ∃ n f, Bools W v n f := by
  obtain ⟨a, l, c, rfl⟩ := hv
  obtain ⟨fuel, hf⟩ := h
  have ce : Tryz.prog.cellsOf 4 = 1 := by kernel_rfl
  have none_case : ∀ (a : Option Addr) (c : Nat), Bools W (.slice a 0 c) 0 (fun _ => false) := fun a c => ⟨Nat.zero_le _, ⟨a, c, rfl⟩, fun i hi => by omega⟩
  rcases Deep.open_slice Tryz.underlying60 hf with ⟨h0, _⟩ | ⟨a', len, cap, m, n, D, Pl, h0, _, hl, hm, hmm, hxx, hx⟩
  · simp [Value.cells] at h0
    obtain ⟨rfl, rfl, rfl⟩ := h0
    exact ⟨0, _, none_case _ _⟩
  · simp [Value.cells] at h0
    obtain ⟨rfl, rfl, rfl⟩ := h0
    have hlm : l ≤ m := by rw [hmm]; simpa using hl
    by_cases h0 : l = 0
    · subst h0
      exact ⟨0, _, none_case _ _⟩
    have each0 : ∀ i, i < l → ∃ q : Bool, W.cell? (a'.add i) = some (.bool q) := by
      intro i hi
      obtain ⟨cs', h1, h2⟩ := hx i (by omega)
      rw [ce] at h1
      obtain ⟨b, hb, _⟩ := DataW.trod_bool Tryz.underlying4 h2
      subst hb
      obtain ⟨_, _, hc⟩ := World.cells?_some h1
      have q0 := hc 0 (by omega)
      rw [Deep.add_add] at q0
      exact ⟨b, by simpa using q0⟩
    obtain ⟨b, off, spot⟩ := a'
    have hspot : spot = none := by
      obtain ⟨q, h1⟩ := each0 0 (by omega)
      simpa [Addr.add] using World.cell?_spot h1
    subst hspot
    obtain ⟨q, hq⟩ := Deep.choose_lt each0
    refine ⟨l, q, by omega, ⟨_, _, rfl⟩, fun i hi => ⟨b, off, c, rfl, ?_⟩⟩
    have := hq i hi
    rw [Addr.add_lit] at this
    exact this
end Go.Proofs.YthikiahhochjmaaGreatDoor
