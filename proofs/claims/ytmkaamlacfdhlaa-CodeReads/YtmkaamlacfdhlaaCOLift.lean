/- From a reading of a slice of operations to what the walk asks of it. -/
import Derived.Test.YtmkaamlacfdhlaaLawReads
import Derived.Test.YtmkaamlacfdhlaaCLift
import Derived.Deep.SlicePairs
namespace Go.Proofs.Ytmkaamlacfdhlaa
open Go.ChangeShapes Go.WideShapes Go.ChangeAt Go.RowKit
set_option linter.unusedVariables false

/-- a slice of operations that came in -/
theorem open_ops {H : Type} {enc : TypeId × Value → H} {W : World} {v : Value} {d : DataW H} {p : List MemPlace} (h : DataW.Trod enc Try.prog W 0 (fun _ => true) true 32 v d p) (hv : ∃ a l c, v = .slice a l c) : ∃ n K M, OR W v n K M := by
  obtain ⟨a, l, c, rfl⟩ := hv
  obtain ⟨fuel, hf⟩ := h
  rcases Deep.open_slice_pairs Try.underlying32 Try.underlying41 (by kernel_rfl) rfl rfl (by kernel_rfl) (by kernel_rfl) hf with ⟨h0, _⟩ | ⟨a', len, cap, m, n, V0, V1, D0, D1, P0, P1, h0, _, hl, hm, hmm, _, hx⟩
  · simp [Value.cells] at h0
    obtain ⟨rfl, rfl, rfl⟩ := h0
    exact ⟨0, fun _ => 0, fun _ => 0, none, 0, rfl, Nat.zero_le _, fun j hj => by omega⟩
  · simp [Value.cells] at h0
    obtain ⟨rfl, rfl, rfl⟩ := h0
    have hlm : l ≤ m := by rw [hmm]; simpa using hl
    by_cases h0 : l = 0
    · subst h0
      exact ⟨0, fun _ => 0, fun _ => 0, _, _, rfl, Nat.zero_le _, fun j hj => by omega⟩
    obtain ⟨b, off, spot⟩ := a'
    have hspot : spot = none := by
      have := (hx 0 (by omega)).1
      simpa [Addr.add] using World.cell?_spot this
    subst hspot
    have each : ∀ i, i < l → ∃ q : Int × Int, W.cell? ⟨b, off + i * 2, none⟩ = some (.int .i64 q.1) ∧ W.cell? ⟨b, off + i * 2 + 1, none⟩ = some (.int .i64 q.2) ∧ (Lit.int .i64 q.2).wf = true := by
      intro i hi
      obtain ⟨x0, x1, r0, r1⟩ := hx i (by omega)
      obtain ⟨p0, e0, _, w0⟩ := DataW.trod_int Try.underlying3 r0
      obtain ⟨p1, e1, _, w1⟩ := DataW.trod_int Try.underlying3 r1
      simp at e0 e1
      rw [e0, Addr.add_lit] at x0
      rw [e1, Addr.add_lit] at x1
      exact ⟨(p0, p1), x0, by rw [Nat.add_assoc]; exact x1, w1⟩
    obtain ⟨q, hq⟩ := Deep.choose_lt each
    refine ⟨l, fun i => (q i).1, fun i => (q i).2, _, c, rfl, by omega, fun j hj => ⟨b, off, rfl, hq j hj⟩⟩
end Go.Proofs.Ytmkaamlacfdhlaa
