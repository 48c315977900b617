/- From a reading of a slice of operations of three numbers to what the walk asks of it. -/
import Derived.Test.YtcajomobmjapgaaLawPlays9
import Derived.Test.YtcajomobmjapgaaCLift
import Derived.Deep.SlicePairs
namespace Go.Proofs.Ytcajomobmjapgaa
open Go.ChangeShapes Go.WideShapes Go.ChangeAt Go.RowKit
set_option linter.unusedVariables false

theorem three_cells {cs : List Value} (h : cs.length = 3) : ∃ c0 c1 c2, cs = [c0, c1, c2] := by
  match cs, h with
  | [c0, c1, c2], _ => exact ⟨c0, c1, c2, rfl⟩
/-- one operation, from its reading -/
theorem open_op9 {H : Type} {enc : TypeId × Value → H} {P : Program} {W : World} {t i j : TypeId} {f0 f1 f2 : Field} (ht : P.underlying t = some (.struct #[f0, f1, f2])) (hi : P.underlying i = some (.int .i64)) (hj : P.underlying j = some (.int .i64))
    (a0 : f0.type = i) (a1 : f1.type = i) (a2 : f2.type = j) (o0 : f0.offset = 0) (o1 : f1.offset = 1) (o2 : f2.offset = 2)
    (ct : P.cellsOf t = 3) (ci : P.cellsOf i = 1) (cj : P.cellsOf j = 1)
    {base : Nat} {sp : Nat → Bool} {held : Bool} {fuel : Nat} {cs : List Value} {x : DataW H × List MemPlace} (h : DataW.trod enc P W base sp held fuel t cs = some x) :
    ∃ k a b : Int, cs = [.int .i64 k, .int .i64 a, .int .i64 b] := by
  obtain ⟨xs, n, _, _, hl, hxl, hf⟩ := DataW.trod_struct ht h
  obtain ⟨c0, c1, c2, rfl⟩ := three_cells (hl.trans ct)
  match xs, hxl with
  | [y0, y1, y2], _ =>
    have e0 := hf 0 f0 rfl
    have e1 := hf 1 f1 rfl
    have e2 := hf 2 f2 rfl
    simp [o0, o1, o2, a0, a1, a2, ci, cj] at e0 e1 e2
    obtain ⟨k, r0, _, _⟩ := DataW.trod_int hi e0
    obtain ⟨a, r1, _, _⟩ := DataW.trod_int hi e1
    obtain ⟨b, r2, _, _⟩ := DataW.trod_int hj e2
    simp at r0 r1 r2
    exact ⟨k, a, b, by rw [r0, r1, r2]⟩

/-- a slice of operations that came in -/
theorem open_ops9 {H : Type} {enc : TypeId × Value → H} {W : World} {v : Value} {d : DataW H} {p : List MemPlace} (h : DataW.Trod enc Try.prog W 0 (fun _ => true) true 22 v d p) (hv : ∃ a l c, v = .slice a l c) : ∃ n K A R, Ops9 W v n K A R := by
  obtain ⟨a, l, c, rfl⟩ := hv
  obtain ⟨fuel, hf⟩ := h
  have ce : Try.prog.cellsOf 32 = 3 := by kernel_rfl
  rcases Deep.open_slice Try.underlying22 hf with ⟨h0, _⟩ | ⟨a', len, cap, m, n, D, Pl, h0, _, hl, hm, hmm, _, hx⟩
  · simp [Value.cells] at h0
    obtain ⟨rfl, rfl, rfl⟩ := h0
    exact ⟨0, fun _ => 0, fun _ => 0, fun _ => 0, none, 0, rfl, Nat.zero_le _, fun j hj => by omega⟩
  · simp [Value.cells] at h0
    obtain ⟨rfl, rfl, rfl⟩ := h0
    have hlm : l ≤ m := by rw [hmm]; simpa using hl
    by_cases h0 : l = 0
    · subst h0
      exact ⟨0, fun _ => 0, fun _ => 0, fun _ => 0, _, _, rfl, Nat.zero_le _, fun j hj => by omega⟩
    have each0 : ∀ i, i < l → ∃ q : Int × Int × Int, W.cell? (a'.add (i * 3)) = some (.int .i64 q.1) ∧ W.cell? (a'.add (i * 3 + 1)) = some (.int .i64 q.2.1) ∧ W.cell? (a'.add (i * 3 + 2)) = some (.int .i64 q.2.2) := by
      intro i hi
      obtain ⟨cs', h1, h2⟩ := hx i (by omega)
      rw [ce] at h1
      obtain ⟨k, a, b, rfl⟩ := open_op9 Try.underlying32 Try.underlying3 Try.underlying2 rfl rfl rfl rfl rfl rfl (by kernel_rfl) (by kernel_rfl) (by kernel_rfl) h2
      obtain ⟨_, _, hc⟩ := World.cells?_some h1
      have q0 := hc 0 (by omega)
      have q1 := hc 1 (by omega)
      have q2 := hc 2 (by omega)
      rw [Deep.add_add] at q0 q1 q2
      exact ⟨(k, a, b), by simpa using q0, by simpa using q1, by simpa using q2⟩
    obtain ⟨b, off, spot⟩ := a'
    have hspot : spot = none := by
      obtain ⟨q, h1, _⟩ := each0 0 (by omega)
      simpa [Addr.add] using World.cell?_spot h1
    subst hspot
    obtain ⟨q, hq⟩ := Deep.choose_lt each0
    refine ⟨l, fun i => (q i).1, fun i => (q i).2.1, fun i => (q i).2.2, _, c, rfl, by omega, fun j hj => ⟨b, off, rfl, ?_⟩⟩
    obtain ⟨h1, h2, h3⟩ := hq j hj
    rw [Addr.add_lit] at h1 h2 h3
    exact ⟨h1, by rw [Nat.add_assoc]; exact h2, by rw [Nat.add_assoc]; exact h3⟩
end Go.Proofs.Ytcajomobmjapgaa
