/- From a reading of a slice of operations to what the walk asks of it. -/
import Derived.Test.YtffchlpefhldhaaLawPlays
import Derived.Test.YtffchlpefhldhaaMLift
namespace Go.Proofs.Ytffchlpefhldhaa
open Go.ChangeShapes Go.WideShapes Go.ChangeAt Go.RowKit
set_option linter.unusedVariables false

theorem four_cells {cs : List Value} (h : cs.length = 4) : ∃ c0 c1 c2 c3, cs = [c0, c1, c2, c3] := by
  match cs, h with
  | [c0, c1, c2, c3], _ => exact ⟨c0, c1, c2, c3, rfl⟩

/-- one operation, from its reading -/
theorem open_op {H : Type} {enc : TypeId × Value → H} {P : Program} {W : World} {t p i j q : TypeId} {f0 f1 f2 g0 g1 : Field} (ht : P.underlying t = some (.struct #[f0, f1, f2])) (hp : P.underlying p = some (.struct #[g0, g1])) (hi : P.underlying i = some (.int .i64)) (hj : P.underlying j = some (.int .i64)) (hq : P.underlying q = some (.int .i32))
    (a0 : f0.type = i) (a1 : f1.type = p) (a2 : f2.type = j) (o0 : f0.offset = 0) (o1 : f1.offset = 1) (o2 : f2.offset = 3) (b0 : g0.type = q) (b1 : g1.type = q) (u0 : g0.offset = 0) (u1 : g1.offset = 1)
    (ct : P.cellsOf t = 4) (cp : P.cellsOf p = 2) (ci : P.cellsOf i = 1) (cj : P.cellsOf j = 1) (cq : P.cellsOf q = 1)
    {base : Nat} {sp : Nat → Bool} {held : Bool} {fuel : Nat} {cs : List Value} {x : DataW H × List MemPlace} (h : DataW.trod enc P W base sp held fuel t cs = some x) :
    ∃ k a b d : Int, cs = [.int .i64 k, .int .i32 a, .int .i32 b, .int .i64 d] ∧ (Lit.int .i32 a).wf = true ∧ (Lit.int .i32 b).wf = true ∧ (Lit.int .i64 d).wf = true := by
  obtain ⟨xs, n, _, _, hl, hxl, hf⟩ := DataW.trod_struct ht h
  obtain ⟨c0, c1, c2, c3, rfl⟩ := four_cells (hl.trans ct)
  match xs, hxl with
  | [y0, y1, y2], _ =>
    have e0 := hf 0 f0 rfl
    have e1 := hf 1 f1 rfl
    have e2 := hf 2 f2 rfl
    simp [o0, o1, o2, a0, a1, a2, ci, cp, cj] at e0 e1 e2
    obtain ⟨k, r0, _, _⟩ := DataW.trod_int hi e0
    obtain ⟨d, r2, _, wd⟩ := DataW.trod_int hj e2
    obtain ⟨ys, m, _, _, _, hyl, hg⟩ := DataW.trod_struct hp e1
    match ys, hyl with
    | [z0, z1], _ =>
      have s0 := hg 0 g0 rfl
      have s1 := hg 1 g1 rfl
      simp [u0, u1, b0, b1, cq] at s0 s1
      obtain ⟨a, v0, _, wa⟩ := DataW.trod_int hq s0
      obtain ⟨b, v1, _, wb⟩ := DataW.trod_int hq s1
      simp at r0 r2 v0 v1
      exact ⟨k, a, b, d, by rw [r0, r2, v0, v1], wa, wb, wd⟩

/-- a slice of operations that came in -/
theorem open_orow {H : Type} {enc : TypeId × Value → H} {W : World} {v : Value} {d : DataW H} {p : List MemPlace} (h : DataW.Trod enc Try.prog W 0 (fun _ => true) true 22 v d p) (hv : ∃ a l c, v = .slice a l c) : ∃ n K A B D, ORow W v n K A B D := by
  obtain ⟨a, l, c, rfl⟩ := hv
  obtain ⟨fuel, hf⟩ := h
  have ce : Try.prog.cellsOf 32 = 4 := by kernel_rfl
  rcases Deep.open_slice Try.underlying22 hf with ⟨h0, _⟩ | ⟨a', len, cap, m, n, D, Pl, h0, _, hl, hm, hmm, _, hx⟩
  · simp [Value.cells] at h0
    obtain ⟨rfl, rfl, rfl⟩ := h0
    exact ⟨0, fun _ => 0, fun _ => 0, fun _ => 0, fun _ => 0, .inl ⟨rfl, _, _, rfl⟩⟩
  · simp [Value.cells] at h0
    obtain ⟨rfl, rfl, rfl⟩ := h0
    have hlm : l ≤ m := by rw [hmm]; simpa using hl
    by_cases h0 : l = 0
    · subst h0
      exact ⟨0, fun _ => 0, fun _ => 0, fun _ => 0, fun _ => 0, .inl ⟨rfl, _, _, rfl⟩⟩
    have each0 : ∀ i, i < l → ∃ q : Int × Int × Int × Int, W.cell? (a'.add (i * 4)) = some (.int .i64 q.1) ∧ W.cell? (a'.add (i * 4 + 1)) = some (.int .i32 q.2.1) ∧ W.cell? (a'.add (i * 4 + 2)) = some (.int .i32 q.2.2.1) ∧ W.cell? (a'.add (i * 4 + 3)) = some (.int .i64 q.2.2.2) ∧ I32 q.2.1 ∧ I32 q.2.2.1 ∧ (Lit.int .i64 q.2.2.2).wf = true := by
      intro i hi
      obtain ⟨cs', h1, h2⟩ := hx i (by omega)
      rw [ce] at h1
      obtain ⟨k, a, b, d, rfl, wa, wb, wd⟩ := open_op Try.underlying32 Try.underlying30 Try.underlying3 Try.underlying2 Try.underlying21 rfl rfl rfl rfl rfl rfl rfl rfl rfl rfl (by kernel_rfl) (by kernel_rfl) (by kernel_rfl) (by kernel_rfl) (by kernel_rfl) h2
      obtain ⟨_, _, hc⟩ := World.cells?_some h1
      have q0 := hc 0 (by omega)
      have q1 := hc 1 (by omega)
      have q2 := hc 2 (by omega)
      have q3 := hc 3 (by omega)
      rw [Deep.add_add] at q0 q1 q2 q3
      exact ⟨(k, a, b, d), by simpa using q0, by simpa using q1, by simpa using q2, by simpa using q3, wa, wb, wd⟩
    obtain ⟨b, off, spot⟩ := a'
    have hspot : spot = none := by
      obtain ⟨q, h1, _⟩ := each0 0 (by omega)
      simpa [Addr.add] using World.cell?_spot h1
    subst hspot
    obtain ⟨q, hq⟩ := Deep.choose_lt each0
    refine ⟨l, fun i => (q i).1, fun i => (q i).2.1, fun i => (q i).2.2.1, fun i => (q i).2.2.2, .inr ⟨b, off, c, rfl, by omega, fun i hi => ?_⟩⟩
    obtain ⟨h1, h2, h3, h4, h5⟩ := hq i hi
    rw [Addr.add_lit] at h1 h2 h3 h4
    exact ⟨h1, by rw [Nat.add_assoc]; exact h2, by rw [Nat.add_assoc]; exact h3, by rw [Nat.add_assoc]; exact h4, h5⟩
end Go.Proofs.Ytffchlpefhldhaa
