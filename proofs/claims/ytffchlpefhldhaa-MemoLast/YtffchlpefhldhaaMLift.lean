/- From readings of pairs and of slices of pairs to what the walks ask of them. -/
import Derived.Test.YtffchlpefhldhaaMSame
import Derived.Test.YtffchlpefhldhaaRows
import Derived.ProofKit
import Derived.OpenShut
import Derived.ShutString
import Derived.ChangeOld
import Derived.SizedLaws
import Derived.Deep.SlicePairs
namespace Go.Proofs.Ytffchlpefhldhaa
open Go.ChangeShapes Go.WideShapes Go.ChangeAt Go.RowKit
set_option linter.unusedVariables false

theorem own : ownKnob Try.prog.godebug = none := by kernel_rfl
theorem laidOut : laidOutB Try.prog = true := by kernel_rfl

theorem two_cells {cs : Array Value} (h : cs.size = 2) : ∃ c0 c1, cs = #[c0, c1] := by
  obtain ⟨l⟩ := cs
  match l, h with
  | [c0, c1], _ => exact ⟨c0, c1, rfl⟩

/-- a pair that came in -/
theorem open_pairS {H : Type} {enc : TypeId × Value → H} {P : Program} {W : World} {k e : TypeId} {q : IntKind} {f0 f1 : Field} (hu : P.underlying k = some (.struct #[f0, f1])) (he : P.underlying e = some (.int q)) (hc : P.cellsOf k = 2) (hc1 : P.cellsOf e = 1)
    (t0 : f0.type = e) (t1 : f1.type = e) (o0 : f0.offset = 0) (o1 : f1.offset = 1) {base b0 : Nat} {r : Reach} {sp : Nat → Bool} {held : Bool} {v : Value} {d : DataW H} {p : List MemPlace} (hval : Value.okWide P W r b0 k v) (h : DataW.Trod enc P W base sp held k v d p) :
    ∃ a b : Int, v = .agg #[.int q a, .int q b] ∧ (Lit.int q a).wf = true ∧ (Lit.int q b).wf = true ∧ p = [] := by
  obtain ⟨c0, c1, rfl⟩ : ∃ c0 c1, v = .agg #[c0, c1] := by
    simp only [Value.okWide, hu] at hval
    obtain ⟨cs, h1, h2, _⟩ := hval
    rw [hc] at h2
    obtain ⟨c0, c1, rfl⟩ := two_cells h2
    exact ⟨c0, c1, h1⟩
  obtain ⟨fuel, hf⟩ := h
  obtain ⟨xs, k', hk, hxy, _, hxl, hg⟩ := DataW.trod_struct hu hf
  match xs, hxl with
  | [y0, y1], _ =>
    have g0 := hg 0 f0 rfl
    have g1 := hg 1 f1 rfl
    simp [o0, o1, t0, t1, hc1, Value.cells] at g0 g1
    obtain ⟨a, ea, e0, wa⟩ := DataW.trod_int he g0
    obtain ⟨b, eb, e1, wb⟩ := DataW.trod_int he g1
    simp at ea eb
    subst ea eb
    refine ⟨a, b, rfl, wa, wb, ?_⟩
    simp only [Prod.mk.injEq] at hxy
    rw [hxy.2]
    simp [e0, e1]

/-- a slice of pairs that came in -/
theorem open_prow {H : Type} {enc : TypeId × Value → H} {W : World} {v : Value} {d : DataW H} {p : List MemPlace} (h : DataW.Trod enc Try.prog W 0 (fun _ => true) true 45 v d p) (hv : ∃ a l c, v = .slice a l c) : ∃ n A B, PRow W v n A B := by
  obtain ⟨a, l, c, rfl⟩ := hv
  obtain ⟨fuel, hf⟩ := h
  rcases Deep.open_slice_pairs Try.underlying45 Try.underlying30 (by kernel_rfl) rfl rfl (by kernel_rfl) (by kernel_rfl) hf with ⟨h0, _⟩ | ⟨a', len, cap, m, n, V0, V1, D0, D1, P0, P1, h0, _, hl, hm, hmm, _, hx⟩
  · simp [Value.cells] at h0
    obtain ⟨rfl, rfl, rfl⟩ := h0
    exact ⟨0, fun _ => 0, fun _ => 0, .inl ⟨rfl, _, _, rfl⟩⟩
  · simp [Value.cells] at h0
    obtain ⟨rfl, rfl, rfl⟩ := h0
    have hlm : l ≤ m := by rw [hmm]; simpa using hl
    by_cases h0 : l = 0
    · subst h0
      exact ⟨0, fun _ => 0, fun _ => 0, .inl ⟨rfl, _, _, rfl⟩⟩
    obtain ⟨b, off, spot⟩ := a'
    have hspot : spot = none := by
      have := (hx 0 (by omega)).1
      simpa [Addr.add] using World.cell?_spot this
    subst hspot
    have each : ∀ i, i < l → ∃ q : Int × Int, W.cell? ⟨b, off + i * 2, none⟩ = some (.int .i32 q.1) ∧ W.cell? ⟨b, off + i * 2 + 1, none⟩ = some (.int .i32 q.2) ∧ I32 q.1 ∧ I32 q.2 := by
      intro i hi
      obtain ⟨x0, x1, r0, r1⟩ := hx i (by omega)
      obtain ⟨p0, e0, _, w0⟩ := DataW.trod_int Try.underlying21 r0
      obtain ⟨p1, e1, _, w1⟩ := DataW.trod_int Try.underlying21 r1
      simp at e0 e1
      rw [e0, Addr.add_lit] at x0
      rw [e1, Addr.add_lit] at x1
      exact ⟨(p0, p1), x0, by rw [Nat.add_assoc]; exact x1, w0, w1⟩
    obtain ⟨q, hq⟩ := Deep.choose_lt each
    exact ⟨l, fun i => (q i).1, fun i => (q i).2, .inr ⟨b, off, c, rfl, by omega, hq⟩⟩
end Go.Proofs.Ytffchlpefhldhaa
