/- From readings of networks, and of pairs, to what the walks ask of them. -/
import Derived.Test.YtombpfpfeebnpaaCLift
import Derived.Test.YtombpfpfeebnpaaGArc
import Derived.Deep.SlicePairs
namespace Go.Proofs.Ytombpfpfeebnpaa
open Go.ChangeShapes Go.WideShapes Go.ChangeAt Go.RowKit
set_option linter.unusedVariables false
set_option linter.constructorNameAsVariable false
set_option maxRecDepth 100000

theorem two_cells_n {cs : Array Value} (h : cs.size = 2) : ∃ c0 c1, cs = #[c0, c1] := by
  obtain ⟨l⟩ := cs
  match l, h with
  | [c0, c1], _ => exact ⟨c0, c1, rfl⟩

/-- a pair that came in -/
theorem open_pairS {H : Type} {enc : TypeId × Value → H} {P : Program} {W : World} {k e : TypeId} {q : IntKind} {f0 f1 : Field} (hu : P.underlying k = some (.struct #[f0, f1])) (he : P.underlying e = some (.int q)) (hc : P.cellsOf k = 2) (hc1 : P.cellsOf e = 1)
    (t0 : f0.type = e) (t1 : f1.type = e) (o0 : f0.offset = 0) (o1 : f1.offset = 1) {base b0 : Nat} {r : Reach} {sp : Nat → Bool} {held : Bool} {v : Value} {d : DataW H} {p : List MemPlace} (hval : Value.okWide P W r b0 k v) (h : DataW.Trod enc P W base sp held k v d p) :
    ∃ a b : Int, v = .agg #[.int q a, .int q b] ∧ (Lit.int q a).wf = true ∧ (Lit.int q b).wf = true ∧ p = [] := by
  obtain ⟨c0, c1, rfl⟩ : ∃ c0 c1, v = .agg #[c0, c1] := by
    simp only [Value.okWide, hu] at hval
    obtain ⟨cs, h1, h2, _⟩ := hval
    rw [hc] at h2
    obtain ⟨c0, c1, rfl⟩ := two_cells_n h2
    exact ⟨c0, c1, h1⟩
  obtain ⟨fuel, hf⟩ := h
  obtain ⟨xs, k', hk, hxy, _, hxl, hg⟩ := DataW.trod_struct hu hf
  match xs, hxl with
  | [y0, y1], _ =>
    have g0 := hg 0 f0 rfl
    have g1 := hg 1 f1 rfl
    simp [o0, o1, t0, t1, hc1, Value.cells] at g0 g1
    obtain ⟨a, ea, e0, wa⟩ := DataW.trod_int he g0
    obtain ⟨b, eb, e1, wb⟩ := DataW.trod_int he g1
    simp at ea eb
    subst ea eb
    refine ⟨a, b, rfl, wa, wb, ?_⟩
    simp only [Prod.mk.injEq] at hxy
    rw [hxy.2]
    simp [e0, e1]

theorem three_cells {cs : List Value} (h : cs.length = 3) : ∃ c0 c1 c2, cs = [c0, c1, c2] := by
  match cs, h with
  | [c0, c1, c2], _ => exact ⟨c0, c1, c2, rfl⟩
/-- one operation, from its reading -/
theorem open_op9 {H : Type} {enc : TypeId × Value → H} {P : Program} {W : World} {t i j : TypeId} {f0 f1 f2 : Field} (ht : P.underlying t = some (.struct #[f0, f1, f2])) (hi : P.underlying i = some (.int .i64)) (hj : P.underlying j = some (.int .i64))
    (a0 : f0.type = i) (a1 : f1.type = i) (a2 : f2.type = j) (o0 : f0.offset = 0) (o1 : f1.offset = 1) (o2 : f2.offset = 2)
    (ct : P.cellsOf t = 3) (ci : P.cellsOf i = 1) (cj : P.cellsOf j = 1)
    {base : Nat} {sp : Nat → Bool} {held : Bool} {fuel : Nat} {cs : List Value} {x : DataW H × List MemPlace} (h : DataW.trod enc P W base sp held fuel t cs = some x) :
    ∃ k a b : Int, cs = [.int .i64 k, .int .i64 a, .int .i64 b] := by
  obtain ⟨xs, n, _, _, hl, hxl, hf⟩ := DataW.trod_struct ht h
  obtain ⟨c0, c1, c2, rfl⟩ := three_cells (hl.trans ct)
  match xs, hxl with
  | [y0, y1, y2], _ =>
    have e0 := hf 0 f0 rfl
    have e1 := hf 1 f1 rfl
    have e2 := hf 2 f2 rfl
    simp [o0, o1, o2, a0, a1, a2, ci, cj] at e0 e1 e2
    obtain ⟨k, r0, _, _⟩ := DataW.trod_int hi e0
    obtain ⟨a, r1, _, _⟩ := DataW.trod_int hi e1
    obtain ⟨b, r2, _, _⟩ := DataW.trod_int hj e2
    simp at r0 r1 r2
    exact ⟨k, a, b, by rw [r0, r1, r2]⟩


/-- a slice of arcs that came in -/
theorem open_arcs {H : Type} {enc : TypeId × Value → H} {W : World} {v : Value} {fuel : Nat} {x : DataW H × List MemPlace} (hf : DataW.trod enc Try.prog W 0 (fun _ => true) true fuel 22 [v] = some x) : ∃ l, AR any W v l := by
  have ce : Try.prog.cellsOf 46 = 3 := by kernel_rfl
  rcases Deep.open_slice Try.underlying22 hf with ⟨h0, _⟩ | ⟨a', len, cap, m, n, D, Pl, h0, _, hl, hm, hmm, _, hx⟩
  · simp at h0
    subst h0
    exact ⟨[], ar_none _ _⟩
  · simp at h0
    subst h0
    have hlm : len ≤ m := by rw [hmm]; simpa using hl
    by_cases h0 : len = 0
    · subst h0
      exact ⟨[], .inl ⟨_, _, rfl, (fun h => by cases h), hm, rfl⟩⟩
    have each0 : ∀ i, i < len → ∃ q : Ar, W.cell? (a'.add (i * 3)) = some (.int .i64 q.1) ∧ W.cell? (a'.add (i * 3 + 1)) = some (.int .i64 q.2.1) ∧ W.cell? (a'.add (i * 3 + 2)) = some (.int .i64 q.2.2) := by
      intro i hi
      obtain ⟨cs', h1, h2⟩ := hx i (by omega)
      rw [ce] at h1
      obtain ⟨k, a, b, rfl⟩ := open_op9 Try.underlying46 Try.underlying3 Try.underlying3 rfl rfl rfl rfl rfl rfl (by kernel_rfl) (by kernel_rfl) (by kernel_rfl) h2
      obtain ⟨_, _, hc⟩ := World.cells?_some h1
      have q0 := hc 0 (by omega)
      have q1 := hc 1 (by omega)
      have q2 := hc 2 (by omega)
      rw [Deep.add_add] at q0 q1 q2
      exact ⟨(k, a, b), by simpa using q0, by simpa using q1, by simpa using q2⟩
    obtain ⟨b, off, spot⟩ := a'
    have hspot : spot = none := by
      obtain ⟨q, h1, _⟩ := each0 0 (by omega)
      simpa [Addr.add] using World.cell?_spot h1
    subst hspot
    obtain ⟨q, hq⟩ := Deep.choose_lt each0
    have hll : ((List.range len).map q).length = len := by simp
    refine ⟨(List.range len).map q, .inr ⟨b, off, cap, by rw [hll], by rw [hll]; omega, by omega, trivial, fun i x hx => ?_⟩⟩
    have hi : i < len := by have := (List.getElem?_eq_some_iff.1 hx).1; omega
    simp [hi] at hx
    subst hx
    obtain ⟨h1, h2, h3⟩ := hq i hi
    rw [Addr.add_lit] at h1 h2 h3
    exact ⟨h1, by rw [Nat.add_assoc]; exact h2, by rw [Nat.add_assoc]; exact h3⟩
/-- a network that came in -/
theorem open_net {H : Type} {enc : TypeId × Value → H} {W : World} {b0 : Nat} {r : Reach} {v : Value} {d : DataW H} {p : List MemPlace} (hval : Value.okWide Try.prog W r b0 24 v) (h : DataW.Trod enc Try.prog W 0 (fun _ => true) true 24 v d p) :
    ∃ (n : Int) (s : Value) (l : List Ar), v = .agg #[.int .i64 n, s] ∧ AR any W s l ∧ (Lit.int .i64 n).wf = true := by
  obtain ⟨c0, c1, rfl⟩ : ∃ c0 c1, v = .agg #[c0, c1] := by
    simp only [Value.okWide, Try.underlying24] at hval
    obtain ⟨cs, h1, h2, _⟩ := hval
    rw [show Try.prog.cellsOf 24 = 2 by kernel_rfl] at h2
    obtain ⟨c0, c1, rfl⟩ := two_cells_n h2
    exact ⟨c0, c1, h1⟩
  obtain ⟨fuel, hf⟩ := h
  obtain ⟨xs, k', hk, hxy, _, hxl, hg⟩ := DataW.trod_struct Try.underlying24 hf
  match xs, hxl with
  | [y0, y1], _ =>
    have g0 := hg 0 _ rfl
    have g1 := hg 1 _ rfl
    have ci : Try.prog.cellsOf 3 = 1 := by kernel_rfl
    have cs : Try.prog.cellsOf 22 = 1 := by kernel_rfl
    simp [ci, cs, Value.cells] at g0 g1
    obtain ⟨a, ea, e0, wa⟩ := DataW.trod_int Try.underlying3 g0
    simp at ea
    subst ea
    obtain ⟨l, hl⟩ := open_arcs g1
    exact ⟨a, c1, l, rfl, hl, wa⟩
end Go.Proofs.Ytombpfpfeebnpaa
