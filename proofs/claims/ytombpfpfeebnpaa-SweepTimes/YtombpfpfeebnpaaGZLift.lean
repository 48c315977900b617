/- From a reading of a network to what the walks ask of it, with how many arcs there can be. -/
import Derived.Test.YtombpfpfeebnpaaGLift
namespace Go.Proofs.Ytombpfpfeebnpaa
open Go.ChangeShapes Go.WideShapes Go.ChangeAt Go.RowKit
set_option linter.unusedVariables false
set_option linter.constructorNameAsVariable false
set_option maxRecDepth 100000

/-- a slice of arcs that came in: no more than can be reached -/
theorem open_arcs_z {H : Type} {enc : TypeId × Value → H} {W : World} {v : Value} {fuel : Nat} {x : DataW H × List MemPlace} (hf : DataW.trod enc Try.prog W 0 (fun _ => true) true fuel 22 [v] = some x) : ∃ l, AR any W v l ∧ ((∀ n ∈ x.1.weights Try.prog 22, n ≤ reachBytes) → l.length ≤ 5864062014634) := by
  obtain ⟨l, hl⟩ := open_arcs hf
  refine ⟨l, hl, ?_⟩
  have hb : Try.prog.bytesOf 46 = 24 := by kernel_rfl
  rcases Deep.open_slice Try.underlying22 hf with ⟨h0, rfl⟩ | ⟨a', len, cap, m, n, D, Pl, h0, _, hle, hm, hmm, rfl, hx⟩
  · intro _
    simp at h0
    subst h0
    obtain ⟨a, c, hv⟩ := hl.slice
    simp only [Value.slice.injEq] at hv
    have := hv.2.1
    omega
  · intro hsz
    simp at h0
    subst h0
    obtain ⟨a, c, hv⟩ := hl.slice
    simp only [Value.slice.injEq] at hv
    have h1 := hv.2.1
    have hw := hsz ((((List.range len).map D).length + ((List.range (m - len)).map fun j => D (len + j)).length) * 24) (by simp [DataW.weights, Try.underlying22, hb])
    rw [List.length_map, List.length_range] at hw
    have hr : reachBytes = 140737488351232 := by kernel_rfl
    rw [hr] at hw
    omega
/-- a network that came in: its arcs are no more than can be reached -/
theorem open_net_z {H : Type} {enc : TypeId × Value → H} {W : World} {b0 : Nat} {r : Reach} {v : Value} {d : DataW H} {p : List MemPlace} (hval : Value.okWide Try.prog W r b0 24 v) (h : DataW.Trod enc Try.prog W 0 (fun _ => true) true 24 v d p) :
    ∃ (n : Int) (s : Value) (l : List Ar), v = .agg #[.int .i64 n, s] ∧ AR any W s l ∧ (Lit.int .i64 n).wf = true ∧
      ∀ (ts : List TypeId) (ds : List (DataW H)) (j : Nat), (DataW.weightsEach Try.prog ts ds).all (· ≤ reachBytes) = true → ts[j]? = some 24 → ds[j]? = some d → l.length ≤ 5864062014634 := by
  obtain ⟨c0, c1, rfl⟩ : ∃ c0 c1, v = .agg #[c0, c1] := by
    simp only [Value.okWide, Try.underlying24] at hval
    obtain ⟨cs, h1, h2, _⟩ := hval
    rw [show Try.prog.cellsOf 24 = 2 by kernel_rfl] at h2
    obtain ⟨c0, c1, rfl⟩ := two_cells_n h2
    exact ⟨c0, c1, h1⟩
  obtain ⟨fuel, hf⟩ := h
  have hu := Try.underlying24
  obtain ⟨xs, k', hk, hxy, _, hxl, hg⟩ := DataW.trod_struct hu hf
  match xs, hxl with
  | [y0, y1], _ =>
    have g0 := hg 0 _ rfl
    have g1 := hg 1 _ rfl
    have ci : Try.prog.cellsOf 3 = 1 := by kernel_rfl
    have cs : Try.prog.cellsOf 22 = 1 := by kernel_rfl
    simp [ci, cs, Value.cells] at g0 g1
    obtain ⟨a, ea, e0, wa⟩ := DataW.trod_int Try.underlying3 g0
    simp at ea
    subst ea
    obtain ⟨l, hl, hz⟩ := open_arcs_z g1
    refine ⟨a, c1, l, rfl, hl, wa, fun ts ds j hsz hts hds => hz (fun n hn => ?_)⟩
    simp at hxy
    obtain ⟨rfl, _⟩ := hxy
    have hall := List.all_eq_true.1 hsz n (DataW.weights_mem_each hts hds n (by
      simp only [DataW.weights, hu]
      exact DataW.weights_mem_each (j := 1) (t := 22) (d := y1.1) rfl rfl n hn))
    simpa using hall
theorem three_cells_a {cs : Array Value} (h : cs.size = 3) : ∃ c0 c1 c2, cs = #[c0, c1, c2] := by
  obtain ⟨l⟩ := cs
  match l, h with
  | [c0, c1, c2], _ => exact ⟨c0, c1, c2, rfl⟩
/-- an arc that came in -/
theorem open_arc {H : Type} {enc : TypeId × Value → H} {W : World} {b0 : Nat} {r : Reach} {v : Value} {d : DataW H} {p : List MemPlace} (hval : Value.okWide Try.prog W r b0 46 v) (h : DataW.Trod enc Try.prog W 0 (fun _ => true) true 46 v d p) :
    ∃ a b c : Int, v = .agg #[.int .i64 a, .int .i64 b, .int .i64 c] ∧ (Lit.int .i64 a).wf = true ∧ (Lit.int .i64 b).wf = true ∧ (Lit.int .i64 c).wf = true := by
  obtain ⟨c0, c1, c2, rfl⟩ : ∃ c0 c1 c2, v = .agg #[c0, c1, c2] := by
    simp only [Value.okWide, Try.underlying46] at hval
    obtain ⟨cs, h1, h2, _⟩ := hval
    rw [show Try.prog.cellsOf 46 = 3 by kernel_rfl] at h2
    obtain ⟨c0, c1, c2, rfl⟩ := three_cells_a h2
    exact ⟨c0, c1, c2, h1⟩
  obtain ⟨fuel, hf⟩ := h
  obtain ⟨xs, k', hk, hxy, _, hxl, hg⟩ := DataW.trod_struct Try.underlying46 hf
  match xs, hxl with
  | [y0, y1, y2], _ =>
    have g0 := hg 0 _ rfl
    have g1 := hg 1 _ rfl
    have g2 := hg 2 _ rfl
    have ci : Try.prog.cellsOf 3 = 1 := by kernel_rfl
    simp [ci, Value.cells] at g0 g1 g2
    obtain ⟨a, ea, e0, wa⟩ := DataW.trod_int Try.underlying3 g0
    obtain ⟨b, eb, e1, wb⟩ := DataW.trod_int Try.underlying3 g1
    obtain ⟨c, ec, e2, wc⟩ := DataW.trod_int Try.underlying3 g2
    simp at ea eb ec
    subst ea eb ec
    exact ⟨a, b, c, rfl, wa, wb, wc⟩
end Go.Proofs.Ytombpfpfeebnpaa
