/- From a reading of a network, of a bulk, to what the walks ask of it. -/
import Derived.Test.YtombpfpfeebnpaaGLift
import Derived.JoinedCond
namespace Go.Proofs.Ytombpfpfeebnpaa
open Go.ChangeShapes Go.WideShapes Go.ChangeAt Go.RowKit
set_option linter.unusedVariables false
set_option linter.constructorNameAsVariable false
set_option maxRecDepth 100000

theorem bulk_pos {H : Type} (d : DataW H) : 1 ≤ Rows.uptoBulk d := by
  cases d with
  | lit l => cases l <;> simp only [Rows.uptoBulk] <;> omega
  | nil => simp only [Rows.uptoBulk]; omega
  | ptr d => simp only [Rows.uptoBulk]; omega
  | slice a b => simp only [Rows.uptoBulk]; omega
  | agg a => simp only [Rows.uptoBulk]; omega
  | iface a d => simp only [Rows.uptoBulk]; omega
  | map a => simp only [Rows.uptoBulk]; omega
  | held a => simp only [Rows.uptoBulk]; omega
theorem bulk_all {H : Type} : ∀ ds : List (DataW H), ds.length ≤ Rows.uptoBulkAll ds
  | [] => Nat.zero_le _
  | d :: r => by
    have h1 := bulk_pos d
    have h2 := bulk_all r
    rw [List.length_cons, Rows.uptoBulkAll]
    omega
/-- a slice of arcs that came in: no more than its bulk -/
theorem open_arcs_upto {H : Type} {enc : TypeId × Value → H} {W : World} {v : Value} {fuel : Nat} {x : DataW H × List MemPlace} (hf : DataW.trod enc Try.prog W 0 (fun _ => true) true fuel 22 [v] = some x) : ∃ l, AR any W v l ∧ l.length ≤ Rows.uptoBulk x.1 := by
  obtain ⟨l, hl⟩ := open_arcs hf
  refine ⟨l, hl, ?_⟩
  rcases Deep.open_slice Try.underlying22 hf with ⟨h0, rfl⟩ | ⟨a', len, cap, m, n, D, Pl, h0, _, hle, hm, hmm, rfl, hx⟩
  · simp at h0
    subst h0
    obtain ⟨a, c, hv⟩ := hl.slice
    simp only [Value.slice.injEq] at hv
    have := hv.2.1
    omega
  · simp at h0
    subst h0
    obtain ⟨a, c, hv⟩ := hl.slice
    simp only [Value.slice.injEq] at hv
    have h1 := hv.2.1
    have h2 := bulk_all ((List.range len).map D)
    rw [List.length_map, List.length_range] at h2
    simp only [Rows.uptoBulk]
    omega
/-- a network that came in: its arcs are no more than its bulk -/
theorem open_net_upto {H : Type} {enc : TypeId × Value → H} {W : World} {b0 : Nat} {r : Reach} {v : Value} {d : DataW H} {p : List MemPlace} (hval : Value.okWide Try.prog W r b0 24 v) (h : DataW.Trod enc Try.prog W 0 (fun _ => true) true 24 v d p) :
    ∃ (n : Int) (s : Value) (l : List Ar), v = .agg #[.int .i64 n, s] ∧ AR any W s l ∧ (Lit.int .i64 n).wf = true ∧ l.length ≤ Rows.uptoBulk d := by
  obtain ⟨c0, c1, rfl⟩ : ∃ c0 c1, v = .agg #[c0, c1] := by
    simp only [Value.okWide, Try.underlying24] at hval
    obtain ⟨cs, h1, h2, _⟩ := hval
    rw [show Try.prog.cellsOf 24 = 2 by kernel_rfl] at h2
    obtain ⟨c0, c1, rfl⟩ := two_cells_n h2
    exact ⟨c0, c1, h1⟩
  obtain ⟨fuel, hf⟩ := h
  obtain ⟨xs, k', hk, hxy, _, hxl, hg⟩ := DataW.trod_struct Try.underlying24 hf
  match xs, hxl with
  | [y0, y1], _ =>
    have g0 := hg 0 _ rfl
    have g1 := hg 1 _ rfl
    have ci : Try.prog.cellsOf 3 = 1 := by kernel_rfl
    have cs : Try.prog.cellsOf 22 = 1 := by kernel_rfl
    simp [ci, cs, Value.cells] at g0 g1
    obtain ⟨a, ea, e0, wa⟩ := DataW.trod_int Try.underlying3 g0
    simp at ea
    subst ea
    obtain ⟨l, hl, hb⟩ := open_arcs_upto g1
    refine ⟨a, c1, l, rfl, hl, wa, ?_⟩
    simp at hxy
    obtain ⟨rfl, _⟩ := hxy
    simp only [Rows.uptoBulk, Rows.uptoBulkAll]
    omega
theorem three_cells_a {cs : Array Value} (h : cs.size = 3) : ∃ c0 c1 c2, cs = #[c0, c1, c2] := by
  obtain ⟨l⟩ := cs
  match l, h with
  | [c0, c1, c2], _ => exact ⟨c0, c1, c2, rfl⟩
/-- an arc that came in -/
theorem open_arc {H : Type} {enc : TypeId × Value → H} {W : World} {b0 : Nat} {r : Reach} {v : Value} {d : DataW H} {p : List MemPlace} (hval : Value.okWide Try.prog W r b0 46 v) (h : DataW.Trod enc Try.prog W 0 (fun _ => true) true 46 v d p) :
    ∃ a b c : Int, v = .agg #[.int .i64 a, .int .i64 b, .int .i64 c] ∧ (Lit.int .i64 a).wf = true ∧ (Lit.int .i64 b).wf = true ∧ (Lit.int .i64 c).wf = true := by
  obtain ⟨c0, c1, c2, rfl⟩ : ∃ c0 c1 c2, v = .agg #[c0, c1, c2] := by
    simp only [Value.okWide, Try.underlying46] at hval
    obtain ⟨cs, h1, h2, _⟩ := hval
    rw [show Try.prog.cellsOf 46 = 3 by kernel_rfl] at h2
    obtain ⟨c0, c1, c2, rfl⟩ := three_cells_a h2
    exact ⟨c0, c1, c2, h1⟩
  obtain ⟨fuel, hf⟩ := h
  obtain ⟨xs, k', hk, hxy, _, hxl, hg⟩ := DataW.trod_struct Try.underlying46 hf
  match xs, hxl with
  | [y0, y1, y2], _ =>
    have g0 := hg 0 _ rfl
    have g1 := hg 1 _ rfl
    have g2 := hg 2 _ rfl
    have ci : Try.prog.cellsOf 3 = 1 := by kernel_rfl
    simp [ci, Value.cells] at g0 g1 g2
    obtain ⟨a, ea, e0, wa⟩ := DataW.trod_int Try.underlying3 g0
    obtain ⟨b, eb, e1, wb⟩ := DataW.trod_int Try.underlying3 g1
    obtain ⟨c, ec, e2, wc⟩ := DataW.trod_int Try.underlying3 g2
    simp at ea eb ec
    subst ea eb ec
    exact ⟨a, b, c, rfl, wa, wb, wc⟩
end Go.Proofs.Ytombpfpfeebnpaa
