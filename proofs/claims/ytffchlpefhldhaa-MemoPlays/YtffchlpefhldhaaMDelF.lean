/- slices.DeleteFunc with Drop's own function. -/
import Derived.Test.YtffchlpefhldhaaMIdx
namespace Go.Proofs.Ytffchlpefhldhaa
open Go.RowKit Go.Maps
set_option linter.unusedVariables false

theorem mZeroP (w : World) : (zeroValue 30).run Try.prog w = .ok (.agg #[.int .i32 0, .int .i32 0]) w := by kernel_rfl

/-- clear, of a slice that has elements -/
theorem run_clear_pairs {P : Program} {w : World} {t ty e : TypeId} {i : TypeInfo} (ht : P.underlying t = some (.slice e)) (hz : (zeroValue e).run P w = .ok (.agg #[.int .i32 0, .int .i32 0]) w) (g o m c : Nat) (hm : 0 < m) {cur : Array Value} (hg : w.heap[g]? = some (.cells cur e (0, 0))) (hfit : o + m * 2 ≤ cur.size) :
    ∃ vs : List Value, vs.length = m * 2 ∧ (Builtin.clear_ #[t] ty #[.slice (some ⟨g, o, none⟩) m c]).run P w = .ok (.tuple #[]) (w.setCells g o vs) := by
  refine ⟨(Builtin.zeroCells (Value.agg #[.int .i32 0, .int .i32 0]).cells m).toList, by simp [Builtin.zeroCells, Value.cells], ?_⟩
  have hl : (Builtin.zeroCells (Value.agg #[.int .i32 0, .int .i32 0]).cells m).toList.length = m * 2 := by simp [Builtin.zeroCells, Value.cells]
  have h1 : ∀ v ∈ (Builtin.zeroCells (Value.agg #[.int .i32 0, .int .i32 0]).cells m).toList, v.oneCell' = true := by
    intro v hv
    have hb := size_zeroCells (Value.agg #[.int .i32 0, .int .i32 0]).cells m
    simp [Builtin.zeroCells, Value.cells] at hv
    obtain ⟨j, hj, rfl⟩ := hv
    have : j % 2 < 2 := Nat.mod_lt _ (by omega)
    match h2 : j % 2, this with
    | 0, _ => rfl
    | 1, _ => rfl
  have hst := run_storeCells_cells (P := P) g o (Builtin.zeroCells (Value.agg #[.int .i32 0, .int .i32 0]).cells m).toList 0 w (fun j hj => (cell_some hg (by rw [hl] at hj; omega)).1) (fun j hj => (cell_some hg (by rw [hl] at hj; omega)).2) h1
  simp only [Nat.add_zero] at hst
  obtain ⟨m', rfl⟩ : ∃ m', m = m' + 1 := ⟨m - 1, by omega⟩
  simp [Builtin.clear_, run_underlying ht, hz, hst, Result.andThen]

theorem run_from {P : Program} {t e : TypeId} {i : TypeInfo} {s n g off cap z : Nat} (ht : P.underlying t = some (.slice e)) (hi : P.info? e = some i) (hs : i.size = s) (hz : z < n) (hn : n ≤ cap) (u : World) :
    (Instr.slice t (.slice (some ⟨g, off, none⟩) n cap) (some (.int .i64 (z : Int))) none none).run P u = .ok (.slice (some ⟨g, off + z * s, none⟩) (n - z) (cap - z)) u := by
  have h1 : z ≤ n := by omega
  have h2 : ¬ cap = z := by omega
  simp [Instr.slice, run_underlying ht, Instr.sliceBounds, Instr.sliceBound, asIntOf, sizeOf, typeInfo, hi, Result.andThen, hs, Addr.add_lit, h1, h2]
theorem run_upto {P : Program} {t e : TypeId} {i : TypeInfo} {n g off cap z : Nat} (ht : P.underlying t = some (.slice e)) (hi : P.info? e = some i) (hz : z ≤ cap) (u : World) :
    (Instr.slice t (.slice (some ⟨g, off, none⟩) n cap) none (some (.int .i64 (z : Int))) none).run P u = .ok (.slice (some ⟨g, off, none⟩) z cap) u := by
  simp [Instr.slice, run_underlying ht, Instr.sliceBounds, Instr.sliceBound, asIntOf, sizeOf, typeInfo, hi, Result.andThen, Addr.add_lit, hz]

/-- an entry stands at a place of a row -/
def At (w : World) (g off q : Nat) (e : Ent) : Prop := w.cell? ⟨g, off + q * 2, none⟩ = some (.int .i32 e.1) ∧ w.cell? ⟨g, off + q * 2 + 1, none⟩ = some (.int .i32 e.2.1)

theorem at_own {w : World} {g off cap : Nat} {K : List Ent} {cur : Array Value} (hg : w.heap[g]? = some (.cells cur 30 (0, 0))) (hfit : off + cap * 2 ≤ cur.size) (hn : K.length ≤ cap) (hc : cap ≤ maxLen) (h : ∀ q e, K[q]? = some e → At w g off q e) : OwnSl w 30 2 (.slice (some ⟨g, off, none⟩) K.length cap) K.length (qcells K) := by
  refine ⟨qcells_length K, .inr ⟨g, off, cap, cur, rfl, hg, hn, hc, hfit, ?_⟩⟩
  apply List.ext_getElem?
  intro j
  rw [List.getElem?_take, List.getElem?_drop]
  by_cases hj : j < K.length * 2
  · rw [if_pos hj]
    obtain ⟨e, he⟩ : ∃ e, K[j / 2]? = some e := ⟨_, List.getElem?_eq_getElem (by omega)⟩
    obtain ⟨a1, a2⟩ := h _ _ he
    obtain ⟨b1, b2⟩ := qcells_get K _ _ he
    rw [cell_obj hg] at a1 a2
    rcases Nat.mod_two_eq_zero_or_one j with hm | hm
    · rw [show j = j / 2 * 2 by omega, b1, ← a1]; simp
    · rw [show j = j / 2 * 2 + 1 by omega, b2, ← a2]; simp [Nat.add_assoc]
  · rw [if_neg hj, List.getElem?_eq_none (by rw [qcells_length]; omega)]
theorem own_at {w : World} {g off n cap : Nat} {L : List Ent} (h : OwnSl w 30 2 (.slice (some ⟨g, off, none⟩) n cap) n (qcells L)) : ∀ q e, L[q]? = some e → At w g off q e := by
  intro q e he
  obtain ⟨b1, b2⟩ := qcells_get L _ _ he
  exact ⟨h.cells _ _ b1, by rw [Nat.add_assoc]; exact h.cells _ _ b2⟩
theorem At.turn {F : Nat → Prop} {w w' : World} {g off q : Nat} {e : Ent} (h : At w g off q e) (t : Turn F w w') (hn : ¬ F g) : At w' g off q e := ⟨t.cell h.1 hn, t.cell h.2 hn⟩
/-- a store at another place, and at this one -/
theorem At.set_other {w : World} {g off q z : Nat} {e : Ent} {x y : Value} (h : At w g off q e) (hq : q ≠ z) : At ((w.setCell ⟨g, off + z * 2, none⟩ x).setCell ⟨g, off + z * 2 + 1, none⟩ y) g off q e := by
  have o : ∀ (u : World) (p r : Nat) (v : Value), p ≠ r → (u.setCell ⟨g, r, none⟩ v).cell? ⟨g, p, none⟩ = u.cell? ⟨g, p, none⟩ := fun u p r v hne => World.cell?_setCell_other _ _ _ _ (by simp <;> omega)
  exact ⟨by rw [o _ _ _ _ (by omega), o _ _ _ _ (by omega)]; exact h.1, by rw [o _ _ _ _ (by omega), o _ _ _ _ (by omega)]; exact h.2⟩
theorem At.set_same {w : World} {g off z : Nat} {cur : Array Value} {t : TypeId} (hg : w.heap[g]? = some (.cells cur t (0, 0))) (hf : off + z * 2 + 1 < cur.size) (e : Ent) : At ((w.setCell ⟨g, off + z * 2, none⟩ (.int .i32 e.1)).setCell ⟨g, off + z * 2 + 1, none⟩ (.int .i32 e.2.1)) g off z e := by
  have h1 := heap_setCell_obj (j := off + z * 2 + 1) (heap_setCell_obj (j := off + z * 2) hg (.int .i32 e.1)) (.int .i32 e.2.1)
  refine ⟨?_, ?_⟩
  · rw [cell_obj h1]
    simp [show off + z * 2 < cur.size by omega]
  · rw [cell_obj h1]
    simp [hf]
theorem kept_take {L : List Ent} {node : Int} {j : Nat} {e : Ent} (he : L[j]? = some e) : (L.take (j + 1)).filter (keep node) = (L.take j).filter (keep node) ++ if keep node e then [e] else [] := by
  rw [List.take_add_one, he, List.filter_append]
  cases h : keep node e <;> simp [h]
end Go.Proofs.Ytffchlpefhldhaa
