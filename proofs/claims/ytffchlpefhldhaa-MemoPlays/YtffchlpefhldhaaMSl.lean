/- Steps on slices that own their rows. -/
import Derived.Test.YtffchlpefhldhaaMMem
import Derived.Deep.RegionLaw
namespace Go.Proofs.Ytffchlpefhldhaa
open Go.RowKit Go.Maps
set_option linter.unusedVariables false

theorem heap_setCell_obj {w : World} {B j : Nat} {cur : Array Value} {e : TypeId} (h : w.heap[B]? = some (.cells cur e (0, 0))) (u : Value) : (w.setCell ⟨B, j, none⟩ u).heap[B]? = some (.cells (cur.setIfInBounds j u) e (0, 0)) := by
  have hlt := (Array.getElem?_eq_some_iff.1 h).1
  have h' := (Array.getElem?_eq_some_iff.1 h).2
  show (w.heap.modify B _)[B]? = _
  rw [Array.getElem?_eq_getElem (by rw [Array.size_modify]; exact hlt), Array.getElem_modify_self, h']
  rfl
theorem frozen_obj {w : World} {B : Nat} {cur : Array Value} {e : TypeId} (h : w.heap[B]? = some (.cells cur e (0, 0))) (j : Nat) : w.frozen? ⟨B, j, none⟩ = false := by simp [World.frozen?, h]

/-- append, of which the run is known, as one step of a region that draws -/
theorem step_append_run {P : Program} {ops : Array Oper} {o : Oper} {a : Act} {w : World} {K : Act → World → Prop} {Q : Exit → Act → World → Prop} {E : Prop}
    (hg : o.guard = none) (s x : Operand) (t : TypeId) (hop : o.op = Op.call { callee := Callee.builtin Builtin.append, args := #[s, x], argTypes := #[t, t] }) (v xv v' : Value) (w' : World) (hs : a.eval s = v) (hx : a.eval x = xv)
    (hrun : (Builtin.append_ #[t, t] o.type #[v, xv]).run P w = .ok v' w') (hK : K (a.put o.dst v') w') :
    if Region.wanted o (yielded ops a.tmps) = true then Oper.wp P o a w K Q else E := by
  have hw : Region.wanted o (yielded ops a.tmps) = true := by simp [Region.wanted, hg]
  rw [if_pos hw]
  unfold Oper.wp
  simp [execOp, hop, resolve, invoke, builtin, hs, hx, hrun, Result.andThen]
  exact hK
/-- .. and in a list of operations -/
theorem list_append_run {P : Program} {ops : Array Oper} {rest : List Oper} {o : Oper} {a : Act} {w : World} {Q : Exit → Act → World → Prop}
    (hg : o.guard = none) (s x : Operand) (t : TypeId) (hop : o.op = Op.call { callee := Callee.builtin Builtin.append, args := #[s, x], argTypes := #[t, t] }) (v xv v' : Value) (w' : World) (hs : a.eval s = v) (hx : a.eval x = xv)
    (hrun : (Builtin.append_ #[t, t] o.type #[v, xv]).run P w = .ok v' w') (hK : wpList P ops Q rest (a.put o.dst v') w') : wpList P ops Q (o :: rest) a w := by
  refine wpList_plain hg fun K' hK' => ?_
  unfold Oper.wp
  simp [execOp, hop, resolve, invoke, builtin, hs, hx, hrun, Result.andThen]
  exact hK' _ _ hK

/-- the slice behind its first element -/
theorem run_tail_sl {P : Program} {w : World} {t e : TypeId} {i : TypeInfo} {s n g off cap : Nat} {xs : List Value} (ht : P.underlying t = some (.slice e)) (hi : P.info? e = some i) (hs : i.size = s) (h : OwnSl w e s (.slice (some ⟨g, off, none⟩) (n + 1) cap) (n + 1) xs) :
    ∃ off', (∀ u : World, (Instr.slice t (.slice (some ⟨g, off, none⟩) (n + 1) cap) (some (.int .i64 1)) none none).run P u = .ok (.slice (some ⟨g, off', none⟩) n (cap - 1)) u) ∧ OwnSl w e s (.slice (some ⟨g, off', none⟩) n (cap - 1)) n (xs.drop s) := by
  have hx := h.1
  rcases h.2 with ⟨hv, _⟩ | ⟨g', o', c', cur, hv, hg, hnc, hcm, hfit, htk⟩
  · simp at hv
  simp only [Value.slice.injEq, Option.some.injEq, Addr.mk.injEq, and_true, true_and] at hv
  obtain ⟨⟨rfl, rfl⟩, rfl⟩ := hv
  have hdrop : ∀ off', (off' = off + s ∨ (n = 0 ∧ off' = off)) → ((cur.toList.drop off').take (n * s)) = xs.drop s := by
    intro off' ho
    rcases ho with rfl | ⟨rfl, rfl⟩
    · rw [← htk, List.drop_take, List.drop_drop]
      congr 1
      rw [Nat.add_mul]; omega
    · rw [Nat.zero_mul, List.take_zero, List.drop_of_length_le (by rw [hx]; omega)]
  by_cases hc : cap = 1
  · subst hc
    obtain rfl : n = 0 := by omega
    refine ⟨off, fun u => ?_, ⟨by rw [List.length_drop, hx]; omega, .inr ⟨g, off, 0, cur, rfl, hg, by omega, by omega, by omega, hdrop off (.inr ⟨rfl, rfl⟩)⟩⟩⟩
    simp [Instr.slice, run_underlying ht, Instr.sliceBounds, Instr.sliceBound, asIntOf, sizeOf, typeInfo, hi, Result.andThen]
  · have hm : (cap - 1) * s + s ≤ cap * s := by
      obtain ⟨c, rfl⟩ : ∃ c, cap = c + 1 := ⟨cap - 1, by omega⟩
      rw [Nat.add_mul]; simp
    refine ⟨off + s, fun u => ?_, ⟨by rw [List.length_drop, hx, Nat.add_mul]; omega, .inr ⟨g, off + s, cap - 1, cur, rfl, hg, by omega, by omega, by omega, hdrop _ (.inl rfl)⟩⟩⟩
    have h1 : (1 : Int) ≤ (n : Int) + 1 := by omega
    simp [Instr.slice, run_underlying ht, Instr.sliceBounds, Instr.sliceBound, asIntOf, sizeOf, typeInfo, hi, Result.andThen, hc, hs, Addr.add_lit, h1]
end Go.Proofs.Ytffchlpefhldhaa
