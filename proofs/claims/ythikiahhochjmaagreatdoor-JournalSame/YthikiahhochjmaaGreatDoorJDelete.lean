/- slices.Delete at segments: the first so many. -/
import Derived.Test.YthikiahhochjmaaGreatDoorJPush
namespace Go.Proofs.YthikiahhochjmaaGreatDoor
open Go.RowKit Go.Maps
set_option linter.unusedVariables false
set_option linter.unusedSimpArgs false

theorem zeroSeg (w : World) : (zeroValue 82).run Tryz.prog w = .ok (.agg #[.int .u64 0, .slice none 0 0]) w := by kernel_rfl
theorem run_clear_segs {P : Program} {w : World} {t ty e : TypeId} (ht : P.underlying t = some (.slice e)) (hz : (zeroValue e).run P w = .ok (.agg #[.int .u64 0, .slice none 0 0]) w) (g o m c : Nat) (hm : 0 < m) {cur : Array Value} (hg : w.heap[g]? = some (.cells cur e (0, 0))) (hfit : o + m * 2 ≤ cur.size) :
    ∃ vs : List Value, vs.length = m * 2 ∧ (Builtin.clear_ #[t] ty #[.slice (some ⟨g, o, none⟩) m c]).run P w = .ok (.tuple #[]) (w.setCells g o vs) := by
  refine ⟨(Builtin.zeroCells (Value.agg #[.int .u64 0, .slice none 0 0]).cells m).toList, by simp [Builtin.zeroCells, Value.cells], ?_⟩
  have hl : (Builtin.zeroCells (Value.agg #[.int .u64 0, .slice none 0 0]).cells m).toList.length = m * 2 := by simp [Builtin.zeroCells, Value.cells]
  have h1 : ∀ v ∈ (Builtin.zeroCells (Value.agg #[.int .u64 0, .slice none 0 0]).cells m).toList, v.oneCell' = true := by
    intro v hv
    have hb := size_zeroCells (Value.agg #[.int .u64 0, .slice none 0 0]).cells m
    simp [Builtin.zeroCells, Value.cells] at hv
    obtain ⟨j, hj, rfl⟩ := hv
    have : j % 2 < 2 := Nat.mod_lt _ (by omega)
    match h2 : j % 2, this with
    | 0, _ => rfl
    | 1, _ => rfl
  have hst := run_storeCells_cells (P := P) g o (Builtin.zeroCells (Value.agg #[.int .u64 0, .slice none 0 0]).cells m).toList 0 w (fun j hj => (cell_some hg (by rw [hl] at hj; omega)).1) (fun j hj => (cell_some hg (by rw [hl] at hj; omega)).2) h1
  simp only [Nat.add_zero] at hst
  obtain ⟨m', rfl⟩ : ∃ m', m = m' + 1 := ⟨m - 1, by omega⟩
  simp [Builtin.clear_, run_underlying ht, hz, hst, Result.andThen]

theorem cellsS_one {E : List Seg} {w : World} {G : Nat → Prop} (h : ∀ e ∈ E, Recs w G e.v e.recs) : ∀ u ∈ cellsS E, u.oneCell' = true := by
  intro u hu
  simp only [cellsS, List.mem_flatMap] at hu
  obtain ⟨e, he, hu⟩ := hu
  obtain ⟨a, c, hv⟩ := (h e he).slice
  simp only [Seg.cells, List.mem_cons, List.not_mem_nil, or_false] at hu
  rcases hu with rfl | rfl
  · rfl
  · rw [hv]; rfl

set_option maxRecDepth 100000 in
set_option maxHeartbeats 4000000 in
theorem delete_walk (w : World) (G : Nat → Prop) (sv : Value) (E : List Seg) (k : Nat) (h : SegM w G sv E) (hk0 : 0 < k) (hk : k < E.length) (hl : E.length ≤ 1000000) :
    Calls Tryz.prog 62 #[sv, .int .i64 0, .int .i64 (k : Int)] w fun e w' => ∃ c x, e = .returned (.slice x (E.length - k) c) ∧ SegM w' G (.slice x (E.length - k) c) (E.drop k) ∧ Turn (fun j => sv.ownBlock = some j) w w' := by
  obtain ⟨i0, hi, hz0, hs, hz2⟩ := info_parts info_seg
  have ht := Tryz.underlying77
  rcases h.own.2 with ⟨hv, h0⟩ | ⟨g, off, cap, cur, hv, hg, hnc, hcm, hfit, htk⟩
  · omega
  subst hv
  have ho := h.own
  have hone := cellsS_one h.recs
  have hdl : ((cellsS E).drop (k * 2)).length = (E.length - k) * 2 := by rw [List.length_drop, cellsS_len]; omega
  have e1 : ∀ u : World, (Instr.slice 77 (.slice (some ⟨g, off, none⟩) E.length cap) (some (.int .i64 0)) (some (.int .i64 (k : Int))) (some (.int .i64 (E.length : Int)))).run Tryz.prog u = .ok (.slice (some ⟨g, off, none⟩) k E.length) u := fun u => by
    have a1 : k ≤ E.length := by omega
    have a2 : E.length ≠ 0 := by omega
    simp [Instr.slice, run_underlying ht, Instr.sliceBounds, Instr.sliceBound, asIntOf, sizeOf, typeInfo, hi, Result.andThen, Addr.add, a1, a2, hnc]
  have e2 : ∀ u : World, (Instr.slice 77 (.slice (some ⟨g, off, none⟩) E.length cap) none (some (.int .i64 0)) none).run Tryz.prog u = .ok (.slice (some ⟨g, off, none⟩) 0 cap) u := fun u => by
    simp [Instr.slice, run_underlying ht, Instr.sliceBounds, Instr.sliceBound, asIntOf, sizeOf, typeInfo, hi, Result.andThen, Addr.add]
  have e3 : ∀ u : World, (Instr.slice 77 (.slice (some ⟨g, off, none⟩) E.length cap) (some (.int .i64 (k : Int))) none none).run Tryz.prog u = .ok (.slice (some ⟨g, off + k * 2, none⟩) (E.length - k) (cap - k)) u := fun u => by
    have a1 : k ≤ E.length := by omega
    have a2 : ¬ cap = k := by omega
    simp [Instr.slice, run_underlying ht, Instr.sliceBounds, Instr.sliceBound, asIntOf, sizeOf, typeInfo, hi, Result.andThen, hs, Addr.add_lit, a1, a2]
  have e4 : ∀ u : World, (Instr.slice 77 (.slice (some ⟨g, off, none⟩) (E.length - k) cap) (some (.int .i64 ((E.length - k : Nat) : Int))) (some (.int .i64 (E.length : Int))) none).run Tryz.prog u = .ok (.slice (some ⟨g, off + (E.length - k) * 2, none⟩) k (cap - (E.length - k))) u := fun u => by
    have a1 : E.length - k ≤ E.length := by omega
    have a2 : ¬ cap = E.length - k := by omega
    have a3 : E.length - (E.length - k) = k := by omega
    have a4 : ¬ (cap : Int) = ((E.length - k : Nat) : Int) := by omega
    have a5 : ((E.length - k : Nat) : Int) ≤ (E.length : Int) := by omega
    simp [Instr.slice, run_underlying ht, Instr.sliceBounds, Instr.sliceBound, asIntOf, sizeOf, typeInfo, hi, Result.andThen, hs, Addr.add_lit, a1, a2, a3, a5, hnc]
  have hrun := fun u hu => run_append_room_cells (P := Tryz.prog) u 77 77 82 i0 ht hi g off 0 cap ⟨g, off + k * 2, none⟩ (E.length - k) (cap - k) ((cellsS E).drop (k * 2)) (by rw [hdl, hs]) hu (fun x hx => hone x (List.mem_of_mem_drop hx)) (by omega)
  have hgd : w.drew.heap[g]? = some (.cells cur 82 (0, 0)) := hg
  have hcs : E.length * 2 ≤ cap * 2 := by omega
  have hrd := hrun w.drew (fun j u hu => by
    rw [List.getElem?_drop] at hu
    rw [Addr.add_lit, Nat.add_assoc]
    exact ho.cells _ u hu) (fun j hj => by rw [Nat.zero_mul, Nat.add_zero]; exact (cell_some hgd (by omega)).1) (fun j hj => by rw [Nat.zero_mul, Nat.add_zero]; exact (cell_some hgd (by omega)).2)
  rw [Nat.zero_mul, Nat.add_zero, Nat.zero_add] at hrd
  obtain ⟨cur1, g1, z1, q1⟩ := heap_setCells ((cellsS E).drop (k * 2)) off w.drew cur hgd (by omega)
  have t1 : Turn (fun j => j = g) w (w.drew.setCells g off ((cellsS E).drop (k * 2))) := ((Turn.refl (fun j => j = g) w).drew).then (Turn.grown (grown_setCells g _ _ _) (fun k e => by cases e; rfl))
  generalize w.drew.setCells g off ((cellsS E).drop (k * 2)) = w1 at *
  obtain ⟨vs, hvs, hclr⟩ := run_clear_segs (P := Tryz.prog) (w := w1) (t := 77) (ty := 0) ht (zeroSeg _) g (off + (E.length - k) * 2) (E.length - (E.length - k)) (cap - (E.length - k)) (by omega) g1 (by omega)
  obtain ⟨cur2, g2, z2, q2⟩ := heap_setCells vs (off + (E.length - k) * 2) w1 cur1 g1 (by omega)
  have t2 : Turn (fun j => j = g) w (w1.setCells g (off + (E.length - k) * 2) vs) := t1.then (Turn.grown (grown_setCells g _ _ _) (fun k e => by cases e; rfl))
  generalize hW2 : w1.setCells g (off + (E.length - k) * 2) vs = w2 at *
  have hfin : SegM w2 G (.slice (some ⟨g, off, none⟩) (E.length - k) cap) (E.drop k) := by
    refine ⟨?_, h.blk, fun e he => ?_, h.apart.sublist (List.drop_sublist _ _)⟩
    · rw [List.length_drop]
      refine ⟨by rw [cellsS_len, List.length_drop], .inr ⟨g, off, cap, cur2, rfl, g2, by omega, hcm, by omega, ?_⟩⟩
      apply List.ext_getElem?
      intro j
      rw [List.getElem?_take, List.getElem?_drop]
      split
      · rename_i hj
        rw [show cur2.toList[off + j]? = cur2[off + j]? by simp, q2, if_neg (by omega), q1, if_pos (by omega), cellsS_drop]
        rw [show off + j - off = j by omega]
      · rename_i hj
        rw [List.getElem?_eq_none (by rw [cellsS_len, List.length_drop]; omega)]
    · have he' := h.recs e (List.mem_of_mem_drop he)
      have hq := he'
      obtain ⟨xs, h1, _⟩ := hq
      have ng : ∀ {e' : TypeId} {s n : Nat} {u : Value} {xs : List Value}, OwnSl w e' s u n xs → e' ≠ 82 → ∀ k, u.ownBlock = some k → ¬ k = g := fun h' he k hk hgk => h'.neObj hg he k hk hgk
      exact he'.blocks t2 (ng h1 (by decide)) (fun u n xs ho' k hk _ => ng ho' (by decide) k hk)
  have Hf := hide hfin
  have Ht := hide t2
  clear hfin t2 t1 q1 q2 g1 g2 z1 z2 hrun hone ho h htk hgd hdl
  have hkn : ¬ (0 : Int) = (k : Int) := by omega
  have hln : ((E.length - k : Nat) : Int) = (E.length : Int) - k := by omega
  have hkl : k ≤ E.length := by omega
  go_enter Tryz.func62, Tryz.ntmps62
  go_wp2_with fail
  go_region_law (refine step_append_run rfl (.tmp 22) (.tmp 25) 77 rfl _ _ _ _ rfl rfl hrd ?_)
  all_goals
    go_wp2
    go_ret
    exact ⟨cap, _, rfl, unhide Hf, (unhide Ht).mono (fun j hj => by rw [hj]; rfl)⟩
end Go.Proofs.YthikiahhochjmaaGreatDoor
