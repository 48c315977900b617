/- Slices that own their rows; elements that are read; rows of any size appended, cut, written. -/
import Derived.Test.YtombpfpfeebnpaaCBase
import Derived.Maps.OwnOps
import Derived.ArgAppend
namespace Go.Proofs.Ytombpfpfeebnpaa
open Go.RowKit Go.Maps
set_option linter.unusedVariables false
set_option linter.unusedSimpArgs false

theorem Turn.undrew {F : Nat → Prop} {w w' : World} (h : Turn F w.drew w') : Turn F w w' := ⟨h.os, h.tape, h.output, h.size, h.block⟩
theorem Turn.same {F : Nat → Prop} {w w' : World} (h : Turn F w w') {k : Nat} {o : Obj} (hk : w.heap[k]? = some o) (hn : ¬ F k) : w'.heap[k]? = some o :=
  (h.block k (Array.getElem?_eq_some_iff.1 hk).1 hn).trans hk
/-- a slice that owns its row from a place on, its spare room too -/
def OwnSl (w : World) (e : TypeId) (s : Nat) (v : Value) (n : Nat) (xs : List Value) : Prop :=
  xs.length = n * s ∧ ((v = .slice none 0 0 ∧ n = 0) ∨
    ∃ g off cap cur, v = .slice (some ⟨g, off, none⟩) n cap ∧ w.heap[g]? = some (.cells cur e (0, 0)) ∧ n ≤ cap ∧ cap ≤ maxLen ∧ off + cap * s ≤ cur.size ∧ (cur.toList.drop off).take (n * s) = xs)

theorem OwnSl.lt {w : World} {e : TypeId} {s : Nat} {v : Value} {n : Nat} {xs : List Value} (h : OwnSl w e s v n xs) : ∀ k, v.ownBlock = some k → ∃ cur, w.heap[k]? = some (.cells cur e (0, 0)) := by
  intro k hk
  rcases h.2 with ⟨rfl, _⟩ | ⟨g, off, cap, cur, rfl, hg, _⟩
  · simp [Value.ownBlock] at hk
  · simp [Value.ownBlock] at hk
    subst hk
    exact ⟨cur, hg⟩
theorem OwnSl.kept {w w' : World} {e : TypeId} {s : Nat} {v : Value} {n : Nat} {xs : List Value} (h : OwnSl w e s v n xs) (hb : ∀ k, v.ownBlock = some k → w'.heap[k]? = w.heap[k]?) : OwnSl w' e s v n xs := by
  refine ⟨h.1, ?_⟩
  rcases h.2 with hn | ⟨g, off, cap, cur, rfl, hg, rest⟩
  · exact .inl hn
  · exact .inr ⟨g, off, cap, cur, rfl, (hb g rfl).trans hg, rest⟩
theorem OwnSl.turn {F : Nat → Prop} {w w' : World} {e : TypeId} {s : Nat} {v : Value} {n : Nat} {xs : List Value} (h : OwnSl w e s v n xs) (ht : Turn F w w') (hn : ∀ k, v.ownBlock = some k → ¬ F k) : OwnSl w' e s v n xs :=
  h.kept (fun k hk => by obtain ⟨cur, hc⟩ := h.lt k hk; exact ht.block k (Array.getElem?_eq_some_iff.1 hc).1 (hn k hk))
theorem OwnSl.of_owns {w : World} {base : Nat} {e : TypeId} {s : Nat} {v : Value} {n : Nat} {xs : List Value} (h : w.ownsRow base e s v n xs) : OwnSl w e s v n xs := by
  refine ⟨h.1, ?_⟩
  rcases h.2 with hn | ⟨g, cap, cur, hv, _, hg, h1, h2, h3, h4⟩
  · exact .inl hn
  · exact .inr ⟨g, 0, cap, cur, hv, hg, h1, h2, by omega, by simpa using h4⟩
theorem OwnSl.cells {w : World} {e : TypeId} {s n g off cap : Nat} {xs : List Value} (h : OwnSl w e s (.slice (some ⟨g, off, none⟩) n cap) n xs) : ∀ j u, xs[j]? = some u → w.cell? ⟨g, off + j, none⟩ = some u := by
  intro j u hu
  rcases h.2 with ⟨hv, _⟩ | ⟨g', off', cap', cur, hv, hg, _, _, _, ht⟩
  · simp at hv
  · simp only [Value.slice.injEq, Option.some.injEq, Addr.mk.injEq, and_true, true_and] at hv
    obtain ⟨⟨rfl, rfl⟩, rfl⟩ := hv
    rw [cell_of_row w g (off + j) cur e (0, 0) hg]
    rw [← ht, List.getElem?_take, List.getElem?_drop] at hu
    split at hu
    · simpa using hu
    · cases hu

theorem cell_some {w : World} {g j : Nat} {cur : Array Value} {e : TypeId} (hg : w.heap[g]? = some (.cells cur e (0, 0))) (hj : j < cur.size) : (w.cell? ⟨g, j, none⟩).isSome = true ∧ w.frozen? ⟨g, j, none⟩ = false := by
  rw [cell_of_row w g j cur e (0, 0) hg]
  refine ⟨by simp [hj], ?_⟩
  simp [World.frozen?, hg]

/-- a write of neighbouring cells into a row -/
theorem heap_setCells {g : Nat} {e : TypeId} : ∀ (vs : List Value) (o : Nat) (w : World) (cur : Array Value), w.heap[g]? = some (.cells cur e (0, 0)) → o + vs.length ≤ cur.size →
    ∃ cur', (w.setCells g o vs).heap[g]? = some (.cells cur' e (0, 0)) ∧ cur'.size = cur.size ∧ ∀ j, cur'[j]? = if o ≤ j ∧ j < o + vs.length then vs[j - o]? else cur[j]?
  | [], o, w, cur, h, _ => ⟨cur, h, rfl, fun j => by rw [if_neg (by simp)]⟩
  | v :: vs, o, w, cur, h, hl => by
    have h1 : (w.setCell ⟨g, o, none⟩ v).heap[g]? = some (.cells (cur.setIfInBounds o v) e (0, 0)) := by
      have hlt := (Array.getElem?_eq_some_iff.1 h).1
      have h' := (Array.getElem?_eq_some_iff.1 h).2
      show (w.heap.modify g _)[g]? = _
      rw [Array.getElem?_eq_getElem (by rw [Array.size_modify]; exact hlt), Array.getElem_modify_self, h']
      rfl
    obtain ⟨cur', a1, a2, a3⟩ := heap_setCells vs (o + 1) (w.setCell ⟨g, o, none⟩ v) _ h1 (by simp at hl ⊢; omega)
    refine ⟨cur', a1, by simpa using a2, fun j => ?_⟩
    rw [a3 j]
    simp at hl
    by_cases hj : j = o
    · subst hj
      rw [if_neg (by omega), if_pos (by simp)]
      simp [show j < cur.size by omega]
    · by_cases hj2 : o + 1 ≤ j ∧ j < o + 1 + vs.length
      · rw [if_pos hj2, if_pos (by simp; omega)]
        rw [show j - o = (j - (o + 1)) + 1 by omega, List.getElem?_cons_succ]
      · rw [if_neg hj2, if_neg (by simp; omega)]
        simp [show ¬ o = j by omega]

theorem grown_setCell (w : World) (p : Addr) (u : Value) : w.grownBy (w.setCell p u) (some p.block) :=
  ⟨rfl, rfl, rfl, by simp [World.setCell], fun k hk hn => Below.heap_setCell _ _ _ _ (fun e => hn (by rw [e]))⟩
theorem grown_setCells (g : Nat) : ∀ (vs : List Value) (o : Nat) (w : World), w.grownBy (w.setCells g o vs) (some g)
  | [], _, w => ⟨rfl, rfl, rfl, Nat.le_refl _, fun _ _ _ => rfl⟩
  | v :: vs, o, w => by
    have h1 := grown_setCell w ⟨g, o, none⟩ v
    have h2 := grown_setCells g vs (o + 1) (w.setCell ⟨g, o, none⟩ v)
    exact ⟨h2.os.trans h1.os, h2.tape.trans h1.tape, h2.output.trans h1.output, Nat.le_trans h1.size h2.size, fun k hk hn => (h2.block k (Nat.lt_of_lt_of_le hk h1.size) hn).trans (h1.block k hk hn)⟩

/-- append onto such a slice -/
theorem run_append_sl {P : Program} {w : World} {t ty e : TypeId} {i : TypeInfo} {z : Value} {size bytes : Nat} (ht : P.underlying t = some (.slice e)) (hi : P.info? e = some i) (hz : i.zero = some z)
    (hsize : i.size = size) (hby : i.bytes = bytes) (hzs : z.cells.size = size) (hsz : 0 < size) {v : Value} {n : Nat} {xs : List Value} (h : OwnSl w e size v n xs)
    (a : Addr) (m c : Nat) (news : List Value) (hl : news.length = m * size) (hnews : ∀ j u, news[j]? = some u → w.cell? (a.add j) = some u) (h1 : ∀ u ∈ news, u.oneCell' = true) (hm : n + m ≤ maxLen) (hb : (n + m) * bytes ≤ 140737488355328) (hm0 : 0 < m) :
    ∃ g off cap w', (Builtin.append_ #[t, t] ty #[v, .slice (some a) m c]).run P w = .ok (.slice (some ⟨g, off, none⟩) (n + m) cap) w' ∧ OwnSl w' e size (.slice (some ⟨g, off, none⟩) (n + m) cap) (n + m) (xs ++ news) ∧ w.grownBy w' v.ownBlock ∧ (v.ownBlock = some g ∨ w.heap.size ≤ g) := by
  have form : ∀ {w' : World} {v' : Value}, w'.ownsRow w.heap.size e size v' (n + m) (xs ++ news) → ∃ g off cap, v' = .slice (some ⟨g, off, none⟩) (n + m) cap ∧ w.heap.size ≤ g := by
    intro w' v' ho
    rcases ho.2 with ⟨_, h0⟩ | ⟨g, cap, cur, rfl, hb, _⟩
    · omega
    · exact ⟨g, 0, cap, rfl, hb⟩
  rcases h.2 with ⟨rfl, rfl⟩ | ⟨g, off, cap, cur, rfl, hg, hnc, hcm, hfit, htk⟩
  · obtain rfl : xs = [] := List.eq_nil_of_length_eq_zero (by simpa using h.1)
    obtain ⟨v', w', hrun, r1, r2, _⟩ := run_append_own (P := P) w w.heap.size t ty e i z size bytes ht hi hz hsize hby hzs hsz (.slice none 0 0) 0 [] (World.ownsRow_nil w _ e size) a m c news hl hnews h1 hm hb (Nat.le_refl _)
    obtain ⟨g, off, cap, rfl, hge⟩ := form r1
    exact ⟨g, off, cap, w', hrun, OwnSl.of_owns r1, r2, .inr hge⟩
  · by_cases hr : n + m ≤ cap
    · subst hsize
      have hsp : n * i.size + news.length ≤ cap * i.size := by rw [hl, ← Nat.add_mul]; exact Nat.mul_le_mul_right _ hr
      have hrun := run_append_room_cells (P := P) w t ty e i ht hi g off n cap a m c news hl hnews h1 hr (fun j hj => (cell_some hg (by omega)).1) (fun j hj => (cell_some hg (by omega)).2)
      obtain ⟨cur', c1, c2, c3⟩ := heap_setCells news (off + n * i.size) w cur hg (by omega)
      refine ⟨g, off, cap, _, hrun, ⟨by rw [List.length_append, h.1, hl, Nat.add_mul], .inr ⟨g, off, cap, cur', rfl, c1, hr, hcm, by omega, ?_⟩⟩, grown_setCells g _ _ w, .inl rfl⟩
      · apply List.ext_getElem?
        intro j
        have hxl := h.1
        rw [List.getElem?_take, List.getElem?_drop]
        split
        · rename_i hj
          rw [show cur'.toList[off + j]? = cur'[off + j]? by simp, c3]
          have htk' : ∀ q, q < n * i.size → cur[off + q]? = xs[q]? := by
            intro q hq
            rw [← htk, List.getElem?_take, if_pos hq, List.getElem?_drop]
            simp
          by_cases hj2 : j < n * i.size
          · rw [if_neg (by omega), List.getElem?_append_left (by omega), htk' j hj2]
          · rw [Nat.add_mul] at hj
            rw [if_pos (by omega), List.getElem?_append_right (by omega), hxl, show off + j - (off + n * i.size) = j - n * i.size by omega]
        · rename_i hj
          rw [Nat.add_mul] at hj
          rw [List.getElem?_eq_none (by rw [List.length_append]; omega)]
    · obtain ⟨v', w', hrun, r1, r2⟩ := run_append_arg_grows (P := P) w t ty e i z size bytes ht hi hz hsize hby hzs hsz ⟨g, off, none⟩ n cap xs h.1 (fun j u hj => by rw [Addr.add_lit]; exact h.cells j u hj) a m c news hl hnews (by omega) hm hb
      obtain ⟨g', off', cap', rfl, hge⟩ := form r1
      exact ⟨g', off', cap', w', hrun, OwnSl.of_owns r1, ⟨r2.os, r2.tape, r2.output, r2.size, fun k hk _ => r2.block k hk (by simp)⟩, .inr hge⟩


theorem OwnSl.neObj {w : World} {e e' : TypeId} {s : Nat} {v : Value} {n : Nat} {xs : List Value} {B : Nat} {cur : Array Value} (h : OwnSl w e s v n xs) (hB : w.heap[B]? = some (.cells cur e' (0, 0))) (he : e ≠ e') : ∀ j, v.ownBlock = some j → j ≠ B := by
  rintro j hj rfl
  obtain ⟨cur, hcur⟩ := h.lt j hj
  rw [hcur] at hB; cases hB; exact he rfl
theorem cell_obj {w : World} {g : Nat} {cur : Array Value} {e : TypeId} {fr : Nat × Nat} (hg : w.heap[g]? = some (.cells cur e fr)) (j : Nat) : w.cell? ⟨g, j, none⟩ = cur[j]? := cell_of_row w g j cur e fr hg
theorem frozen_obj {w : World} {g : Nat} {cur : Array Value} {e : TypeId} (hg : w.heap[g]? = some (.cells cur e (0, 0))) (j : Nat) : w.frozen? ⟨g, j, none⟩ = false := by simp [World.frozen?, hg]
theorem heap_alloc_new (w : World) (o : Obj) : (w.alloc o).heap[w.heap.size]? = some o := (MapKept.heap_alloc w o).1
theorem heap_setCell_obj {w : World} {g j : Nat} {cur : Array Value} {e : TypeId} (h : w.heap[g]? = some (.cells cur e (0, 0))) (v : Value) : (w.setCell ⟨g, j, none⟩ v).heap[g]? = some (.cells (cur.setIfInBounds j v) e (0, 0)) := by
  have hlt := (Array.getElem?_eq_some_iff.1 h).1
  have h' := (Array.getElem?_eq_some_iff.1 h).2
  show (w.heap.modify g _)[g]? = _
  rw [Array.getElem?_eq_getElem (by rw [Array.size_modify]; exact hlt), Array.getElem_modify_self, h']
  rfl
theorem row_of_sl {w : World} {e : TypeId} {v : Value} {k : IntKind} {ys : List Int} (h : OwnSl w e 1 v ys.length (ys.map (Value.int k))) : Row k (fun b => v.ownBlock = some b) w v ys := by
  rcases h.2 with ⟨rfl, h0⟩ | ⟨g, off, cap, cur, rfl, hg, hn, hm, hs, ht⟩
  · have : ys = [] := List.eq_nil_of_length_eq_zero h0
    exact .inl ⟨none, 0, rfl, fun _ => rfl, Nat.zero_le _, this⟩
  · refine .inr ⟨g, off, cap, rfl, hn, hm, rfl, fun i hi => ?_⟩
    refine h.cells i _ ?_
    simp [hi]

/-- elements that are read: so many, each of s cells -/
def Src (s : Nat) (w : World) (x : Value) (m : Nat) (news : List Value) : Prop :=
  news.length = m * s ∧ ((∃ a c, x = .slice a 0 c ∧ (a = none → c = 0) ∧ m = 0) ∨ ∃ a c, x = .slice (some a) m c ∧ 0 < m ∧ ∀ j u, news[j]? = some u → w.cell? (a.add j) = some u)

theorem Src.turn {F : Nat → Prop} {s : Nat} {w w' : World} {x : Value} {m : Nat} {news : List Value} (h : Src s w x m news) (t : Turn F w w') (hF : ∀ k, x.ownBlock = some k → ¬ F k) : Src s w' x m news := by
  refine ⟨h.1, ?_⟩
  rcases h.2 with h | ⟨a, c, rfl, h0, hc⟩
  · exact .inl h
  · refine .inr ⟨a, c, rfl, h0, fun j u hu => t.cell (hc j u hu) ?_⟩
    have : (a.add j).block = a.block := by unfold Addr.add; split <;> rfl
    rw [this]
    exact hF a.block rfl
theorem OwnSl.src {w : World} {e : TypeId} {s : Nat} {v : Value} {n : Nat} {xs : List Value} (h : OwnSl w e s v n xs) : Src s w v n xs := by
  refine ⟨h.1, ?_⟩
  have h' := h
  rcases h.2 with ⟨rfl, rfl⟩ | ⟨g, off, cap, cur, rfl, hg, hnc, hcm, hfit, htk⟩
  · exact .inl ⟨none, 0, rfl, fun _ => rfl, rfl⟩
  · by_cases h0 : n = 0
    · subst h0; exact .inl ⟨_, _, rfl, (fun h => by cases h), rfl⟩
    · exact .inr ⟨_, _, rfl, by omega, fun j u hu => by rw [Addr.add_lit]; exact h'.cells j u hu⟩
theorem src_row {k : IntKind} {B : Nat → Prop} {w : World} {x : Value} {zs : List Int} (h : Row k B w x zs) : Src 1 w x zs.length (zs.map (Value.int k)) := by
  refine ⟨by simp, ?_⟩
  rcases h with ⟨a, c, rfl, ha, _, rfl⟩ | ⟨b, off, c, rfl, h1, h2, h3, h4⟩
  · exact .inl ⟨a, c, rfl, ha, rfl⟩
  · by_cases h0 : zs.length = 0
    · exact .inl ⟨_, _, by rw [h0], (fun h => by cases h), h0⟩
    · refine .inr ⟨_, _, rfl, by omega, fun j u hu => ?_⟩
      obtain ⟨hj, rfl⟩ := getD_map hu
      rw [Addr.add_lit]
      exact h4 j hj

/-- append onto a slice of one's own -/
theorem append_src {P : Program} {w : World} {t ty e : TypeId} {i : TypeInfo} {z : Value} {s bytes : Nat} (ht : P.underlying t = some (.slice e)) (hi : P.info? e = some i) (hz : i.zero = some z)
    (hsize : i.size = s) (hby : i.bytes = bytes) (hzs : z.cells.size = s) (hs : 0 < s) {v x : Value} {n m : Nat} {xs news : List Value} (h : OwnSl w e s v n xs) (hx : Src s w x m news) (h1 : ∀ u ∈ news, u.oneCell' = true) (hm : n + m ≤ maxLen) (hb : (n + m) * bytes ≤ 140737488355328) :
    ∃ v' w', (Builtin.append_ #[t, t] ty #[v, x]).run P w = .ok v' w' ∧ OwnSl w' e s v' (n + m) (xs ++ news) ∧ Turn (fun j => v.ownBlock = some j) w w' ∧ (∀ j, v'.ownBlock = some j → v.ownBlock = some j ∨ w.heap.size ≤ j) := by
  rcases hx.2 with ⟨a, c, rfl, ha, rfl⟩ | ⟨a, c, rfl, h0, hc⟩
  · have hn : news = [] := List.eq_nil_of_length_eq_zero (by simpa using hx.1)
    subst hn
    refine ⟨v, w, ?_, by simpa using h, Turn.refl _ _, fun j hj => .inl hj⟩
    rcases h.2 with ⟨rfl, h0⟩ | ⟨g, off, cap, cur, rfl, hg, hnc, hcm, hfit, htk⟩
    · cases a <;> simp [Builtin.append_, run_underlying ht, sizeOf, typeInfo, hi, Builtin.lenOf, Builtin.firstCells, loadCells, loadCellsFrom, Result.andThen]
    · cases a <;> simp [Builtin.append_, run_underlying ht, sizeOf, typeInfo, hi, Builtin.lenOf, Builtin.firstCells, hnc, storeCells, loadCells, loadCellsFrom, Result.andThen]
  · obtain ⟨g, off', cap, w', hrun, q, gr, hl⟩ := run_append_sl (P := P) (w := w) (t := t) (ty := ty) ht hi hz hsize hby hzs hs h a m c news hx.1 hc h1 hm hb h0
    refine ⟨_, w', hrun, q, Turn.grown gr (fun j hj => hj), fun j hj => ?_⟩
    simp [Value.ownBlock] at hj
    subst hj
    exact hl

/-- elements from a place on -/
theorem cutS_from {P : Program} {w : World} {t e : TypeId} {i : TypeInfo} {ki : IntKind} {s : Nat} (ht : P.underlying t = some (.slice e)) (hi : P.info? e = some i) (hs : i.size = s) {v : Value} {n : Nat} {xs : List Value} (h : OwnSl w e s v n xs) (k : Nat) (hk : k ≤ n) :
    ∃ x, (∀ u : World, (Instr.slice t v (some (.int ki (k : Int))) none none).run P u = .ok x u) ∧ Src s w x (n - k) (xs.drop (k * s)) ∧ (∀ j, x.ownBlock = some j → v.ownBlock = some j) := by
  have hl : (xs.drop (k * s)).length = (n - k) * s := by rw [List.length_drop, h.1, Nat.sub_mul]
  have h' := h
  rcases h.2 with ⟨rfl, rfl⟩ | ⟨g, off, cap, cur, rfl, hg, hnc, hcm, hfit, htk⟩
  · obtain rfl : k = 0 := by omega
    refine ⟨.slice none 0 0, fun u => ?_, ⟨hl, .inl ⟨none, 0, rfl, fun _ => rfl, rfl⟩⟩, fun j hj => hj⟩
    simp [Instr.slice, run_underlying ht, Instr.sliceBounds, Instr.sliceBound, asIntOf, sizeOf, typeInfo, hi, Result.andThen]
  · have hle : (k : Int) ≤ (n : Int) := by omega
    by_cases hc : cap = k
    · subst hc
      obtain rfl : n = cap := by omega
      refine ⟨.slice (some ⟨g, off, none⟩) 0 0, fun u => ?_, ⟨hl, .inl ⟨_, _, rfl, (fun h => by cases h), by omega⟩⟩, fun j hj => hj⟩
      simp [Instr.slice, run_underlying ht, Instr.sliceBounds, Instr.sliceBound, asIntOf, sizeOf, typeInfo, hi, Result.andThen]
    · refine ⟨.slice (some ⟨g, off + k * s, none⟩) (n - k) (cap - k), fun u => ?_, ⟨hl, ?_⟩, fun j hj => hj⟩
      · simp [Instr.slice, run_underlying ht, Instr.sliceBounds, Instr.sliceBound, asIntOf, sizeOf, typeInfo, hi, Result.andThen, hc, hs, Addr.add_lit, hle, hk]
      · by_cases h0 : n - k = 0
        · exact .inl ⟨_, _, by rw [h0], (fun h => by cases h), h0⟩
        · refine .inr ⟨_, _, rfl, by omega, fun j u hu => ?_⟩
          rw [List.getElem?_drop] at hu
          rw [Addr.add_lit, Nat.add_assoc]
          exact h'.cells _ u hu
/-- elements up to a place -/
theorem cutS_to {P : Program} {w : World} {t e : TypeId} {i : TypeInfo} {ki : IntKind} {s : Nat} (ht : P.underlying t = some (.slice e)) (hi : P.info? e = some i) (hs : i.size = s) {v : Value} {n : Nat} {xs : List Value} (h : OwnSl w e s v n xs) (k : Nat) (hk : k ≤ n) :
    ∃ x, (∀ u : World, (Instr.slice t v none (some (.int ki (k : Int))) none).run P u = .ok x u) ∧ Src s w x k (xs.take (k * s)) ∧ (∀ j, x.ownBlock = some j → v.ownBlock = some j) := by
  have hl : (xs.take (k * s)).length = k * s := by rw [List.length_take, h.1]; exact Nat.min_eq_left (Nat.mul_le_mul_right _ hk)
  have h' := h
  rcases h.2 with ⟨rfl, rfl⟩ | ⟨g, off, cap, cur, rfl, hg, hnc, hcm, hfit, htk⟩
  · obtain rfl : k = 0 := by omega
    refine ⟨.slice none 0 0, fun u => ?_, ⟨hl, .inl ⟨none, 0, rfl, fun _ => rfl, rfl⟩⟩, fun j hj => hj⟩
    simp [Instr.slice, run_underlying ht, Instr.sliceBounds, Instr.sliceBound, asIntOf, sizeOf, typeInfo, hi, Result.andThen]
  · have hle : k ≤ cap := by omega
    refine ⟨.slice (some ⟨g, off, none⟩) k cap, fun u => ?_, ⟨hl, ?_⟩, fun j hj => hj⟩
    · by_cases hc0 : cap = 0
      · obtain rfl : k = 0 := by omega
        subst hc0
        simp [Instr.slice, run_underlying ht, Instr.sliceBounds, Instr.sliceBound, asIntOf, sizeOf, typeInfo, hi, Result.andThen, Addr.add]
      · simp [Instr.slice, run_underlying ht, Instr.sliceBounds, Instr.sliceBound, asIntOf, sizeOf, typeInfo, hi, Result.andThen, Addr.add, hle, hc0]
    · by_cases h0 : k = 0
      · exact .inl ⟨_, _, by rw [h0], (fun h => by cases h), h0⟩
      · refine .inr ⟨_, _, rfl, by omega, fun j u hu => ?_⟩
        rw [List.getElem?_take] at hu
        split at hu
        · rw [Addr.add_lit]; exact h'.cells _ u hu
        · cases hu
/-- a cell of a row written -/
theorem OwnSl.set {w : World} {e : TypeId} {s g off n cap : Nat} {xs : List Value} (h : OwnSl w e s (.slice (some ⟨g, off, none⟩) n cap) n xs) (j : Nat) (hj : j < n * s) (u : Value) : OwnSl (w.setCell ⟨g, off + j, none⟩ u) e s (.slice (some ⟨g, off, none⟩) n cap) n (xs.set j u) ∧ w.frozen? ⟨g, off + j, none⟩ = false := by
  rcases h.2 with ⟨hv, _⟩ | ⟨g', off', cap', cur, hv, hg, h1, h2, h3, h4⟩
  · simp at hv
  · simp only [Value.slice.injEq, Option.some.injEq, Addr.mk.injEq, and_true, true_and] at hv
    obtain ⟨⟨rfl, rfl⟩, rfl⟩ := hv
    refine ⟨⟨by rw [List.length_set]; exact h.1, .inr ⟨g, off, cap, cur.setIfInBounds (off + j) u, rfl, heap_setCell_obj hg u, h1, h2, by simpa using h3, ?_⟩⟩, frozen_obj hg _⟩
    have hns : n * s ≤ cap * s := Nat.mul_le_mul_right _ h1
    apply List.ext_getElem?
    intro q
    rw [List.getElem?_take, List.getElem?_drop, List.getElem?_set]
    have hq : ∀ q, q < n * s → cur.toList[off + q]? = xs[q]? := fun q hq => by rw [← h4, List.getElem?_take, if_pos hq, List.getElem?_drop]
    split
    · rename_i hlt
      rw [Array.getElem?_toList, Array.getElem?_setIfInBounds]
      by_cases hjq : j = q
      · subst hjq
        rw [if_pos rfl, if_pos (by omega), if_pos rfl, if_pos (by rw [h.1]; exact hj)]
      · rw [if_neg (by omega), if_neg hjq, ← hq q hlt]; simp
    · rename_i hlt
      rw [if_neg (by omega), List.getElem?_eq_none (by rw [h.1]; omega)]

/-- the cells of one file -/
def isSl (v : Value) : Prop := ∃ a n c, v = .slice a n c
end Go.Proofs.Ytombpfpfeebnpaa
