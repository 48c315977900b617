/- The reference's disk in memory: a list of files, each a name, the slice of its bytes, how many are safe. Rows of any size appended, cut, written. -/
import Derived.Test.YthpfdgjpmooclaaDHelp
namespace Go.Proofs.Ythpfdgjpmooclaa
open Go.RowKit Go.Maps
set_option linter.unusedVariables false
set_option linter.unusedSimpArgs false

/-- elements that are read: so many, each of s cells -/
def Src (s : Nat) (w : World) (x : Value) (m : Nat) (news : List Value) : Prop :=
  news.length = m * s ∧ ((∃ a c, x = .slice a 0 c ∧ (a = none → c = 0) ∧ m = 0) ∨ ∃ a c, x = .slice (some a) m c ∧ 0 < m ∧ ∀ j u, news[j]? = some u → w.cell? (a.add j) = some u)

theorem Src.turn {F : Nat → Prop} {s : Nat} {w w' : World} {x : Value} {m : Nat} {news : List Value} (h : Src s w x m news) (t : Turn F w w') (hF : ∀ k, x.ownBlock = some k → ¬ F k) : Src s w' x m news := by
  refine ⟨h.1, ?_⟩
  rcases h.2 with h | ⟨a, c, rfl, h0, hc⟩
  · exact .inl h
  · refine .inr ⟨a, c, rfl, h0, fun j u hu => t.cell (hc j u hu) ?_⟩
    have : (a.add j).block = a.block := by unfold Addr.add; split <;> rfl
    rw [this]
    exact hF a.block rfl
theorem OwnSl.src {w : World} {e : TypeId} {s : Nat} {v : Value} {n : Nat} {xs : List Value} (h : OwnSl w e s v n xs) : Src s w v n xs := by
  refine ⟨h.1, ?_⟩
  have h' := h
  rcases h.2 with ⟨rfl, rfl⟩ | ⟨g, off, cap, cur, rfl, hg, hnc, hcm, hfit, htk⟩
  · exact .inl ⟨none, 0, rfl, fun _ => rfl, rfl⟩
  · by_cases h0 : n = 0
    · subst h0; exact .inl ⟨_, _, rfl, (fun h => by cases h), rfl⟩
    · exact .inr ⟨_, _, rfl, by omega, fun j u hu => by rw [Addr.add_lit]; exact h'.cells j u hu⟩
theorem src_row {k : IntKind} {B : Nat → Prop} {w : World} {x : Value} {zs : List Int} (h : Row k B w x zs) : Src 1 w x zs.length (zs.map (Value.int k)) := by
  refine ⟨by simp, ?_⟩
  rcases h with ⟨a, c, rfl, ha, _, rfl⟩ | ⟨b, off, c, rfl, h1, h2, h3, h4⟩
  · exact .inl ⟨a, c, rfl, ha, rfl⟩
  · by_cases h0 : zs.length = 0
    · exact .inl ⟨_, _, by rw [h0], (fun h => by cases h), h0⟩
    · refine .inr ⟨_, _, rfl, by omega, fun j u hu => ?_⟩
      obtain ⟨hj, rfl⟩ := getD_map hu
      rw [Addr.add_lit]
      exact h4 j hj

/-- append onto a slice of one's own -/
theorem append_src {P : Program} {w : World} {t ty e : TypeId} {i : TypeInfo} {z : Value} {s bytes : Nat} (ht : P.underlying t = some (.slice e)) (hi : P.info? e = some i) (hz : i.zero = some z)
    (hsize : i.size = s) (hby : i.bytes = bytes) (hzs : z.cells.size = s) (hs : 0 < s) {v x : Value} {n m : Nat} {xs news : List Value} (h : OwnSl w e s v n xs) (hx : Src s w x m news) (h1 : ∀ u ∈ news, u.oneCell' = true) (hm : n + m ≤ maxLen) (hb : (n + m) * bytes ≤ 140737488355328) :
    ∃ v' w', (Builtin.append_ #[t, t] ty #[v, x]).run P w = .ok v' w' ∧ OwnSl w' e s v' (n + m) (xs ++ news) ∧ Turn (fun j => v.ownBlock = some j) w w' ∧ (∀ j, v'.ownBlock = some j → v.ownBlock = some j ∨ w.heap.size ≤ j) := by
  rcases hx.2 with ⟨a, c, rfl, ha, rfl⟩ | ⟨a, c, rfl, h0, hc⟩
  · have hn : news = [] := List.eq_nil_of_length_eq_zero (by simpa using hx.1)
    subst hn
    refine ⟨v, w, ?_, by simpa using h, Turn.refl _ _, fun j hj => .inl hj⟩
    rcases h.2 with ⟨rfl, h0⟩ | ⟨g, off, cap, cur, rfl, hg, hnc, hcm, hfit, htk⟩
    · cases a <;> simp [Builtin.append_, run_underlying ht, sizeOf, typeInfo, hi, Builtin.lenOf, Builtin.firstCells, loadCells, loadCellsFrom, Result.andThen]
    · cases a <;> simp [Builtin.append_, run_underlying ht, sizeOf, typeInfo, hi, Builtin.lenOf, Builtin.firstCells, hnc, storeCells, loadCells, loadCellsFrom, Result.andThen]
  · obtain ⟨g, off', cap, w', hrun, q, gr, hl⟩ := run_append_sl (P := P) (w := w) (t := t) (ty := ty) ht hi hz hsize hby hzs hs h a m c news hx.1 hc h1 hm hb h0
    refine ⟨_, w', hrun, q, Turn.grown gr (fun j hj => hj), fun j hj => ?_⟩
    simp [Value.ownBlock] at hj
    subst hj
    exact hl

/-- elements from a place on -/
theorem cutS_from {P : Program} {w : World} {t e : TypeId} {i : TypeInfo} {ki : IntKind} {s : Nat} (ht : P.underlying t = some (.slice e)) (hi : P.info? e = some i) (hs : i.size = s) {v : Value} {n : Nat} {xs : List Value} (h : OwnSl w e s v n xs) (k : Nat) (hk : k ≤ n) :
    ∃ x, (∀ u : World, (Instr.slice t v (some (.int ki (k : Int))) none none).run P u = .ok x u) ∧ Src s w x (n - k) (xs.drop (k * s)) ∧ (∀ j, x.ownBlock = some j → v.ownBlock = some j) := by
  have hl : (xs.drop (k * s)).length = (n - k) * s := by rw [List.length_drop, h.1, Nat.sub_mul]
  have h' := h
  rcases h.2 with ⟨rfl, rfl⟩ | ⟨g, off, cap, cur, rfl, hg, hnc, hcm, hfit, htk⟩
  · obtain rfl : k = 0 := by omega
    refine ⟨.slice none 0 0, fun u => ?_, ⟨hl, .inl ⟨none, 0, rfl, fun _ => rfl, rfl⟩⟩, fun j hj => hj⟩
    simp [Instr.slice, run_underlying ht, Instr.sliceBounds, Instr.sliceBound, asIntOf, sizeOf, typeInfo, hi, Result.andThen]
  · have hle : (k : Int) ≤ (n : Int) := by omega
    by_cases hc : cap = k
    · subst hc
      obtain rfl : n = cap := by omega
      refine ⟨.slice (some ⟨g, off, none⟩) 0 0, fun u => ?_, ⟨hl, .inl ⟨_, _, rfl, (fun h => by cases h), by omega⟩⟩, fun j hj => hj⟩
      simp [Instr.slice, run_underlying ht, Instr.sliceBounds, Instr.sliceBound, asIntOf, sizeOf, typeInfo, hi, Result.andThen]
    · refine ⟨.slice (some ⟨g, off + k * s, none⟩) (n - k) (cap - k), fun u => ?_, ⟨hl, ?_⟩, fun j hj => hj⟩
      · simp [Instr.slice, run_underlying ht, Instr.sliceBounds, Instr.sliceBound, asIntOf, sizeOf, typeInfo, hi, Result.andThen, hc, hs, Addr.add_lit, hle, hk]
      · by_cases h0 : n - k = 0
        · exact .inl ⟨_, _, by rw [h0], (fun h => by cases h), h0⟩
        · refine .inr ⟨_, _, rfl, by omega, fun j u hu => ?_⟩
          rw [List.getElem?_drop] at hu
          rw [Addr.add_lit, Nat.add_assoc]
          exact h'.cells _ u hu
/-- elements up to a place -/
theorem cutS_to {P : Program} {w : World} {t e : TypeId} {i : TypeInfo} {ki : IntKind} {s : Nat} (ht : P.underlying t = some (.slice e)) (hi : P.info? e = some i) (hs : i.size = s) {v : Value} {n : Nat} {xs : List Value} (h : OwnSl w e s v n xs) (k : Nat) (hk : k ≤ n) :
    ∃ x, (∀ u : World, (Instr.slice t v none (some (.int ki (k : Int))) none).run P u = .ok x u) ∧ Src s w x k (xs.take (k * s)) ∧ (∀ j, x.ownBlock = some j → v.ownBlock = some j) := by
  have hl : (xs.take (k * s)).length = k * s := by rw [List.length_take, h.1]; exact Nat.min_eq_left (Nat.mul_le_mul_right _ hk)
  have h' := h
  rcases h.2 with ⟨rfl, rfl⟩ | ⟨g, off, cap, cur, rfl, hg, hnc, hcm, hfit, htk⟩
  · obtain rfl : k = 0 := by omega
    refine ⟨.slice none 0 0, fun u => ?_, ⟨hl, .inl ⟨none, 0, rfl, fun _ => rfl, rfl⟩⟩, fun j hj => hj⟩
    simp [Instr.slice, run_underlying ht, Instr.sliceBounds, Instr.sliceBound, asIntOf, sizeOf, typeInfo, hi, Result.andThen]
  · have hle : k ≤ cap := by omega
    refine ⟨.slice (some ⟨g, off, none⟩) k cap, fun u => ?_, ⟨hl, ?_⟩, fun j hj => hj⟩
    · by_cases hc0 : cap = 0
      · obtain rfl : k = 0 := by omega
        subst hc0
        simp [Instr.slice, run_underlying ht, Instr.sliceBounds, Instr.sliceBound, asIntOf, sizeOf, typeInfo, hi, Result.andThen, Addr.add]
      · simp [Instr.slice, run_underlying ht, Instr.sliceBounds, Instr.sliceBound, asIntOf, sizeOf, typeInfo, hi, Result.andThen, Addr.add, hle, hc0]
    · by_cases h0 : k = 0
      · exact .inl ⟨_, _, by rw [h0], (fun h => by cases h), h0⟩
      · refine .inr ⟨_, _, rfl, by omega, fun j u hu => ?_⟩
        rw [List.getElem?_take] at hu
        split at hu
        · rw [Addr.add_lit]; exact h'.cells _ u hu
        · cases hu
/-- a cell of a row written -/
theorem OwnSl.set {w : World} {e : TypeId} {s g off n cap : Nat} {xs : List Value} (h : OwnSl w e s (.slice (some ⟨g, off, none⟩) n cap) n xs) (j : Nat) (hj : j < n * s) (u : Value) : OwnSl (w.setCell ⟨g, off + j, none⟩ u) e s (.slice (some ⟨g, off, none⟩) n cap) n (xs.set j u) ∧ w.frozen? ⟨g, off + j, none⟩ = false := by
  rcases h.2 with ⟨hv, _⟩ | ⟨g', off', cap', cur, hv, hg, h1, h2, h3, h4⟩
  · simp at hv
  · simp only [Value.slice.injEq, Option.some.injEq, Addr.mk.injEq, and_true, true_and] at hv
    obtain ⟨⟨rfl, rfl⟩, rfl⟩ := hv
    refine ⟨⟨by rw [List.length_set]; exact h.1, .inr ⟨g, off, cap, cur.setIfInBounds (off + j) u, rfl, heap_setCell_obj hg u, h1, h2, by simpa using h3, ?_⟩⟩, frozen_obj hg _⟩
    have hns : n * s ≤ cap * s := Nat.mul_le_mul_right _ h1
    apply List.ext_getElem?
    intro q
    rw [List.getElem?_take, List.getElem?_drop, List.getElem?_set]
    have hq : ∀ q, q < n * s → cur.toList[off + q]? = xs[q]? := fun q hq => by rw [← h4, List.getElem?_take, if_pos hq, List.getElem?_drop]
    split
    · rename_i hlt
      rw [Array.getElem?_toList, Array.getElem?_setIfInBounds]
      by_cases hjq : j = q
      · subst hjq
        rw [if_pos rfl, if_pos (by omega), if_pos rfl, if_pos (by rw [h.1]; exact hj)]
      · rw [if_neg (by omega), if_neg hjq, ← hq q hlt]; simp
    · rename_i hlt
      rw [if_neg (by omega), List.getElem?_eq_none (by rw [h.1]; omega)]

/-- the cells of one file -/
def rc (e : Ent) : List Value := [encStr e.n, e.v, .int .i64 (e.s : Int)]
def rcs (E : List Ent) : List Value := E.flatMap rc
theorem rcs_append (A B : List Ent) : rcs (A ++ B) = rcs A ++ rcs B := by simp [rcs]
theorem rcs_cons (e : Ent) (B : List Ent) : rcs (e :: B) = rc e ++ rcs B := by simp [rcs]
theorem rcs_nil : rcs [] = [] := rfl
theorem rcs_len (E : List Ent) : (rcs E).length = E.length * 3 := by
  induction E with
  | nil => rfl
  | cons e r ih => rw [rcs_cons, List.length_append, ih]; simp [rc]; omega
theorem rcs_drop (A B : List Ent) : (rcs (A ++ B)).drop (A.length * 3) = rcs B := by rw [rcs_append, ← rcs_len A, List.drop_left]
theorem rcs_take (A B : List Ent) : (rcs (A ++ B)).take (A.length * 3) = rcs A := by rw [rcs_append, ← rcs_len A, List.take_left]
theorem rcs_at (X Y : List Ent) (e : Ent) (j : Nat) (hj : j < 3) : (rcs (X ++ e :: Y))[X.length * 3 + j]? = (rc e)[j]? := by
  rw [rcs_append, rcs_cons, List.getElem?_append_right (by rw [rcs_len]; omega), rcs_len, Nat.add_sub_cancel_left, List.getElem?_append_left (by simpa [rc] using hj)]
theorem rcs_set (X Y : List Ent) (e e' : Ent) (j : Nat) (hj : j < 3) (u : Value) (h : (rc e).set j u = rc e') : (rcs (X ++ e :: Y)).set (X.length * 3 + j) u = rcs (X ++ e' :: Y) := by
  rw [rcs_append, rcs_cons, List.set_append_right _ _ (by rw [rcs_len]; omega), rcs_len, Nat.add_sub_cancel_left, List.set_append_left _ _ (by simpa [rc] using hj), h, ← rcs_cons, ← rcs_append]
def isSl (v : Value) : Prop := ∃ a n c, v = .slice a n c
theorem rc_one {E : List Ent} (h : ∀ e ∈ E, isSl e.v) : ∀ u ∈ rcs E, u.oneCell' = true := by
  intro u hu
  simp only [rcs, List.mem_flatMap] at hu
  obtain ⟨e, he, hu⟩ := hu
  obtain ⟨a, n, c, hv⟩ := h e he
  simp only [rc, List.mem_cons, List.not_mem_nil, or_false] at hu
  rcases hu with rfl | rfl | rfl
  · rfl
  · rw [hv]; rfl
  · rfl

/-- the reference's disk in memory: at block R, its list, its files -/
structure RMem (w : World) (R : Nat) (lv : Value) (E : List Ent) (S : Dk) : Prop where
  obj : w.heap[R]? = some (.cells #[.int .i64 (S.size : Int), lv, .int .i64 (S.arm : Int), .bool S.down] 31 (0, 0))
  row : OwnSl w 77 3 lv E.length (rcs E)
  own : ∀ e ∈ E, OwnSl w 5 1 e.v e.d.length (e.d.map (Value.int .u8))
  fs : S.fs = E.map Ent.fl
  well : Well S
def RFoot (R : Nat) (lv : Value) (E : List Ent) (j : Nat) : Prop := j = R ∨ lv.ownBlock = some j ∨ ∃ e ∈ E, e.v.ownBlock = some j
def RAt (w : World) (R : Nat) (F : Nat → Prop) (S : Dk) : Prop := ∃ lv E, RMem w R lv E S ∧ ∀ j, RFoot R lv E j → F j

theorem RMem.lt {w : World} {R : Nat} {lv : Value} {E : List Ent} {S : Dk} (h : RMem w R lv E S) : ∀ j, RFoot R lv E j → j < w.heap.size := by
  rintro j (rfl | hj | ⟨e, he, hj⟩)
  · exact (Array.getElem?_eq_some_iff.1 h.obj).1
  · obtain ⟨cur, hc⟩ := h.row.lt j hj; exact (Array.getElem?_eq_some_iff.1 hc).1
  · obtain ⟨cur, hc⟩ := (h.own e he).lt j hj; exact (Array.getElem?_eq_some_iff.1 hc).1
theorem RMem.turn {F : Nat → Prop} {w w' : World} {R : Nat} {lv : Value} {E : List Ent} {S : Dk} (h : RMem w R lv E S) (t : Turn F w w') (hF : ∀ j, RFoot R lv E j → ¬ F j) : RMem w' R lv E S :=
  ⟨t.same h.obj (hF R (.inl rfl)), h.row.turn t (fun j hj => hF j (.inr (.inl hj))), fun e he => (h.own e he).turn t (fun j hj => hF j (.inr (.inr ⟨e, he, hj⟩))), h.fs, h.well⟩
theorem RAt.turn {F G : Nat → Prop} {w w' : World} {R : Nat} {S : Dk} (h : RAt w R F S) (t : Turn G w w') (hF : ∀ j, F j → j < w.heap.size → ¬ G j) : RAt w' R F S := by
  obtain ⟨lv, E, m, f⟩ := h
  exact ⟨lv, E, m.turn t (fun j hj => hF j (f j hj) (m.lt j hj)), f⟩
theorem RAt.mono {F G : Nat → Prop} {w : World} {R : Nat} {S : Dk} (h : RAt w R F S) (hF : ∀ j, F j → j < w.heap.size → G j) : RAt w R G S := by
  obtain ⟨lv, E, m, f⟩ := h
  exact ⟨lv, E, m, fun j hj => hF j (f j hj) (m.lt j hj)⟩
theorem RMem.rise {w : World} {R : Nat} {lv : Value} {E : List Ent} {S : Dk} (h : RMem w R lv E S) : Rise Ent.n E := by
  have := h.well.rise
  rw [h.fs] at this
  unfold Rise at *
  rw [List.pairwise_map] at this
  exact this
theorem RMem.count {w : World} {R : Nat} {lv : Value} {E : List Ent} {S : Dk} (h : RMem w R lv E S) : E.length ≤ 64 := by
  have := h.well.files
  rw [h.fs] at this
  simpa using this
theorem RMem.get {w : World} {R : Nat} {lv : Value} {E : List Ent} {S : Dk} (h : RMem w R lv E S) (n : Nm) : getK Fl.n n S.fs = (getK Ent.n n E).map Ent.fl := by
  rw [h.fs]; exact (map_getK Ent.n Fl.n Ent.fl (fun _ => rfl) n E).symm
theorem RMem.bound {w : World} {R : Nat} {lv : Value} {E : List Ent} {S : Dk} (h : RMem w R lv E S) {e : Ent} (he : e ∈ E) : e.d.length ≤ 16777216 := by
  have h1 := used_mem (l := S.fs) (f := e.fl) (by rw [h.fs]; exact List.mem_map.2 ⟨e, he, rfl⟩)
  have h2 := h.well.room
  have h3 := h.well.size
  have h4 : e.fl.d.length = e.d.length := rfl
  omega
theorem RMem.safe {w : World} {R : Nat} {lv : Value} {E : List Ent} {S : Dk} (h : RMem w R lv E S) {e : Ent} (he : e ∈ E) : e.s ≤ e.d.length :=
  (h.well.good e.fl (by rw [h.fs]; exact List.mem_map.2 ⟨e, he, rfl⟩)).2
theorem RMem.form {w : World} {R : Nat} {lv : Value} {E : List Ent} {S : Dk} (h : RMem w R lv E S) {e : Ent} (he : e ∈ E) : ∃ p c, e.v = .slice p e.d.length c := (h.own e he).form
theorem RMem.slices {w : World} {R : Nat} {lv : Value} {E : List Ent} {S : Dk} (h : RMem w R lv E S) : ∀ e ∈ E, isSl e.v := fun e he => by obtain ⟨p, c, hv⟩ := h.form he; exact ⟨_, _, _, hv⟩
/-- the cells of the file at a place -/
theorem RMem.at {w : World} {R : Nat} {lv : Value} {X Y : List Ent} {e : Ent} {S : Dk} (h : RMem w R lv (X ++ e :: Y) S) :
    ∃ g off cap, lv = .slice (some ⟨g, off, none⟩) (X ++ e :: Y).length cap ∧ w.cell? ⟨g, off + X.length * 3, none⟩ = some (encStr e.n) ∧ w.cell? ⟨g, off + X.length * 3 + 1, none⟩ = some e.v ∧ w.cell? ⟨g, off + X.length * 3 + 2, none⟩ = some (.int .i64 (e.s : Int)) := by
  have hr := h.row
  rcases h.row.2 with ⟨_, h0⟩ | ⟨g, off, cap, cur, rfl, _⟩
  · simp at h0
  · refine ⟨g, off, cap, rfl, ?_, ?_, ?_⟩
    · exact hr.cells (X.length * 3) _ (by have := rcs_at X Y e 0 (by omega); simpa [rc] using this)
    · have := hr.cells (X.length * 3 + 1) _ (by have := rcs_at X Y e 1 (by omega); simpa [rc] using this)
      rwa [← Nat.add_assoc] at this
    · have := hr.cells (X.length * 3 + 2) _ (by have := rcs_at X Y e 2 (by omega); simpa [rc] using this)
      rwa [← Nat.add_assoc] at this
theorem split_at {E : List Ent} {k : Nat} (h : k < E.length) : ∃ X e Y, E = X ++ e :: Y ∧ X.length = k ∧ e = E[k] := by
  refine ⟨E.take k, E[k], E.drop (k + 1), ?_, by simp; omega, rfl⟩
  simp
theorem info_file : (Try.prog.info? 77).map (fun i => (i.zero, i.size, i.bytes)) = some (some (.agg #[.string ⟨#[]⟩, .slice none 0 0, .int .i64 0]), 3, 48) := by kernel_rfl
end Go.Proofs.Ythpfdgjpmooclaa
