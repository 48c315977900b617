/- Slices that own their rows; the map of a disk told by a list of its entries; a disk in memory. -/
import Derived.Test.YthpfdgjpmooclaaCBase
import Derived.Test.YthpfdgjpmooclaaDPure
import Derived.Maps.OwnSet
import Derived.Maps.RangeWalk
import Derived.Maps.OwnOps
import Derived.ArgAppend
import Derived.Sort.KeysCollected
import Derived.Sort.OwnSorted
namespace Go.Proofs.Ythpfdgjpmooclaa
open Go.RowKit Go.Maps
set_option linter.unusedVariables false

theorem Turn.undrew {F : Nat → Prop} {w w' : World} (h : Turn F w.drew w') : Turn F w w' := ⟨h.os, h.tape, h.output, h.size, h.block⟩
theorem Turn.same {F : Nat → Prop} {w w' : World} (h : Turn F w w') {k : Nat} {o : Obj} (hk : w.heap[k]? = some o) (hn : ¬ F k) : w'.heap[k]? = some o :=
  (h.block k (Array.getElem?_eq_some_iff.1 hk).1 hn).trans hk
theorem Turn.map {F : Nat → Prop} {H : Type} {w w' : World} {P : Program} {k : TypeId} {R : Value → Option (DataW H × List MemPlace)} {b n : Nat} {D : DataW H} (h : Turn F w w') (ho : w.ownsMap P k R b n D) (hn : ¬ F b) : w'.ownsMap P k R b n D := by
  obtain ⟨es, clock, hb, F', hs, hD⟩ := ho
  exact ⟨es, clock, h.same hb hn, F', hs, hD⟩
theorem Turn.ranges {F : Nat → Prop} {H : Type} {w w' : World} {P : Program} {k : TypeId} {R : Value → Option (DataW H × List MemPlace)} {b r n cnt : Nat} {D : DataW H} {left : Lit → Bool} (h : Turn F w w') (ho : w.ranges P k R b r n D left cnt) (hb : ¬ F b) (hr : ¬ F r) : w'.ranges P k R b r n D left cnt := by
  obtain ⟨es, clock, since, seen, c0, h1, F', h2, h3, h4, rest⟩ := ho
  exact ⟨es, clock, since, seen, c0, h.same h1 hb, F', h2, h3, h.same h4 hr, rest⟩

/-- a slice that owns its row from a place on, its spare room too -/
def OwnSl (w : World) (e : TypeId) (s : Nat) (v : Value) (n : Nat) (xs : List Value) : Prop :=
  xs.length = n * s ∧ ((v = .slice none 0 0 ∧ n = 0) ∨
    ∃ g off cap cur, v = .slice (some ⟨g, off, none⟩) n cap ∧ w.heap[g]? = some (.cells cur e (0, 0)) ∧ n ≤ cap ∧ cap ≤ maxLen ∧ off + cap * s ≤ cur.size ∧ (cur.toList.drop off).take (n * s) = xs)

theorem OwnSl.lt {w : World} {e : TypeId} {s : Nat} {v : Value} {n : Nat} {xs : List Value} (h : OwnSl w e s v n xs) : ∀ k, v.ownBlock = some k → ∃ cur, w.heap[k]? = some (.cells cur e (0, 0)) := by
  intro k hk
  rcases h.2 with ⟨rfl, _⟩ | ⟨g, off, cap, cur, rfl, hg, _⟩
  · simp [Value.ownBlock] at hk
  · simp [Value.ownBlock] at hk
    subst hk
    exact ⟨cur, hg⟩
theorem OwnSl.kept {w w' : World} {e : TypeId} {s : Nat} {v : Value} {n : Nat} {xs : List Value} (h : OwnSl w e s v n xs) (hb : ∀ k, v.ownBlock = some k → w'.heap[k]? = w.heap[k]?) : OwnSl w' e s v n xs := by
  refine ⟨h.1, ?_⟩
  rcases h.2 with hn | ⟨g, off, cap, cur, rfl, hg, rest⟩
  · exact .inl hn
  · exact .inr ⟨g, off, cap, cur, rfl, (hb g rfl).trans hg, rest⟩
theorem OwnSl.turn {F : Nat → Prop} {w w' : World} {e : TypeId} {s : Nat} {v : Value} {n : Nat} {xs : List Value} (h : OwnSl w e s v n xs) (ht : Turn F w w') (hn : ∀ k, v.ownBlock = some k → ¬ F k) : OwnSl w' e s v n xs :=
  h.kept (fun k hk => by obtain ⟨cur, hc⟩ := h.lt k hk; exact ht.block k (Array.getElem?_eq_some_iff.1 hc).1 (hn k hk))
theorem OwnSl.of_owns {w : World} {base : Nat} {e : TypeId} {s : Nat} {v : Value} {n : Nat} {xs : List Value} (h : w.ownsRow base e s v n xs) : OwnSl w e s v n xs := by
  refine ⟨h.1, ?_⟩
  rcases h.2 with hn | ⟨g, cap, cur, hv, _, hg, h1, h2, h3, h4⟩
  · exact .inl hn
  · exact .inr ⟨g, 0, cap, cur, hv, hg, h1, h2, by omega, by simpa using h4⟩
theorem OwnSl.cells {w : World} {e : TypeId} {s n g off cap : Nat} {xs : List Value} (h : OwnSl w e s (.slice (some ⟨g, off, none⟩) n cap) n xs) : ∀ j u, xs[j]? = some u → w.cell? ⟨g, off + j, none⟩ = some u := by
  intro j u hu
  rcases h.2 with ⟨hv, _⟩ | ⟨g', off', cap', cur, hv, hg, _, _, _, ht⟩
  · simp at hv
  · simp only [Value.slice.injEq, Option.some.injEq, Addr.mk.injEq, and_true, true_and] at hv
    obtain ⟨⟨rfl, rfl⟩, rfl⟩ := hv
    rw [cell_of_row w g (off + j) cur e (0, 0) hg]
    rw [← ht, List.getElem?_take, List.getElem?_drop] at hu
    split at hu
    · simpa using hu
    · cases hu

theorem cell_some {w : World} {g j : Nat} {cur : Array Value} {e : TypeId} (hg : w.heap[g]? = some (.cells cur e (0, 0))) (hj : j < cur.size) : (w.cell? ⟨g, j, none⟩).isSome = true ∧ w.frozen? ⟨g, j, none⟩ = false := by
  rw [cell_of_row w g j cur e (0, 0) hg]
  refine ⟨by simp [hj], ?_⟩
  simp [World.frozen?, hg]

/-- a write of neighbouring cells into a row -/
theorem heap_setCells {g : Nat} {e : TypeId} : ∀ (vs : List Value) (o : Nat) (w : World) (cur : Array Value), w.heap[g]? = some (.cells cur e (0, 0)) → o + vs.length ≤ cur.size →
    ∃ cur', (w.setCells g o vs).heap[g]? = some (.cells cur' e (0, 0)) ∧ cur'.size = cur.size ∧ ∀ j, cur'[j]? = if o ≤ j ∧ j < o + vs.length then vs[j - o]? else cur[j]?
  | [], o, w, cur, h, _ => ⟨cur, h, rfl, fun j => by rw [if_neg (by simp)]⟩
  | v :: vs, o, w, cur, h, hl => by
    have h1 : (w.setCell ⟨g, o, none⟩ v).heap[g]? = some (.cells (cur.setIfInBounds o v) e (0, 0)) := by
      have hlt := (Array.getElem?_eq_some_iff.1 h).1
      have h' := (Array.getElem?_eq_some_iff.1 h).2
      show (w.heap.modify g _)[g]? = _
      rw [Array.getElem?_eq_getElem (by rw [Array.size_modify]; exact hlt), Array.getElem_modify_self, h']
      rfl
    obtain ⟨cur', a1, a2, a3⟩ := heap_setCells vs (o + 1) (w.setCell ⟨g, o, none⟩ v) _ h1 (by simp at hl ⊢; omega)
    refine ⟨cur', a1, by simpa using a2, fun j => ?_⟩
    rw [a3 j]
    simp at hl
    by_cases hj : j = o
    · subst hj
      rw [if_neg (by omega), if_pos (by simp)]
      simp [show j < cur.size by omega]
    · by_cases hj2 : o + 1 ≤ j ∧ j < o + 1 + vs.length
      · rw [if_pos hj2, if_pos (by simp; omega)]
        rw [show j - o = (j - (o + 1)) + 1 by omega, List.getElem?_cons_succ]
      · rw [if_neg hj2, if_neg (by simp; omega)]
        simp [show ¬ o = j by omega]

theorem grown_setCell (w : World) (p : Addr) (u : Value) : w.grownBy (w.setCell p u) (some p.block) :=
  ⟨rfl, rfl, rfl, by simp [World.setCell], fun k hk hn => Below.heap_setCell _ _ _ _ (fun e => hn (by rw [e]))⟩
theorem grown_setCells (g : Nat) : ∀ (vs : List Value) (o : Nat) (w : World), w.grownBy (w.setCells g o vs) (some g)
  | [], _, w => ⟨rfl, rfl, rfl, Nat.le_refl _, fun _ _ _ => rfl⟩
  | v :: vs, o, w => by
    have h1 := grown_setCell w ⟨g, o, none⟩ v
    have h2 := grown_setCells g vs (o + 1) (w.setCell ⟨g, o, none⟩ v)
    exact ⟨h2.os.trans h1.os, h2.tape.trans h1.tape, h2.output.trans h1.output, Nat.le_trans h1.size h2.size, fun k hk hn => (h2.block k (Nat.lt_of_lt_of_le hk h1.size) hn).trans (h1.block k hk hn)⟩

/-- append onto such a slice -/
theorem run_append_sl {P : Program} {w : World} {t ty e : TypeId} {i : TypeInfo} {z : Value} {size bytes : Nat} (ht : P.underlying t = some (.slice e)) (hi : P.info? e = some i) (hz : i.zero = some z)
    (hsize : i.size = size) (hby : i.bytes = bytes) (hzs : z.cells.size = size) (hsz : 0 < size) {v : Value} {n : Nat} {xs : List Value} (h : OwnSl w e size v n xs)
    (a : Addr) (m c : Nat) (news : List Value) (hl : news.length = m * size) (hnews : ∀ j u, news[j]? = some u → w.cell? (a.add j) = some u) (h1 : ∀ u ∈ news, u.oneCell' = true) (hm : n + m ≤ maxLen) (hb : (n + m) * bytes ≤ 140737488355328) (hm0 : 0 < m) :
    ∃ g off cap w', (Builtin.append_ #[t, t] ty #[v, .slice (some a) m c]).run P w = .ok (.slice (some ⟨g, off, none⟩) (n + m) cap) w' ∧ OwnSl w' e size (.slice (some ⟨g, off, none⟩) (n + m) cap) (n + m) (xs ++ news) ∧ w.grownBy w' v.ownBlock ∧ (v.ownBlock = some g ∨ w.heap.size ≤ g) := by
  have form : ∀ {w' : World} {v' : Value}, w'.ownsRow w.heap.size e size v' (n + m) (xs ++ news) → ∃ g off cap, v' = .slice (some ⟨g, off, none⟩) (n + m) cap ∧ w.heap.size ≤ g := by
    intro w' v' ho
    rcases ho.2 with ⟨_, h0⟩ | ⟨g, cap, cur, rfl, hb, _⟩
    · omega
    · exact ⟨g, 0, cap, rfl, hb⟩
  rcases h.2 with ⟨rfl, rfl⟩ | ⟨g, off, cap, cur, rfl, hg, hnc, hcm, hfit, htk⟩
  · obtain rfl : xs = [] := List.eq_nil_of_length_eq_zero (by simpa using h.1)
    obtain ⟨v', w', hrun, r1, r2, _⟩ := run_append_own (P := P) w w.heap.size t ty e i z size bytes ht hi hz hsize hby hzs hsz (.slice none 0 0) 0 [] (World.ownsRow_nil w _ e size) a m c news hl hnews h1 hm hb (Nat.le_refl _)
    obtain ⟨g, off, cap, rfl, hge⟩ := form r1
    exact ⟨g, off, cap, w', hrun, OwnSl.of_owns r1, r2, .inr hge⟩
  · by_cases hr : n + m ≤ cap
    · subst hsize
      have hsp : n * i.size + news.length ≤ cap * i.size := by rw [hl, ← Nat.add_mul]; exact Nat.mul_le_mul_right _ hr
      have hrun := run_append_room_cells (P := P) w t ty e i ht hi g off n cap a m c news hl hnews h1 hr (fun j hj => (cell_some hg (by omega)).1) (fun j hj => (cell_some hg (by omega)).2)
      obtain ⟨cur', c1, c2, c3⟩ := heap_setCells news (off + n * i.size) w cur hg (by omega)
      refine ⟨g, off, cap, _, hrun, ⟨by rw [List.length_append, h.1, hl, Nat.add_mul], .inr ⟨g, off, cap, cur', rfl, c1, hr, hcm, by omega, ?_⟩⟩, grown_setCells g _ _ w, .inl rfl⟩
      · apply List.ext_getElem?
        intro j
        have hxl := h.1
        rw [List.getElem?_take, List.getElem?_drop]
        split
        · rename_i hj
          rw [show cur'.toList[off + j]? = cur'[off + j]? by simp, c3]
          have htk' : ∀ q, q < n * i.size → cur[off + q]? = xs[q]? := by
            intro q hq
            rw [← htk, List.getElem?_take, if_pos hq, List.getElem?_drop]
            simp
          by_cases hj2 : j < n * i.size
          · rw [if_neg (by omega), List.getElem?_append_left (by omega), htk' j hj2]
          · rw [Nat.add_mul] at hj
            rw [if_pos (by omega), List.getElem?_append_right (by omega), hxl, show off + j - (off + n * i.size) = j - n * i.size by omega]
        · rename_i hj
          rw [Nat.add_mul] at hj
          rw [List.getElem?_eq_none (by rw [List.length_append]; omega)]
    · obtain ⟨v', w', hrun, r1, r2⟩ := run_append_arg_grows (P := P) w t ty e i z size bytes ht hi hz hsize hby hzs hsz ⟨g, off, none⟩ n cap xs h.1 (fun j u hj => by rw [Addr.add_lit]; exact h.cells j u hj) a m c news hl hnews (by omega) hm hb
      obtain ⟨g', off', cap', rfl, hge⟩ := form r1
      exact ⟨g', off', cap', w', hrun, OwnSl.of_owns r1, ⟨r2.os, r2.tape, r2.output, r2.size, fun k hk _ => r2.block k hk (by simp)⟩, .inr hge⟩


/-- one entry of a disk's map: its name, the slice of its bytes, these, and how many are safe -/
structure Ent where
  n : Nm
  v : Value
  d : List Int
  s : Nat
def Ent.fl (e : Ent) : Fl := ⟨e.n, e.d, e.s⟩
def Ent.val (e : Ent) : Value := .agg #[e.v, .int .i64 (e.s : Int)]
def Ent.en (e : Ent) : Lit × DataW Value := (.string e.n, .held e.val)
/-- each value is told by itself -/
def rawR (v : Value) : Option (DataW Value × List MemPlace) := some (.held v, [])
def DD (E : List Ent) : DataW Value := .map (E.map Ent.en)

theorem DD_isMap (E : List Ent) : IsMap (DD E) := ⟨_, rfl⟩
theorem DD_size (E : List Ent) : Maps.size (DD E) = E.length := by simp [DD, Maps.size]
theorem DD_del (E : List Ent) (n : Nm) : (DD E).del (.string n) = DD (delK Ent.n n E) := by
  simp only [DD, DataW.del, delK, List.filter_map]
  congr 1
theorem ins_en (e : Ent) : ∀ E : List Ent, DataW.insert e.en (E.map Ent.en) = (insK Ent.n e E).map Ent.en
  | [] => rfl
  | y :: r => by
    simp only [List.map_cons, DataW.insert, insK]
    show (if bytesBefore e.n y.n then _ else _) = _
    rw [ins_en e r]
    split <;> rfl
theorem DD_put (E : List Ent) (e : Ent) : (DD E).put (.string e.n) (.held e.val) = DD (putK Ent.n e E) := by
  have h := DD_del E e.n
  simp only [DD, DataW.del, DataW.map.injEq] at h
  simp only [DD, DataW.put]
  rw [h]
  exact congrArg _ (ins_en e _)
theorem find_en (n : Nm) : ∀ E : List Ent, (E.map Ent.en).find? (fun p => p.1.sameKey (.string n)) = (getK Ent.n n E).map Ent.en := by
  intro E
  unfold getK
  rw [List.find?_map]
  congr 1
theorem DD_at (E : List Ent) (n : Nm) (z : DataW Value) : (DD E).atKey (.string n) z = match getK Ent.n n E with | some e => .held e.val | none => z := by
  simp only [DD, DataW.atKey, find_en]
  cases getK Ent.n n E <;> rfl
theorem DD_has (E : List Ent) (n : Nm) : Maps.has (DD E) (.string n) = (getK Ent.n n E).isSome := by
  show (E.map Ent.en).any (fun p => p.1.sameKey (.string n)) = _
  have h := find_en n E
  cases hg : getK Ent.n n E with
  | some e =>
    rw [hg] at h
    have h1 := List.find?_some h
    have h2 := List.mem_of_find?_eq_some h
    exact List.any_eq_true.2 ⟨_, h2, h1⟩
  | none =>
    rw [hg] at h
    have h1 := List.find?_eq_none.1 h
    rw [Option.isSome_none, List.any_eq_false]
    exact h1
theorem strKeys_DD (E : List Ent) : strKeys (DD E) = E.map Ent.n := by
  simp [DD, strKeys, Ent.en, strOf, Function.comp_def]

theorem ownsMap_tight {H : Type} {w : World} {P : Program} {k : TypeId} {R : Value → Option (DataW H × List MemPlace)} {b n : Nat} {D : DataW H} (h : w.ownsMap P k R b n D) : w.ownsMap P k R b (Maps.size D) D := by
  obtain ⟨es, clock, hb, F, hs, rfl⟩ := h
  exact ⟨es, clock, hb, F, by simp [Maps.size, length_sorted], rfl⟩

/-- a disk in memory: at block B, its map, its entries -/
structure DMem (w : World) (B : Nat) (mv : Option Nat) (E : List Ent) (S : Dk) : Prop where
  obj : w.heap[B]? = some (.cells #[.int .i64 (S.size : Int), .map mv, .bool S.down, .int .u64 (S.arm : Int)] 62 (0, 0))
  map : (mv = none ∧ E = []) ∨ ∃ b, mv = some b ∧ w.ownsMap Try.prog 9 rawR b E.length (DD E)
  own : ∀ e ∈ E, OwnSl w 5 1 e.v e.d.length (e.d.map (Value.int .u8))
  apart : E.Pairwise (fun x y => ∀ j, x.v.ownBlock = some j → y.v.ownBlock ≠ some j)
  fs : S.fs = E.map Ent.fl
  well : Well S
def DFoot (B : Nat) (mv : Option Nat) (E : List Ent) (j : Nat) : Prop := j = B ∨ mv = some j ∨ ∃ e ∈ E, e.v.ownBlock = some j
/-- a disk whose blocks are some of F -/
def DAt (w : World) (B : Nat) (F : Nat → Prop) (S : Dk) : Prop := ∃ mv E, DMem w B mv E S ∧ ∀ j, DFoot B mv E j → F j

theorem DMem.lt {w : World} {B : Nat} {mv : Option Nat} {E : List Ent} {S : Dk} (h : DMem w B mv E S) : ∀ j, DFoot B mv E j → j < w.heap.size := by
  rintro j (rfl | hj | ⟨e, he, hj⟩)
  · exact (Array.getElem?_eq_some_iff.1 h.obj).1
  · rcases h.map with ⟨h1, _⟩ | ⟨b, h1, h2⟩
    · rw [h1] at hj; cases hj
    · rw [h1] at hj; cases hj; exact h2.lt
  · obtain ⟨cur, hc⟩ := (h.own e he).lt j hj; exact (Array.getElem?_eq_some_iff.1 hc).1
theorem DMem.turn {F : Nat → Prop} {w w' : World} {B : Nat} {mv : Option Nat} {E : List Ent} {S : Dk} (h : DMem w B mv E S) (t : Turn F w w') (hF : ∀ j, DFoot B mv E j → ¬ F j) : DMem w' B mv E S :=
  ⟨t.same h.obj (hF B (.inl rfl)), by
    rcases h.map with h1 | ⟨b, h1, h2⟩
    · exact .inl h1
    · exact .inr ⟨b, h1, t.map h2 (hF b (.inr (.inl h1)))⟩,
    fun e he => (h.own e he).turn t (fun j hj => hF j (.inr (.inr ⟨e, he, hj⟩))), h.apart, h.fs, h.well⟩
theorem DAt.turn {F G : Nat → Prop} {w w' : World} {B : Nat} {S : Dk} (h : DAt w B F S) (t : Turn G w w') (hF : ∀ j, F j → j < w.heap.size → ¬ G j) : DAt w' B F S := by
  obtain ⟨mv, E, m, f⟩ := h
  exact ⟨mv, E, m.turn t (fun j hj => hF j (f j hj) (m.lt j hj)), f⟩
theorem DAt.mono {F G : Nat → Prop} {w : World} {B : Nat} {S : Dk} (h : DAt w B F S) (hF : ∀ j, F j → j < w.heap.size → G j) : DAt w B G S := by
  obtain ⟨mv, E, m, f⟩ := h
  exact ⟨mv, E, m, fun j hj => hF j (f j hj) (m.lt j hj)⟩
theorem DAt.well {F : Nat → Prop} {w : World} {B : Nat} {S : Dk} (h : DAt w B F S) : Well S := by obtain ⟨mv, E, m, f⟩ := h; exact m.well
theorem DAt.lt {F : Nat → Prop} {w : World} {B : Nat} {S : Dk} (h : DAt w B F S) : F B ∧ B < w.heap.size := by obtain ⟨mv, E, m, f⟩ := h; exact ⟨f B (.inl rfl), m.lt B (.inl rfl)⟩

theorem DMem.neB {w : World} {B : Nat} {mv : Option Nat} {E : List Ent} {S : Dk} (h : DMem w B mv E S) : mv ≠ some B := by
  rintro e
  rcases h.map with ⟨h1, _⟩ | ⟨b, h1, es, cl, hb, _⟩
  · rw [h1] at e; cases e
  · rw [h1] at e; cases e; rw [h.obj] at hb; cases hb
theorem OwnSl.neObj {w : World} {e e' : TypeId} {s : Nat} {v : Value} {n : Nat} {xs : List Value} {B : Nat} {cur : Array Value} (h : OwnSl w e s v n xs) (hB : w.heap[B]? = some (.cells cur e' (0, 0))) (he : e ≠ e') : ∀ j, v.ownBlock = some j → j ≠ B := by
  rintro j hj rfl
  obtain ⟨cur, hcur⟩ := h.lt j hj
  rw [hcur] at hB; cases hB; exact he rfl
theorem OwnSl.neMap {H : Type} {w : World} {e : TypeId} {s : Nat} {v : Value} {n : Nat} {xs : List Value} {P : Program} {kt : TypeId} {R : Value → Option (DataW H × List MemPlace)} {b m : Nat} {D : DataW H}
    (h : OwnSl w e s v n xs) (ho : w.ownsMap P kt R b m D) : ∀ j, v.ownBlock = some j → j ≠ b := by
  rintro j hj rfl
  obtain ⟨cur, hcur⟩ := h.lt j hj
  obtain ⟨es, cl, hb, _⟩ := ho; rw [hcur] at hb; cases hb

theorem dLaw : Keyed Try.prog 9 := string_keyed Try.underlying9
theorem dKey {s : ByteArray} (h : s.size ≤ maxLen) : keyOf Try.prog 9 (.string s) = some (.string s.data.toList) := WideMaps.keyOf_string_mk Try.underlying9 h
theorem dZero (w : World) : (zeroValue 64).run Try.prog w = .ok (.agg #[.slice none 0 0, .int .i64 0]) w := by kernel_rfl
theorem rawR_eq (v : Value) : rawR v = some (.held v, []) := rfl
theorem rawR_inv {v : Value} {D : DataW Value} {ps : List MemPlace} (h : rawR v = some (D, ps)) : D = .held v := by simp [rawR] at h; exact h.1.symm
theorem cell_obj {w : World} {g : Nat} {cur : Array Value} {e : TypeId} {fr : Nat × Nat} (hg : w.heap[g]? = some (.cells cur e fr)) (j : Nat) : w.cell? ⟨g, j, none⟩ = cur[j]? := cell_of_row w g j cur e fr hg
theorem frozen_obj {w : World} {g : Nat} {cur : Array Value} {e : TypeId} (hg : w.heap[g]? = some (.cells cur e (0, 0))) (j : Nat) : w.frozen? ⟨g, j, none⟩ = false := by simp [World.frozen?, hg]
theorem heap_alloc_new (w : World) (o : Obj) : (w.alloc o).heap[w.heap.size]? = some o := (MapKept.heap_alloc w o).1
theorem heap_setCell_obj {w : World} {g j : Nat} {cur : Array Value} {e : TypeId} (h : w.heap[g]? = some (.cells cur e (0, 0))) (v : Value) : (w.setCell ⟨g, j, none⟩ v).heap[g]? = some (.cells (cur.setIfInBounds j v) e (0, 0)) := by
  have hlt := (Array.getElem?_eq_some_iff.1 h).1
  have h' := (Array.getElem?_eq_some_iff.1 h).2
  show (w.heap.modify g _)[g]? = _
  rw [Array.getElem?_eq_getElem (by rw [Array.size_modify]; exact hlt), Array.getElem_modify_self, h']
  rfl
end Go.Proofs.Ythpfdgjpmooclaa
