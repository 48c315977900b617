/- HeapPlays: the calls by what the law's lists say; writes into these lists. -/
import Derived.Test.YtcajomobmjapgaaHLeast
import Derived.Test.YtcajomobmjapgaaHFirsts
namespace Go.Proofs.Ytcajomobmjapgaa
open Go.RowKit Go.Maps
set_option linter.unusedVariables false
set_option linter.unusedSimpArgs false

/-- what the law's lists say of what is in -/
def Told9 (I : List Bool) (K : List Int) (T : List It) : Prop := ∀ u : It, u ∈ T ↔ I[u.1]? = some true ∧ K[u.1]? = some u.2
theorem told_none (n : Nat) : Told9 (List.replicate n false) (List.replicate n 0) [] := fun u => by
  simp [List.getElem?_replicate]
theorem Told9.put {I : List Bool} {K : List Int} {T T' : List It} {i : Nat} {r : Int} (h : Told9 I K T) (hi : i < I.length) (hk : i < K.length) (hm : ∀ u, u ∈ T' ↔ u = (i, r) ∨ u ∈ T ∧ u.1 ≠ i) : Told9 (I.set i true) (K.set i r) T' := by
  intro u
  rw [hm u, List.getElem?_set, List.getElem?_set]
  by_cases he : i = u.1
  · subst he
    rw [if_pos rfl, if_pos rfl, if_pos hi, if_pos hk]
    constructor
    · rintro (h | h)
      · rw [h]; exact ⟨rfl, rfl⟩
      · exact absurd rfl h.2
    · rintro ⟨_, h⟩
      left
      simp at h
      exact Prod.ext rfl h.symm
  · rw [if_neg he, if_neg he, ← h u]
    constructor
    · rintro (h | h)
      · rw [h] at he; exact absurd rfl he
      · exact h.1
    · intro h; exact .inr ⟨h, fun e => he e.symm⟩
theorem Told9.out {I : List Bool} {K : List Int} {T T' : List It} {i : Nat} (h : Told9 I K T) (hi : i < I.length) (hm : ∀ u, u ∈ T' ↔ u ∈ T ∧ u.1 ≠ i) : Told9 (I.set i false) K T' := by
  intro u
  rw [hm u, List.getElem?_set]
  by_cases he : i = u.1
  · subst he
    rw [if_pos rfl, if_pos hi]
    simp
  · rw [if_neg he, ← h u]
    exact ⟨fun h => h.1, fun h => ⟨h, fun e => he e.symm⟩⟩
/-- lowered: the list of what is in stands as it was -/
theorem Told9.low {I : List Bool} {K : List Int} {T T' : List It} {i : Nat} {r q : Int} (h : Told9 I K T) (hk : i < K.length) (hin : (i, q) ∈ T) (hm : With T T' (i, r)) : Told9 I (K.set i r) T' := by
  have hi := ((h _).1 hin).1
  simp only at hi
  have := h.put (r := r) (List.getElem?_eq_some_iff.1 hi).1 hk hm
  have e : I.set i true = I := List.ext_getElem? (fun j => by
    rw [List.getElem?_set]
    by_cases hj : i = j
    · subst hj; rw [if_pos rfl, if_pos (List.getElem?_eq_some_iff.1 hi).1, hi]
    · rw [if_neg hj])
  rwa [e] at this
theorem min_of9 : ∀ (T : List It), T ≠ [] → ∃ x, IsMin T x
  | [], h => absurd rfl h
  | [a], _ => ⟨a, by simp, fun y hy => by simp at hy; subst hy; exact bef_irr _⟩
  | a :: b :: T, _ => by
    obtain ⟨x, h1, h2⟩ := min_of9 (b :: T) (by simp)
    by_cases h : bef a x
    · refine ⟨a, by simp, fun y hy => ?_⟩
      rcases List.mem_cons.1 hy with rfl | hy
      · exact bef_irr _
      · exact bef_nbef h (h2 y hy)
    · refine ⟨x, List.mem_cons_of_mem _ h1, fun y hy => ?_⟩
      rcases List.mem_cons.1 hy with rfl | hy
      · exact h
      · exact h2 y hy
/-- the law's search finds what the heap's is -/
theorem least_empty {I : List Bool} {K : List Int} {n : Nat} {k : Int} (h : Told9 I K []) (hl : LeastL I K n k) : k = -1 := by
  rcases hl with ⟨h1, _⟩ | ⟨j, r, _, _, h3, h4, _⟩
  · exact h1
  · have := (h (j, r)).2 ⟨h3, h4⟩
    simp at this
theorem least_min {I : List Bool} {K : List Int} {n : Nat} {k : Int} {T : List It} {x : It} (h : Told9 I K T) (hn : ∀ u ∈ T, u.1 < n) (hx : IsMin T x) (hl : LeastL I K n k) : k = x.1 ∧ K[x.1]? = some x.2 := by
  have hx1 := (h x).1 hx.1
  refine ⟨?_, hx1.2⟩
  rcases hl with ⟨_, h2⟩ | ⟨j, r, h1, h2, h3, h4, h5⟩
  · exact absurd hx1.1 (h2 x.1 (hn x hx.1))
  · have hj : IsMin T (j, r) := ⟨(h (j, r)).2 ⟨h3, h4⟩, fun y hy => by
      have := (h y).1 hy
      exact h5 y.1 y.2 (hn y hy) this.1 this.2⟩
    have := hx.eq hj
    rw [h1, this]

theorem Lists2.lenI {w : World} {iv rv : Value} {n : Nat} {I : List Bool} {K : List Int} (h : Lists2 w iv rv n I K) : I.length = n := by have := h.i.1; simpa using this
theorem Lists2.lenK {w : World} {iv rv : Value} {n : Nat} {I : List Bool} {K : List Int} (h : Lists2 w iv rv n I K) : K.length = n := by have := h.r.1; simpa using this
theorem Lists2.cellI {w : World} {gi gr n : Nat} {I : List Bool} {K : List Int} (h : Lists2 w (.slice (some ⟨gi, 0, none⟩) n n) (.slice (some ⟨gr, 0, none⟩) n n) n I K) {i : Nat} {x : Bool} (hx : I[i]? = some x) : w.cell? ⟨gi, i, none⟩ = some (.bool x) := by
  have := h.i.cells i (.bool x) (by simp [hx])
  rwa [Nat.zero_add] at this
theorem Lists2.cellK {w : World} {gi gr n : Nat} {I : List Bool} {K : List Int} (h : Lists2 w (.slice (some ⟨gi, 0, none⟩) n n) (.slice (some ⟨gr, 0, none⟩) n n) n I K) {i : Nat} {x : Int} (hx : K[i]? = some x) : w.cell? ⟨gr, i, none⟩ = some (.int .i64 x) := by
  have := h.r.cells i (.int .i64 x) (by simp [hx])
  rwa [Nat.zero_add] at this
theorem Lists2.setI {w : World} {gi gr n : Nat} {I : List Bool} {K : List Int} (h : Lists2 w (.slice (some ⟨gi, 0, none⟩) n n) (.slice (some ⟨gr, 0, none⟩) n n) n I K) (hne : gi ≠ gr) (i : Nat) (hi : i < n) (b : Bool) :
    Lists2 (w.setCell ⟨gi, i, none⟩ (.bool b)) (.slice (some ⟨gi, 0, none⟩) n n) (.slice (some ⟨gr, 0, none⟩) n n) n (I.set i b) K ∧ Turn (fun j => j = gi) w (w.setCell ⟨gi, i, none⟩ (.bool b)) ∧ w.frozen? ⟨gi, i, none⟩ = false := by
  have t : Turn (fun j => j = gi) w (w.setCell ⟨gi, i, none⟩ (.bool b)) := (Turn.refl (fun j => j = gi) w).setCell (p := ⟨gi, i, none⟩) (.inl rfl) _
  have hs := (h.i.set i (by omega) (.bool b))
  rw [Nat.zero_add] at hs
  refine ⟨⟨?_, h.r.turn t (fun j hj e => by simp [Value.ownBlock] at hj; omega)⟩, t, hs.2⟩
  rw [List.map_set]
  exact hs.1
theorem Lists2.setK {w : World} {gi gr n : Nat} {I : List Bool} {K : List Int} (h : Lists2 w (.slice (some ⟨gi, 0, none⟩) n n) (.slice (some ⟨gr, 0, none⟩) n n) n I K) (hne : gi ≠ gr) (i : Nat) (hi : i < n) (r : Int) :
    Lists2 (w.setCell ⟨gr, i, none⟩ (.int .i64 r)) (.slice (some ⟨gi, 0, none⟩) n n) (.slice (some ⟨gr, 0, none⟩) n n) n I (K.set i r) ∧ Turn (fun j => j = gr) w (w.setCell ⟨gr, i, none⟩ (.int .i64 r)) ∧ w.frozen? ⟨gr, i, none⟩ = false := by
  have t : Turn (fun j => j = gr) w (w.setCell ⟨gr, i, none⟩ (.int .i64 r)) := (Turn.refl (fun j => j = gr) w).setCell (p := ⟨gr, i, none⟩) (.inl rfl) _
  have hs := (h.r.set i (by omega) (.int .i64 r))
  rw [Nat.zero_add] at hs
  refine ⟨⟨h.i.turn t (fun j hj e => by simp [Value.ownBlock] at hj; omega), ?_⟩, t, hs.2⟩
  rw [List.map_set]
  exact hs.1

/- the calls' refusals -/
theorem push_bad {w : World} {B n : Nat} {F : Nat → Prop} {T : List It} (h : HAt w B n F T) (hF : ∀ j, w.heap.size ≤ j → F j) (id rank : Int) (hb : ¬ (0 ≤ id ∧ id < n)) :
    Calls Try.prog 14 #[.pointer (some ⟨B, 0, none⟩), .int .i64 id, .int .i64 rank] w fun e w' => e = .returned (.int .i64 1) ∧ Turn F w w' ∧ HAt w' B n F T := by
  refine (pushH h hF id rank).mono ?_
  rintro e w' ⟨t, ⟨h1, h2, rfl⟩ | ⟨i', r, rfl, h2, _⟩ | ⟨i', T', rfl, h2, _⟩⟩
  · exact ⟨rfl, t, h2⟩
  · exact absurd ⟨Int.natCast_nonneg i', by have := h.id_lt h2; simp only at this; omega⟩ hb
  · exact absurd ⟨Int.natCast_nonneg i', by omega⟩ hb
theorem push_twice {w : World} {B n : Nat} {F : Nat → Prop} {T : List It} (h : HAt w B n F T) (hF : ∀ j, w.heap.size ≤ j → F j) (i : Nat) (r rank : Int) (hb : (i, r) ∈ T) :
    Calls Try.prog 14 #[.pointer (some ⟨B, 0, none⟩), .int .i64 (i : Int), .int .i64 rank] w fun e w' => e = .returned (.int .i64 5) ∧ Turn F w w' ∧ HAt w' B n F T := by
  have hi := h.id_lt hb
  simp only at hi
  refine (pushH h hF i rank).mono ?_
  rintro e w' ⟨t, ⟨h1, h2, rfl⟩ | ⟨i', r', h1, h2, h3, rfl⟩ | ⟨i', T', h1, h2, h3, _⟩⟩
  · exact absurd ⟨Int.natCast_nonneg i, by omega⟩ h1
  · exact ⟨rfl, t, h3⟩
  · obtain rfl : i = i' := by omega
    exact absurd hb (h3 r)
theorem lower_bad {w : World} {B n : Nat} {F : Nat → Prop} {T : List It} (h : HAt w B n F T) (id rank : Int) (hb : ¬ (0 ≤ id ∧ id < n)) :
    Calls Try.prog 9 #[.pointer (some ⟨B, 0, none⟩), .int .i64 id, .int .i64 rank] w fun e w' => e = .returned (.int .i64 1) ∧ Turn F w w' ∧ HAt w' B n F T := by
  refine (lowerH h id rank).mono ?_
  rintro e w' ⟨t, ⟨h1, h2, rfl⟩ | ⟨h1, _⟩ | ⟨i', r', rfl, h2, _⟩ | ⟨i', r', T', rfl, h2, _⟩⟩
  · exact ⟨rfl, t, h2⟩
  · exact absurd h1 hb
  · exact absurd ⟨Int.natCast_nonneg i', by have := h.id_lt h2; simp only at this; omega⟩ hb
  · exact absurd ⟨Int.natCast_nonneg i', by have := h.id_lt h2; simp only at this; omega⟩ hb
theorem lower_none {w : World} {B n : Nat} {F : Nat → Prop} {T : List It} (h : HAt w B n F T) (i : Nat) (rank : Int) (hi : i < n) (hb : ∀ r : Int, (i, r) ∉ T) :
    Calls Try.prog 9 #[.pointer (some ⟨B, 0, none⟩), .int .i64 (i : Int), .int .i64 rank] w fun e w' => e = .returned (.int .i64 6) ∧ Turn F w w' ∧ HAt w' B n F T := by
  refine (lowerH h i rank).mono ?_
  rintro e w' ⟨t, ⟨h1, h2, rfl⟩ | ⟨h1, h2, h3, rfl⟩ | ⟨i', r', h1, h2, _⟩ | ⟨i', r', T', h1, h2, _⟩⟩
  · exact absurd ⟨Int.natCast_nonneg i, by omega⟩ h1
  · exact ⟨rfl, t, h3⟩
  · obtain rfl : i = i' := by omega
    exact absurd h2 (hb r')
  · obtain rfl : i = i' := by omega
    exact absurd h2 (hb r')
theorem lower_above {w : World} {B n : Nat} {F : Nat → Prop} {T : List It} (h : HAt w B n F T) (i : Nat) (r rank : Int) (hm : (i, r) ∈ T) (hr : r < rank) :
    Calls Try.prog 9 #[.pointer (some ⟨B, 0, none⟩), .int .i64 (i : Int), .int .i64 rank] w fun e w' => e = .returned (.int .i64 7) ∧ Turn F w w' ∧ HAt w' B n F T := by
  have hi := h.id_lt hm
  simp only at hi
  refine (lowerH h i rank).mono ?_
  rintro e w' ⟨t, ⟨h1, _⟩ | ⟨_, h1, _⟩ | ⟨i', r', h1, h2, h3, h4, rfl⟩ | ⟨i', r', T', h1, h2, h3, h4, h5, h6, rfl⟩⟩
  · exact absurd ⟨Int.natCast_nonneg i, by omega⟩ h1
  · exact absurd hm (h1 i r rfl)
  · exact ⟨rfl, t, h4⟩
  · obtain rfl : i = i' := by omega
    have := h.uniq hm h2 rfl
    simp at this
    omega
theorem drop_in {w : World} {B n : Nat} {F : Nat → Prop} {T : List It} (h : HAt w B n F T) (i : Nat) (r : Int) (hm : (i, r) ∈ T) :
    Calls Try.prog 12 #[.pointer (some ⟨B, 0, none⟩), .int .i64 (i : Int)] w fun e w' => e = .returned (.bool true) ∧ Turn F w w' ∧ ∃ T', HAt w' B n F T' ∧ Less T T' i := by
  refine (dropH h i).mono ?_
  rintro e w' ⟨t, ⟨i', r', T', h1, h2, h3, h4, rfl⟩ | ⟨h1, _⟩⟩
  · obtain rfl : i = i' := by omega
    exact ⟨rfl, t, T', h3, h4⟩
  · exact absurd hm (h1 i r rfl)
theorem drop_out {w : World} {B n : Nat} {F : Nat → Prop} {T : List It} (h : HAt w B n F T) (id : Int) (hn : ∀ (i : Nat) (r : Int), id = i → (i, r) ∉ T) :
    Calls Try.prog 12 #[.pointer (some ⟨B, 0, none⟩), .int .i64 id] w fun e w' => e = .returned (.bool false) ∧ Turn F w w' ∧ HAt w' B n F T := by
  refine (dropH h id).mono ?_
  rintro e w' ⟨t, ⟨i', r', T', h1, h2, _⟩ | ⟨_, h1, rfl⟩⟩
  · exact absurd h2 (hn i' r' h1)
  · exact ⟨rfl, t, h1⟩
theorem rank_in {w : World} {B n : Nat} {F : Nat → Prop} {T : List It} (h : HAt w B n F T) (i : Nat) (r : Int) (hm : (i, r) ∈ T) :
    Calls Try.prog 13 #[.pointer (some ⟨B, 0, none⟩), .int .i64 (i : Int)] w fun e w' => e = .returned (.tuple #[.int .i64 r, .bool true]) ∧ w' = w := by
  refine (rankH h i).mono ?_
  rintro e w' ⟨rfl, ⟨i', r', h1, h2, rfl⟩ | ⟨h1, _⟩⟩
  · obtain rfl : i = i' := by omega
    have := h.uniq hm h2 rfl
    simp at this
    rw [this]
    exact ⟨rfl, rfl⟩
  · exact absurd hm (h1 i r rfl)
theorem rank_out {w : World} {B n : Nat} {F : Nat → Prop} {T : List It} (h : HAt w B n F T) (id : Int) (hn : ∀ (i : Nat) (r : Int), id = i → (i, r) ∉ T) :
    Calls Try.prog 13 #[.pointer (some ⟨B, 0, none⟩), .int .i64 id] w fun e w' => e = .returned (.tuple #[.int .i64 0, .bool false]) ∧ w' = w := by
  refine (rankH h id).mono ?_
  rintro e w' ⟨rfl, ⟨i', r', h1, h2, _⟩ | ⟨_, rfl⟩⟩
  · exact absurd h2 (hn i' r' h1)
  · exact ⟨rfl, rfl⟩
theorem own_newA (M : Nat) (hM : M ≤ 1048600) (u : World) (e : TypeId) (z : Value) : OwnSl (u.alloc (.cells (Array.replicate M z) e)) e 1 (.slice (some ⟨u.heap.size, 0, none⟩) M M) M (List.replicate M z) :=
  ⟨by simp, .inr ⟨u.heap.size, 0, M, _, rfl, heap_alloc_new u _, Nat.le_refl _, by unfold maxLen; omega, by simp, by simp⟩⟩
/-- the law's lists when they were made: in either order -/
theorem made_in (w : World) (n : Nat) (hn : n ≤ 1048600) :
    Turn (fun _ => False) w ((w.alloc (.cells (Array.replicate n (.bool false)) 4)).alloc (.cells (Array.replicate n (.int .i64 0)) 2)).drew ∧ w.heap.size + 1 < ((w.alloc (.cells (Array.replicate n (.bool false)) 4)).alloc (.cells (Array.replicate n (.int .i64 0)) 2)).drew.heap.size ∧
    Lists2 ((w.alloc (.cells (Array.replicate n (.bool false)) 4)).alloc (.cells (Array.replicate n (.int .i64 0)) 2)).drew (.slice (some ⟨w.heap.size, 0, none⟩) n n) (.slice (some ⟨w.heap.size + 1, 0, none⟩) n n) n (List.replicate n false) (List.replicate n 0) := by
  have t1 := (Turn.refl (fun _ => False) w).alloc (.cells (Array.replicate n (.bool false)) 4)
  have t2 := (Turn.refl (fun _ => False) (w.alloc (.cells (Array.replicate n (.bool false)) 4))).alloc (.cells (Array.replicate n (.int .i64 0)) 2)
  have s1 : (w.alloc (.cells (Array.replicate n (.bool false)) 4)).heap.size = w.heap.size + 1 := by simp
  have o1 := own_newA n hn w 4 (.bool false)
  have o2 := own_newA n hn (w.alloc (.cells (Array.replicate n (.bool false)) 4)) 2 (.int .i64 0)
  rw [s1] at o2
  refine ⟨(t1.then t2).drew, ?_, ?_, ?_⟩
  · have := (Array.getElem?_eq_some_iff.1 (heap_alloc_new (w.alloc (.cells (Array.replicate n (.bool false)) 4)) (.cells (Array.replicate n (.int .i64 0)) 2))).1
    rw [s1] at this
    exact this
  · rw [List.map_replicate]
    exact (o1.turn t2 (fun _ _ h => h)).turn ((Turn.refl _ _).drew) (fun _ _ h => h)
  · rw [List.map_replicate]
    exact o2.turn ((Turn.refl (fun _ => False) _).drew) (fun _ _ h => h)
theorem made_rank (w : World) (n : Nat) (hn : n ≤ 1048600) :
    Turn (fun _ => False) w ((w.alloc (.cells (Array.replicate n (.int .i64 0)) 2)).alloc (.cells (Array.replicate n (.bool false)) 4)).drew ∧ w.heap.size + 1 < ((w.alloc (.cells (Array.replicate n (.int .i64 0)) 2)).alloc (.cells (Array.replicate n (.bool false)) 4)).drew.heap.size ∧
    Lists2 ((w.alloc (.cells (Array.replicate n (.int .i64 0)) 2)).alloc (.cells (Array.replicate n (.bool false)) 4)).drew (.slice (some ⟨w.heap.size + 1, 0, none⟩) n n) (.slice (some ⟨w.heap.size, 0, none⟩) n n) n (List.replicate n false) (List.replicate n 0) := by
  have t1 := (Turn.refl (fun _ => False) w).alloc (.cells (Array.replicate n (.int .i64 0)) 2)
  have t2 := (Turn.refl (fun _ => False) (w.alloc (.cells (Array.replicate n (.int .i64 0)) 2))).alloc (.cells (Array.replicate n (.bool false)) 4)
  have s1 : (w.alloc (.cells (Array.replicate n (.int .i64 0)) 2)).heap.size = w.heap.size + 1 := by simp
  have o1 := own_newA n hn w 2 (.int .i64 0)
  have o2 := own_newA n hn (w.alloc (.cells (Array.replicate n (.int .i64 0)) 2)) 4 (.bool false)
  rw [s1] at o2
  refine ⟨(t1.then t2).drew, ?_, ?_, ?_⟩
  · have := (Array.getElem?_eq_some_iff.1 (heap_alloc_new (w.alloc (.cells (Array.replicate n (.int .i64 0)) 2)) (.cells (Array.replicate n (.bool false)) 4))).1
    rw [s1] at this
    exact this
  · rw [List.map_replicate]
    exact o2.turn ((Turn.refl (fun _ => False) _).drew) (fun _ _ h => h)
  · rw [List.map_replicate]
    exact (o1.turn t2 (fun _ _ h => h)).turn ((Turn.refl _ _).drew) (fun _ _ h => h)
end Go.Proofs.Ytcajomobmjapgaa
