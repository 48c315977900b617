/- Heap: its calls, told by what is in. -/
import Derived.Test.YtombpfpfeebnpaaPack2
namespace Go.Proofs.Ytombpfpfeebnpaa
open Go.RowKit Go.Maps
set_option linter.unusedVariables false
set_option linter.unusedSimpArgs false

/-- a heap of the things below n at B, in blocks of F: T is what is in -/
def HAt (w : World) (B n : Nat) (F : Nat → Prop) (T : List It) : Prop := ∃ tv pv P, HMem w B tv pv T P ∧ Well n T P ∧ n ≤ 4194304 ∧ ∀ j, HFoot B tv pv j → F j

theorem HAt.turn {F G : Nat → Prop} {w w' : World} {B n : Nat} {T : List It} (h : HAt w B n F T) (t : Turn G w w') (hG : ∀ j, F j → ¬ G j) : HAt w' B n F T := by
  obtain ⟨tv, pv, P, a, b, c, d⟩ := h
  exact ⟨tv, pv, P, a.turn t (fun j hj => hG j (d j hj)), b, c, d⟩
theorem HAt.quiet {F : Nat → Prop} {w w' : World} {B n : Nat} {T : List It} (h : HAt w B n F T) (t : Turn (fun _ => False) w w') : HAt w' B n F T := h.turn t (fun _ _ h => h)
theorem HAt.mono {F G : Nat → Prop} {w : World} {B n : Nat} {T : List It} (h : HAt w B n F T) (hG : ∀ j, F j → G j) : HAt w B n G T := by
  obtain ⟨tv, pv, P, a, b, c, d⟩ := h
  exact ⟨tv, pv, P, a, b, c, fun j hj => hG j (d j hj)⟩
/-- none of its blocks is new -/
theorem HAt.old {F : Nat → Prop} {w : World} {B n : Nat} {T : List It} (h : HAt w B n F T) : HAt w B n (fun j => F j ∧ j < w.heap.size) T := by
  obtain ⟨tv, pv, P, a, b, c, d⟩ := h
  exact ⟨tv, pv, P, a, b, c, fun j hj => ⟨d j hj, a.lt j hj⟩⟩
/-- a block of other things is none of its -/
theorem HAt.but {F : Nat → Prop} {w : World} {B n : Nat} {T : List It} (h : HAt w B n F T) {k : Nat} {cur : Array Value} {e : TypeId} (hk : w.heap[k]? = some (.cells cur e (0, 0))) (h1 : e ≠ 99) (h2 : e ≠ 71) (h3 : e ≠ 21) : HAt w B n (fun j => F j ∧ j ≠ k) T := by
  obtain ⟨tv, pv, P, a, b, c, d⟩ := h
  refine ⟨tv, pv, P, a, b, c, fun j hj => ⟨d j hj, ?_⟩⟩
  rcases hj with rfl | hj | hj
  · rintro rfl; rw [a.obj] at hk; simp at hk; exact h1 hk.2.symm
  · exact a.t.neObj hk (fun e => h2 e.symm) j hj
  · exact a.p.neObj hk (fun e => h3 e.symm) j hj
theorem HAt.n_le {F : Nat → Prop} {w : World} {B n : Nat} {T : List It} (h : HAt w B n F T) : n ≤ 4194304 := by
  obtain ⟨tv, pv, P, a, b, c, d⟩ := h; exact c
theorem HAt.uniq {F : Nat → Prop} {w : World} {B n : Nat} {T : List It} (h : HAt w B n F T) {x y : It} (hx : x ∈ T) (hy : y ∈ T) (he : x.1 = y.1) : x = y := by
  obtain ⟨tv, pv, P, a, b, c, d⟩ := h
  obtain ⟨i, hi⟩ := List.mem_iff_getElem?.1 hx
  obtain ⟨j, hj⟩ := List.mem_iff_getElem?.1 hy
  obtain rfl := b.inj hi hj he
  rw [hi] at hj; cases hj; rfl
theorem HAt.id_lt {F : Nat → Prop} {w : World} {B n : Nat} {T : List It} (h : HAt w B n F T) {x : It} (hx : x ∈ T) : x.1 < n := by
  obtain ⟨tv, pv, P, a, b, c, d⟩ := h
  obtain ⟨i, hi⟩ := List.mem_iff_getElem?.1 hx
  exact b.id_lt hi
theorem HAt.len_le {F : Nat → Prop} {w : World} {B n : Nat} {T : List It} (h : HAt w B n F T) : T.length ≤ n := by
  obtain ⟨tv, pv, P, a, b, c, d⟩ := h; exact b.len

theorem lenH {w : World} {B n : Nat} {F : Nat → Prop} {T : List It} (h : HAt w B n F T) :
    Calls Try.prog 62 #[.pointer (some ⟨B, 0, none⟩)] w fun e w' => e = .returned (.int .i64 (T.length : Int)) ∧ w' = w := by
  obtain ⟨tv, pv, P, a, b, c, d⟩ := h
  exact len_walk w B tv pv T P a

set_option maxHeartbeats 1000000 in
theorem peekH {w : World} {B n : Nat} {F : Nat → Prop} {T : List It} (h : HAt w B n F T) :
    Calls Try.prog 56 #[.pointer (some ⟨B, 0, none⟩)] w fun e w' => HAt w' B n F T ∧ Turn (fun _ => False) w w' ∧ ((T = [] ∧ e = .returned (.tuple #[itV (0, 0), .bool false])) ∨ ∃ x T2, T = x :: T2 ∧ (∀ y ∈ T, ¬ bef y x) ∧ e = .returned (.tuple #[itV x, .bool true])) := by
  obtain ⟨tv, pv, P, a, b, c, d⟩ := h
  have ta := (Turn.refl (fun _ => False) w).alloc (.cells #[.int .i64 0, .int .i64 0] 71)
  have a' := a.quiet ta
  have hl := len_walk _ B tv pv T P a'
  cases T with
  | nil =>
    go_enter Try.func56, Try.ntmps56
    go_wp2_with (go_at_call 62; refine hl.mono ?_; rintro e w1 ⟨rfl, rfl⟩)
    exact bodyPost_ret (v := .tuple #[.agg #[.int .i64 0, .int .i64 0], .bool false]) (by simp [results, Try.results56, go_sem]) rfl ⟨⟨tv, pv, P, a', b, c, d⟩, ta, .inl (by simp [itV])⟩
  | cons x T2 =>
    obtain ⟨g, off, cap, rfl⟩ := a.tform (by simp)
    have f0 : (w.alloc (.cells #[.int .i64 0, .int .i64 0] 71)).cell? ⟨B, 0, none⟩ = some (.slice (some ⟨g, off, none⟩) (x :: T2).length cap) := cell_obj a'.obj 0
    obtain ⟨x0, x1⟩ := a'.tcell (k := 0) (y := x) rfl
    rw [show off + 0 * 2 = off by omega] at x0 x1
    have hm := b.first (x := x) rfl
    have Hm := hide hm
    have hne : (((x :: T2).length : Int) == 0) = false := by rw [beq_eq_false_iff_ne]; simp; omega
    have hpos : 0 < (x :: T2).length := by simp
    have ta2 := (Turn.refl (fun _ => False) w).alloc (.cells #[.int .i64 (x.1 : Int), .int .i64 x.2] 71)
    have A := hide (show HAt (w.alloc (.cells #[.int .i64 (x.1 : Int), .int .i64 x.2] 71)) B n F (x :: T2) from ⟨_, pv, P, a.quiet ta2, b, c, d⟩)
    clear hm a' a b d c
    generalize hTT : (x :: T2).length = L at *
    go_enter Try.func56, Try.ntmps56
    go_wp2_with (go_at_call 62; refine hl.mono ?_; rintro e w1 ⟨rfl, rfl⟩)
    exact bodyPost_ret (v := .tuple #[.agg #[.int .i64 (x.1 : Int), .int .i64 x.2], .bool true]) (by simp [results, Try.results56, go_sem]) rfl ⟨unhide A, ta2, .inr ⟨x, T2, rfl, unhide Hm, rfl⟩⟩

theorem placeH {w : World} {B n : Nat} {F : Nat → Prop} {T : List It} (h : HAt w B n F T) (id : Int) :
    Calls Try.prog 68 #[.pointer (some ⟨B, 0, none⟩), .int .i64 id] w fun e w' => w' = w ∧
      ((∃ (i k : Nat) (r : Int), id = i ∧ T[k]? = some (i, r) ∧ e = .returned (.tuple #[.int .i64 (k : Int), .bool true])) ∨
       ((∀ (i : Nat) (r : Int), id = i → (i, r) ∉ T) ∧ e = .returned (.tuple #[.int .i64 0, .bool false]))) := by
  obtain ⟨tv, pv, P, a, b, c, d⟩ := h
  exact place_walk w B tv pv T P a ⟨n, b⟩ id (by rw [b.pl]; exact c)
theorem place_in {w : World} {B n : Nat} {F : Nat → Prop} {T : List It} (h : HAt w B n F T) {k i : Nat} {r : Int} (hk : T[k]? = some (i, r)) :
    Calls Try.prog 68 #[.pointer (some ⟨B, 0, none⟩), .int .i64 (i : Int)] w fun e w' => e = .returned (.tuple #[.int .i64 (k : Int), .bool true]) ∧ w' = w := by
  refine (placeH h i).mono ?_
  rintro e w' ⟨rfl, ⟨i', k', r', hi, hk', rfl⟩ | ⟨hn, rfl⟩⟩
  · obtain rfl : i = i' := by omega
    obtain ⟨tv, pv, P, a, b, c, d⟩ := h
    rw [b.inj hk hk' rfl]
    exact ⟨rfl, rfl⟩
  · exact absurd (List.mem_of_getElem? hk) (hn i r rfl)
theorem place_out {w : World} {B n : Nat} {F : Nat → Prop} {T : List It} (h : HAt w B n F T) {id : Int} (hn : ∀ (i : Nat) (r : Int), id = i → (i, r) ∉ T) :
    Calls Try.prog 68 #[.pointer (some ⟨B, 0, none⟩), .int .i64 id] w fun e w' => e = .returned (.tuple #[.int .i64 0, .bool false]) ∧ w' = w := by
  refine (placeH h id).mono ?_
  rintro e w' ⟨rfl, ⟨i', k', r', hi, hk', rfl⟩ | ⟨hn, rfl⟩⟩
  · exact absurd (List.mem_of_getElem? hk') (hn i' r' hi)
  · exact ⟨rfl, rfl⟩
/-- a thing is in, or none of that number -/
theorem in_or_out (T : List It) (id : Int) : (∃ (i k : Nat) (r : Int), id = i ∧ T[k]? = some (i, r)) ∨ ∀ (i : Nat) (r : Int), id = i → (i, r) ∉ T := by
  by_cases h : ∃ (i : Nat) (r : Int), id = i ∧ (i, r) ∈ T
  · obtain ⟨i, r, h1, h2⟩ := h
    obtain ⟨k, hk⟩ := List.mem_iff_getElem?.1 h2
    exact .inl ⟨i, k, r, h1, hk⟩
  · exact .inr (fun i r h1 h2 => h ⟨i, r, h1, h2⟩)
theorem hasH {w : World} {B n : Nat} {F : Nat → Prop} {T : List It} (h : HAt w B n F T) (id : Int) :
    Calls Try.prog 67 #[.pointer (some ⟨B, 0, none⟩), .int .i64 id] w fun e w' => e = .returned (.bool (decide (0 ≤ id ∧ id < n))) ∧ w' = w := by
  obtain ⟨tv, pv, P, a, b, c, d⟩ := h
  have := has_walk w B tv pv T P a id (by rw [b.pl]; exact c)
  rwa [b.pl] at this
/-- without the things of one number -/
def Less (T T' : List It) (i : Nat) : Prop := T'.length + 1 = T.length ∧ ∀ u, u ∈ T' ↔ u ∈ T ∧ u.1 ≠ i
theorem takeH {w : World} {B n : Nat} {F : Nat → Prop} {T : List It} (h : HAt w B n F T) {k : Nat} {y : It} (hk : T[k]? = some y) :
    Calls Try.prog 57 #[.pointer (some ⟨B, 0, none⟩), .int .i64 (k : Int)] w fun e w' => e = .returned (.tuple #[]) ∧ Turn F w w' ∧ ∃ T', HAt w' B n F T' ∧ Less T T' y.1 := by
  obtain ⟨tv, pv, P, a, b, c, d⟩ := h
  refine (takeOut_walk w B tv pv T P a n k y b hk c).mono ?_
  rintro e w' ⟨rfl, tv', T', P', h1, h2, h3, h4, h5, h6⟩
  refine ⟨rfl, h6.mono d, T', ⟨tv', pv, P', h1, h3, c, fun j hj => d j ?_⟩, h4, h5⟩
  rcases hj with hj | hj | hj
  · exact .inl hj
  · exact .inr (.inl (by rw [← h2]; exact hj))
  · exact .inr (.inr hj)
/-- with one thing more, or another rank of it -/
def With (T T' : List It) (x : It) : Prop := ∀ u, u ∈ T' ↔ u = x ∨ u ∈ T ∧ u.1 ≠ x.1

set_option maxHeartbeats 1000000 in
theorem popH {w : World} {B n : Nat} {F : Nat → Prop} {T : List It} (h : HAt w B n F T) :
    Calls Try.prog 48 #[.pointer (some ⟨B, 0, none⟩)] w fun e w' => Turn F w w' ∧ ((T = [] ∧ HAt w' B n F [] ∧ e = .returned (.tuple #[itV (0, 0), .bool false])) ∨ ∃ x T', x ∈ T ∧ (∀ y ∈ T, ¬ bef y x) ∧ HAt w' B n F T' ∧ Less T T' x.1 ∧ e = .returned (.tuple #[itV x, .bool true])) := by
  have ta := (Turn.refl (fun _ => False) w).alloc (.cells #[.int .i64 0, .int .i64 0] 71)
  have a := h.old.quiet ta
  have FF : ∀ j, (F j ∧ j < w.heap.size) → F j := fun j hj => hj.1
  have Hp := peekH a
  have b0 : (w.alloc (.cells #[.int .i64 0, .int .i64 0] 71)).heap[w.heap.size]? = some (.cells #[.int .i64 0, .int .i64 0] 71 (0, 0)) := heap_alloc_new w _
  have hsF : ¬ (F w.heap.size ∧ w.heap.size < w.heap.size) := fun h => by omega
  generalize hs : w.heap.size = s at *
  cases T with
  | nil =>
    go_enter Try.func48, Try.ntmps48
    go_wp2_with fail
    refine Hp.mono ?_
    rintro e w1 ⟨h1, t1, hc⟩
    rcases hc with ⟨_, rfl⟩ | ⟨x, T2, hx, _⟩
    case inr => cases hx
    unfold itV
    have t2 := t1.alloc (.cells #[.int .i64 0, .int .i64 0] 71)
    have b2 := t2.same b0 (fun h => h)
    have sz2 : s < w1.heap.size := by
      have := (Array.getElem?_eq_some_iff.1 (t1.same b0 (fun h => h))).1; exact this
    have ss : s < (w1.alloc (.cells #[.int .i64 0, .int .i64 0] 71)).heap.size := (Array.getElem?_eq_some_iff.1 b2).1
    have b1 : w1.heap[s]? = some (.cells #[.int .i64 0, .int .i64 0] 71 (0, 0)) := t1.same b0 (fun h => h)
    have b3 := heap_setCell_obj (j := 0) b1 (.int .i64 0)
    have b4 := heap_setCell_obj (j := 1) b3 (.int .i64 0)
    have s3 : s < (w1.setCell ⟨s, 0, none⟩ (.int .i64 0)).heap.size := (Array.getElem?_eq_some_iff.1 b3).1
    have s4 : s < ((w1.setCell ⟨s, 0, none⟩ (.int .i64 0)).setCell ⟨s, 1, none⟩ (.int .i64 0)).heap.size := (Array.getElem?_eq_some_iff.1 b4).1
    have b5 := ((Turn.refl (fun _ => False) (w1.setCell ⟨s, 0, none⟩ (.int .i64 0))).alloc (.cells #[.int .i64 0, .int .i64 0] 71)).same b3 (fun h => h)
    have b6 := ((Turn.refl (fun _ => False) ((w1.setCell ⟨s, 0, none⟩ (.int .i64 0)).setCell ⟨s, 1, none⟩ (.int .i64 0))).alloc (.cells #[.int .i64 0, .int .i64 0] 71)).same b4 (fun h => h)
    have c0 : (w1.alloc (.cells #[.int .i64 0, .int .i64 0] 71)).cell? ⟨s, 0, none⟩ = some (.int .i64 0) := cell_obj b2 0
    have c1 : (w1.alloc (.cells #[.int .i64 0, .int .i64 0] 71)).cell? ⟨s, 1, none⟩ = some (.int .i64 0) := cell_obj b2 1
    have z0 : (w1.alloc (.cells #[.int .i64 0, .int .i64 0] 71)).frozen? ⟨s, 0, none⟩ = false := frozen_obj b2 _
    have z1 : ((w1.setCell ⟨s, 0, none⟩ (.int .i64 0)).alloc (.cells #[.int .i64 0, .int .i64 0] 71)).frozen? ⟨s, 1, none⟩ = false := frozen_obj b5 _
    have d1 : ((w1.setCell ⟨s, 0, none⟩ (.int .i64 0)).alloc (.cells #[.int .i64 0, .int .i64 0] 71)).cell? ⟨s, 1, none⟩ = some (.int .i64 0) := by rw [cell_obj b5 1]; rfl
    have e0 : (((w1.setCell ⟨s, 0, none⟩ (.int .i64 0)).setCell ⟨s, 1, none⟩ (.int .i64 0)).alloc (.cells #[.int .i64 0, .int .i64 0] 71)).cell? ⟨s, 0, none⟩ = some (.int .i64 0) := by rw [cell_obj b6 0]; rfl
    have e1 : (((w1.setCell ⟨s, 0, none⟩ (.int .i64 0)).setCell ⟨s, 1, none⟩ (.int .i64 0)).alloc (.cells #[.int .i64 0, .int .i64 0] 71)).cell? ⟨s, 1, none⟩ = some (.int .i64 0) := by rw [cell_obj b6 1]; rfl
    have T5 : Turn (fun j => j = s) w1 (((w1.setCell ⟨s, 0, none⟩ (.int .i64 0)).setCell ⟨s, 1, none⟩ (.int .i64 0)).alloc (.cells #[.int .i64 0, .int .i64 0] 71)) := (((Turn.refl (fun j => j = s) w1).setCell (p := ⟨s, 0, none⟩) (.inl rfl) _).setCell (p := ⟨s, 1, none⟩) (.inl rfl) _).alloc _
    have T6 : Turn F w (((w1.setCell ⟨s, 0, none⟩ (.int .i64 0)).setCell ⟨s, 1, none⟩ (.int .i64 0)).alloc (.cells #[.int .i64 0, .int .i64 0] 71)) := ((ta.then t1).mono (fun _ h => h.elim)).trans T5 (fun j hj => .inr (by omega))
    have h6 := h1.turn T5 (fun j hj e => by omega)
    clear b3 b4 b5 b6 b1 T5 a Hp b0 ta t1 b2 h1 t2 h
    go_wp2_with fail
    exact bodyPost_ret (v := .tuple #[.agg #[.int .i64 0, .int .i64 0], .bool false]) (by simp [results, Try.results48, go_sem, e0, e1]) rfl ⟨T6, .inl (by simp [itV]; exact h6.mono FF)⟩
  | cons x T2 =>
    go_enter Try.func48, Try.ntmps48
    go_wp2_with fail
    refine Hp.mono ?_
    rintro e w1 ⟨h1, t1, hc⟩
    rcases hc with ⟨h0, rfl⟩ | ⟨x', T2', hx, hmin, rfl⟩
    case inl => cases h0
    cases hx
    unfold itV
    have t2 := t1.alloc (.cells #[.int .i64 (x.1 : Int), .int .i64 x.2] 71)
    have h2 := h1.quiet ((Turn.refl (fun _ => False) w1).alloc (.cells #[.int .i64 (x.1 : Int), .int .i64 x.2] 71))
    have b2 := t2.same b0 (fun h => h)
    have sz2 : s < w1.heap.size := by
      have := (Array.getElem?_eq_some_iff.1 (t1.same b0 (fun h => h))).1; exact this
    have k2 : (w1.alloc (.cells #[.int .i64 (x.1 : Int), .int .i64 x.2] 71)).heap[w1.heap.size]? = some (.cells #[.int .i64 (x.1 : Int), .int .i64 x.2] 71 (0, 0)) := heap_alloc_new w1 _
    have hmin' := hide hmin
    clear hmin
    go_wp2_with (go_at_call 57; refine (takeH h2 (k := 0) (y := x) rfl).mono ?_; rintro e w3 ⟨rfl, t3, T', h3, hl⟩; have b3 := t3.same b2 hsF; have k3 := t3.same k2 (fun h => by omega); have c0 := cell_obj b3 0; have c1 := cell_obj b3 1; have z0 := frozen_obj b3 0; have z1 := frozen_obj b3 1; have y0 := cell_obj k3 0; have y1 := cell_obj k3 1; simp at c0 c1 y0 y1)
    have b4 := heap_setCell_obj (j := 1) (heap_setCell_obj (j := 0) b3 (.int .i64 (x.1 : Int))) (.int .i64 x.2)
    have e0 : ((w3.setCell ⟨s, 0, none⟩ (.int .i64 (x.1 : Int))).setCell ⟨s, 1, none⟩ (.int .i64 x.2)).cell? ⟨s, 0, none⟩ = some (.int .i64 (x.1 : Int)) := by rw [cell_obj b4 0]; rfl
    have e1 : ((w3.setCell ⟨s, 0, none⟩ (.int .i64 (x.1 : Int))).setCell ⟨s, 1, none⟩ (.int .i64 x.2)).cell? ⟨s, 1, none⟩ = some (.int .i64 x.2) := by rw [cell_obj b4 1]; rfl
    have T5 : Turn (fun j => j = s) w3 ((w3.setCell ⟨s, 0, none⟩ (.int .i64 (x.1 : Int))).setCell ⟨s, 1, none⟩ (.int .i64 x.2)) := (((Turn.refl (fun j => j = s) w3).setCell (p := ⟨s, 0, none⟩) (.inl rfl) _).setCell (p := ⟨s, 1, none⟩) (.inl rfl) _)
    have T6 : Turn F w ((w3.setCell ⟨s, 0, none⟩ (.int .i64 (x.1 : Int))).setCell ⟨s, 1, none⟩ (.int .i64 x.2)) := (((ta.then t2).mono (fun _ h => h.elim)).then (t3.mono FF)).trans T5 (fun j hj => .inr (by omega))
    have h6 := h3.turn T5 (fun j hj e => by omega)
    exact bodyPost_ret (v := .tuple #[.agg #[.int .i64 (x.1 : Int), .int .i64 x.2], .bool true]) (by simp [results, Try.results48, go_sem, e0, e1]) rfl ⟨T6, .inr ⟨x, T', by simp, unhide hmin', h6.mono FF, hl, rfl⟩⟩

set_option maxHeartbeats 1000000 in
theorem lowerH {w : World} {B n : Nat} {F : Nat → Prop} {T : List It} (h : HAt w B n F T) (id rank : Int) :
    Calls Try.prog 59 #[.pointer (some ⟨B, 0, none⟩), .int .i64 id, .int .i64 rank] w fun e w' => Turn F w w' ∧
      ((¬ (0 ≤ id ∧ id < n) ∧ HAt w' B n F T ∧ e = .returned (.int .i64 1)) ∨
       ((0 ≤ id ∧ id < n) ∧ (∀ (i : Nat) (r : Int), id = i → (i, r) ∉ T) ∧ HAt w' B n F T ∧ e = .returned (.int .i64 6)) ∨
       (∃ (i : Nat) (r : Int), id = i ∧ (i, r) ∈ T ∧ r < rank ∧ HAt w' B n F T ∧ e = .returned (.int .i64 7)) ∨
       ∃ (i : Nat) (r : Int) (T' : List It), id = i ∧ (i, r) ∈ T ∧ rank ≤ r ∧ HAt w' B n F T' ∧ T'.length = T.length ∧ With T T' (i, rank) ∧ e = .returned (.int .i64 0)) := by
  have hh := hasH h id
  by_cases hi : 0 ≤ id ∧ id < n
  · rw [decide_eq_true hi] at hh
    rcases in_or_out T id with ⟨i, k, r, rfl, hk⟩ | hn
    · have hp := place_in h hk
      have Hm := hide (List.mem_of_getElem? hk)
      have hkl := (List.getElem?_eq_some_iff.1 hk).1
      have h' := hide h
      obtain ⟨tv, pv, P, a, b, c, d⟩ := h
      obtain ⟨g, off, cap, rfl⟩ := a.tform (by omega)
      have f0 : w.cell? ⟨B, 0, none⟩ = some (.slice (some ⟨g, off, none⟩) T.length cap) := cell_obj a.obj 0
      obtain ⟨x0, x1⟩ := a.tcell hk
      by_cases hr : rank ≤ r
      · obtain ⟨c1, c2, c3⟩ := b.lower hk hr
        have hrise : Calls Try.prog 65 #[.pointer (some ⟨B, 0, none⟩), .int .i64 (k : Int), .agg #[.int .i64 (i : Int), .int .i64 rank]] w fun e' w' => e' = .returned (.tuple #[]) ∧ ∃ T' P', HMem w' B (.slice (some ⟨g, off, none⟩) T.length cap) pv T' P' ∧ Filled n T k (i, rank) T' P' ∧ Turn (HFoot B (.slice (some ⟨g, off, none⟩) T.length cap) pv) w w' := rise_walk w B _ pv T P a n k (i, rank) c1 c2 c b.len
        have C3 := hide c3
        have D := hide d
        clear a b d hk c1 c2 c3 hi
        go_enter Try.func59, Try.ntmps59
        go_wp2_with (first
          | (go_at_call 67; refine hh.mono ?_; rintro e w1 ⟨rfl, rfl⟩)
          | (go_at_call 68; refine hp.mono ?_; rintro e w1 ⟨rfl, rfl⟩)
          | (go_at_call 65; refine hrise.mono ?_; rintro e w1 ⟨rfl, T', P', hM, hF, t1⟩))
        go_ret
        exact ⟨t1.mono (unhide D), .inr (.inr (.inr ⟨i, r, T', rfl, unhide Hm, hr, ⟨_, pv, P', hM, hF.1, c, unhide D⟩, hF.2.1, fun u => by rw [hF.2.2 u, unhide C3 u], rfl⟩))⟩
      · clear a b d hk hi
        go_enter Try.func59, Try.ntmps59
        go_wp2_with (first
          | (go_at_call 67; refine hh.mono ?_; rintro e w1 ⟨rfl, rfl⟩)
          | (go_at_call 68; refine hp.mono ?_; rintro e w1 ⟨rfl, rfl⟩))
        go_ret
        exact ⟨Turn.refl _ _, .inr (.inr (.inl ⟨i, r, rfl, unhide Hm, by omega, unhide h', rfl⟩))⟩
    · have hp := place_out h hn
      have Hn := hide hn
      have Hi := hide hi
      clear hn hi
      go_enter Try.func59, Try.ntmps59
      go_wp2_with (first
          | (go_at_call 67; refine hh.mono ?_; rintro e w1 ⟨rfl, rfl⟩)
          | (go_at_call 68; refine hp.mono ?_; rintro e w1 ⟨rfl, rfl⟩))
      go_ret
      exact ⟨Turn.refl _ _, .inr (.inl ⟨unhide Hi, unhide Hn, h, rfl⟩)⟩
  · rw [decide_eq_false hi] at hh
    have Hi := hide hi
    clear hi
    go_enter Try.func59, Try.ntmps59
    go_wp2_with (go_at_call 67; refine hh.mono ?_; rintro e w1 ⟨rfl, rfl⟩)
    go_ret
    exact ⟨Turn.refl _ _, .inl ⟨unhide Hi, h, rfl⟩⟩
end Go.Proofs.Ytombpfpfeebnpaa
