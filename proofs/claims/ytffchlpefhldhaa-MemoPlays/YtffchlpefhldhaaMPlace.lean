/- The law's own list: one distance more, or another one. -/
import Derived.Test.YtffchlpefhldhaaMLdrop
namespace Go.Proofs.Ytffchlpefhldhaa
open Go.RowKit Go.Maps
set_option linter.unusedVariables false

theorem place_some {L : List Ent} {a b : Int} (h : keyed L a b = true) : ∃ (k : Nat) (d : Int), place L a b = k ∧ k < L.length ∧ L[k]? = some (a, b, d) ∧ keyed (L.take k) a b = false := by
  induction L with
  | nil => simp [keyed] at h
  | cons e L ih =>
    cases he : isAt a b e
    · have h' : keyed L a b = true := by unfold keyed at h ⊢; rw [List.any_cons, he] at h; simpa using h
      obtain ⟨k, d, h1, h2, h3, h4⟩ := ih h'
      refine ⟨k + 1, d, ?_, by simp; omega, by simpa using h3, ?_⟩
      · unfold place; rw [he, h1]; simp; omega
      · unfold keyed at h4 ⊢; rw [List.take_succ_cons, List.any_cons, he, h4]; rfl
    · refine ⟨0, e.2.2, by unfold place; rw [he]; rfl, by simp, ?_, rfl⟩
      rw [isAt_iff] at he
      simp [← he.1, ← he.2]
theorem redo_set {L : List Ent} {a b d d0 : Int} {k : Nat} (hg : Good L) (h : L[k]? = some (a, b, d0)) : redo L a b d = L.set k (a, b, d) := by
  have hs := split_at h
  obtain ⟨hk, _⟩ := List.getElem?_eq_some_iff.1 h
  have hn := hg
  rw [hs] at hn
  have h1 := Good.not hn
  have e1 : redo (L.take k ++ (a, b, d0) :: L.drop (k + 1)) a b d = L.take k ++ (a, b, d) :: L.drop (k + 1) := by
    unfold redo
    rw [List.map_append, List.map_cons]
    have r1 := redo_none d h1.1
    have r2 := redo_none d h1.2
    unfold redo at r1 r2
    rw [r1, r2]
    simp [isAt]
  have e2 : L.set k (a, b, d) = L.take k ++ (a, b, d) :: L.drop (k + 1) := by rw [List.set_eq_take_append_cons_drop, if_pos hk]
  rw [e2, ← e1]
  exact congrArg (fun x => redo x a b d) hs
theorem ccells_set {L : List Ent} {a b d d0 : Int} : ∀ {k : Nat}, L[k]? = some (a, b, d0) → ccells (L.set k (a, b, d)) = (ccells L).set (k * 3 + 2) (.int .i64 d) := by
  induction L with
  | nil => intro k h; simp at h
  | cons e L ih =>
    intro k h
    cases k with
    | zero => simp at h; subst h; rfl
    | succ k =>
      have h' : L[k]? = some (a, b, d0) := by simpa using h
      rw [List.set_cons_succ, ccells_cons, ccells_cons, ih h', show (k + 1) * 3 + 2 = k * 3 + 2 + 3 by omega]
      rfl
/-- one cell of such a slice is another one now -/
theorem OwnSl.stored {w : World} {e : TypeId} {s n g off cap : Nat} {xs : List Value} (h : OwnSl w e s (.slice (some ⟨g, off, none⟩) n cap) n xs) {j : Nat} (hj : j < n * s) (u : Value) : OwnSl (w.setCell ⟨g, off + j, none⟩ u) e s (.slice (some ⟨g, off, none⟩) n cap) n (xs.set j u) := by
  refine ⟨by rw [List.length_set]; exact h.1, ?_⟩
  rcases h.2 with ⟨hv, _⟩ | ⟨g', o', c', cur, hv, hg, hnc, hcm, hfit, htk⟩
  · simp at hv
  simp only [Value.slice.injEq, Option.some.injEq, Addr.mk.injEq, and_true, true_and] at hv
  obtain ⟨⟨rfl, rfl⟩, rfl⟩ := hv
  have hle : n * s ≤ cap * s := Nat.mul_le_mul_right _ hnc
  refine .inr ⟨g, off, cap, _, rfl, heap_setCell_obj hg u, hnc, hcm, by simpa using hfit, ?_⟩
  apply List.ext_getElem?
  intro q
  have hq0 : (List.take (n * s) (List.drop off cur.toList))[q]? = xs[q]? := by rw [htk]
  rw [List.getElem?_take, List.getElem?_drop] at hq0 ⊢
  rw [List.getElem?_set]
  have hx := h.1
  by_cases hq : q < n * s
  · rw [if_pos hq] at hq0 ⊢
    by_cases he : j = q
    · subst he
      rw [if_pos rfl, if_pos (by omega)]
      simp [show off + j < cur.size by omega]
    · rw [if_neg he, ← hq0]
      have hne : off + j ≠ off + q := by omega
      simp
      rw [List.getElem?_set_ne hne]
      simp
  · rw [if_neg hq] at hq0 ⊢
    rw [if_neg (by omega)]
    exact hq0
/-- the law's list is none of the memo's blocks -/
theorem Mem.apart {w : World} {B bd bc k most : Nat} {qv lv : Value} {L : List Ent} {n s : Nat} {xs : List Value} (h : Mem w B bd bc qv k most L) (ho : OwnSl w 36 s lv n xs) : ∀ j, lv.ownBlock = some j → ¬ Foot B bd bc qv j := by
  obtain ⟨⟨D, od, _⟩, ⟨C, oc, _⟩⟩ := h.told
  rintro j hj (rfl | rfl | rfl | hq)
  · exact ho.neObj h.obj (by decide) _ hj rfl
  · exact ho.neMap od _ hj rfl
  · exact ho.neMap oc _ hj rfl
  · obtain ⟨c1, e1⟩ := ho.lt j hj
    obtain ⟨c2, e2⟩ := h.q.lt j hq
    rw [e1] at e2; cases e2
end Go.Proofs.Ytffchlpefhldhaa
