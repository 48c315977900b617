/- What the law of plays keeps: seven variables that its closure shares, slots and their disk, two texts. -/
import Derived.Test.YtodnnblnchjeiaaVAwake
import Derived.Test.YtodnnblnchjeiaaVSpoil
import Derived.Test.YtodnnblnchjeiaaDStart
import Derived.Test.YtodnnblnchjeiaaBOwn
import Derived.Test.YtodnnblnchjeiaaVOps
namespace Go.Proofs.Ytodnnblnchjeiaa
open Go.RowKit Go.Maps
set_option linter.unusedVariables false
set_option linter.unusedSimpArgs false

/-- the variables' blocks -/
structure Vars where
  d : Nat
  s : Nat
  l : Nat
  x : Nat
  n : Nat
  u : Nat
  w : Nat
def Vars.list (V : Vars) : List Nat := [V.d, V.s, V.l, V.x, V.n, V.u, V.w]
/-- what they hold -/
structure Vals where
  D : Nat
  X : Nat
  l : Value
  x : Value
  n : Nat
  u : Bool
  w : Bool
structure Cells7 (w : World) (V : Vars) (A : Vals) : Prop where
  d : w.heap[V.d]? = some (.cells #[.pointer (some ⟨A.D, 0, none⟩)] 24 (0, 0))
  s : w.heap[V.s]? = some (.cells #[.pointer (some ⟨A.X, 0, none⟩)] 28 (0, 0))
  l : w.heap[V.l]? = some (.cells #[A.l] 32 (0, 0))
  x : w.heap[V.x]? = some (.cells #[A.x] 32 (0, 0))
  n : w.heap[V.n]? = some (.cells #[.int .u64 (A.n : Int)] 33 (0, 0))
  u : w.heap[V.u]? = some (.cells #[.bool A.u] 4 (0, 0))
  w : w.heap[V.w]? = some (.cells #[.bool A.w] 4 (0, 0))
theorem Cells7.turn {F : Nat → Prop} {w w' : World} {V : Vars} {A : Vals} (h : Cells7 w V A) (T : Turn F w w') (hF : ∀ j ∈ V.list, ¬ F j) : Cells7 w' V A :=
  ⟨T.same h.d (hF _ (by simp [Vars.list])), T.same h.s (hF _ (by simp [Vars.list])), T.same h.l (hF _ (by simp [Vars.list])), T.same h.x (hF _ (by simp [Vars.list])), T.same h.n (hF _ (by simp [Vars.list])), T.same h.u (hF _ (by simp [Vars.list])), T.same h.w (hF _ (by simp [Vars.list]))⟩
theorem Cells7.lt {w : World} {V : Vars} {A : Vals} (h : Cells7 w V A) : ∀ j ∈ V.list, j < w.heap.size := by
  intro j hj
  simp only [Vars.list, List.mem_cons, List.not_mem_nil, or_false] at hj
  rcases hj with rfl | rfl | rfl | rfl | rfl | rfl | rfl
  · exact (Array.getElem?_eq_some_iff.1 h.d).1
  · exact (Array.getElem?_eq_some_iff.1 h.s).1
  · exact (Array.getElem?_eq_some_iff.1 h.l).1
  · exact (Array.getElem?_eq_some_iff.1 h.x).1
  · exact (Array.getElem?_eq_some_iff.1 h.n).1
  · exact (Array.getElem?_eq_some_iff.1 h.u).1
  · exact (Array.getElem?_eq_some_iff.1 h.w).1
/-- one variable's store -/
theorem one_set {w : World} {r : Nat} {a : Value} {T : TypeId} (h : w.heap[r]? = some (.cells #[a] T (0, 0))) (b : Value) : (w.setCell ⟨r, 0, none⟩ b).heap[r]? = some (.cells #[b] T (0, 0)) ∧ Turn (fun j => j = r) w (w.setCell ⟨r, 0, none⟩ b) := by
  refine ⟨?_, (Turn.refl (fun j => j = r) w).setCell (p := ⟨r, 0, none⟩) (.inl rfl) _⟩
  rw [heap_setCell_obj (j := 0) h b]; rfl

/-- the variables, slots and their disk, the two texts; in blocks that w0 had not -/
structure Env (w0 w : World) (V : Vars) (A : Vals) (x : Sl) (S : Dk) (L B : List Int) : Prop where
  nd : V.list.Nodup
  cells : Cells7 w V A
  ge : ∀ j ∈ V.list, w0.heap.size ≤ j
  held : ∃ H M, VAt w H A.X A.D x S ∧ Row .u8 M w A.l L ∧ Row .u8 M w A.x B ∧ (∀ j, H j → w0.heap.size ≤ j ∧ j < w.heap.size ∧ j ∉ V.list) ∧ (∀ j, M j → w0.heap.size ≤ j ∧ j < w.heap.size ∧ j ∉ V.list ∧ ¬ H j)
  turn : Turn (fun j => w0.heap.size ≤ j) w0 w
/-- what turns nothing old, or new blocks alone -/
theorem Env.calm {w0 w w' : World} {V : Vars} {A : Vals} {x : Sl} {S : Dk} {L B : List Int} (h : Env w0 w V A x S L B) (T : Turn (fun _ => False) w w') : Env w0 w' V A x S L B := by
  obtain ⟨H, M, v, r1, r2, hH, hM⟩ := h.held
  have s := T.size
  exact ⟨h.nd, h.cells.turn T (fun _ _ h => h), h.ge, ⟨H, M, v.same T, r1.turn T (fun _ _ h => h), r2.turn T (fun _ _ h => h), fun j hj => ⟨(hH j hj).1, by have := (hH j hj).2.1; omega, (hH j hj).2.2⟩, fun j hj => ⟨(hM j hj).1, by have := (hM j hj).2.1; omega, (hM j hj).2.2⟩⟩, h.turn.then (T.mono (fun _ h => h.elim))⟩
/-- a call that turns the slots' blocks, and makes new ones -/
theorem Env.step {w0 w w' : World} {V : Vars} {A : Vals} {x x' : Sl} {S S' : Dk} {L B : List Int} (nd : V.list.Nodup) (cells : Cells7 w V A) (ge : ∀ j ∈ V.list, w0.heap.size ≤ j) (turn : Turn (fun j => w0.heap.size ≤ j) w0 w)
    {H M : Nat → Prop} (r1 : Row .u8 M w A.l L) (r2 : Row .u8 M w A.x B) (hH : ∀ j, H j → w0.heap.size ≤ j ∧ j < w.heap.size ∧ j ∉ V.list) (hM : ∀ j, M j → w0.heap.size ≤ j ∧ j < w.heap.size ∧ j ∉ V.list ∧ ¬ H j)
    (T : Turn H w w') (v : VAt w' (NF w H) A.X A.D x' S') : Env w0 w' V A x' S' L B := by
  have s := T.size
  have s0 := turn.size
  refine ⟨nd, cells.turn T (fun j hj hh => (hH j hh).2.2 hj), ge, ⟨fun j => NF w H j ∧ j < w'.heap.size, M, v.mono (fun j hj hl => ⟨hj, hl⟩), r1.turn T (fun b hb => (hM b hb).2.2.2), r2.turn T (fun b hb => (hM b hb).2.2.2), ?_, ?_⟩, turn.then (T.mono (fun j hj => (hH j hj).1))⟩
  · rintro j ⟨hj | hj, hl⟩
    · exact ⟨(hH j hj).1, hl, (hH j hj).2.2⟩
    · exact ⟨by omega, hl, fun hv => by have := cells.lt j hv; omega⟩
  · intro j hj
    refine ⟨(hM j hj).1, by have := (hM j hj).2.1; omega, (hM j hj).2.2.1, ?_⟩
    rintro ⟨hh | hh, _⟩
    · exact (hM j hj).2.2.2 hh
    · have := (hM j hj).2.1; omega
/-- the variables written: all else is as it was -/
theorem Env.put {w0 w w' : World} {V : Vars} {A : Vals} {x : Sl} {S : Dk} {L B : List Int} (nd : V.list.Nodup) (ge : ∀ j ∈ V.list, w0.heap.size ≤ j) (c : Cells7 w' V A) (turn : Turn (fun j => w0.heap.size ≤ j) w0 w) (T : Turn (fun j => j ∈ V.list) w w')
    {H M : Nat → Prop} (v : VAt w H A.X A.D x S) (r1 : Row .u8 M w A.l L) (r2 : Row .u8 M w A.x B) (hH : ∀ j, H j → w0.heap.size ≤ j ∧ j < w.heap.size ∧ j ∉ V.list) (hM : ∀ j, M j → w0.heap.size ≤ j ∧ j < w.heap.size ∧ j ∉ V.list ∧ ¬ H j) : Env w0 w' V A x S L B := by
  have s := T.size
  exact ⟨nd, c, ge, ⟨H, M, v.turn T (fun j hj => (hH j hj).2.2), r1.turn T (fun b hb => (hM b hb).2.2.1), r2.turn T (fun b hb => (hM b hb).2.2.1), fun j hj => ⟨(hH j hj).1, by have := (hH j hj).2.1; omega, (hH j hj).2.2⟩, fun j hj => ⟨(hM j hj).1, by have := (hM j hj).2.1; omega, (hM j hj).2.2⟩⟩, turn.then (T.mono (fun j hj => ge j hj))⟩
/-- each variable's store -/
theorem Cells7.ne {V : Vars} (nd : V.list.Nodup) : V.d ≠ V.s ∧ V.d ≠ V.l ∧ V.d ≠ V.x ∧ V.d ≠ V.n ∧ V.d ≠ V.u ∧ V.d ≠ V.w ∧ V.s ≠ V.l ∧ V.s ≠ V.x ∧ V.s ≠ V.n ∧ V.s ≠ V.u ∧ V.s ≠ V.w ∧ V.l ≠ V.x ∧ V.l ≠ V.n ∧ V.l ≠ V.u ∧ V.l ≠ V.w ∧ V.x ≠ V.n ∧ V.x ≠ V.u ∧ V.x ≠ V.w ∧ V.n ≠ V.u ∧ V.n ≠ V.w ∧ V.u ≠ V.w := by
  simp only [Vars.list, List.nodup_cons, List.mem_cons, List.not_mem_nil, or_false, not_or] at nd
  obtain ⟨⟨a1, a2, a3, a4, a5, a6⟩, ⟨b1, b2, b3, b4, b5⟩, ⟨c1, c2, c3, c4⟩, ⟨d1, d2, d3⟩, ⟨e1, e2⟩, f1, _⟩ := nd
  exact ⟨a1, a2, a3, a4, a5, a6, b1, b2, b3, b4, b5, c1, c2, c3, c4, d1, d2, d3, e1, e2, f1⟩
theorem Cells7.setS {w : World} {V : Vars} {A : Vals} (h : Cells7 w V A) (nd : V.list.Nodup) (X : Nat) : Cells7 (w.setCell ⟨V.s, 0, none⟩ (.pointer (some ⟨X, 0, none⟩))) V { A with X := X } := by
  obtain ⟨a1, a2, a3, a4, a5, a6, b1, b2, b3, b4, b5, c1, c2, c3, c4, d1, d2, d3, e1, e2, f1⟩ := Cells7.ne nd
  obtain ⟨k, T⟩ := one_set h.s (.pointer (some ⟨X, 0, none⟩))
  exact ⟨T.same h.d a1, k, T.same h.l (Ne.symm b1), T.same h.x (Ne.symm b2), T.same h.n (Ne.symm b3), T.same h.u (Ne.symm b4), T.same h.w (Ne.symm b5)⟩
theorem Cells7.setL {w : World} {V : Vars} {A : Vals} (h : Cells7 w V A) (nd : V.list.Nodup) (v : Value) : Cells7 (w.setCell ⟨V.l, 0, none⟩ v) V { A with l := v } := by
  obtain ⟨a1, a2, a3, a4, a5, a6, b1, b2, b3, b4, b5, c1, c2, c3, c4, d1, d2, d3, e1, e2, f1⟩ := Cells7.ne nd
  obtain ⟨k, T⟩ := one_set h.l v
  exact ⟨T.same h.d a2, T.same h.s b1, k, T.same h.x (Ne.symm c1), T.same h.n (Ne.symm c2), T.same h.u (Ne.symm c3), T.same h.w (Ne.symm c4)⟩
theorem Cells7.setX {w : World} {V : Vars} {A : Vals} (h : Cells7 w V A) (nd : V.list.Nodup) (v : Value) : Cells7 (w.setCell ⟨V.x, 0, none⟩ v) V { A with x := v } := by
  obtain ⟨a1, a2, a3, a4, a5, a6, b1, b2, b3, b4, b5, c1, c2, c3, c4, d1, d2, d3, e1, e2, f1⟩ := Cells7.ne nd
  obtain ⟨k, T⟩ := one_set h.x v
  exact ⟨T.same h.d a3, T.same h.s b2, T.same h.l c1, k, T.same h.n (Ne.symm d1), T.same h.u (Ne.symm d2), T.same h.w (Ne.symm d3)⟩
theorem Cells7.setN {w : World} {V : Vars} {A : Vals} (h : Cells7 w V A) (nd : V.list.Nodup) (n : Nat) : Cells7 (w.setCell ⟨V.n, 0, none⟩ (.int .u64 (n : Int))) V { A with n := n } := by
  obtain ⟨a1, a2, a3, a4, a5, a6, b1, b2, b3, b4, b5, c1, c2, c3, c4, d1, d2, d3, e1, e2, f1⟩ := Cells7.ne nd
  obtain ⟨k, T⟩ := one_set h.n (.int .u64 (n : Int))
  exact ⟨T.same h.d a4, T.same h.s b3, T.same h.l c2, T.same h.x d1, k, T.same h.u (Ne.symm e1), T.same h.w (Ne.symm e2)⟩
theorem Cells7.setU {w : World} {V : Vars} {A : Vals} (h : Cells7 w V A) (nd : V.list.Nodup) (b : Bool) : Cells7 (w.setCell ⟨V.u, 0, none⟩ (.bool b)) V { A with u := b } := by
  obtain ⟨a1, a2, a3, a4, a5, a6, b1, b2, b3, b4, b5, c1, c2, c3, c4, d1, d2, d3, e1, e2, f1⟩ := Cells7.ne nd
  obtain ⟨k, T⟩ := one_set h.u (.bool b)
  exact ⟨T.same h.d a5, T.same h.s b4, T.same h.l c3, T.same h.x d2, T.same h.n e1, k, T.same h.w (Ne.symm f1)⟩
theorem Cells7.setW {w : World} {V : Vars} {A : Vals} (h : Cells7 w V A) (nd : V.list.Nodup) (b : Bool) : Cells7 (w.setCell ⟨V.w, 0, none⟩ (.bool b)) V { A with w := b } := by
  obtain ⟨a1, a2, a3, a4, a5, a6, b1, b2, b3, b4, b5, c1, c2, c3, c4, d1, d2, d3, e1, e2, f1⟩ := Cells7.ne nd
  obtain ⟨k, T⟩ := one_set h.w (.bool b)
  exact ⟨T.same h.d a6, T.same h.s b5, T.same h.l c4, T.same h.x d3, T.same h.n e2, T.same h.u f1, k⟩
theorem turn_var {w : World} {V : Vars} {r : Nat} (hr : r ∈ V.list) (b : Value) : Turn (fun j => j ∈ V.list) w (w.setCell ⟨r, 0, none⟩ b) :=
  (Turn.refl _ w).setCell (p := ⟨r, 0, none⟩) (.inl hr) _
end Go.Proofs.Ytodnnblnchjeiaa
