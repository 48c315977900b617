/- A journal in memory: its segments, their records; beside its disk. -/
import Derived.Test.YthikiahhochjmaaGreatDoorDAwake
import Derived.Test.YthikiahhochjmaaGreatDoorPack2
namespace Go.Proofs.YthikiahhochjmaaGreatDoor
open Go.RowKit Go.Maps
set_option linter.unusedVariables false
set_option linter.unusedSimpArgs false

/-- a list of byte lists in blocks of G -/
def Recs (w : World) (G : Nat → Prop) (v : Value) (zss : List (List Int)) : Prop :=
  ∃ vs : List Value, OwnSl w 33 1 v vs.length vs ∧ (∀ j, v.ownBlock = some j → G j) ∧ vs.length = zss.length ∧
    ∀ (i : Nat) (u : Value) (z : List Int), vs[i]? = some u → zss[i]? = some z → OwnSl w 5 1 u z.length (z.map (Value.int .u8)) ∧ ∀ j, u.ownBlock = some j → G j
theorem Recs.turn {F G : Nat → Prop} {w w' : World} {v : Value} {zss : List (List Int)} (h : Recs w G v zss) (T : Turn F w w') (hF : ∀ j, G j → ¬ F j) : Recs w' G v zss := by
  obtain ⟨vs, h1, h2, h3, h4⟩ := h
  exact ⟨vs, h1.turn T (fun k hk => hF k (h2 k hk)), h2, h3, fun i u z hu hz => ⟨(h4 i u z hu hz).1.turn T (fun k hk => hF k ((h4 i u z hu hz).2 k hk)), (h4 i u z hu hz).2⟩⟩
theorem Recs.mono {G G' : Nat → Prop} {w : World} {v : Value} {zss : List (List Int)} (h : Recs w G v zss) (hG : ∀ j, G j → j < w.heap.size → G' j) : Recs w G' v zss := by
  obtain ⟨vs, h1, h2, h3, h4⟩ := h
  have lt : ∀ {e : TypeId} {s n : Nat} {u : Value} {xs : List Value}, OwnSl w e s u n xs → ∀ j, u.ownBlock = some j → j < w.heap.size := fun h j hj => by
    obtain ⟨cur, hc⟩ := h.lt j hj; exact (Array.getElem?_eq_some_iff.1 hc).1
  exact ⟨vs, h1, fun j hj => hG j (h2 j hj) (lt h1 j hj), h3, fun i u z hu hz => ⟨(h4 i u z hu hz).1, fun j hj => hG j ((h4 i u z hu hz).2 j hj) (lt (h4 i u z hu hz).1 j hj)⟩⟩
theorem recs_of_lists {w : World} {base : Nat} {v : Value} {zss : List (List Int)} (h : Lists w base v zss) : Recs w (fun j => base ≤ j) v zss := h
theorem Recs.slice {w : World} {G : Nat → Prop} {v : Value} {zss : List (List Int)} (h : Recs w G v zss) : ∃ a c, v = .slice a zss.length c := by
  obtain ⟨vs, h1, h2, h3, h4⟩ := h
  rcases h1.2 with ⟨rfl, h0⟩ | ⟨g, off, cap, cur, rfl, _⟩
  · exact ⟨_, _, by rw [← h3, h0]⟩
  · exact ⟨_, _, by rw [h3]⟩
theorem Recs.blk {w : World} {G : Nat → Prop} {v : Value} {zss : List (List Int)} (h : Recs w G v zss) : ∀ j, v.ownBlock = some j → G j ∧ ∃ cur, w.heap[j]? = some (.cells cur 33 (0, 0)) := by
  obtain ⟨vs, h1, h2, h3, h4⟩ := h
  exact fun j hj => ⟨h2 j hj, h1.lt j hj⟩
theorem recs_none (w : World) (G : Nat → Prop) : Recs w G (.slice none 0 0) [] := ⟨[], ⟨rfl, .inl ⟨rfl, rfl⟩⟩, fun j hj => by simp [Value.ownBlock] at hj, rfl, fun i u z hu => by simp at hu⟩

/-- a segment: its first number, the slice of its records, these -/
structure Seg where
  first : Nat
  v : Value
  recs : List (List Int)
def Seg.sg (e : Seg) : Sg := ⟨e.first, e.recs⟩
def Seg.cells (e : Seg) : List Value := [.int .u64 (e.first : Int), e.v]
def cellsS (E : List Seg) : List Value := E.flatMap Seg.cells
theorem cellsS_len (E : List Seg) : (cellsS E).length = E.length * 2 := by
  induction E with
  | nil => rfl
  | cons e r ih => simp only [cellsS, List.flatMap_cons, List.length_append, List.length_cons] at *; simp only [Seg.cells, List.length_cons, List.length_nil]; omega
theorem cellsS_append (a b : List Seg) : cellsS (a ++ b) = cellsS a ++ cellsS b := by simp [cellsS]
theorem cellsS_at {E : List Seg} : ∀ {i : Nat} {e : Seg}, E[i]? = some e → (cellsS E)[i * 2]? = some (.int .u64 (e.first : Int)) ∧ (cellsS E)[i * 2 + 1]? = some e.v := by
  induction E with
  | nil => intro i e h; simp at h
  | cons x r ih =>
    intro i e h
    cases i with
    | zero => simp at h; subst h; exact ⟨rfl, rfl⟩
    | succ i =>
      simp only [List.getElem?_cons_succ] at h
      have := ih h
      have hc : cellsS (x :: r) = .int .u64 (x.first : Int) :: x.v :: cellsS r := rfl
      rw [hc, show (i + 1) * 2 = i * 2 + 1 + 1 by omega, show i * 2 + 1 + 1 + 1 = i * 2 + 1 + 1 + 1 from rfl]
      simp only [List.getElem?_cons_succ]
      exact this
theorem cellsS_take (E : List Seg) (k : Nat) : (cellsS E).take (k * 2) = cellsS (E.take k) := by
  induction E generalizing k with
  | nil => simp [cellsS]
  | cons x r ih =>
    cases k with
    | zero => simp [cellsS]
    | succ k =>
      have hc : cellsS (x :: r) = .int .u64 (x.first : Int) :: x.v :: cellsS r := rfl
      rw [hc, show (k + 1) * 2 = k * 2 + 1 + 1 by omega, List.take_succ_cons, List.take_succ_cons, ih k]; rfl
theorem cellsS_drop (E : List Seg) (k : Nat) : (cellsS E).drop (k * 2) = cellsS (E.drop k) := by
  induction E generalizing k with
  | nil => simp [cellsS]
  | cons x r ih =>
    cases k with
    | zero => simp
    | succ k =>
      have hc : cellsS (x :: r) = .int .u64 (x.first : Int) :: x.v :: cellsS r := rfl
      rw [hc, show (k + 1) * 2 = k * 2 + 1 + 1 by omega, List.drop_succ_cons, List.drop_succ_cons, ih k]; rfl

/-- segments in memory -/
structure SegM (w : World) (G : Nat → Prop) (sv : Value) (E : List Seg) : Prop where
  own : OwnSl w 82 2 sv E.length (cellsS E)
  blk : ∀ j, sv.ownBlock = some j → G j
  recs : ∀ e ∈ E, Recs w G e.v e.recs
  apart : E.Pairwise (fun x y => ∀ j, x.v.ownBlock = some j → y.v.ownBlock ≠ some j)
theorem SegM.turn {F G : Nat → Prop} {w w' : World} {sv : Value} {E : List Seg} (h : SegM w G sv E) (T : Turn F w w') (hF : ∀ j, G j → ¬ F j) : SegM w' G sv E :=
  ⟨h.own.turn T (fun k hk => hF k (h.blk k hk)), h.blk, fun e he => (h.recs e he).turn T hF, h.apart⟩
theorem SegM.mono {G G' : Nat → Prop} {w : World} {sv : Value} {E : List Seg} (h : SegM w G sv E) (hG : ∀ j, G j → j < w.heap.size → G' j) : SegM w G' sv E :=
  ⟨h.own, fun j hj => hG j (h.blk j hj) (by obtain ⟨cur, hc⟩ := h.own.lt j hj; exact (Array.getElem?_eq_some_iff.1 hc).1), fun e he => (h.recs e he).mono hG, h.apart⟩
theorem segM_none (w : World) (G : Nat → Prop) : SegM w G (.slice none 0 0) [] := ⟨⟨rfl, .inl ⟨rfl, rfl⟩⟩, fun j hj => by simp [Value.ownBlock] at hj, fun e he => (by cases he), List.Pairwise.nil⟩
theorem SegM.slice {w : World} {G : Nat → Prop} {sv : Value} {E : List Seg} (h : SegM w G sv E) : ∃ a c, sv = .slice a E.length c := by
  rcases h.own.2 with ⟨rfl, h0⟩ | ⟨g, off, cap, cur, rfl, _⟩
  · exact ⟨_, _, by rw [h0]⟩
  · exact ⟨_, _, rfl⟩
/-- where the segment at a place lies -/
theorem SegM.at {w : World} {G : Nat → Prop} {sv : Value} {E : List Seg} (h : SegM w G sv E) (i : Nat) (e : Seg) (he : E[i]? = some e) :
    ∃ g off cap, sv = .slice (some ⟨g, off, none⟩) E.length cap ∧ E.length ≤ cap ∧ G g ∧ w.cell? ⟨g, off + i * 2, none⟩ = some (.int .u64 (e.first : Int)) ∧ w.cell? ⟨g, off + i * 2 + 1, none⟩ = some e.v ∧ w.frozen? ⟨g, off + i * 2 + 1, none⟩ = false := by
  have hi : i < E.length := (List.getElem?_eq_some_iff.1 he).1
  have ho := h.own
  rcases h.own.2 with ⟨rfl, h0⟩ | ⟨g, off, cap, cur, rfl, hg, hn, _, hs, _⟩
  · omega
  · obtain ⟨c0, c1⟩ := cellsS_at he
    refine ⟨g, off, cap, rfl, hn, h.blk g rfl, ho.cells _ _ c0, by rw [Nat.add_assoc]; exact ho.cells _ _ c1, frozen_obj hg _⟩

/-- a journal in memory: at block J, over the disk at block D -/
structure JMem (w : World) (G : Nat → Prop) (J D : Nat) (sv : Value) (E : List Seg) (X : Jn) : Prop where
  obj : w.heap[J]? = some (.cells #[.pointer (some ⟨D, 0, none⟩), .int .i64 (X.most : Int), sv, .int .i64 (X.settled : Int), .bool X.down] 79 (0, 0))
  home : G J
  seg : SegM w G sv E
  segs : X.segs = E.map Seg.sg
theorem JMem.turn {F G : Nat → Prop} {w w' : World} {J D : Nat} {sv : Value} {E : List Seg} {X : Jn} (h : JMem w G J D sv E X) (T : Turn F w w') (hF : ∀ j, G j → ¬ F j) : JMem w' G J D sv E X :=
  ⟨T.same h.obj (hF J h.home), h.home, h.seg.turn T hF, h.segs⟩
theorem JMem.mono {G G' : Nat → Prop} {w : World} {J D : Nat} {sv : Value} {E : List Seg} {X : Jn} (h : JMem w G J D sv E X) (hG : ∀ j, G j → j < w.heap.size → G' j) : JMem w G' J D sv E X :=
  ⟨h.obj, hG J h.home (Array.getElem?_eq_some_iff.1 h.obj).1, h.seg.mono hG, h.segs⟩
/-- the journal and its disk, in blocks of H -/
def JAt (w : World) (H : Nat → Prop) (J D : Nat) (X : Jn) (S : Dk) : Prop :=
  ∃ F G sv E, DAt w D F S ∧ JMem w G J D sv E X ∧ (∀ j, F j → ¬ G j) ∧ (∀ j, F j → H j ∧ j < w.heap.size) ∧ (∀ j, G j → H j ∧ j < w.heap.size)
theorem JAt.turn {A H : Nat → Prop} {w w' : World} {J D : Nat} {X : Jn} {S : Dk} (h : JAt w H J D X S) (T : Turn A w w') (hA : ∀ j, H j → ¬ A j) : JAt w' H J D X S := by
  obtain ⟨F, G, sv, E, d, m, hn, hF, hG⟩ := h
  have hs := T.size
  exact ⟨F, G, sv, E, d.turn T (fun j hj _ => hA j (hF j hj).1), m.turn T (fun j hj => hA j (hG j hj).1), hn, fun j hj => ⟨(hF j hj).1, by have := (hF j hj).2; omega⟩, fun j hj => ⟨(hG j hj).1, by have := (hG j hj).2; omega⟩⟩
theorem JAt.mono {H H' : Nat → Prop} {w : World} {J D : Nat} {X : Jn} {S : Dk} (h : JAt w H J D X S) (hH : ∀ j, H j → j < w.heap.size → H' j) : JAt w H' J D X S := by
  obtain ⟨F, G, sv, E, d, m, hn, hF, hG⟩ := h
  exact ⟨F, G, sv, E, d, m, hn, fun j hj => ⟨hH j (hF j hj).1 (hF j hj).2, (hF j hj).2⟩, fun j hj => ⟨hH j (hG j hj).1 (hG j hj).2, (hG j hj).2⟩⟩
theorem JAt.nf {H : Nat → Prop} {w w1 w2 : World} {J D : Nat} {X : Jn} {S : Dk} (h : JAt w2 (NF w1 (NF w H)) J D X S) (hs : w.heap.size ≤ w1.heap.size) : JAt w2 (NF w H) J D X S :=
  h.mono (fun j hj _ => by rcases hj with hj | hj; exact hj; exact .inr (by omega))
theorem JAt.well {H : Nat → Prop} {w : World} {J D : Nat} {X : Jn} {S : Dk} (h : JAt w H J D X S) : Well S := by
  obtain ⟨F, G, sv, E, d, m, _⟩ := h; exact d.well
/-- a disk's call done, beside a journal -/
theorem disk_done {H F G : Nat → Prop} {w w' : World} {J D : Nat} {sv : Value} {E : List Seg} {X : Jn} {S' : Dk} (T : Turn F w w') (d : DAt w' D (NF w F) S') (m : JMem w G J D sv E X) (hn : ∀ j, F j → ¬ G j) (hF : ∀ j, F j → H j ∧ j < w.heap.size) (hG : ∀ j, G j → H j ∧ j < w.heap.size) :
    JAt w' (NF w H) J D X S' := by
  have hs := T.size
  refine ⟨fun j => NF w F j ∧ j < w'.heap.size, G, sv, E, d.mono (fun j hj hl => ⟨hj, hl⟩), m.turn T (fun j hg hf => hn j hf hg), ?_, ?_, ?_⟩
  · rintro j ⟨hj | hj, _⟩ hg
    · exact hn j hj hg
    · have := (hG j hg).2; omega
  · rintro j ⟨hj | hj, hl⟩
    · exact ⟨.inl (hF j hj).1, hl⟩
    · exact ⟨.inr hj, hl⟩
  · intro j hj
    exact ⟨.inl (hG j hj).1, by have := (hG j hj).2; omega⟩

/-- what every walk asks of a journal's numbers -/
structure Fit (X : Jn) : Prop where
  first : ∀ s ∈ X.segs, s.first < 100 ∧ s.recs.length ≤ 1000000
  segs : X.segs.length ≤ 1000000
  settled : X.settled ≤ X.segs.length
  most : X.most ≤ 1000
end Go.Proofs.YthikiahhochjmaaGreatDoor
