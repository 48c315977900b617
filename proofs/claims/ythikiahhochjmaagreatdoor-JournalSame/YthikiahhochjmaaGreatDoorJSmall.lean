/- The smaller calls of a journal: the next number, whether a segment may follow, First, Next, Segments, why nothing is done, what is told. -/
import Derived.Test.YthikiahhochjmaaGreatDoorJMem
import Derived.Test.YthikiahhochjmaaGreatDoorJName
namespace Go.Proofs.YthikiahhochjmaaGreatDoor
open Go.RowKit Go.Maps
set_option linter.unusedVariables false
set_option linter.unusedSimpArgs false

theorem ret_u64 {a b : Int} (h : a = b) : Ending.returned (.int .u64 a) = .returned (.int .u64 b) := by rw [h]
theorem nextOf_nil : nextOf ([] : List Sg) = 0 := rfl
theorem nextOf_snoc (l : List Sg) (s : Sg) : nextOf (l ++ [s]) = s.first + s.recs.length := by simp [nextOf]
theorem lastF_snoc (l : List Sg) (s : Sg) : lastF (l ++ [s]) = s.first := by simp [lastF]
theorem segs_cases (E : List Seg) : E = [] ∨ ∃ E' e, E = E' ++ [e] := by
  rcases List.eq_nil_or_concat E with h | ⟨E', e, h⟩
  · exact .inl h
  · exact .inr ⟨E', e, by rw [h, List.concat_eq_append]⟩

set_option maxHeartbeats 1000000 in
theorem next_walk' (w : World) (G : Nat → Prop) (sv : Value) (E : List Seg) (h : SegM w G sv E) (hE : ∀ e ∈ E, e.first < 10000000000 ∧ e.recs.length ≤ 1000000) (hl : E.length ≤ 1000001) :
    Calls Tryz.prog 52 #[sv] w fun e w' => e = .returned (.int .u64 ((nextOf (E.map Seg.sg) : Nat) : Int)) ∧ Turn (fun _ => False) w w' := by
  rcases segs_cases E with rfl | ⟨E', e, rfl⟩
  · obtain ⟨a, c, rfl⟩ := h.slice
    clear h
    go_enter Tryz.func52, Tryz.ntmps52
    go_wp2
    go_ret
    exact ⟨rfl, Turn.refl _ _⟩
  · obtain ⟨g, off, cap, rfl, hc, hg, c0, c1, f1⟩ := h.at E'.length e (by simp)
    obtain ⟨a1, a2⟩ := hE e (by simp)
    have hr := h.recs e (by simp)
    obtain ⟨ra, rc, hv⟩ := hr.slice
    rw [hv] at c1
    rw [List.map_append, List.map_cons, List.map_nil, nextOf_snoc]
    have hlen : (E' ++ [e]).length = E'.length + 1 := by simp
    rw [hlen] at hl hc ⊢
    have e1 : (Seg.sg e).first = e.first := rfl
    have e2 : (Seg.sg e).recs = e.recs := rfl
    rw [e1, e2]
    clear h hE hr hv e1 e2 hlen
    generalize E'.length = n at *
    generalize e.first = f at *
    generalize e.recs.length = m at *
    go_enter Tryz.func52, Tryz.ntmps52
    go_wp2
    go_ret
    exact ⟨ret_u64 (by omega), (Turn.refl _ w).alloc _⟩

theorem follows_eq (f : Nat) (all : List Sg) (en : Nat × Nat) : follows f all en = if en.2 = 0 then decide (f = nextOf all) else false := by
  unfold follows; split <;> simp_all
set_option maxHeartbeats 1000000 in
theorem follows_walk (w : World) (G : Nat → Prop) (sv : Value) (E : List Seg) (f : Nat) (en : Nat × Nat) (h : SegM w G sv E) (hE : ∀ e ∈ E, e.first < 10000000000 ∧ e.recs.length ≤ 1000000) (hl : E.length ≤ 1000001) :
    Calls Tryz.prog 67 #[.int .u64 (f : Int), sv, .agg #[.int .i64 (en.1 : Int), .int .i64 (en.2 : Int)]] w fun e w' => e = .returned (.bool (follows f (E.map Seg.sg) en)) ∧ Turn (fun _ => False) w w' := by
  obtain ⟨e1, e2⟩ := en
  rw [follows_eq]
  have t1 : Turn (fun _ => False) w (w.alloc (.cells #[.int .i64 (e1 : Int), .int .i64 (e2 : Int)] 90)) := (Turn.refl _ w).alloc _
  have hn := next_walk' _ G sv E (h.turn t1 (fun _ _ h => h)) hE hl
  obtain ⟨a, c, rfl⟩ := h.slice
  clear h hE hl
  simp only
  generalize hX : nextOf (E.map Seg.sg) = X at *
  clear hX
  generalize E.length = n at *
  by_cases h0 : e2 = 0
  · subst h0
    rw [if_pos rfl]
    go_enter Tryz.func67, Tryz.ntmps67
    go_wp2_with (go_at_call 52; refine hn.mono ?_; rintro e w2 ⟨rfl, t2⟩)
    go_ret
    exact ⟨ret_bool (by rw [Bool.eq_iff_iff]; simp; omega), t1.then t2⟩
  · rw [if_neg h0]
    have h0' : ((e2 : Int) == 0) = false := by simpa using h0
    go_enter Tryz.func67, Tryz.ntmps67
    go_wp2
    go_ret
    exact ⟨rfl, t1⟩

set_option maxHeartbeats 1000000 in
theorem Next_walk (w : World) (G : Nat → Prop) (J D : Nat) (sv : Value) (E : List Seg) (X : Jn) (m : JMem w G J D sv E X) (hE : ∀ e ∈ E, e.first < 10000000000 ∧ e.recs.length ≤ 1000000) (hl : E.length ≤ 1000001) :
    Calls Tryz.prog 25 #[.pointer (some ⟨J, 0, none⟩)] w fun e w' => e = .returned (.int .u64 ((nextOf X.segs : Nat) : Int)) ∧ Turn (fun _ => False) w w' := by
  have c2 : w.cell? ⟨J, 2, none⟩ = some sv := cell_obj m.obj 2
  have hn := next_walk' w G sv E m.seg hE hl
  rw [← m.segs] at hn
  obtain ⟨a, c, rfl⟩ := m.seg.slice
  clear m hE hl
  go_enter Tryz.func25, Tryz.ntmps25
  go_wp2_with (go_at_call 52; refine hn.mono ?_; rintro e w2 ⟨rfl, t2⟩)
  go_ret
  exact ⟨rfl, t2⟩
set_option maxHeartbeats 1000000 in
theorem First_walk (w : World) (G : Nat → Prop) (J D : Nat) (sv : Value) (E : List Seg) (X : Jn) (m : JMem w G J D sv E X) :
    Calls Tryz.prog 19 #[.pointer (some ⟨J, 0, none⟩)] w fun e w' => e = .returned (.int .u64 ((firstOf X.segs : Nat) : Int)) ∧ w' = w := by
  have c2 : w.cell? ⟨J, 2, none⟩ = some sv := cell_obj m.obj 2
  rw [m.segs]
  cases E with
  | nil =>
    obtain ⟨a, c, rfl⟩ := m.seg.slice
    clear m
    go_enter Tryz.func19, Tryz.ntmps19
    go_wp2
    go_ret
    exact ⟨rfl, rfl⟩
  | cons e r =>
    obtain ⟨g, off, cap, rfl, hc, hg, c0, c1, f1⟩ := m.seg.at 0 e (by simp)
    have e1 : firstOf ((e :: r).map Seg.sg) = e.first := rfl
    rw [e1]
    have hlen : (e :: r).length = r.length + 1 := by simp
    rw [hlen] at c2 hc
    rw [Nat.zero_mul, Nat.add_zero] at c0
    clear m e1 hlen f1 c1
    generalize r.length = n at *
    go_enter Tryz.func19, Tryz.ntmps19
    go_wp2
    go_ret
    exact ⟨rfl, rfl⟩
set_option maxHeartbeats 1000000 in
theorem Segments_walk (w : World) (G : Nat → Prop) (J D : Nat) (sv : Value) (E : List Seg) (X : Jn) (m : JMem w G J D sv E X) :
    Calls Tryz.prog 17 #[.pointer (some ⟨J, 0, none⟩)] w fun e w' => e = .returned (.int .i64 (X.segs.length : Int)) ∧ w' = w := by
  have c2 : w.cell? ⟨J, 2, none⟩ = some sv := cell_obj m.obj 2
  rw [m.segs, List.length_map]
  obtain ⟨a, c, rfl⟩ := m.seg.slice
  clear m
  go_enter Tryz.func17, Tryz.ntmps17
  go_wp2
  go_ret
  exact ⟨rfl, rfl⟩
set_option maxHeartbeats 1000000 in
theorem refusal_j (w : World) (G : Nat → Prop) (J D : Nat) (sv : Value) (E : List Seg) (X : Jn) (m : JMem w G J D sv E X) :
    Calls Tryz.prog 36 #[.pointer (some ⟨J, 0, none⟩)] w fun e w' => e = .returned (.int .i64 (if X.down then 3 else 0)) ∧ w' = w := by
  have c0 : w.cell? ⟨J, 0, none⟩ = some (.pointer (some ⟨D, 0, none⟩)) := cell_obj m.obj 0
  have c4 : w.cell? ⟨J, 4, none⟩ = some (.bool X.down) := cell_obj m.obj 4
  clear m
  cases hd : X.down
  all_goals
    rw [hd] at c4
    go_enter Tryz.func36, Tryz.ntmps36
    go_wp2
    go_ret
    exact ⟨rfl, rfl⟩
/-- a journal's own cell written -/
theorem JMem.re {w : World} {G : Nat → Prop} {J D : Nat} {sv : Value} {E : List Seg} {X : Jn} (m : JMem w G J D sv E X) (j : Nat) (u : Value) (X' : Jn) (hs : X'.segs = X.segs)
    (ho : (#[.pointer (some ⟨D, 0, none⟩), .int .i64 (X.most : Int), sv, .int .i64 (X.settled : Int), .bool X.down] : Array Value).setIfInBounds j u = #[.pointer (some ⟨D, 0, none⟩), .int .i64 (X'.most : Int), sv, .int .i64 (X'.settled : Int), .bool X'.down]) :
    JMem (w.setCell ⟨J, j, none⟩ u) G J D sv E X' ∧ Turn (fun b => b = J) w (w.setCell ⟨J, j, none⟩ u) := by
  have t : Turn (fun b => b = J) w (w.setCell ⟨J, j, none⟩ u) := (Turn.refl (fun b => b = J) w).setCell (p := ⟨J, j, none⟩) (.inl rfl) u
  have ho' := heap_setCell_obj (j := j) m.obj u
  rw [ho] at ho'
  have hneB : ∀ {e : TypeId} {s n : Nat} {v : Value} {xs : List Value}, OwnSl w e s v n xs → e ≠ 79 → ∀ k, v.ownBlock = some k → ¬ k = J := fun h he k hk => h.neObj m.obj he k hk
  refine ⟨⟨ho', m.home, ⟨m.seg.own.turn t (hneB m.seg.own (by decide)), m.seg.blk, fun e he => ?_, m.seg.apart⟩, hs.trans m.segs⟩, t⟩
  obtain ⟨vs, h1, h2, h3, h4⟩ := m.seg.recs e he
  exact ⟨vs, h1.turn t (hneB h1 (by decide)), h2, h3, fun i u z hu hz => ⟨(h4 i u z hu hz).1.turn t (hneB (h4 i u z hu hz).1 (by decide)), (h4 i u z hu hz).2⟩⟩
set_option maxHeartbeats 1000000 in
theorem told_j (w : World) (G : Nat → Prop) (J D : Nat) (sv : Value) (E : List Seg) (X : Jn) (x : Int) (m : JMem w G J D sv E X) :
    Calls Tryz.prog 38 #[.pointer (some ⟨J, 0, none⟩), .int .i64 x] w fun e w' => e = .returned (.int .i64 x) ∧ Turn (fun b => b = J) w w' ∧ JMem w' G J D sv E { X with down := decide (x = 3) } := by
  have c4 : w.cell? ⟨J, 4, none⟩ = some (.bool X.down) := cell_obj m.obj 4
  have f4 : w.frozen? ⟨J, 4, none⟩ = false := frozen_obj m.obj 4
  obtain ⟨m', t⟩ := m.re 4 (.bool (x == 3)) { X with down := x == 3 } rfl rfl
  have hb : (x == 3) = decide (x = 3) := by rw [Bool.eq_iff_iff]; simp
  rw [← hb]
  have Hm := hide m'
  have Ht := hide t
  clear m m' t hb
  go_enter Tryz.func38, Tryz.ntmps38
  go_wp2
  go_ret
  exact ⟨rfl, unhide Ht, unhide Hm⟩

theorem below_le (n : Nat) : ∀ l : List Sg, below n l + 1 ≤ l.length ∨ l = []
  | [] => .inr rfl
  | [a] => .inl (by simp [below])
  | a :: b :: r => by
    left
    rcases below_le n (b :: r) with h | h
    · simp only [below, List.length_cons] at *; split <;> omega
    · cases h
/-- one step of the count -/
theorem below_step (n : Nat) : ∀ (l : List Sg) (k : Nat) (s : Sg), k ≤ below n l → l[k + 1]? = some s → (s.first ≤ n → k + 1 ≤ below n l) ∧ (¬ s.first ≤ n → below n l = k)
  | [], k, s, h, hs => by simp at hs
  | [a], k, s, h, hs => by simp at hs
  | a :: b :: r, 0, s, h, hs => by
    simp at hs; subst hs
    simp only [below]
    exact ⟨fun h => by rw [if_pos h]; omega, fun h => by rw [if_neg h]⟩
  | a :: b :: r, k + 1, s, h, hs => by
    simp only [below] at h ⊢
    split at h
    · rename_i hb
      have := below_step n (b :: r) k s (by omega) (by simpa using hs)
      rw [if_pos hb]
      exact ⟨fun h => by have := this.1 h; omega, fun h => by have := this.2 h; omega⟩
    · omega
theorem below_end (n : Nat) (l : List Sg) (k : Nat) (h : k ≤ below n l) (hs : l.length ≤ k + 1) : below n l = k := by
  rcases below_le n l with h' | h'
  · omega
  · subst h'; simp [below] at *; omega
set_option maxRecDepth 10000 in
set_option maxHeartbeats 2000000 in
theorem below_walk (w : World) (G : Nat → Prop) (J D : Nat) (sv : Value) (E : List Seg) (X : Jn) (n : Nat) (m : JMem w G J D sv E X) (hl : E.length ≤ 1000001) :
    Calls Tryz.prog 44 #[.pointer (some ⟨J, 0, none⟩), .int .u64 (n : Int)] w fun e w' => e = .returned (.int .i64 ((below n X.segs : Nat) : Int)) ∧ w' = w := by
  have c2 : w.cell? ⟨J, 2, none⟩ = some sv := cell_obj m.obj 2
  have hat := fun (i : Nat) (e : Seg) (he : E[i]? = some e) => m.seg.at i e he
  obtain ⟨a, c, hsv⟩ := m.seg.slice
  rw [m.segs]
  clear m
  subst hsv
  go_enter Tryz.func44, Tryz.ntmps44
  go_wp2_with fail
  go_loopw [5] (fun i wr => ∃ k : Nat, i = .int .i64 (k : Int) ∧ k ≤ E.length ∧ Hid (k ≤ below n (E.map Seg.sg)) ∧ wr = w) (fun i _ => E.length - (intOf i).toNat)
  case atStart => exact ⟨0, rfl, Nat.zero_le _, hide (Nat.zero_le _), rfl⟩
  case round =>
    obtain ⟨k, rfl, hk, hb, rfl⟩ := hrel
    by_cases hlt : k + 1 < E.length
    · obtain ⟨e, he⟩ : ∃ e, E[k + 1]? = some e := ⟨E[k + 1], by simp [hlt]⟩
      obtain ⟨g, off, cap, hv, hc, hg, q0, q1, q2⟩ := hat (k + 1) e he
      have hst := below_step n (E.map Seg.sg) k e.sg (unhide hb) (by rw [List.getElem?_map, he]; rfl)
      have e1 : (Seg.sg e).first = e.first := rfl
      rw [e1] at hst
      simp only [Value.slice.injEq, true_and] at hv
      obtain ⟨rfl, rfl⟩ := hv
      by_cases hle : e.first ≤ n
      · have hb2 := hide (hst.1 hle)
        clear hst hb hat q1 q2
        generalize e.first = f at *
        have hle' : (f : Int) ≤ (n : Int) := by omega
        go_wp2
        exact ⟨⟨k + 1, by go_num, by omega, hb2, trivial⟩, by simp [intOf]; omega⟩
      · have hb2 := hide (hst.2 hle)
        clear hst hb hat q1 q2
        generalize e.first = f at *
        have hle' : ¬ (f : Int) ≤ (n : Int) := by omega
        go_wp2
        go_ret
        exact ⟨ret_int (by rw [unhide hb2]), rfl⟩
    · have hb2 := hide (below_end n (E.map Seg.sg) k (unhide hb) (by simp; omega))
      clear hat hb
      have hlt' : ¬ (k : Int) + 1 < (E.length : Int) := by omega
      generalize E.length = len at *
      go_wp2
      go_ret
      exact ⟨ret_int (by rw [unhide hb2]), rfl⟩
end Go.Proofs.YthikiahhochjmaaGreatDoor
