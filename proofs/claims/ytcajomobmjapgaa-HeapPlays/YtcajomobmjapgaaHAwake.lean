/- Heap: calls that do; awake; a nil heap. -/
import Derived.Test.YtcajomobmjapgaaHPush
namespace Go.Proofs.Ytcajomobmjapgaa
open Go.RowKit Go.Maps
set_option linter.unusedVariables false
set_option linter.unusedSimpArgs false

theorem Turn.fresh {F : Nat → Prop} {w w' : World} (h : Turn F w w') (hF : ∀ j, F j → w.heap.size ≤ j) : Turn (fun _ => False) w w' :=
  ⟨h.os, h.tape, h.output, h.size, fun k hk _ => h.block k hk (fun hf => by have := hF k hf; omega)⟩
theorem Turn.bel {w w' : World} (h : Turn (fun _ => False) w w') : Below w.heap.size w w' := h.below (fun _ h => h.elim) (Nat.le_refl _)

theorem push_ok {w : World} {B n : Nat} {F : Nat → Prop} {T : List It} (h : HAt w B n F T) (hF : ∀ j, w.heap.size ≤ j → F j) (i : Nat) (rank : Int) (hi : i < n) (ho : ∀ r : Int, (i, r) ∉ T) :
    Calls Try.prog 14 #[.pointer (some ⟨B, 0, none⟩), .int .i64 (i : Int), .int .i64 rank] w fun e w' => e = .returned (.int .i64 0) ∧ Turn F w w' ∧ ∃ T' : List It, HAt w' B n F T' ∧ T'.length = T.length + 1 ∧ ∀ u, u ∈ T' ↔ u = (i, rank) ∨ u ∈ T := by
  refine (pushH h hF i rank).mono ?_
  rintro e w' ⟨t, ⟨h1, _⟩ | ⟨i', r, h1, h2, _⟩ | ⟨i', T', h1, h2, h3, h4, h5, h6, rfl⟩⟩
  · exact absurd ⟨Int.natCast_nonneg i, by omega⟩ h1
  · obtain rfl : i = i' := by omega
    exact absurd h2 (ho r)
  · obtain rfl : i = i' := by omega
    exact ⟨rfl, t, T', h4, h5, h6⟩
theorem lower_ok {w : World} {B n : Nat} {F : Nat → Prop} {T : List It} (h : HAt w B n F T) (i : Nat) (r rank : Int) (hm : (i, r) ∈ T) (hr : rank ≤ r) :
    Calls Try.prog 9 #[.pointer (some ⟨B, 0, none⟩), .int .i64 (i : Int), .int .i64 rank] w fun e w' => e = .returned (.int .i64 0) ∧ Turn F w w' ∧ ∃ T' : List It, HAt w' B n F T' ∧ T'.length = T.length ∧ With T T' (i, rank) := by
  have hi := h.id_lt hm
  simp only at hi
  refine (lowerH h i rank).mono ?_
  rintro e w' ⟨t, ⟨h1, _⟩ | ⟨_, h1, _⟩ | ⟨i', r', h1, h2, h3, _⟩ | ⟨i', r', T', h1, h2, h3, h4, h5, h6, rfl⟩⟩
  · exact absurd ⟨Int.natCast_nonneg i, by omega⟩ h1
  · exact absurd hm (h1 i r rfl)
  · obtain rfl : i = i' := by omega
    have := h.uniq hm h2 rfl
    simp at this
    omega
  · obtain rfl : i = i' := by omega
    exact ⟨rfl, t, T', h4, h5, h6⟩
/-- x comes ahead of all others -/
def IsMin (T : List It) (x : It) : Prop := x ∈ T ∧ ∀ y ∈ T, ¬ bef y x
theorem IsMin.eq {T : List It} {x y : It} (h : IsMin T x) (k : IsMin T y) : x = y := bef_total (k.2 x h.1) (h.2 y k.1)
theorem pop_ok {w : World} {B n : Nat} {F : Nat → Prop} {T : List It} (h : HAt w B n F T) (x : It) (hx : IsMin T x) :
    Calls Try.prog 11 #[.pointer (some ⟨B, 0, none⟩)] w fun e w' => e = .returned (.tuple #[itV x, .bool true]) ∧ Turn F w w' ∧ ∃ T' : List It, HAt w' B n F T' ∧ Less T T' x.1 := by
  refine (popH h).mono ?_
  rintro e w' ⟨t, ⟨rfl, _⟩ | ⟨x', T', h1, h2, h3, h4, rfl⟩⟩
  · exact absurd hx.1 (by simp)
  · obtain rfl := hx.eq ⟨h1, h2⟩
    exact ⟨rfl, t, T', h3, h4⟩
theorem pop_empty {w : World} {B n : Nat} {F : Nat → Prop} (h : HAt w B n F []) :
    Calls Try.prog 11 #[.pointer (some ⟨B, 0, none⟩)] w fun e w' => e = .returned (.tuple #[itV (0, 0), .bool false]) ∧ Turn F w w' ∧ HAt w' B n F [] := by
  refine (popH h).mono ?_
  rintro e w' ⟨t, ⟨_, h1, rfl⟩ | ⟨x', T', h1, _⟩⟩
  · exact ⟨rfl, t, h1⟩
  · simp at h1
theorem peek_ok {w : World} {B n : Nat} {F : Nat → Prop} {T : List It} (h : HAt w B n F T) (x : It) (hx : IsMin T x) :
    Calls Try.prog 15 #[.pointer (some ⟨B, 0, none⟩)] w fun e w' => e = .returned (.tuple #[itV x, .bool true]) ∧ Turn (fun _ => False) w w' ∧ HAt w' B n F T := by
  refine (peekH h).mono ?_
  rintro e w' ⟨h1, t, ⟨rfl, _⟩ | ⟨x', T2, h2, h3, rfl⟩⟩
  · exact absurd hx.1 (by simp)
  · obtain rfl := hx.eq ⟨by rw [h2]; simp, h3⟩
    exact ⟨rfl, t, h1⟩
theorem peek_empty {w : World} {B n : Nat} {F : Nat → Prop} (h : HAt w B n F []) :
    Calls Try.prog 15 #[.pointer (some ⟨B, 0, none⟩)] w fun e w' => e = .returned (.tuple #[itV (0, 0), .bool false]) ∧ Turn (fun _ => False) w w' ∧ HAt w' B n F [] := by
  refine (peekH h).mono ?_
  rintro e w' ⟨h1, t, ⟨_, rfl⟩ | ⟨x', T2, h2, h3, rfl⟩⟩
  · exact ⟨rfl, t, h1⟩
  · cases h2

set_option maxRecDepth 100000 in
set_option maxHeartbeats 4000000 in
theorem awake_walk (w : World) : Calls Try.prog 8 #[] w fun e w' => e = .returned (.bool true) ∧ Turn (fun _ => False) w w' := by
  go_enter Try.func8, Try.ntmps8
  go_wp2_with fail
  refine (newH _ 3 (by omega) (by omega)).mono ?_
  rintro e w1 ⟨B, rfl, t1, hB, h1⟩
  have p1 : Calls Try.prog 14 #[.pointer (some ⟨B, 0, none⟩), .int .i64 2, .int .i64 5] w1 fun e w' => e = .returned (.int .i64 0) ∧ Turn (fun j => w.heap.size ≤ j) w1 w' ∧ ∃ T' : List It, HAt w' B 3 (fun j => w.heap.size ≤ j) T' ∧ Hid (∀ u, u ∈ T' ↔ u = (2, 5)) :=
    (push_ok h1 (fun j hj => Nat.le_trans t1.size hj) 2 5 (by omega) (by simp)).mono (by
      rintro e w2 ⟨rfl, t2, T2, h2, l2, m2⟩
      exact ⟨rfl, t2, T2, h2, hide (fun u => by rw [m2 u]; simp)⟩)
  go_wp2_with fail
  refine p1.mono ?_
  rintro e w2 ⟨rfl, t2, T2, h2, m2⟩
  have s2 : w.heap.size ≤ w2.heap.size := Nat.le_trans t1.size t2.size
  have p2 : Calls Try.prog 14 #[.pointer (some ⟨B, 0, none⟩), .int .i64 0, .int .i64 5] w2 fun e w' => e = .returned (.int .i64 0) ∧ Turn (fun j => w.heap.size ≤ j) w2 w' ∧ ∃ T' : List It, HAt w' B 3 (fun j => w.heap.size ≤ j) T' ∧ Hid (∀ u, u ∈ T' ↔ u = (0, 5) ∨ u = (2, 5)) :=
    (push_ok h2 (fun j hj => Nat.le_trans s2 hj) 0 5 (by omega) (fun r hm => by have := (unhide m2 _).1 hm; simp at this)).mono (by
      rintro e w3 ⟨rfl, t3, T3, h3, l3, m3⟩
      exact ⟨rfl, t3, T3, h3, hide (fun u => by rw [m3 u, unhide m2 u])⟩)
  clear p1 h1
  go_wp2_with fail
  refine p2.mono ?_
  rintro e w3 ⟨rfl, t3, T3, h3, m3⟩
  have p3 : Calls Try.prog 11 #[.pointer (some ⟨B, 0, none⟩)] w3 fun e w' => e = .returned (.tuple #[.agg #[.int .i64 0, .int .i64 5], .bool true]) ∧ Turn (fun j => w.heap.size ≤ j) w3 w' :=
    (pop_ok h3 (0, 5) ⟨(unhide m3 _).2 (.inl rfl), fun y hy => by
        rcases (unhide m3 y).1 hy with rfl | rfl
        · exact bef_irr _
        · unfold bef; simp⟩).mono (by
      rintro e w4 ⟨rfl, t4, _⟩
      exact ⟨rfl, t4⟩)
  clear p2 h2 h3
  go_wp2_with fail
  refine p3.mono ?_
  rintro e w4 ⟨rfl, t4⟩
  have TT : Turn (fun _ => False) w w4 := ((((t1.mono (fun _ h => h.elim)).then t2).then t3).then t4).fresh (fun j hj => hj)
  have TT2 := TT.alloc (.cells #[.int .i64 0, .int .i64 5] 36)
  clear p3 t1 t2 t3 t4 TT m2 m3
  go_wp2_with fail
  go_ret
  exact ⟨rfl, TT2⟩
end Go.Proofs.Ytcajomobmjapgaa
