/- Trim. -/
import Derived.Test.YthikiahhochjmaaGreatDoorJDrop
namespace Go.Proofs.YthikiahhochjmaaGreatDoor
open Go.RowKit Go.Maps
set_option linter.unusedVariables false
set_option linter.unusedSimpArgs false

theorem next_jat (w : World) (H : Nat → Prop) (J D : Nat) (X : Jn) (S : Dk) (h : JAt w H J D X S) (fit : Fit X) :
    Calls Tryz.prog 25 #[.pointer (some ⟨J, 0, none⟩)] w fun e w' => e = .returned (.int .u64 ((nextOf X.segs : Nat) : Int)) ∧ Turn (fun _ => False) w w' := by
  obtain ⟨F, G, sv, E, d, m, _⟩ := h
  obtain ⟨hE, hEl⟩ := fit.wide m.segs
  exact Next_walk w G J D sv E X m hE hEl
theorem first_jat (w : World) (H : Nat → Prop) (J D : Nat) (X : Jn) (S : Dk) (h : JAt w H J D X S) :
    Calls Tryz.prog 19 #[.pointer (some ⟨J, 0, none⟩)] w fun e w' => e = .returned (.int .u64 ((firstOf X.segs : Nat) : Int)) ∧ w' = w := by
  obtain ⟨F, G, sv, E, d, m, _⟩ := h
  exact First_walk w G J D sv E X m
theorem segments_jat (w : World) (H : Nat → Prop) (J D : Nat) (X : Jn) (S : Dk) (h : JAt w H J D X S) :
    Calls Tryz.prog 17 #[.pointer (some ⟨J, 0, none⟩)] w fun e w' => e = .returned (.int .i64 (X.segs.length : Int)) ∧ w' = w := by
  obtain ⟨F, G, sv, E, d, m, _⟩ := h
  exact Segments_walk w G J D sv E X m
theorem below_jat (w : World) (H : Nat → Prop) (J D : Nat) (X : Jn) (S : Dk) (n : Nat) (h : JAt w H J D X S) (fit : Fit X) :
    Calls Tryz.prog 44 #[.pointer (some ⟨J, 0, none⟩), .int .u64 (n : Int)] w fun e w' => e = .returned (.int .i64 ((below n X.segs : Nat) : Int)) ∧ w' = w := by
  obtain ⟨F, G, sv, E, d, m, _⟩ := h
  exact below_walk w G J D sv E X n m (by have := (fit.seg m.segs).2; omega)

set_option maxRecDepth 100000 in
set_option maxHeartbeats 4000000 in
theorem trim_j (w : World) (H : Nat → Prop) (J D : Nat) (X : Jn) (S : Dk) (n : Nat) (h : JAt w H J D X S) (fit : Fit X) :
    Calls Tryz.prog 18 #[.pointer (some ⟨J, 0, none⟩), .int .u64 (n : Int)] w fun e w' => e = .returned (.int .i64 (trimJ X S n).1) ∧ Turn H w w' ∧ JAt w' (NF w H) J D (trimJ X S n).2.1 (trimJ X S n).2.2 := by
  have hre := refusal_jat w H J D X S h
  have h1 : JAt w (NF w H) J D X S := h.mono (fun j hj _ => .inl hj)
  by_cases hd : X.down = true
  · have ej : trimJ X S n = (3, X, S) := by unfold trimJ; rw [if_pos hd]
    rw [if_pos hd] at hre
    have Hej := hide ej
    clear ej hd h
    go_enter Tryz.func18, Tryz.ntmps18
    go_wp2_with (go_at_call 36; refine hre.mono ?_; rintro y w1 ⟨rfl, hw⟩; have hw := hw.symm; subst hw)
    go_ret
    rw [unhide Hej]
    exact ⟨rfl, Turn.refl _ _, h1⟩
  rw [if_neg hd] at hre
  have hnx := next_jat w H J D X S h fit
  by_cases hN : nextOf X.segs < n
  · have ej : trimJ X S n = (1, X, S) := by unfold trimJ; rw [if_neg hd, if_pos hN]
    have Hej := hide ej
    have hNi : ((nextOf X.segs : Nat) : Int) < (n : Int) := by omega
    have h1t : ∀ w1, Turn (fun _ => False) w w1 → JAt w1 (NF w H) J D X S := fun w1 t => h1.turn t (fun _ _ h => h)
    clear ej hd h h1 hN
    generalize ((nextOf X.segs : Nat) : Int) = z at *
    have Hn := hide (rfl : trimJ X S n = trimJ X S n)
    generalize (n : Int) = zn at *
    go_enter Tryz.func18, Tryz.ntmps18
    go_wp2_with (first | (go_at_call 36; refine hre.mono ?_; rintro y w1 ⟨rfl, hw⟩; have hw := hw.symm; subst hw) | (go_at_call 25; refine hnx.mono ?_; rintro y w1 ⟨rfl, t1⟩))
    go_ret
    rw [unhide Hej]
    exact ⟨rfl, t1.mono (fun _ h => h.elim), h1t w1 t1⟩
  have hNi : ¬ ((nextOf X.segs : Nat) : Int) < (n : Int) := by omega
  have ht : ∀ w1, Turn (fun _ => False) w w1 → JAt w1 (fun j => H j ∧ j < w.heap.size) J D X S := fun w1 t => h.tight t
  have hnf : ∀ j, (fun j => H j ∧ j < w.heap.size) j → NF w H j := fun j hj => .inl hj.1
  by_cases hs : S.down = true
  · have ej : trimJ X S n = toldJ (3, X, S) := by unfold trimJ; rw [if_neg hd, if_neg hN, if_pos hs]
    have Hej := hide ej
    have hdn : ∀ w1, Turn (fun _ => False) w w1 → Calls Tryz.prog 10 #[.pointer (some ⟨D, 0, none⟩)] w1 fun e w' => e = .returned (.bool true) ∧ w' = w1 := fun w1 t => by
      have := down_jat w1 _ J D X S (ht w1 t)
      rwa [hs] at this
    clear ej hd h h1 hN hs
    generalize ((nextOf X.segs : Nat) : Int) = z at *
    generalize (n : Int) = zn at *
    go_enter Tryz.func18, Tryz.ntmps18
    go_wp2_with (first | (go_at_call 36; refine hre.mono ?_; rintro y w1 ⟨rfl, hw⟩; have hw := hw.symm; subst hw) | (go_at_call 25; refine hnx.mono ?_; rintro y w1 ⟨rfl, t1⟩; have c0 := (ht w1 t1).ptr) | (go_at_call 10; refine (hdn w1 t1).mono ?_; rintro y w2 ⟨rfl, hw⟩; have hw := hw.symm; subst hw) | (go_at_call 38; refine (told_jat w1 _ J D X S 3 (ht w1 t1)).mono ?_; rintro y w4 ⟨rfl, T4, J4⟩))
    go_ret
    rw [unhide Hej]
    exact ⟨rfl, (t1.mono (fun _ h => h.elim)).trans T4 (fun j hj => .inl hj.1), J4.mono (fun j hj _ => hnf j hj)⟩
  · have hs' : S.down = false := by simpa using hs
    have ej : trimJ X S n = toldJ (dropJ X S (below n X.segs)) := by unfold trimJ; rw [if_neg hd, if_neg hN, if_neg hs]
    have Hej := hide ej
    have hdn : ∀ w1, Turn (fun _ => False) w w1 → Calls Tryz.prog 10 #[.pointer (some ⟨D, 0, none⟩)] w1 fun e w' => e = .returned (.bool false) ∧ w' = w1 := fun w1 t => by
      have := down_jat w1 _ J D X S (ht w1 t)
      rwa [hs'] at this
    have hbl : below n X.segs = 0 ∨ below n X.segs + 1 ≤ X.segs.length := by
      rcases below_le n X.segs with q | q
      · exact .inr q
      · left; rw [q]; rfl
    have hbw : ∀ w1, Turn (fun _ => False) w w1 → Calls Tryz.prog 44 #[.pointer (some ⟨J, 0, none⟩), .int .u64 (n : Int)] w1 fun e w' => e = .returned (.int .i64 ((below n X.segs : Nat) : Int)) ∧ w' = w1 := fun w1 t => below_jat w1 _ J D X S n (ht w1 t) fit
    have hdw : ∀ w1, Turn (fun _ => False) w w1 → _ := fun w1 t => drop_j w1 _ J D X S (below n X.segs) (ht w1 t) fit hbl
    clear ej hd h h1 hN hs
    generalize hzz : ((nextOf X.segs : Nat) : Int) = z at *
    clear hzz
    generalize below n X.segs = c at *
    generalize (n : Int) = zn at *
    go_enter Tryz.func18, Tryz.ntmps18
    go_wp2_with (first | (go_at_call 36; refine hre.mono ?_; rintro y w1 ⟨rfl, hw⟩; have hw := hw.symm; subst hw) | (go_at_call 25; refine hnx.mono ?_; rintro y w1 ⟨rfl, t1⟩; have c0 := (ht w1 t1).ptr) | (go_at_call 10; refine (hdn w1 t1).mono ?_; rintro y w2 ⟨rfl, hw⟩; have hw := hw.symm; subst hw) | (go_at_call 44; refine (hbw w1 t1).mono ?_; rintro y w2 ⟨rfl, hw⟩; have hw := hw.symm; subst hw) | (go_at_call 43; refine (hdw w1 t1).mono ?_; rintro y w3 ⟨rfl, T3, J3⟩) | (go_at_call 38; refine (told_jat w3 _ J D _ _ _ J3).mono ?_; rintro y w4 ⟨rfl, T4, J4⟩))
    go_ret
    rw [unhide Hej]
    have s1 := t1.size
    have hnf2 : ∀ j, NF w1 (fun j => H j ∧ j < w.heap.size) j → NF w H j := by
      rintro j (hj | hj)
      · exact .inl hj.1
      · exact .inr (by omega)
    exact ⟨rfl, ((t1.mono (fun _ h => h.elim)).trans T3 (fun j hj => .inl hj.1)).trans T4 hnf2, J4.mono (fun j hj _ => hnf2 j hj)⟩
end Go.Proofs.YthikiahhochjmaaGreatDoor
