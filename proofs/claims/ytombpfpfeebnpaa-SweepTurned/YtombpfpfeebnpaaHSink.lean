/- Heap: firstBelow, sink. -/
import Derived.Test.YtombpfpfeebnpaaHRise
namespace Go.Proofs.Ytombpfpfeebnpaa
open Go.RowKit Go.Maps
set_option linter.unusedVariables false
set_option linter.unusedSimpArgs false

set_option maxHeartbeats 2000000 in
theorem first_walk (w : World) (B : Nat) (tv pv : Value) (T : List It) (P : List Int) (h : HMem w B tv pv T P) (k : Nat) (hk : k ≤ 4194304) (hl : T.length ≤ 4194304) (hid : ∀ (i : Nat) (y : It), i ≠ k → T[i]? = some y → y.1 < 4194304) :
    Calls Try.prog 72 #[.pointer (some ⟨B, 0, none⟩), .int .i64 (k : Int)] w fun e w' => Turn (fun _ => False) w w' ∧ ((T.length ≤ 2 * k + 1 ∧ e = .returned (.tuple #[.int .i64 0, .bool false])) ∨ ∃ j y, FirstB T k j y ∧ e = .returned (.tuple #[.int .i64 (j : Int), .bool true])) := by
  by_cases h1 : T.length ≤ 2 * k + 1
  · obtain ⟨a, cap, rfl⟩ := h.tany
    have f0 : w.cell? ⟨B, 0, none⟩ = some (.slice a T.length cap) := cell_obj h.obj 0
    go_enter Try.func72, Try.ntmps72
    go_wp2
    go_ret2
    exact ⟨Turn.refl _ _, .inl ⟨h1, rfl⟩⟩
  · obtain ⟨g, off, cap, rfl⟩ := h.tform (by omega)
    have f0 : w.cell? ⟨B, 0, none⟩ = some (.slice (some ⟨g, off, none⟩) T.length cap) := cell_obj h.obj 0
    obtain ⟨y, hy⟩ : ∃ y, T[2 * k + 1]? = some y := ⟨T[2 * k + 1], by simp [show 2 * k + 1 < T.length by omega]⟩
    obtain ⟨y0, y1⟩ := h.tcell hy
    have hyi := hid _ _ (by omega) hy
    by_cases h2 : T.length ≤ 2 * k + 2
    · have Hr : Hid (FirstB T k (2 * k + 1) y) := hide ⟨.inl rfl, hy, fun i u hi hu => by
        have := (List.getElem?_eq_some_iff.1 hu).1
        obtain rfl : i = 2 * k + 1 := by omega
        rw [hy] at hu; cases hu; exact bef_irr y⟩
      obtain ⟨j, hj⟩ : ∃ j, j = 2 * k + 1 := ⟨_, rfl⟩
      rw [← hj] at y0 y1 Hr
      have lt1 : decide ((j : Int) + 1 < (T.length : Int)) = false := decide_eq_false (by omega)
      have lt2 : ¬ ((j : Int) + 1 < (T.length : Int)) := by omega
      have lt3 : j < T.length := by omega
      clear hid hy
      go_enter Try.func72, Try.ntmps72
      go_wp2_with fail
      rw [show (2 * (k : Int) + 1) = (j : Int) by omega]
      clear hj h1 h2
      go_region
      go_wp2
      go_ret2
      exact ⟨(Turn.refl _ _).drew, .inr ⟨_, y, unhide Hr, rfl⟩⟩
    · obtain ⟨z, hz⟩ : ∃ z, T[2 * k + 2]? = some z := ⟨T[2 * k + 2], by simp [show 2 * k + 2 < T.length by omega]⟩
      obtain ⟨z0, z1⟩ := h.tcell hz
      have hzi := hid _ _ (by omega) hz
      have hbw : ∀ u : World, Calls Try.prog 63 #[.agg #[.int .i64 (z.1 : Int), .int .i64 z.2], .agg #[.int .i64 (y.1 : Int), .int .i64 y.2]] u fun e w' => e = .returned (.bool (decide (bef z y))) ∧ Turn (fun _ => False) u w' := fun u => before_walk z y u hzi hyi
      have Hr : Hid (if bef z y then FirstB T k (2 * k + 2) z else FirstB T k (2 * k + 1) y) := hide (by
        split
        · rename_i hc
          refine ⟨.inr rfl, hz, fun i u hi hu => ?_⟩
          rcases hi with rfl | rfl
          · rw [hy] at hu; cases hu; exact bef_asym hc
          · rw [hz] at hu; cases hu; exact bef_irr _
        · rename_i hc
          refine ⟨.inl rfl, hy, fun i u hi hu => ?_⟩
          rcases hi with rfl | rfl
          · rw [hy] at hu; cases hu; exact bef_irr _
          · rw [hz] at hu; cases hu; exact hc)
      obtain ⟨j, hj⟩ : ∃ j, j = 2 * k + 1 := ⟨_, rfl⟩
      rw [show 2 * k + 2 = j + 1 by omega, ← hj] at Hr
      rw [show 2 * k + 2 = j + 1 by omega] at z0 z1
      rw [← hj] at y0 y1
      have hj2 : j + 1 < T.length := by omega
      have lt1 : decide ((j : Int) + 1 < (T.length : Int)) = true := decide_eq_true (by omega)
      have lt2 : ((j + 1 : Nat) : Int) < (T.length : Int) := by omega
      have lt3 : j < T.length := by omega
      have lt4 : j + 1 < T.length := by omega
      have wj : IntKind.i64.wrap ((j : Int) + 1) = ((j + 1 : Nat) : Int) := by rw [IntKind.wrap_i64]; omega
      generalize hj1 : j + 1 = j1 at z0 z1 lt2 wj lt4
      rw [hj1] at Hr
      have fin : ∀ (d : Bool), decide (bef z y) = d → (d = true → Hid (FirstB T k j1 z)) ∧ (d = false → Hid (FirstB T k j y)) := by
        intro d hd
        have := unhide Hr
        constructor
        · rintro rfl; rw [if_pos (of_decide_eq_true hd)] at this; exact hide this
        · rintro rfl; rw [if_neg (of_decide_eq_false hd)] at this; exact hide this
      clear hid hy hz h1 h2 Hr
      cases hd : decide (bef z y)
      · rw [hd] at hbw
        have FN := (fin _ hd).2 rfl
        clear fin hd
        go_enter Try.func72, Try.ntmps72
        go_wp2_with fail
        rw [show (2 * (k : Int) + 1) = (j : Int) by omega]
        clear hj hj1 lt1 hj2
        go_region_held3 (fun u => u.cell? ⟨B, 0, none⟩ = some (.slice (some ⟨g, off, none⟩) T.length cap) ∧ u.cell? ⟨g, off + j * 2, none⟩ = some (.int .i64 (y.1 : Int)) ∧ u.cell? ⟨g, off + j * 2 + 1, none⟩ = some (.int .i64 y.2) ∧ u.cell? ⟨g, off + j1 * 2, none⟩ = some (.int .i64 (z.1 : Int)) ∧ u.cell? ⟨g, off + j1 * 2 + 1, none⟩ = some (.int .i64 z.2)) (first | exact ⟨f0, y0, y1, z0, z1⟩ | exact ⟨f2, y2, y3, z2, z3⟩ | go_keep)
          (first
          | (go_at_call 63; refine (hbw _).mono ?_; rintro e w2 ⟨rfl, t2⟩; have f2 := t2.cell f0 (fun h => h); have y2 := t2.cell y0 (fun h => h); have y3 := t2.cell y1 (fun h => h); have z2 := t2.cell z0 (fun h => h); have z3 := t2.cell z1 (fun h => h)))
        go_wp2
        go_ret2
        exact ⟨Turn.undrew t2, .inr ⟨_, y, unhide FN, rfl⟩⟩
      · rw [hd] at hbw
        have FN := (fin _ hd).1 rfl
        clear fin hd
        go_enter Try.func72, Try.ntmps72
        go_wp2_with fail
        rw [show (2 * (k : Int) + 1) = (j : Int) by omega]
        clear hj hj1 lt1 hj2
        go_region_held3 (fun u => u.cell? ⟨B, 0, none⟩ = some (.slice (some ⟨g, off, none⟩) T.length cap) ∧ u.cell? ⟨g, off + j * 2, none⟩ = some (.int .i64 (y.1 : Int)) ∧ u.cell? ⟨g, off + j * 2 + 1, none⟩ = some (.int .i64 y.2) ∧ u.cell? ⟨g, off + j1 * 2, none⟩ = some (.int .i64 (z.1 : Int)) ∧ u.cell? ⟨g, off + j1 * 2 + 1, none⟩ = some (.int .i64 z.2)) (first | exact ⟨f0, y0, y1, z0, z1⟩ | exact ⟨f2, y2, y3, z2, z3⟩ | go_keep)
          (first
          | (go_at_call 63; refine (hbw _).mono ?_; rintro e w2 ⟨rfl, t2⟩; have f2 := t2.cell f0 (fun h => h); have y2 := t2.cell y0 (fun h => h); have y3 := t2.cell y1 (fun h => h); have z2 := t2.cell z0 (fun h => h); have z3 := t2.cell z1 (fun h => h)))
        go_wp2
        go_ret2
        exact ⟨Turn.undrew t2, .inr ⟨_, z, unhide FN, rfl⟩⟩
end Go.Proofs.Ytombpfpfeebnpaa
