/- Start. -/
import Derived.Test.YthikiahhochjmaaGreatDoorDCrash
import Derived.Test.YthikiahhochjmaaGreatDoorPack7
namespace Go.Proofs.YthikiahhochjmaaGreatDoor
open Go.RowKit Go.Maps
set_option linter.unusedVariables false

theorem well_start {S : Dk} (h : Well S) : Well (startS S) := by
  unfold startS
  split
  · have := well_crash h []
    exact ⟨this.rise, this.good, this.room, this.size, this.files, Nat.zero_le _⟩
  · exact ⟨h.rise, h.good, h.room, h.size, h.files, Nat.zero_le _⟩

set_option maxHeartbeats 1000000 in
/-- the last lines of Start -/
theorem start_end (w : World) (B : Nat) (mv : Option Nat) (E : List Ent) (S : Dk) (m : DMem w B mv E S) :
    Turn (fun j => j = B) w ((w.setCell ⟨B, 2, none⟩ (.bool false)).setCell ⟨B, 3, none⟩ (.int .u64 0)) ∧ DMem ((w.setCell ⟨B, 2, none⟩ (.bool false)).setCell ⟨B, 3, none⟩ (.int .u64 0)) B mv E { S with down := false, arm := 0 } := by
  have t : Turn (fun j => j = B) w ((w.setCell ⟨B, 2, none⟩ (.bool false)).setCell ⟨B, 3, none⟩ (.int .u64 0)) := ((Turn.refl (fun j => j = B) w).setCell (p := ⟨B, 2, none⟩) (.inl rfl) _).setCell (p := ⟨B, 3, none⟩) (.inl rfl) _
  refine ⟨t, m.re t ?_ rfl ⟨m.well.rise, m.well.good, m.well.room, m.well.size, m.well.files, Nat.zero_le _⟩⟩
  have h1 := heap_setCell_obj (j := 3) (heap_setCell_obj (j := 2) m.obj (.bool false)) (.int .u64 0)
  rw [h1]; rfl

set_option maxHeartbeats 1000000 in
theorem Start_walk (w : World) (B : Nat) (F : Nat → Prop) (S : Dk) (h : DAt w B F S) :
    Calls Tryz.prog 35 #[.pointer (some ⟨B, 0, none⟩)] w fun e w' => e = .returned (.int .i64 0) ∧ Turn F w w' ∧ DAt w' B (NF w F) (startS S) := by
  have hcr := Crash_walk w B F (fun _ => False) S (.slice none 0 0) [] h (row_none _ _ _) (fun _ h => h.elim)
  obtain ⟨mv, E, m, hF⟩ := h
  have c2 : w.cell? ⟨B, 2, none⟩ = some (.bool S.down) := cell_obj m.obj 2
  have hFB := hF B (.inl rfl)
  cases hd : S.down
  · have eS : startS S = { S with down := false, arm := 0 } := by unfold startS; rw [hd]; rfl
    rw [eS]
    rw [hd] at c2
    have c3 : w.cell? ⟨B, 3, none⟩ = some (.int .u64 (S.arm : Int)) := cell_obj m.obj 3
    have f2 : w.frozen? ⟨B, 2, none⟩ = false := frozen_obj m.obj 2
    have f3 : w.frozen? ⟨B, 3, none⟩ = false := frozen_obj m.obj 3
    obtain ⟨t, m'⟩ := start_end w B mv E S m
    have Ht := hide t
    have Hm := hide m'
    clear eS t m' m hcr hd
    go_enter Tryz.func35, Tryz.ntmps35
    go_wp2
    go_ret
    exact ⟨rfl, (unhide Ht).mono (fun j hj => by subst hj; exact hFB), mv, E, unhide Hm, fun j hj => .inl (hF j hj)⟩
  · have eS : startS S = { crashS S [] with down := false, arm := 0 } := by unfold startS; rw [hd]; rfl
    rw [eS]
    rw [hd] at c2
    clear eS m hd
    go_enter Tryz.func35, Tryz.ntmps35
    go_wp2_with (go_at_call 30; refine hcr.mono ?_; rintro x w2 ⟨rfl, t2, mv2, E2, m2, f2⟩; have d2 : w2.cell? ⟨B, 2, none⟩ = some (.bool (crashS S []).down) := cell_obj m2.obj 2; have c3 : w2.cell? ⟨B, 3, none⟩ = some (.int .u64 ((crashS S []).arm : Int)) := cell_obj m2.obj 3; have g2 : w2.frozen? ⟨B, 2, none⟩ = false := frozen_obj m2.obj 2; have g3 : w2.frozen? ⟨B, 3, none⟩ = false := frozen_obj m2.obj 3)
    go_ret
    obtain ⟨t, m'⟩ := start_end w2 B mv2 E2 _ m2
    exact ⟨rfl, t2.then (t.mono (fun j hj => by subst hj; exact hFB)), mv2, E2, m', f2⟩
end Go.Proofs.YthikiahhochjmaaGreatDoor
