/- bytes.Clone; hansomhelp's Bytes and CopyBytes. -/
import Derived.Test.YthikiahhochjmaaGreatDoorSBase
import Derived.Laws.BytesArg
namespace Go.Proofs.YthikiahhochjmaaGreatDoor
open Go.RowKit Go.Maps
set_option linter.unusedVariables false

set_option maxRecDepth 10000 in
set_option maxHeartbeats 1000000 in
theorem clone_walk (B : Nat → Prop) (v : Value) (zs : List Int) (w : World) (hr : Row .u8 B w v zs) (hl : zs.length ≤ 140737488355328) :
    Calls Tryz.prog 40 #[v] w fun e w' => ∃ x, e = .returned x ∧ OwnSl w' 5 1 x zs.length (zs.map (Value.int .u8)) ∧ (∀ j, x.ownBlock = some j → w.heap.size ≤ j) ∧ Turn (fun _ => False) w w' := by
  obtain ⟨i0, hi, hz0, hz1, hz2⟩ := info_parts info_u8
  have q : ∀ (w : World) (a : Option Addr) (n c n' c' : Nat), (binOp .eql 33 (.slice a n c) (.slice none n' c')).run Tryz.prog w = .ok (.bool a.isNone) w := fun w a n c n' c' => by cases a <;> rfl
  obtain ⟨a, c, rfl⟩ := hr.slice
  cases a with
  | none =>
    have h0 : zs = [] := by
      rcases hr with ⟨a, c, h, _, _, rfl⟩ | ⟨b, off, c, h, _⟩
      · rfl
      · simp at h
    subst h0
    go_enter Tryz.func40, Tryz.ntmps40
    go_wp2
    go_ret
    exact ⟨_, rfl, ⟨rfl, .inl ⟨rfl, rfl⟩⟩, fun j hj => by simp [Value.ownBlock] at hj, Turn.refl _ _⟩
  | some a =>
    have hown0 : (w.alloc (.cells #[] 5)).ownsRow w.heap.size 5 1 (.slice (some ⟨w.heap.size, 0, none⟩) 0 0) ([] : List Int).length (([] : List Int).map (Value.int .u8)) :=
      World.ownsRow_lit w #[] 0 (Nat.le_refl _) (Nat.zero_le _) rfl
    have hb0 : Below w.heap.size w (w.alloc (.cells #[] 5)) := (Below.refl _ _).alloc (Nat.le_refl _) _
    obtain ⟨x2, w2, hrun, hx2, hb2⟩ := append_row (P := Tryz.prog) (ty := 33) Tryz.underlying33 hi hz0 hz1 hz2 rfl hown0 (hr.below hb0) (by unfold maxLen; simp; omega) (by simp; omega) hb0.size
    rw [List.nil_append] at hx2
    go_enter Tryz.func40, Tryz.ntmps40
    go_wp2_with (at_builtin; refine list_append_run rfl _ _ 33 rfl _ _ _ _ rfl rfl hrun ?_)
    go_ret
    exact ⟨x2, rfl, OwnSl.of_owns hx2, own_base hx2, Turn.of_below (hb0.trans hb2)⟩

/-- string(a) of a row -/
theorem conv_row {w : World} {B : Nat → Prop} {v : Value} {zs : List Int} (h : Row .u8 B w v zs) : (convert 33 9 v).run Tryz.prog w = .ok (.string (strOfNums zs)) w := by
  rcases h with ⟨a, c, rfl, hn, _, rfl⟩ | ⟨b, off, c, rfl, _, _, _, h4⟩
  · cases a with
    | none =>
      exact run_convert_bytes_nil w 33 5 Tryz.underlying33 Tryz.underlying5 0 c 9 Tryz.underlying9
    | some a =>
      rw [run_convert_bytes_string w 33 9 5 _ 0 c Tryz.underlying33 Tryz.underlying5 Tryz.underlying9]
      exact run_bytesToString w a 0 c [] (by simp [loadCells, loadCellsFrom])
  · exact run_convert_bytes_arg w 33 5 Tryz.underlying33 Tryz.underlying5 b off zs.length c zs rfl h4 9 Tryz.underlying9
set_option maxHeartbeats 400000 in
theorem bytes_walk (B B' : Nat → Prop) (v v' : Value) (zs : List Int) (w : World) (hr : Row .u8 B w v zs) (hr' : Row .u8 B' w v' zs) : Calls Tryz.prog 29 #[v, v'] w fun e w' => e = .returned (.bool true) ∧ w' = w := by
  have h1 := conv_row hr
  have h2 := conv_row hr'
  generalize strOfNums zs = s at *
  clear hr hr'
  go_enter Tryz.func29, Tryz.ntmps29
  go_wp2
  go_ret
  exact ⟨ret_bool (by simp), rfl⟩
set_option maxHeartbeats 1000000 in
theorem copy_walk (B : Nat → Prop) (v : Value) (zs : List Int) (w : World) (hr : Row .u8 B w v zs) (hl : zs.length ≤ 140737488355328) :
    Calls Tryz.prog 34 #[v] w fun e w' => ∃ x, e = .returned x ∧ OwnSl w' 5 1 x zs.length (zs.map (Value.int .u8)) ∧ (∀ j, x.ownBlock = some j → w.heap.size ≤ j) ∧ Turn (fun _ => False) w w' := by
  obtain ⟨i0, hi, hz0, hz1, hz2⟩ := info_parts info_u8
  have hown0 : w.ownsRow w.heap.size 5 1 (.slice none 0 0) ([] : List Int).length (([] : List Int).map (Value.int .u8)) := ⟨rfl, .inl ⟨rfl, rfl⟩⟩
  obtain ⟨x2, w2, hrun, hx2, hb2⟩ := append_row (P := Tryz.prog) (ty := 33) Tryz.underlying33 hi hz0 hz1 hz2 rfl hown0 hr (by unfold maxLen; simp; omega) (by simp; omega) (Nat.le_refl _)
  rw [List.nil_append] at hx2
  go_enter Tryz.func34, Tryz.ntmps34
  go_wp2_with (at_builtin; refine list_append_run rfl _ _ 33 rfl _ _ _ _ rfl rfl hrun ?_)
  go_ret
  exact ⟨x2, rfl, OwnSl.of_owns hx2, own_base hx2, Turn.of_below hb2⟩
end Go.Proofs.YthikiahhochjmaaGreatDoor
