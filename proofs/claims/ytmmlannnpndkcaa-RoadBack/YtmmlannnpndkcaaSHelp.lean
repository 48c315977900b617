/- bytes.Clone; hansomhelp's Bytes and CopyBytes. -/
import Derived.Test.YtmmlannnpndkcaaSBase
import Derived.Laws.BytesArg
namespace Go.Proofs.Ytmmlannnpndkcaa
open Go.RowKit Go.Maps
set_option linter.unusedVariables false

set_option maxRecDepth 10000 in
set_option maxHeartbeats 1000000 in
theorem clone_walk (B : Nat → Prop) (v : Value) (zs : List Int) (w : World) (hr : Row .u8 B w v zs) (hl : zs.length ≤ 140737488355328) :
    Calls Try.prog 54 #[v] w fun e w' => ∃ x, e = .returned x ∧ OwnSl w' 5 1 x zs.length (zs.map (Value.int .u8)) ∧ (∀ j, x.ownBlock = some j → w.heap.size ≤ j) ∧ Turn (fun _ => False) w w' := by
  obtain ⟨i0, hi, hz0, hz1, hz2⟩ := info_parts info_u8
  have q : ∀ (w : World) (a : Option Addr) (n c n' c' : Nat), (binOp .eql 22 (.slice a n c) (.slice none n' c')).run Try.prog w = .ok (.bool a.isNone) w := fun w a n c n' c' => by cases a <;> rfl
  obtain ⟨a, c, rfl⟩ := hr.slice
  cases a with
  | none =>
    have h0 : zs = [] := by
      rcases hr with ⟨a, c, h, _, _, rfl⟩ | ⟨b, off, c, h, _⟩
      · rfl
      · simp at h
    subst h0
    go_enter Try.func54, Try.ntmps54
    go_wp2
    go_ret
    exact ⟨_, rfl, ⟨rfl, .inl ⟨rfl, rfl⟩⟩, fun j hj => by simp [Value.ownBlock] at hj, Turn.refl _ _⟩
  | some a =>
    have hown0 : (w.alloc (.cells #[] 5)).ownsRow w.heap.size 5 1 (.slice (some ⟨w.heap.size, 0, none⟩) 0 0) ([] : List Int).length (([] : List Int).map (Value.int .u8)) :=
      World.ownsRow_lit w #[] 0 (Nat.le_refl _) (Nat.zero_le _) rfl
    have hb0 : Below w.heap.size w (w.alloc (.cells #[] 5)) := (Below.refl _ _).alloc (Nat.le_refl _) _
    obtain ⟨x2, w2, hrun, hx2, hb2⟩ := append_row (P := Try.prog) (ty := 22) Try.underlying22 hi hz0 hz1 hz2 rfl hown0 (hr.below hb0) (by unfold maxLen; simp; omega) (by simp; omega) hb0.size
    rw [List.nil_append] at hx2
    go_enter Try.func54, Try.ntmps54
    go_wp2_with (at_builtin; refine list_append_run rfl _ _ 22 rfl _ _ _ _ rfl rfl hrun ?_)
    go_ret
    exact ⟨x2, rfl, OwnSl.of_owns hx2, own_base hx2, Turn.of_below (hb0.trans hb2)⟩

/-- string(a) of a row -/
theorem conv_row {w : World} {B : Nat → Prop} {v : Value} {zs : List Int} (h : Row .u8 B w v zs) : (convert 22 9 v).run Try.prog w = .ok (.string (strOfNums zs)) w := by
  rcases h with ⟨a, c, rfl, hn, _, rfl⟩ | ⟨b, off, c, rfl, _, _, _, h4⟩
  · cases a with
    | none =>
      exact run_convert_bytes_nil w 22 5 Try.underlying22 Try.underlying5 0 c 9 Try.underlying9
    | some a =>
      rw [run_convert_bytes_string w 22 9 5 _ 0 c Try.underlying22 Try.underlying5 Try.underlying9]
      exact run_bytesToString w a 0 c [] (by simp [loadCells, loadCellsFrom])
  · exact run_convert_bytes_arg w 22 5 Try.underlying22 Try.underlying5 b off zs.length c zs rfl h4 9 Try.underlying9
set_option maxHeartbeats 400000 in
theorem bytes_walk (B B' : Nat → Prop) (v v' : Value) (zs : List Int) (w : World) (hr : Row .u8 B w v zs) (hr' : Row .u8 B' w v' zs) : Calls Try.prog 19 #[v, v'] w fun e w' => e = .returned (.bool true) ∧ w' = w := by
  have h1 := conv_row hr
  have h2 := conv_row hr'
  generalize strOfNums zs = s at *
  clear hr hr'
  go_enter Try.func19, Try.ntmps19
  go_wp2
  go_ret
  exact ⟨ret_bool (by simp), rfl⟩
end Go.Proofs.Ytmmlannnpndkcaa
