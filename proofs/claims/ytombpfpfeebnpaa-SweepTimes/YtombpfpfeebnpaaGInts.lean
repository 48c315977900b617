/- Gathering in memory: arcs by rising nodes at one of their ends. -/
import Derived.Test.YtombpfpfeebnpaaGPlace
import Derived.Test.YtombpfpfeebnpaaGNets
namespace Go.Proofs.Ytombpfpfeebnpaa
open Go.RowKit Go.Maps
set_option linter.unusedVariables false
set_option linter.unusedSimpArgs false
set_option maxRecDepth 100000

/-- a slice of int32 that owns its row -/
def OI (w : World) (v : Value) (zs : List Int) : Prop := OwnSl w 21 1 v zs.length (zs.map (Value.int .i32))
theorem OI.turn {F : Nat → Prop} {w w' : World} {v : Value} {l : List Int} (h : OI w v l) (ht : Turn F w w') (hn : ∀ k, v.ownBlock = some k → ¬ F k) : OI w' v l := OwnSl.turn h ht hn
theorem OI.lt {w : World} {v : Value} {l : List Int} (h : OI w v l) : ∀ k, v.ownBlock = some k → k < w.heap.size := by
  intro k hk
  obtain ⟨cur, hc⟩ := OwnSl.lt h k hk
  exact (Array.getElem?_eq_some_iff.1 hc).1
theorem OI.row {w : World} {v : Value} {l : List Int} (h : OI w v l) : Row .i32 (fun b => v.ownBlock = some b) w v l := row_of_sl h
theorem info_i32 : (Try.prog.info? 21).map (fun i => (i.zero, i.size, i.bytes)) = some (some (.int .i32 0), 1, 4) := by kernel_rfl
theorem zero_arcs (m : Nat) : (madeCells (Value.agg #[.int .i64 0, .int .i64 0, .int .i64 0]).cells (m * 3)).toList = arCs (List.replicate m (0, 0, 0)) := by
  have h1 : (madeCells (Value.agg #[.int .i64 0, .int .i64 0, .int .i64 0]).cells (m * 3)).toList = List.replicate (m * 3) (Value.int .i64 0) := by
    rw [show (Value.agg #[.int .i64 0, .int .i64 0, .int .i64 0]).cells = #[Value.int .i64 0, Value.int .i64 0, Value.int .i64 0] from rfl]
    apply List.ext_getElem
    · simp [madeCells]
    · intro j h2 h3
      have : j % 3 < 3 := Nat.mod_lt _ (by omega)
      simp [madeCells]
      match j % 3, this with
      | 0, _ => rfl
      | 1, _ => rfl
      | 2, _ => rfl
  rw [h1]
  induction m with
  | zero => rfl
  | succ m ih =>
    rw [List.replicate_succ, arCs_cons, ← ih (by
      rw [show (Value.agg #[.int .i64 0, .int .i64 0, .int .i64 0]).cells = #[Value.int .i64 0, Value.int .i64 0, Value.int .i64 0] from rfl]
      apply List.ext_getElem
      · simp [madeCells]
      · intro j h2 h3
        have : j % 3 < 3 := Nat.mod_lt _ (by omega)
        simp [madeCells]
        match j % 3, this with
        | 0, _ => rfl
        | 1, _ => rfl
        | 2, _ => rfl)]
    rw [show (m + 1) * 3 = 3 + m * 3 by omega, ← List.replicate_append_replicate]
    rfl
theorem zero_ints (m : Nat) : (madeCells (Value.int .i32 0).cells (m * 1)).toList = (List.replicate m (0 : Int)).map (Value.int .i32) := by
  rw [Nat.mul_one, show (Value.int .i32 0).cells = #[Value.int .i32 0] from rfl, toList_madeCells_one]; simp
/-- a cell of such a slice -/
theorem OI.at {w : World} {g cap : Nat} {l : List Int} (h : OI w (.slice (some ⟨g, 0, none⟩) l.length cap) l) {i : Nat} {x : Int} (hx : l[i]? = some x) : w.cell? ⟨g, i, none⟩ = some (.int .i32 x) ∧ w.frozen? ⟨g, i, none⟩ = false := by
  have := OwnSl.cells h i (.int .i32 x) (by rw [List.getElem?_map, hx]; rfl)
  obtain ⟨cur, hc⟩ := OwnSl.lt h g rfl
  exact ⟨by simpa using this, frozen_obj hc _⟩
theorem OI.put {w : World} {g cap : Nat} {l : List Int} (h : OI w (.slice (some ⟨g, 0, none⟩) l.length cap) l) {i : Nat} (hi : i < l.length) (x : Int) : OI (w.setCell ⟨g, i, none⟩ (.int .i32 x)) (.slice (some ⟨g, 0, none⟩) l.length cap) (l.set i x) := by
  have := (OwnSl.set h i (by omega) (.int .i32 x)).1
  rw [Nat.zero_add] at this
  unfold OI
  rw [List.length_set, List.map_set]
  exact this

set_option maxHeartbeats 1000000 in
theorem clone_ints (w : World) (v : Value) (l : List Int) (h : OI w v l) (h0 : 0 < l.length) (hl : l.length ≤ 5000000000000) :
    Calls Try.prog 55 #[v] w fun e w' => ∃ g off c, e = .returned (.slice (some ⟨g, off, none⟩) l.length c) ∧ OI w' (.slice (some ⟨g, off, none⟩) l.length c) l ∧ Turn (fun _ => False) w w' ∧ w.heap.size ≤ g := by
  obtain ⟨i0, hi, hz0, hz1, hz2⟩ := info_parts info_i32
  have T0 := (Turn.refl (fun _ => False) w).alloc (.cells #[] 21)
  have hO : OI (w.alloc (.cells #[] 21)) (.slice (some ⟨w.heap.size, 0, none⟩) 0 0) [] := ⟨rfl, .inr ⟨_, 0, 0, _, rfl, heap_alloc_new w _, Nat.le_refl _, Nat.zero_le _, by simp, rfl⟩⟩
  obtain ⟨x, w2, hrun, O2, t2, own2⟩ := append_src (P := Try.prog) (ty := 74) Try.underlying74 hi hz0 hz1 hz2 rfl (by omega) hO (OwnSl.turn h T0 (fun _ _ h => h)).src (ints_oneCell _ _) (by unfold maxLen; simp; omega) (by simp; omega)
  have T2 : Turn (fun _ => False) w w2 := T0.trans t2 (fun j hj => by simp [Value.ownBlock] at hj; omega)
  have Own : Hid (∀ j, x.ownBlock = some j → w.heap.size ≤ j) := hide (fun j hj => by
    rcases own2 j hj with h | h
    · simp [Value.ownBlock] at h; omega
    · have := T0.size; omega)
  have O3 : OI w2 x l := by unfold OI; simpa using O2
  clear O2
  have Hg := hide h0
  rcases h.2 with ⟨rfl, h0'⟩ | ⟨g, off, cap, cur, rfl, _⟩
  · omega
  rcases O3.2 with ⟨_, h0'⟩ | ⟨g', off', cap', cur', rfl, _⟩
  · omega
  have q : ∀ (w : World) (a : Option Addr) (n c n' c' : Nat), (binOp .eql 74 (.slice a n c) (.slice none n' c')).run Try.prog w = .ok (.bool a.isNone) w := fun w a n c n' c' => by cases a <;> rfl
  clear own2 t2 T0 hO h h0
  go_enter Try.func55, Try.ntmps55
  go_wp2_with (at_builtin; refine list_append_run rfl _ _ 74 rfl _ _ _ _ rfl rfl hrun ?_)
  go_ret
  exact ⟨_, _, _, rfl, O3, T2, unhide Own _ rfl⟩

set_option maxHeartbeats 1000000 in
theorem to_walk (a : Ar) (w : World) : Calls Try.prog 43 #[arV a] w fun e w' => e = .returned (.int .i64 a.2.1) ∧ Turn (fun _ => False) w w' := by
  obtain ⟨f, t, v⟩ := a
  unfold arV
  go_enter Try.func43, Try.ntmps43
  go_wp2
  go_ret
  exact ⟨rfl, (Turn.refl _ _).alloc _⟩
set_option maxHeartbeats 1000000 in
theorem from_walk (a : Ar) (w : World) : Calls Try.prog 44 #[arV a] w fun e w' => e = .returned (.int .i64 a.1) ∧ Turn (fun _ => False) w w' := by
  obtain ⟨f, t, v⟩ := a
  unfold arV
  go_enter Try.func44, Try.ntmps44
  go_wp2
  go_ret
  exact ⟨rfl, (Turn.refl _ _).alloc _⟩
/-- which end -/
def keF (a : Ar) : Int := a.1
def keT (a : Ar) : Int := a.2.1
end Go.Proofs.Ytombpfpfeebnpaa
