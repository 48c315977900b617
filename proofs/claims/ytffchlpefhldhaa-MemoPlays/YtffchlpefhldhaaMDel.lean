/- What Drop's own function answers of a pair. -/
import Derived.Test.YtffchlpefhldhaaMNew
namespace Go.Proofs.Ytffchlpefhldhaa
open Go.RowKit Go.Maps
set_option linter.unusedVariables false

/-- the closure of Drop stands: its two boxes, the memo, and what the maps tell -/
structure Clos (w : World) (bn bm B bd bc k : Nat) (node : Int) (m0 qv : Value) (L : List Ent) : Prop where
  b1 : w.heap[bn]? = some (.cells #[.int .i32 node] 21 (0, 0))
  b2 : w.heap[bm]? = some (.cells #[.pointer (some ⟨B, 0, none⟩)] 23 (0, 0))
  obj : w.heap[B]? = some (.cells #[m0, .map (some bd), qv, .map (some bc)] 57 (0, 0))
  ne : bd ≠ bc
  told : Told w bd bc k L

theorem Clos.turn {F : Nat → Prop} {w w' : World} {bn bm B bd bc k : Nat} {node : Int} {m0 qv : Value} {L : List Ent} (h : Clos w bn bm B bd bc k node m0 qv L) (t : Turn F w w') (h1 : ¬ F bn) (h2 : ¬ F bm) (h3 : ¬ F B) (h4 : ¬ F bd) (h5 : ¬ F bc) : Clos w' bn bm B bd bc k node m0 qv L :=
  ⟨t.same h.b1 h1, t.same h.b2 h2, t.same h.obj h3, h.ne, h.told.turn t h4 h5⟩

theorem keep_yes {node a b d : Int} (h1 : ¬ a = node) (h2 : ¬ b = node) : keep node (a, b, d) = true := by simp [keep, h1, h2]
theorem keep_no {node a b d : Int} (h : a = node ∨ b = node) : keep node (a, b, d) = false := by
  simp [keep]; omega

set_option maxHeartbeats 1000000 in
theorem del_keeps (w : World) (bn bm B bd bc k : Nat) (node : Int) (m0 qv : Value) (L : List Ent) (a b d : Int) (h : Clos w bn bm B bd bc k node m0 qv L) (hk : keep node (a, b, d) = true) :
    Calls Try.prog 22 #[.agg #[.int .i32 a, .int .i32 b], .pointer (some ⟨bn, 0, none⟩), .pointer (some ⟨bm, 0, none⟩)] w fun e w' => e = .returned (.bool false) ∧ Turn (fun _ => False) w w' := by
  have h1 : (a != node) = true := by simp [keep] at hk; simp [hk.1]
  have h2 : (b != node) = true := by simp [keep] at hk; simp [hk.2]
  go_enter Try.func22, Try.ntmps22
  have tW : Turn (fun _ => False) w (w.alloc (.cells #[.int .i32 a, .int .i32 b] 30)) := (Turn.refl _ w).alloc _
  have cn : (w.alloc (.cells #[.int .i32 a, .int .i32 b] 30)).cell? ⟨bn, 0, none⟩ = some (.int .i32 node) := cell_obj (tW.same h.b1 id) 0
  go_wp2_with fail
  go_ret
  exact ⟨rfl, tW⟩

set_option maxHeartbeats 1000000 in
theorem del_goes (w : World) (bn bm B bd bc k : Nat) (node : Int) (m0 qv : Value) (X Y : List Ent) (a b d : Int) (h : Clos w bn bm B bd bc k node m0 qv (X ++ (a, b, d) :: Y)) (hg : Good (X ++ (a, b, d) :: Y)) (hl : (X ++ (a, b, d) :: Y).length ≤ 100000) (hr : k + 2 < maxLen) (hk : keep node (a, b, d) = false) :
    Calls Try.prog 22 #[.agg #[.int .i32 a, .int .i32 b], .pointer (some ⟨bn, 0, none⟩), .pointer (some ⟨bm, 0, none⟩)] w fun e w' => e = .returned (.bool true) ∧ Turn (fun j => j = bd ∨ j = bc) w w' ∧ Clos w' bn bm B bd bc (k + 2) node m0 qv (X ++ Y) := by
  have three : a = node ∨ (¬ a = node ∧ b = node) := by
    simp [keep] at hk
    by_cases e : a = node
    · exact .inl e
    · exact .inr ⟨e, hk e⟩
  have ne : ∀ {i : Nat} {c : Array Value} {e : TypeId}, w.heap[i]? = some (.cells c e (0, 0)) → ¬ (i = bd ∨ i = bc) := fun hi => by have := h.told.neB hi; omega
  rcases three with rfl | ⟨h1, rfl⟩
  · have e1 : (a != a) = false := by simp
    go_enter Try.func22, Try.ntmps22
    have tW : Turn (fun j => j = bd ∨ j = bc) w (w.alloc (.cells #[.int .i32 a, .int .i32 b] 30)) := (Turn.refl _ w).alloc _
    have hW := h.turn ((Turn.refl (fun _ => False) w).alloc (.cells #[.int .i32 a, .int .i32 b] 30)) id id id id id
    have cn : (w.alloc (.cells #[.int .i32 a, .int .i32 b] 30)).cell? ⟨bn, 0, none⟩ = some (.int .i32 a) := cell_obj hW.b1 0
    have cm : (w.alloc (.cells #[.int .i32 a, .int .i32 b] 30)).cell? ⟨bm, 0, none⟩ = some (.pointer (some ⟨B, 0, none⟩)) := cell_obj hW.b2 0
    go_wp2_with fail
    refine (forget_walk _ B bd bc k m0 qv X Y a b d hW.obj h.ne hW.told hg hl hr).mono ?_
    rintro e w1 ⟨rfl, t1, td⟩
    go_wp2_with fail
    go_ret
    have n1 := ne h.b1
    have n2 := ne h.b2
    have n3 := ne h.obj
    exact ⟨rfl, tW.then t1, ⟨t1.same hW.b1 n1, t1.same hW.b2 n2, t1.same hW.obj n3, h.ne, td⟩⟩
  · have e1 : (a != b) = true := by simp [h1]
    have e2 : (b != b) = false := by simp
    clear h1
    go_enter Try.func22, Try.ntmps22
    have tW : Turn (fun j => j = bd ∨ j = bc) w (w.alloc (.cells #[.int .i32 a, .int .i32 b] 30)) := (Turn.refl _ w).alloc _
    have hW := h.turn ((Turn.refl (fun _ => False) w).alloc (.cells #[.int .i32 a, .int .i32 b] 30)) id id id id id
    have cn : (w.alloc (.cells #[.int .i32 a, .int .i32 b] 30)).cell? ⟨bn, 0, none⟩ = some (.int .i32 b) := cell_obj hW.b1 0
    have cm : (w.alloc (.cells #[.int .i32 a, .int .i32 b] 30)).cell? ⟨bm, 0, none⟩ = some (.pointer (some ⟨B, 0, none⟩)) := cell_obj hW.b2 0
    go_wp2_with fail
    refine (forget_walk _ B bd bc k m0 qv X Y a b d hW.obj h.ne hW.told hg hl hr).mono ?_
    rintro e w1 ⟨rfl, t1, td⟩
    go_wp2_with fail
    go_ret
    have n1 := ne h.b1
    have n2 := ne h.b2
    have n3 := ne h.obj
    exact ⟨rfl, tW.then t1, ⟨t1.same hW.b1 n1, t1.same hW.b2 n2, t1.same hW.obj n3, h.ne, td⟩⟩
end Go.Proofs.Ytffchlpefhldhaa
