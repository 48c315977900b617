/- One call of both disks: do they answer alike? -/
import Derived.Test.YthpfdgjpmooclaaRTwo
import Derived.Deep.RegionWith
namespace Go.Proofs.Ythpfdgjpmooclaa
open Go.RowKit Go.Maps
set_option linter.unusedVariables false
set_option linter.unusedSimpArgs false

theorem not_shield (A : Nat → Prop) (a b : Nat) {j : Nat} (h1 : a ≤ j) (h2 : j < b) : ¬ shield A a b j := fun q => by rcases q.2 with h | h <;> omega
/-- the call's own copy of its operation -/
theorem box_facts {A : Nat → Prop} {w : World} {B R : Nat} {S : Dk} (h : Two A w B R S S) (k n : Int) (s : ByteArray) (bv kv : Value) (T : TypeId) :
    ∃ W, W = w.alloc (.cells #[.int .i64 k, .int .i64 n, .string s, bv, kv] T) ∧ ∃ A', Two A' W B R S S ∧ (∀ j, A' j → A j) ∧ ¬ A' w.heap.size ∧ Turn (fun _ => False) w W ∧ W.heap[w.heap.size]? = some (.cells #[.int .i64 k, .int .i64 n, .string s, bv, kv] T (0, 0)) := by
  refine ⟨_, rfl, shield A w.heap.size (w.alloc (.cells #[.int .i64 k, .int .i64 n, .string s, bv, kv] T)).heap.size, h.shield ((Turn.refl _ _).alloc _), fun j hj => hj.1, not_shield _ _ _ (Nat.le_refl _) (by simp), (Turn.refl _ _).alloc _, heap_alloc_new w _⟩

theorem row_at {k : IntKind} {w : World} {g c : Nat} {zs r : List Int} (h : Cells k w g 0 (zs ++ r)) (hc : zs.length ≤ c) (hm : c ≤ maxLen) : Row k (fun b => b = g) w (.slice (some ⟨g, 0, none⟩) zs.length c) zs := by
  refine .inr ⟨g, 0, c, rfl, hc, hm, rfl, fun i hi => ?_⟩
  have := h i (by simp; omega)
  rw [this, List.getD_eq_getElem?_getD, List.getD_eq_getElem?_getD, List.getElem?_append_left hi]
set_option maxRecDepth 100000 in
set_option maxHeartbeats 2000000 in
theorem step_sync {A : Nat → Prop} {w : World} {B R : Nat} {S : Dk} (h : Two A w B R S S) (n : Int) (s : ByteArray) (bv kv : Value) (hs : s.size ≤ maxLen) :
    Calls Try.prog 13 #[.pointer (some ⟨B, 0, none⟩), .pointer (some ⟨R, 0, none⟩), .agg #[.int .i64 1, .int .i64 n, .string s, bv, kv]] w fun e w' => e = .returned (.bool true) ∧ Turn A w w' ∧ ∃ S', Two A w' B R S' S' := by
  obtain ⟨W, hW, A', h1, hA, hnA, tW, kW⟩ := box_facts h 1 n s bv kv 35
  have q0 : W.cell? ⟨w.heap.size, 0, none⟩ = some (.int .i64 1) := cell_obj kW 0
  have q2 : W.cell? ⟨w.heap.size, 2, none⟩ = some (.string s) := cell_obj kW 2
  have h2 := h1.drew
  have q2d : W.drew.cell? ⟨w.heap.size, 2, none⟩ = some (.string s) := q2
  have hA := hide hA
  clear h kW
  subst hW
  go_enter Try.func13, Try.ntmps13
  go_wp2_with fail
  generalize w.alloc (.cells #[.int .i64 1, .int .i64 n, .string s, bv, kv] 35) = W at *
  go_region_with (first
    | (go_at_call 25; refine (dSync2 h2 s hs).mono ?_; rintro x w1 ⟨rfl, h3, t3⟩; have q3 := t3.cell q2d hnA)
    | (go_at_call 37; refine (rSync2 h3 s hs).mono ?_; rintro x w2 ⟨rfl, h4, t4⟩; have q4 := t4.cell q3 hnA))
  all_goals
    have tt : Turn A w w2 := (((tW.drew).mono (fun _ h => h.elim)).then (t3.mono (unhide hA))).then (t4.mono (unhide hA))
    have fin := h4.mono (unhide hA)
    clear h1 h2 h3 h4 t3 t4 tW
    go_wp2
    go_ret
    exact ⟨ret_bool (by simp), tt, _, fin⟩
set_option maxRecDepth 100000 in
set_option maxHeartbeats 2000000 in
theorem step_remove {A : Nat → Prop} {w : World} {B R : Nat} {S : Dk} (h : Two A w B R S S) (n : Int) (s : ByteArray) (bv kv : Value) (hs : s.size ≤ maxLen) :
    Calls Try.prog 13 #[.pointer (some ⟨B, 0, none⟩), .pointer (some ⟨R, 0, none⟩), .agg #[.int .i64 4, .int .i64 n, .string s, bv, kv]] w fun e w' => e = .returned (.bool true) ∧ Turn A w w' ∧ ∃ S', Two A w' B R S' S' := by
  obtain ⟨W, hW, A', h1, hA, hnA, tW, kW⟩ := box_facts h 4 n s bv kv 35
  have q0 : W.cell? ⟨w.heap.size, 0, none⟩ = some (.int .i64 4) := cell_obj kW 0
  have q2 : W.cell? ⟨w.heap.size, 2, none⟩ = some (.string s) := cell_obj kW 2
  have h2 := h1.drew
  have q2d : W.drew.cell? ⟨w.heap.size, 2, none⟩ = some (.string s) := q2
  have hA := hide hA
  clear h kW
  subst hW
  go_enter Try.func13, Try.ntmps13
  go_wp2_with fail
  generalize w.alloc (.cells #[.int .i64 4, .int .i64 n, .string s, bv, kv] 35) = W at *
  go_region_with (first
    | (go_at_call 29; refine (dRemove2 h2 s hs).mono ?_; rintro x w1 ⟨rfl, h3, t3⟩; have q3 := t3.cell q2d hnA)
    | (go_at_call 40; refine (rRemove2 h3 s hs).mono ?_; rintro x w2 ⟨rfl, h4, t4⟩; have q4 := t4.cell q3 hnA))
  all_goals
    have tt : Turn A w w2 := (((tW.drew).mono (fun _ h => h.elim)).then (t3.mono (unhide hA))).then (t4.mono (unhide hA))
    have fin := h4.mono (unhide hA)
    clear h1 h2 h3 h4 t3 t4 tW
    go_wp2
    go_ret
    exact ⟨ret_bool (by simp), tt, _, fin⟩

end Go.Proofs.Ythpfdgjpmooclaa
