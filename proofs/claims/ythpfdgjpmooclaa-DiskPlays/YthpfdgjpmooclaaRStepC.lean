/- .. Cut. -/
import Derived.Test.YthpfdgjpmooclaaRStep
import Derived.Deep.RegionWith
import Derived.Deep.RegionHeld3
namespace Go.Proofs.Ythpfdgjpmooclaa
open Go.RowKit Go.Maps
set_option linter.unusedVariables false
set_option linter.unusedSimpArgs false

set_option maxRecDepth 100000 in
set_option maxHeartbeats 2000000 in
theorem step_cut {A : Nat → Prop} {w : World} {B R : Nat} {S : Dk} (h : Two A w B R S S) (n : Int) (s : ByteArray) (bv kv : Value) (hs : s.size ≤ maxLen) :
    Calls Try.prog 13 #[.pointer (some ⟨B, 0, none⟩), .pointer (some ⟨R, 0, none⟩), .agg #[.int .i64 3, .int .i64 n, .string s, bv, kv]] w fun e w' => e = .returned (.bool true) ∧ Turn A w w' ∧ ∃ S', Two A w' B R S' S' := by
  obtain ⟨W, hW, A', h1, hA, hnA, tW, kW⟩ := box_facts h 3 n s bv kv 35
  have q0 : W.cell? ⟨w.heap.size, 0, none⟩ = some (.int .i64 3) := cell_obj kW 0
  have q2 : W.cell? ⟨w.heap.size, 2, none⟩ = some (.string s) := cell_obj kW 2
  have q1 : W.cell? ⟨w.heap.size, 1, none⟩ = some (.int .i64 n) := cell_obj kW 1
  have q1d : W.drew.cell? ⟨w.heap.size, 1, none⟩ = some (.int .i64 n) := q1
  have h2 := h1.drew
  have q2d : W.drew.cell? ⟨w.heap.size, 2, none⟩ = some (.string s) := q2
  have hA := hide hA
  clear h kW
  subst hW
  go_enter Try.func13, Try.ntmps13
  go_wp2_with fail
  generalize w.alloc (.cells #[.int .i64 3, .int .i64 n, .string s, bv, kv] 35) = W at *
  go_region_held3 (fun w' => w'.cell? ⟨w.heap.size, 1, none⟩ = some (.int .i64 n) ∧ w'.cell? ⟨w.heap.size, 2, none⟩ = some (.string s)) (first | exact ⟨q1d, q2d⟩ | exact ⟨p3, q3⟩ | exact ⟨p4, q4⟩ | go_keep)
    (first
    | (go_at_call 28; refine (dCut2 h2 s n hs).mono ?_; rintro x w1 ⟨rfl, h3, t3⟩; have q3 := t3.cell q2d hnA; have p3 := t3.cell q1d hnA)
    | (go_at_call 39; refine (rCut2 h3 s n hs).mono ?_; rintro x w2 ⟨rfl, h4, t4⟩; have q4 := t4.cell q3 hnA; have p4 := t4.cell p3 hnA))
  all_goals
    have tt : Turn A w w2 := (((tW.drew).mono (fun _ h => h.elim)).then (t3.mono (unhide hA))).then (t4.mono (unhide hA))
    have fin := h4.mono (unhide hA)
    clear h1 h2 h3 h4 t3 t4 tW
    go_wp2
    go_ret
    exact ⟨ret_bool (by simp), tt, _, fin⟩

end Go.Proofs.Ythpfdgjpmooclaa
