/- The graph that the statements look at; a program that does something; a nil graph. -/
import Derived.Test.YtombpfpfeebnpaaSDist
import Derived.Test.YtombpfpfeebnpaaGNewOk
import Derived.Test.YtombpfpfeebnpaaGMay
namespace Go.Proofs.Ytombpfpfeebnpaa
open Go.RowKit Go.Maps
set_option linter.unusedVariables false
set_option linter.unusedSimpArgs false
set_option maxRecDepth 100000

/-- a network that may be, and is looked at -/
def Looked (n : Int) (l : List Ar) : Prop := n ≤ 60 ∧ l.length ≤ 300 ∧ MayA n l
set_option maxHeartbeats 8000000 in
theorem graph_none (B : Nat → Prop) (w : World) (n : Int) (v : Value) (l : List Ar) (hr : AR B w v l) (h : ¬ Looked n l) :
    Calls Try.prog 9 #[.agg #[.int .i64 n, v]] w fun e w' => e = .returned (.pointer none) ∧ Turn (fun _ => False) w w' := by
  obtain ⟨a, c, rfl⟩ := hr.slice
  have T0 := (Turn.refl (fun _ => False) w).alloc (.cells #[.int .i64 n, .slice a l.length c] 24)
  have hb := heap_alloc_new w (.cells #[.int .i64 n, .slice a l.length c] 24)
  have b0 : (w.alloc (.cells #[.int .i64 n, .slice a l.length c] 24)).cell? ⟨w.heap.size, 0, none⟩ = some (.int .i64 n) := cell_obj hb 0
  have b1 : (w.alloc (.cells #[.int .i64 n, .slice a l.length c] 24)).cell? ⟨w.heap.size, 1, none⟩ = some (.slice a l.length c) := cell_obj hb 1
  have hR := hr.quiet T0
  by_cases h1 : 60 < n
  · clear h hr hR hb
    go_enter Try.func9, Try.ntmps9
    go_wp2
    go_ret
    exact ⟨rfl, T0⟩
  · by_cases h2 : 300 < (l.length : Int)
    · clear h hr hR hb
      go_enter Try.func9, Try.ntmps9
      go_wp2
      go_ret
      exact ⟨rfl, T0⟩
    · have hm := may_walk B _ n _ l hR (by omega)
      rw [decide_eq_false (fun q => h ⟨by omega, by omega, q⟩)] at hm
      clear h hr hR hb
      go_enter Try.func9, Try.ntmps9
      go_wp2_with (go_at_call 23; refine hm.mono ?_; rintro e w1 ⟨rfl, t1⟩)
      go_ret
      exact ⟨rfl, T0.then t1⟩
set_option maxHeartbeats 8000000 in
theorem graph_some (B : Nat → Prop) (w : World) (n : Nat) (v : Value) (l : List Ar) (hr : AR B w v l) (h : Looked n l) :
    Calls Try.prog 9 #[.agg #[.int .i64 (n : Int), v]] w fun e w' => ∃ G, e = .returned (.pointer (some ⟨G, 0, none⟩)) ∧ Turn (fun _ => False) w w' ∧ GraphAt w' G (fun j => w.heap.size ≤ j) n l := by
  obtain ⟨a, c, rfl⟩ := hr.slice
  have T0 := (Turn.refl (fun _ => False) w).alloc (.cells #[.int .i64 n, .slice a l.length c] 24)
  have hb := heap_alloc_new w (.cells #[.int .i64 n, .slice a l.length c] 24)
  have b0 : (w.alloc (.cells #[.int .i64 n, .slice a l.length c] 24)).cell? ⟨w.heap.size, 0, none⟩ = some (.int .i64 n) := cell_obj hb 0
  have b1 : (w.alloc (.cells #[.int .i64 n, .slice a l.length c] 24)).cell? ⟨w.heap.size, 1, none⟩ = some (.slice a l.length c) := cell_obj hb 1
  have hR := hr.quiet T0
  obtain ⟨h1, h2, h3⟩ := h
  have h1' : ¬ 60 < (n : Int) := by omega
  have h2' : ¬ 300 < (l.length : Int) := by omega
  have hm := may_walk B _ n _ l hR (by omega)
  rw [decide_eq_true h3] at hm
  have HR := hide hR
  have H3 := hide h3
  clear hr hR h1 h2 h3
  go_enter Try.func9, Try.ntmps9
  go_wp2_with fail
  refine hm.mono ?_
  rintro e w1 ⟨rfl, t1⟩
  have hb1 := t1.same hb (fun h => h)
  have d0 : w1.cell? ⟨w.heap.size, 0, none⟩ = some (.int .i64 n) := cell_obj hb1 0
  have d1 : w1.cell? ⟨w.heap.size, 1, none⟩ = some (.slice a l.length c) := cell_obj hb1 1
  have hn := new_ok B w1 n _ l ((unhide HR).quiet t1) (unhide H3)
  have T1 := T0.then t1
  clear hm hb hb1 b0 b1 t1
  go_wp2_with fail
  refine hn.mono ?_
  rintro e w2 ⟨G, rfl, hG, t2⟩
  rw [Int.toNat_natCast] at hG
  have hG2 := hide (hG.more (H := fun j => w.heap.size ≤ j) (fun j q => Nat.le_trans T1.size q))
  clear hn hG
  go_wp2_with fail
  go_ret
  exact ⟨G, rfl, T1.then t2, unhide hG2⟩

/-- the network of three nodes that awake looks at -/
def threeA : List Ar := [(0, 1, 5), (1, 2, 5), (0, 2, 11)]
theorem three_looked : Looked 3 threeA := by
  refine ⟨by omega, by decide, ⟨by omega, by omega, by decide, ?_⟩, by decide⟩
  intro a ha
  unfold threeA at ha
  simp only [List.mem_cons, List.not_mem_nil, or_false] at ha
  rcases ha with rfl | rfl | rfl <;> decide
theorem three_dist {d : Int} (h : IsD 3 (goesF threeA) 0 2 d) : d = 10 := by
  have hE : Fair 3 (goesF threeA) := fairF three_looked.2.2.1
  have h2 : IsD 3 (goesF threeA) 0 2 (if (2 : Int) = 0 then 0 else if (2 : Int) = 1 then 5 else 10) := by
    refine isD_fix hE (fun u => if u = 0 then 0 else if u = 1 then 5 else 10) ?_ ?_ ?_ ?_ 2 (by omega) (by omega)
    · intro u h0 h1
      show 0 ≤ (if u = 0 then 0 else if u = 1 then 5 else 10) ∧ _ ≤ (1152921504606846976 : Int)
      split
      · omega
      · split <;> omega
    · intro _ _; rfl
    · intro u h0 h1 _
      have w0 : Walk 3 (goesF threeA) 0 0 0 := .none (by omega) (by omega)
      have w1 : Walk 3 (goesF threeA) 0 1 (0 + 5) := .more w0 (by simp [goesF, threeA])
      have w2 : Walk 3 (goesF threeA) 0 2 (0 + 5 + 5) := .more w1 (by simp [goesF, threeA])
      rcases (show u = 0 ∨ u = 1 ∨ u = 2 by omega) with rfl | rfl | rfl
      · exact w0
      · exact w1
      · exact w2
    · intro u t x hx
      simp only [goesF, threeA, List.mem_cons, List.not_mem_nil, or_false, Prod.mk.injEq] at hx
      rcases hx with ⟨rfl, rfl, rfl⟩ | ⟨rfl, rfl, rfl⟩ | ⟨rfl, rfl, rfl⟩ <;> simp
  have := h.uniq h2
  simpa using this
theorem ar_three (w : World) (a b c : Ar) : AR (fun j => j = w.heap.size) (w.alloc (.cells #[.int .i64 a.1, .int .i64 a.2.1, .int .i64 a.2.2, .int .i64 b.1, .int .i64 b.2.1, .int .i64 b.2.2, .int .i64 c.1, .int .i64 c.2.1, .int .i64 c.2.2] 46)) (.slice (some ⟨w.heap.size, 0, none⟩) 3 3) [a, b, c] := by
  refine .inr ⟨_, 0, 3, rfl, Nat.le_refl _, by unfold maxLen; omega, rfl, fun i x hx => ?_⟩
  match i, hx with
  | 0, hx | 1, hx | 2, hx =>
    simp at hx
    subst hx
    rw [cell_obj (heap_alloc_new w _), cell_obj (heap_alloc_new w _), cell_obj (heap_alloc_new w _)]
    exact ⟨rfl, rfl, rfl⟩
set_option maxHeartbeats 4000000 in
theorem awake11 (w : World) : Calls Try.prog 10 #[] w fun e w' => e = .returned (.bool true) ∧ Turn (fun _ => False) w w' := by
  have ta := (Turn.refl (fun _ => False) w).alloc (.cells #[.int .i64 0, .int .i64 1, .int .i64 5, .int .i64 1, .int .i64 2, .int .i64 5, .int .i64 0, .int .i64 2, .int .i64 11] 46)
  have hA := ar_three w (0, 1, 5) (1, 2, 5) (0, 2, 11)
  have hg := graph_some _ _ 3 _ threeA hA three_looked
  go_enter Try.func10, Try.ntmps10
  go_wp2_with fail
  refine hg.mono ?_
  rintro e w1 ⟨G, rfl, t1, hG⟩
  have hd := Dist_ok hG three_looked.2.2.1 0 2 (by unfold I32; decide) (by unfold I32; decide)
  have T1 := ta.then t1
  clear hg hA hG
  go_wp2_with fail
  refine hd.mono ?_
  rintro e w2 ⟨d, rfl, hD, t2⟩
  obtain rfl := three_dist hD
  go_wp2
  go_ret
  exact ⟨rfl, T1.then t2⟩
set_option maxHeartbeats 4000000 in
theorem nil11_walk (w : World) (v a b most : Int) (ha : I32 a) (hb : I32 b) : Calls Try.prog 5 #[.int .i64 v, .agg #[.int .i32 a, .int .i32 b], .int .i64 most] w fun e w' => e = .returned (.bool true) ∧ Turn (fun _ => False) w w' := by
  have T0 := (Turn.refl (fun _ => False) w).alloc (.cells #[.int .i32 a, .int .i32 b] 26)
  have hp := heap_alloc_new w (.cells #[.int .i32 a, .int .i32 b] 26)
  go_enter Try.func5, Try.ntmps5
  go_wp2_with fail
  generalize w.alloc (.cells #[.int .i32 a, .int .i32 b] 26) = W at *
  generalize w.heap.size = pb at *
  refine (awake11 _).mono ?_
  rintro e w1 ⟨rfl, t1⟩
  have T1 := T0.then t1
  have hp1 := t1.same hp (fun h => h)
  clear hp T0 t1
  go_wp2_with fail
  refine (From_nil _ v).mono ?_
  rintro e w2 ⟨x, rfl, t2⟩
  have T2 := T1.then t2
  have hp2 := t2.same hp1 (fun h => h)
  clear hp1 T1 t2
  go_wp2_with fail
  refine (To_nil _ v).mono ?_
  rintro e w3 ⟨y, rfl, t3⟩
  have T3 := T2.then t3
  have hp3 := t3.same hp2 (fun h => h)
  have c0 : w3.cell? ⟨pb, 0, none⟩ = some (.int .i32 a) := cell_obj hp3 0
  have c1 : w3.cell? ⟨pb, 1, none⟩ = some (.int .i32 b) := cell_obj hp3 1
  clear hp2 hp3 T2 t3
  go_wp2_with fail
  refine (sdist_nil _ a b ha hb).mono ?_
  rintro e w4 ⟨rfl, t4⟩
  go_wp2_with fail
  refine (swithin_nil _ v most).mono ?_
  rintro e w5 ⟨rfl, t5⟩
  go_wp2
  go_ret
  exact ⟨rfl, (T3.then t4).then t5⟩
theorem SweepNil_law (w : World) (v : Int) (hv : (Lit.int .i64 v).wf = true) (a b : Int) (ha : (Lit.int .i32 a).wf = true) (hb : (Lit.int .i32 b).wf = true) (most : Int) (hm : (Lit.int .i64 most).wf = true) :
    Calls Try.prog 5 #[.int .i64 v, .agg #[.int .i32 a, .int .i32 b], .int .i64 most] w fun e w' => e = .returned (.bool true) ∧ Below w.heap.size w w' :=
  (nil11_walk w v a b most ha hb).mono (fun e w' h => ⟨h.1, h.2.bel⟩)
end Go.Proofs.Ytombpfpfeebnpaa
