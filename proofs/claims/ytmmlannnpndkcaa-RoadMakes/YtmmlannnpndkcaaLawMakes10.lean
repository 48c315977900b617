/- RoadMakes: a graph of any network. -/
import Derived.Test.YtmmlannnpndkcaaGNewOk
import Derived.Test.YtmmlannnpndkcaaGAsk
import Derived.Test.YtmmlannnpndkcaaGRAsk
import Derived.Test.YtmmlannnpndkcaaGMay
import Derived.Test.YtmmlannnpndkcaaGKept
import Derived.Deep.RegionHeld3
namespace Go.Proofs.Ytmmlannnpndkcaa
open Go.RowKit Go.Maps
set_option linter.unusedVariables false
set_option linter.unusedSimpArgs false
set_option maxRecDepth 100000

theorem GraphAt.low {F : Nat → Prop} {w : World} {G N : Nat} {l : List Ar} (h : GraphAt w G F N l) : GraphAt w G (fun j => F j ∧ j < w.heap.size) N l := by
  obtain ⟨oa, os, ia, is, m, k, h1, h2, ⟨S, h3, h3'⟩, h4, ⟨S', h5, h5'⟩, h6, a, b, c, d, e, f⟩ := h.told
  obtain ⟨_, q2⟩ := h2.lt
  obtain ⟨_, q3⟩ := h3.lt
  obtain ⟨_, q4⟩ := h4.lt
  obtain ⟨_, q5⟩ := h5.lt
  obtain ⟨_, _, q6⟩ := h6.lt
  exact ⟨oa, os, ia, is, m, k, h1, h2, ⟨S, h3, h3'⟩, h4, ⟨S', h5, h5'⟩, h6, ⟨a, (Array.getElem?_eq_some_iff.1 h1).1⟩, ⟨b, (Array.getElem?_eq_some_iff.1 q2).1⟩, ⟨c, (Array.getElem?_eq_some_iff.1 q3).1⟩, ⟨d, (Array.getElem?_eq_some_iff.1 q4).1⟩, ⟨e, (Array.getElem?_eq_some_iff.1 q5).1⟩, ⟨f, (Array.getElem?_eq_some_iff.1 q6).1⟩⟩
/-- an arc of one's own written over -/
theorem OA.wipe {w : World} {g off m c : Nat} {L : List Ar} (h : OA w (.slice (some ⟨g, off, none⟩) m c) L) {i : Nat} (hi : i < m) (x : Ar) :
    (∃ y : Ar, w.cell? ⟨g, off + i * 3, none⟩ = some (.int .i64 y.1) ∧ w.cell? ⟨g, off + i * 3 + 1, none⟩ = some (.int .i64 y.2.1) ∧ w.cell? ⟨g, off + i * 3 + 2, none⟩ = some (.int .i64 y.2.2)) ∧
    w.frozen? ⟨g, off + i * 3, none⟩ = false ∧ w.frozen? ⟨g, off + i * 3 + 1, none⟩ = false ∧ w.frozen? ⟨g, off + i * 3 + 2, none⟩ = false ∧
    OA (((w.setCell ⟨g, off + i * 3, none⟩ (.int .i64 x.1)).setCell ⟨g, off + i * 3 + 1, none⟩ (.int .i64 x.2.1)).setCell ⟨g, off + i * 3 + 2, none⟩ (.int .i64 x.2.2)) (.slice (some ⟨g, off, none⟩) m c) (L.set i x) := by
  obtain ⟨a', c', hv⟩ := h.form
  simp only [Value.slice.injEq] at hv
  obtain ⟨_, rfl, _⟩ := hv
  obtain ⟨b, off', c2, hv, _, hc⟩ := h.ar.form (by omega)
  simp only [Value.slice.injEq, Option.some.injEq, Addr.mk.injEq, and_true, true_and] at hv
  obtain ⟨⟨rfl, rfl⟩, rfl⟩ := hv
  obtain ⟨cur, hcur⟩ := OwnSl.lt h g rfl
  have a1 := (OwnSl.set h (i * 3) (by omega) (.int .i64 x.1)).1
  have a2 := (OwnSl.set a1 (i * 3 + 1) (by omega) (.int .i64 x.2.1)).1
  have a3 := (OwnSl.set a2 (i * 3 + 2) (by omega) (.int .i64 x.2.2)).1
  rw [arCs_set hi x] at a3
  refine ⟨⟨L[i], hc i L[i] (by simp [hi])⟩, frozen_obj hcur _, frozen_obj hcur _, frozen_obj hcur _, ?_⟩
  unfold OA
  rw [List.length_set, Nat.add_assoc, Nat.add_assoc]
  exact a3
theorem ends_out {N : Nat} {l : List Ar} (h : BoundedN (N : Int) l) (hd : Dist l) (v : Int) : ends keF l N v = (sortA l).filter (fun a => decide (a.1 = v)) := by
  unfold ends; rw [both_sort h hd]; rfl
theorem ends_in {N : Nat} {l : List Ar} (h : BoundedN (N : Int) l) (hd : Dist l) (v : Int) : ends keT l N v = (sortA l).filter (fun a => decide (a.2.1 = v)) := by
  unfold ends; rw [both_sort h hd]; rfl

set_option maxHeartbeats 16000000 in
theorem makes_walk (w : World) (n : Int) (sv : Value) (l : List Ar) (hr : AR any w sv l) (v : Int) (pa pb : Int) (wa : I32 pa) (wb : I32 pb) :
    Calls Try.prog 5 #[.agg #[.int .i64 n, sv], .int .i64 v, .agg #[.int .i32 pa, .int .i32 pb]] w fun e w' => e = .returned (.bool true) ∧ Turn (fun _ => False) w w' := by
  obtain ⟨a, c, rfl⟩ := hr.slice
  have T00 := (Turn.refl (fun _ => False) w).alloc (.cells #[.int .i64 n, .slice a l.length c] 26)
  have tp := (Turn.refl (fun _ => False) (w.alloc (.cells #[.int .i64 n, .slice a l.length c] 26))).alloc (.cells #[.int .i32 pa, .int .i32 pb] 44)
  have T0 := T00.then tp
  have hb := tp.same (heap_alloc_new w (.cells #[.int .i64 n, .slice a l.length c] 26)) (fun h => h)
  have hpb := heap_alloc_new (w.alloc (.cells #[.int .i64 n, .slice a l.length c] 26)) (.cells #[.int .i32 pa, .int .i32 pb] 44)
  rw [alloc_size] at hpb
  have Hc := cut_walk _ _ n _ l (hr.lt.quiet T0)
  have hL : (l.take 300).length ≤ 300 := by rw [List.length_take]; omega
  clear hr T00 tp
  go_enter Try.func5, Try.ntmps5
  go_wp2_with fail
  generalize ((w.alloc (.cells #[.int .i64 n, .slice a l.length c] 26)).alloc (.cells #[.int .i32 pa, .int .i32 pb] 44)) = W at *
  obtain ⟨pp, hpp⟩ : ∃ pp, pp = w.heap.size + 1 := ⟨_, rfl⟩
  rw [← hpp] at hpb ⊢
  have hbw : w.heap.size < W.heap.size := (Array.getElem?_eq_some_iff.1 hb).1
  generalize hbs : w.heap.size = b at *
  have hpb1 : b ≠ pp := by omega
  have hbp : b < pp := by omega
  clear hpp
  refine Hc.mono ?_
  rintro e w1 ⟨x, rfl, A1, t1⟩
  generalize l.take 300 = L at *
  have hb1 := t1.same hb (fun h => h)
  have hp1 := t1.same hpb (fun h => h)
  obtain ⟨ax, cx, rfl⟩ := A1.slice
  have b2 : ((w1.setCell ⟨b, 0, none⟩ (.int .i64 n)).setCell ⟨b, 1, none⟩ (.slice ax L.length cx)).heap[b]? = some (.cells #[.int .i64 n, .slice ax L.length cx] 26 (0, 0)) := (heap_setCell_obj (j := 1) (heap_setCell_obj (j := 0) hb1 (.int .i64 n)) (.slice ax L.length cx)).trans (by rfl)
  have t2 : Turn (fun j => j = b) w1 ((w1.setCell ⟨b, 0, none⟩ (.int .i64 n)).setCell ⟨b, 1, none⟩ (.slice ax L.length cx)) := ((Turn.refl (fun j => j = b) w1).setCell (p := ⟨b, 0, none⟩) (.inl rfl) _).setCell (p := ⟨b, 1, none⟩) (.inl rfl) _
  have f0 : w1.cell? ⟨b, 0, none⟩ = some (.int .i64 n) := cell_obj hb1 0
  have f1 : w1.cell? ⟨b, 1, none⟩ = some (.slice a l.length c) := cell_obj hb1 1
  have z0 : w1.frozen? ⟨b, 0, none⟩ = false := frozen_obj hb1 0
  have z1 : w1.frozen? ⟨b, 1, none⟩ = false := frozen_obj hb1 1
  have p2 := t2.same hp1 hpb1.symm
  have hb1w : b < w1.heap.size := (Array.getElem?_eq_some_iff.1 hb1).1
  have A2 := A1.turn t2 (fun j hj => by have := hj.2; omega)
  have T2 : Turn (fun _ => False) w _ := (T0.then t1).trans t2 (fun j hj => .inr (by omega))
  have g0 : ((w1.setCell ⟨b, 0, none⟩ (.int .i64 n)).setCell ⟨b, 1, none⟩ (.slice ax L.length cx)).cell? ⟨b, 0, none⟩ = some (.int .i64 n) := cell_obj b2 0
  have g1 : ((w1.setCell ⟨b, 0, none⟩ (.int .i64 n)).setCell ⟨b, 1, none⟩ (.slice ax L.length cx)).cell? ⟨b, 1, none⟩ = some (.slice ax L.length cx) := cell_obj b2 1
  have Hbs := hide hbs
  clear Hc t1 A1 T0 hbs t2 hb hb1 hp1 hpb
  by_cases hbig : 4096 < n ∧ n ≤ 4194304
  · obtain ⟨hb1, hb2⟩ := hbig
    go_wp2_with fail
    refine (awake_walk _).mono ?_
    rintro e w3 ⟨rfl, t3⟩
    go_wp2
    go_ret
    exact ⟨rfl, T2.then t3⟩
  rcases Decidable.em (4194304 < n) with hbg | hbg
  · have hmay : ¬ MayA n L := fun h => by have := h.1.2.1; omega
    have hc1 : 4096 < n := by omega
    have hc2 : ¬ n ≤ 4194304 := by omega
    clear hbig
    have t3 := (Turn.refl (fun _ => False) ((w1.setCell ⟨b, 0, none⟩ (.int .i64 n)).setCell ⟨b, 1, none⟩ (.slice ax L.length cx))).alloc (.cells #[.int .i64 n, .slice ax L.length cx] 26)
    have k3 := heap_alloc_new ((w1.setCell ⟨b, 0, none⟩ (.int .i64 n)).setCell ⟨b, 1, none⟩ (.slice ax L.length cx)) (.cells #[.int .i64 n, .slice ax L.length cx] 26)
    rw [show ((w1.setCell ⟨b, 0, none⟩ (.int .i64 n)).setCell ⟨b, 1, none⟩ (.slice ax L.length cx)).heap.size = w1.heap.size by simp [World.setCell]] at k3
    have b3 := t3.same b2 (fun h => h)
    have p3 := t3.same p2 (fun h => h)
    have A3 := A2.quiet t3
    have T3 := T2.then t3
    have Ho := own_arc _ L (71, 0, 0) _ (by omega) (A3.mono (B' := any) (fun _ _ => trivial))
    unfold arV at Ho
    simp only at Ho
    clear t3 b2 p2 A2 T2
    go_wp2_with fail
    generalize ((w1.setCell ⟨b, 0, none⟩ (.int .i64 n)).setCell ⟨b, 1, none⟩ (.slice ax L.length cx)).alloc (.cells #[.int .i64 n, .slice ax L.length cx] 26) = W3 at *
    generalize w1.heap.size = d at *
    clear f0 f1 z0 z1 g0 g1
    refine Ho.mono ?_
    rintro e w4 ⟨g, rfl, O4, t4, hg⟩
    have b4 := t4.same b3 (fun h => h)
    have p4 := t4.same p3 (fun h => h)
    have k4 := t4.same k3 (fun h => h)
    have hdW : d < W3.heap.size := (Array.getElem?_eq_some_iff.1 k3).1
    have hppW : pp < W3.heap.size := (Array.getElem?_eq_some_iff.1 p3).1
    have hdp : d ≠ pp := by rintro rfl; rw [k3] at p3; cases p3
    have k5 : (w4.setCell ⟨d, 1, none⟩ (.slice (some ⟨g, 0, none⟩) L.length (L.length + 3))).heap[d]? = some (.cells #[.int .i64 n, .slice (some ⟨g, 0, none⟩) L.length (L.length + 3)] 26 (0, 0)) := (heap_setCell_obj (j := 1) k4 (.slice (some ⟨g, 0, none⟩) L.length (L.length + 3))).trans (by rfl)
    have t5 : Turn (fun j => j = d) w4 (w4.setCell ⟨d, 1, none⟩ (.slice (some ⟨g, 0, none⟩) L.length (L.length + 3))) := (Turn.refl (fun j => j = d) w4).setCell (p := ⟨d, 1, none⟩) (.inl rfl) _
    have b5 := t5.same b4 (by omega)
    have p5 := t5.same p4 (fun h => hdp h.symm)
    have A5 := (A3.quiet t4).turn t5 (fun j hj => by have := hj.2; omega)
    have O5 := O4.turn t5 (fun j hj => by simp [Value.ownBlock] at hj; omega)
    have T5 := (T3.then t4).trans t5 (fun j hj => .inr (by have := unhide Hbs; omega))
    have f1 : w4.cell? ⟨d, 1, none⟩ = some (.slice ax L.length cx) := cell_obj k4 1
    have z1 : w4.frozen? ⟨d, 1, none⟩ = false := frozen_obj k4 1
    have g0 : (w4.setCell ⟨d, 1, none⟩ (.slice (some ⟨g, 0, none⟩) L.length (L.length + 3))).cell? ⟨d, 0, none⟩ = some (.int .i64 n) := cell_obj k5 0
    have g1 : (w4.setCell ⟨d, 1, none⟩ (.slice (some ⟨g, 0, none⟩) L.length (L.length + 3))).cell? ⟨d, 1, none⟩ = some (.slice (some ⟨g, 0, none⟩) L.length (L.length + 3)) := cell_obj k5 1
    have hgd : g ≠ d ∧ g ≠ b ∧ g ≠ pp ∧ b ≤ g := by omega
    have hsg : g < (w4.setCell ⟨d, 1, none⟩ (.slice (some ⟨g, 0, none⟩) L.length (L.length + 3))).heap.size := OA.lt O5 g rfl
    have hsd : d < (w4.setCell ⟨d, 1, none⟩ (.slice (some ⟨g, 0, none⟩) L.length (L.length + 3))).heap.size ∧ b < (w4.setCell ⟨d, 1, none⟩ (.slice (some ⟨g, 0, none⟩) L.length (L.length + 3))).heap.size ∧ pp < (w4.setCell ⟨d, 1, none⟩ (.slice (some ⟨g, 0, none⟩) L.length (L.length + 3))).heap.size := ⟨(Array.getElem?_eq_some_iff.1 k5).1, (Array.getElem?_eq_some_iff.1 b5).1, (Array.getElem?_eq_some_iff.1 p5).1⟩
    have Hnew := new_bad _ _ n _ L O5.prefix hmay
    clear Ho t5 t4 O4 b4 k4 p4 A3 T3 b3 k3 p3 hdW hppW
    go_wp2_with fail
    generalize w4.setCell ⟨d, 1, none⟩ (.slice (some ⟨g, 0, none⟩) L.length (L.length + 3)) = w5 at *
    clear f1 z1 g0 g1
    refine Hnew.mono ?_
    rintro e w6 ⟨rfl, t6⟩
    have b6 := t6.same b5 (fun h => h)
    have p6 := t6.same p5 (fun h => h)
    have k6 := t6.same k5 (fun h => h)
    have A6 := A5.quiet t6
    have O6 := O5.turn t6 (fun _ _ h => h)
    have T6 := T5.then t6
    clear Hnew b5 p5 k5 A5 O5 T5
    go_wp2_with fail
    refine (awake_walk _).mono ?_
    rintro e w7 ⟨rfl, t7⟩
    have b7 := t7.same b6 (fun h => h)
    have p7 := t7.same p6 (fun h => h)
    have k7 := t7.same k6 (fun h => h)
    have A7 := A6.quiet t7
    have O7 := O6.turn t7 (fun _ _ h => h)
    have T7 := T6.then t7
    have t67 := t7
    have f1 : w7.cell? ⟨b, 1, none⟩ = some (.slice ax L.length cx) := cell_obj b7 1
    have g1 : w7.cell? ⟨d, 1, none⟩ = some (.slice (some ⟨g, 0, none⟩) L.length (L.length + 3)) := cell_obj k7 1
    have Hk := kept_arc w7 g _ L (71, 0, 0) (by omega) O7 (A7.mono (B' := any) (fun _ _ => trivial))
    unfold arV at Hk
    simp only at Hk
    clear b6 p6 k6 A6 O6 T6 t7
    go_wp2_with fail
    refine Hk.mono ?_
    rintro e w8 ⟨rfl, t8⟩
    have b8 := t8.same b7 (fun h => h)
    have p8 := t8.same p7 (fun h => h)
    have k8 := t8.same k7 (fun h => h)
    have A8 := A7.quiet t8
    have O8 := O7.turn t8 (fun _ _ h => h)
    have T8 := T7.then t8
    have t68 := t67.then t8
    have f0 : w8.cell? ⟨b, 0, none⟩ = some (.int .i64 n) := cell_obj b8 0
    have f1' : w8.cell? ⟨b, 1, none⟩ = some (.slice ax L.length cx) := cell_obj b8 1
    have Hm := may_walk any w8 n _ L (A8.mono (fun _ _ => trivial)) (by omega)
    rw [decide_eq_false hmay] at Hm
    clear Hk f1 g1 b7 p7 k7 A7 O7 T7 t8 t67
    go_wp2_with fail
    refine Hm.mono ?_
    rintro e w9 ⟨rfl, t9⟩
    have T9 := T8.then t9
    clear Hm f0 f1' b8 p8 k8 A8 O8 T8 t68
    go_wp2
    go_ret
    exact ⟨rfl, T9⟩
  · have hc1 : ¬ 4096 < n := fun h => hbig ⟨h, by omega⟩
    clear hbig hbg
    by_cases hmay : MayA n L
    · skip
      obtain ⟨N, rfl⟩ : ∃ N : Nat, n = N := ⟨n.toNat, by have := hmay.1.1; omega⟩
      have t3 := (Turn.refl (fun _ => False) ((w1.setCell ⟨b, 0, none⟩ (.int .i64 (N : Int))).setCell ⟨b, 1, none⟩ (.slice ax L.length cx))).alloc (.cells #[.int .i64 (N : Int), .slice ax L.length cx] 26)
      have k3 := heap_alloc_new ((w1.setCell ⟨b, 0, none⟩ (.int .i64 (N : Int))).setCell ⟨b, 1, none⟩ (.slice ax L.length cx)) (.cells #[.int .i64 (N : Int), .slice ax L.length cx] 26)
      rw [show ((w1.setCell ⟨b, 0, none⟩ (.int .i64 (N : Int))).setCell ⟨b, 1, none⟩ (.slice ax L.length cx)).heap.size = w1.heap.size by simp [World.setCell]] at k3
      have b3 := t3.same b2 (fun h => h)
      have p3 := t3.same p2 (fun h => h)
      have A3 := A2.quiet t3
      have T3 := T2.then t3
      have Ho := own_arc _ L (71, 0, 0) _ (by omega) (A3.mono (B' := any) (fun _ _ => trivial))
      unfold arV at Ho
      simp only at Ho
      clear t3 b2 p2 A2 T2
      go_wp2_with fail
      generalize ((w1.setCell ⟨b, 0, none⟩ (.int .i64 (N : Int))).setCell ⟨b, 1, none⟩ (.slice ax L.length cx)).alloc (.cells #[.int .i64 (N : Int), .slice ax L.length cx] 26) = W3 at *
      generalize w1.heap.size = d at *
      clear f0 f1 z0 z1 g0 g1
      refine Ho.mono ?_
      rintro e w4 ⟨g, rfl, O4, t4, hg⟩
      have b4 := t4.same b3 (fun h => h)
      have p4 := t4.same p3 (fun h => h)
      have k4 := t4.same k3 (fun h => h)
      have hdW : d < W3.heap.size := (Array.getElem?_eq_some_iff.1 k3).1
      have hppW : pp < W3.heap.size := (Array.getElem?_eq_some_iff.1 p3).1
      have hdp : d ≠ pp := by rintro rfl; rw [k3] at p3; cases p3
      have k5 : (w4.setCell ⟨d, 1, none⟩ (.slice (some ⟨g, 0, none⟩) L.length (L.length + 3))).heap[d]? = some (.cells #[.int .i64 (N : Int), .slice (some ⟨g, 0, none⟩) L.length (L.length + 3)] 26 (0, 0)) := (heap_setCell_obj (j := 1) k4 (.slice (some ⟨g, 0, none⟩) L.length (L.length + 3))).trans (by rfl)
      have t5 : Turn (fun j => j = d) w4 (w4.setCell ⟨d, 1, none⟩ (.slice (some ⟨g, 0, none⟩) L.length (L.length + 3))) := (Turn.refl (fun j => j = d) w4).setCell (p := ⟨d, 1, none⟩) (.inl rfl) _
      have b5 := t5.same b4 (by omega)
      have p5 := t5.same p4 (fun h => hdp h.symm)
      have A5 := (A3.quiet t4).turn t5 (fun j hj => by have := hj.2; omega)
      have O5 := O4.turn t5 (fun j hj => by simp [Value.ownBlock] at hj; omega)
      have T5 := (T3.then t4).trans t5 (fun j hj => .inr (by have := unhide Hbs; omega))
      have f1 : w4.cell? ⟨d, 1, none⟩ = some (.slice ax L.length cx) := cell_obj k4 1
      have z1 : w4.frozen? ⟨d, 1, none⟩ = false := frozen_obj k4 1
      have g0 : (w4.setCell ⟨d, 1, none⟩ (.slice (some ⟨g, 0, none⟩) L.length (L.length + 3))).cell? ⟨d, 0, none⟩ = some (.int .i64 (N : Int)) := cell_obj k5 0
      have g1 : (w4.setCell ⟨d, 1, none⟩ (.slice (some ⟨g, 0, none⟩) L.length (L.length + 3))).cell? ⟨d, 1, none⟩ = some (.slice (some ⟨g, 0, none⟩) L.length (L.length + 3)) := cell_obj k5 1
      have hgd : g ≠ d ∧ g ≠ b ∧ g ≠ pp ∧ b ≤ g := by omega
      have hsg : g < (w4.setCell ⟨d, 1, none⟩ (.slice (some ⟨g, 0, none⟩) L.length (L.length + 3))).heap.size := OA.lt O5 g rfl
      have hsd : d < (w4.setCell ⟨d, 1, none⟩ (.slice (some ⟨g, 0, none⟩) L.length (L.length + 3))).heap.size ∧ b < (w4.setCell ⟨d, 1, none⟩ (.slice (some ⟨g, 0, none⟩) L.length (L.length + 3))).heap.size ∧ pp < (w4.setCell ⟨d, 1, none⟩ (.slice (some ⟨g, 0, none⟩) L.length (L.length + 3))).heap.size := ⟨(Array.getElem?_eq_some_iff.1 k5).1, (Array.getElem?_eq_some_iff.1 b5).1, (Array.getElem?_eq_some_iff.1 p5).1⟩
      have Hnew := new_ok _ _ (N : Int) _ L O5.prefix hmay
      rw [Int.toNat_natCast] at Hnew
      have HM := hide hmay
      clear Ho t5 t4 O4 b4 k4 p4 A3 T3 b3 k3 p3 hdW hppW
      go_wp2_with fail
      generalize w4.setCell ⟨d, 1, none⟩ (.slice (some ⟨g, 0, none⟩) L.length (L.length + 3)) = w5 at *
      clear f1 z1 g0 g1
      refine Hnew.mono ?_
      rintro e w6 ⟨G, rfl, G6, t6⟩
      have G6l := G6.low
      have b6 := t6.same b5 (fun h => h)
      have p6 := t6.same p5 (fun h => h)
      have k6 := t6.same k5 (fun h => h)
      have A6 := A5.quiet t6
      have O6 := O5.turn t6 (fun _ _ h => h)
      have T6 := T5.then t6
      clear Hnew b5 p5 k5 A5 O5 T5
      go_wp2_with fail
      refine (awake_walk _).mono ?_
      rintro e w7 ⟨rfl, t7⟩
      have b7 := t7.same b6 (fun h => h)
      have p7 := t7.same p6 (fun h => h)
      have k7 := t7.same k6 (fun h => h)
      have A7 := A6.quiet t7
      have O7 := O6.turn t7 (fun _ _ h => h)
      have T7 := T6.then t7
      have t67 := t7
      have f1 : w7.cell? ⟨b, 1, none⟩ = some (.slice ax L.length cx) := cell_obj b7 1
      have g1 : w7.cell? ⟨d, 1, none⟩ = some (.slice (some ⟨g, 0, none⟩) L.length (L.length + 3)) := cell_obj k7 1
      have Hk := kept_arc w7 g _ L (71, 0, 0) (by omega) O7 (A7.mono (B' := any) (fun _ _ => trivial))
      unfold arV at Hk
      simp only at Hk
      clear b6 p6 k6 A6 O6 T6 t7
      go_wp2_with fail
      refine Hk.mono ?_
      rintro e w8 ⟨rfl, t8⟩
      have b8 := t8.same b7 (fun h => h)
      have p8 := t8.same p7 (fun h => h)
      have k8 := t8.same k7 (fun h => h)
      have A8 := A7.quiet t8
      have O8 := O7.turn t8 (fun _ _ h => h)
      have T8 := T7.then t8
      have t68 := t67.then t8
      have f0 : w8.cell? ⟨b, 0, none⟩ = some (.int .i64 (N : Int)) := cell_obj b8 0
      have f1' : w8.cell? ⟨b, 1, none⟩ = some (.slice ax L.length cx) := cell_obj b8 1
      have Hm := may_walk any w8 (N : Int) _ L (A8.mono (fun _ _ => trivial)) (by omega)
      rw [decide_eq_true (unhide HM)] at Hm
      clear Hk f1 g1 b7 p7 k7 A7 O7 T7 t8 t67
      go_wp2_with fail
      refine Hm.mono ?_
      rintro e w9 ⟨rfl, t9⟩
      have G9 := (G6l.quiet t68).quiet t9
      have b9 := t9.same b8 (fun h => h)
      have p9 := t9.same p8 (fun h => h)
      have k9 := t9.same k8 (fun h => h)
      have A9 := A8.quiet t9
      have O9 := O8.turn t9 (fun _ _ h => h)
      have T9 := T8.then t9
      have s69 := (t6.then t68).then t9
      have hGF : Hid (∀ j, w5.heap.size ≤ j ∧ j < w6.heap.size → j ≠ g) := hide (fun j hj => by omega)
      have hGH : Hid (w6.heap.size ≤ w9.heap.size) := hide (t68.then t9).size
      have d1 : w9.cell? ⟨d, 1, none⟩ = some (.slice (some ⟨g, 0, none⟩) L.length (L.length + 3)) := cell_obj k9 1
      have HGd := hide hgd
      clear Hm f0 f1' b8 p8 k8 A8 O8 T8 t9 G6 G6l t6 t68 hgd hsg hsd hg hdp s69
      go_wp2_with fail
      go_loopw [71] (fun i wr => ∃ (k : Nat) (O : List Ar), i = .int .i64 (k : Int) ∧ k ≤ L.length ∧ OA wr (.slice (some ⟨g, 0, none⟩) (L.length + 3) (L.length + 3)) O ∧ Turn (fun j => j = g) w9 wr) (fun i _ => L.length - (intOf i).toNat)
      case atStart => exact ⟨0, _, rfl, Nat.zero_le _, O9, Turn.refl _ _⟩
      case round =>
        clear d1 O9
        obtain ⟨k, O, rfl, hk, hO, tr⟩ := hrel
        have kr := tr.same k9 (fun h => (unhide HGd).1 h.symm)
        by_cases hlt : k < L.length
        · have d1 : wr.cell? ⟨d, 1, none⟩ = some (.slice (some ⟨g, 0, none⟩) L.length (L.length + 3)) := cell_obj kr 1
          obtain ⟨⟨y, y0, y1, y2⟩, z0, z1, z2, hO2⟩ := hO.wipe (i := k) (by omega) (0, 0, 0)
          have tr2 := tr.then (((((Turn.refl (fun j => j = g) wr).setCell (p := ⟨g, 0 + k * 3, none⟩) (.inl rfl) (.int .i64 0)).setCell (p := ⟨g, 0 + k * 3 + 1, none⟩) (.inl rfl) (.int .i64 0)).setCell (p := ⟨g, 0 + k * 3 + 2, none⟩) (.inl rfl) (.int .i64 0)))
          simp only [Nat.zero_add] at y0 y1 y2 z0 z1 z2 hO2 tr2
          clear hO tr kr
          go_wp2
          exact ⟨⟨k + 1, _, by go_num, by omega, hO2, tr2⟩, by simp [intOf]; omega⟩
        · have G10 := G9.turn tr (fun j hj => unhide hGF j hj)
          have b10 := tr.same b9 (fun h => (unhide HGd).2.1 h.symm)
          have p10 := tr.same p9 (fun h => (unhide HGd).2.2.1 h.symm)
          have A10 := (A9.turn tr (fun j hj => by have := hj.2; have := (unhide HGd).2.2.2; omega)).mono (B' := any) (fun _ _ => trivial)
          have T10 := T9.trans tr (fun j hj => .inr (by have := unhide Hbs; have := (unhide HGd).2.2.2; omega))
          have hsz10 := tr.size
          have p0 : wr.cell? ⟨pp, 0, none⟩ = some (.int .i32 pa) := cell_obj p10 0
          have p1 : wr.cell? ⟨pp, 1, none⟩ = some (.int .i32 pb) := cell_obj p10 1
          have Hw := weight_ask wr G N L G10 (unhide HM).1 (unhide HM).2 pa pb wa wb
          generalize hRW : refW L pa pb = RW at *
          clear hO tr kr G9 b9 p9 k9 A9 T9
          go_wp2_with fail
          refine Hw.mono ?_
          rintro e w11 ⟨rfl, t11⟩
          have b11 := t11.same b10 (fun h => h)
          have p11 := t11.same p10 (fun h => h)
          have f0 : w11.cell? ⟨b, 0, none⟩ = some (.int .i64 (N : Int)) := cell_obj b11 0
          have f1 : w11.cell? ⟨b, 1, none⟩ = some (.slice ax L.length cx) := cell_obj b11 1
          have q0 : w11.cell? ⟨pp, 0, none⟩ = some (.int .i32 pa) := cell_obj p11 0
          have q1 : w11.cell? ⟨pp, 1, none⟩ = some (.int .i32 pb) := cell_obj p11 1
          have Hv := rweight_walk w11 (N : Int) _ L (A10.quiet t11) pa pb wa wb
          rw [hRW] at Hv
          have HRW := hide hRW
          clear p0 p1 Hw hRW
          go_wp2_with fail
          refine Hv.mono ?_
          rintro e w12 ⟨rfl, t12⟩
          have tB := t11.then t12
          have G12 := G10.quiet tB
          have hL6 : L.length ≤ 1000000 := by omega
          have HOutF := fun u (h : GraphAt u G (fun j => w5.heap.size ≤ j ∧ j < w6.heap.size) N L) => Out_ask u G N L h (unhide HM).1 v
          rw [ends_out (unhide HM).1 (unhide HM).2 v] at HOutF
          have HrOF := fun u (h : AR any u (.slice ax L.length cx) L) => rOut_walk u (N : Int) _ L h hL6 v
          have HInF := fun u (h : GraphAt u G (fun j => w5.heap.size ≤ j ∧ j < w6.heap.size) N L) => In_ask u G N L h (unhide HM).1 v
          rw [ends_in (unhide HM).1 (unhide HM).2 v] at HInF
          have HrIF := fun u (h : AR any u (.slice ax L.length cx) L) => rIn_walk u (N : Int) _ L h hL6 v
          have HNetF := fun u (h : GraphAt u G (fun j => w5.heap.size ≤ j ∧ j < w6.heap.size) N L) => net_ask u G N L h (unhide HM).1
          rw [both_sort (unhide HM).1 (unhide HM).2] at HNetF
          have HSoF := fun u (h : AR any u (.slice ax L.length cx) L) => sort_call u _ L hL6 h
          generalize (sortA L).filter (fun a => decide (a.1 = v)) = R at *
          generalize (sortA L).filter (fun a => decide (a.2.1 = v)) = RI at *
          generalize sortA L = S at *
          have Hout := HOutF w12 G12
          clear f0 f1 q0 q1 Hv b11 p11 t11 t12
          go_wp2_with fail
          refine Hout.mono ?_
          rintro e w13 ⟨x13, rfl, O13, t13, own13⟩
          have A13l := ((A10.quiet tB).lt).quiet t13
          have hsz1 := tB.size
          have hbk := tB.same b10 (fun h => h)
          have tC := tB.then t13
          have G13 := G10.quiet tC
          have b13 := tC.same b10 (fun h => h)
          have A13 := A10.quiet tC
          have T13 := T10.then tC
          have f0 : w13.cell? ⟨b, 0, none⟩ = some (.int .i64 (N : Int)) := cell_obj b13 0
          have f1 : w13.cell? ⟨b, 1, none⟩ = some (.slice ax L.length cx) := cell_obj b13 1
          have f0d : w13.drew.cell? ⟨b, 0, none⟩ = some (.int .i64 (N : Int)) := f0
          have f1d : w13.drew.cell? ⟨b, 1, none⟩ = some (.slice ax L.length cx) := f1
          have tc : Turn (fun _ => False) w13 w13.drew := (Turn.refl _ _).drew
          have HN := fun u (t : Turn (fun _ => False) w13 u) => nodes_ask u G N L (G13.quiet t)
          have HA := fun u (t : Turn (fun _ => False) w13 u) => arcs_ask u G N L (G13.quiet t)
          have HrO := fun u (t : Turn (fun _ => False) w13 u) => HrOF u (A13.quiet t)
          have HI := fun u (t : Turn (fun _ => False) w13 u) => HInF u (G13.quiet t)
          have HrI := fun u (t : Turn (fun _ => False) w13 u) => HrIF u (A13.quiet t)
          have Hpl := fun (u : World) (x y : Value) (R : List Ar) (h1 : AR any u x R) (h2 : AR any u y R) => (plain_arcs u x y R R h1 h2).mono (fun e w' h => (show e = .returned (.bool true) ∧ Turn (fun _ => False) u w' from ⟨by rw [h.1]; simp, h.2⟩))
          have cellsb : ∀ u, Turn (fun _ => False) w13 u → u.cell? ⟨b, 0, none⟩ = some (.int .i64 (N : Int)) ∧ u.cell? ⟨b, 1, none⟩ = some (.slice ax L.length cx) := fun u t => ⟨t.cell f0 (fun h => h), t.cell f1 (fun h => h)⟩
          have Hcb := hide cellsb
          clear Hout G12 tB b13 cellsb HInF HrIF
          go_wp2_with fail
          go_region_held3 (fun u => u.cell? ⟨b, 0, none⟩ = some (.int .i64 (N : Int)) ∧ u.cell? ⟨b, 1, none⟩ = some (.slice ax L.length cx)) (first | exact ⟨f0d, f1d⟩ | exact unhide Hcb _ tc | go_keep)
            (first
            | (go_at_call 26; refine (HN _ tc).mono ?_; rintro e u1 ⟨rfl, rfl⟩)
            | (go_at_call 27; refine (HA _ tc).mono ?_; rintro e u2 ⟨rfl, rfl⟩)
            | (go_at_call 29; refine (HrO _ tc).mono ?_; rintro e u3 ⟨x3, rfl, O3, t3⟩; have tc := tc.then t3)
            | (go_at_call 30; refine (HI _ tc).mono ?_; rintro e u4 ⟨x4, rfl, O4, t4, own4⟩; have tc := tc.then t4; try (have O5 := O5.turn t4 (fun _ _ h => h)))
            | (go_at_call 31; refine (HrI _ tc).mono ?_; rintro e u5 ⟨x5, rfl, O5, t5⟩; have tc := tc.then t5; try (have O4 := O4.turn t5 (fun _ _ h => h)))
            | (go_at_call 28; refine (Hpl _ _ _ _ (O4.ar.mono (fun _ _ => trivial)) (O5.ar.mono (fun _ _ => trivial))).mono ?_; rintro e u7 ⟨rfl, t7⟩; have tc := tc.then t7)
            | (go_at_call 28; refine (Hpl _ _ _ _ ((O13.turn tc (fun _ _ h => h)).ar.mono (fun _ _ => trivial)) (O3.ar.mono (fun _ _ => trivial))).mono ?_; rintro e u6 ⟨rfl, t6⟩; have tc := tc.then t6))
          all_goals
            have G14 := G13.quiet tc
            have A14 := A13.quiet tc
            have O14 := O13.turn tc (fun _ _ h => h)
            have T14 := T13.then tc
            obtain ⟨c0, c1⟩ := unhide Hcb _ tc
            obtain ⟨xa, xc, rfl⟩ := O14.form
            have hRl := O14.ar.len
            unfold maxLen at hRl
            have hxg : Hid (∀ g13 off13, xa = some ⟨g13, off13, none⟩ → w12.heap.size ≤ g13) := hide (fun g13 off13 h => own13 g13 (by rw [h]; rfl))
            have hsz12 : Hid (b < w12.heap.size ∧ w6.heap.size ≤ w12.heap.size) := hide (by
              have h1 := (Array.getElem?_eq_some_iff.1 (hbk : w12.heap[b]? = _)).1
              have h2 := unhide hGH
              exact ⟨h1, by omega⟩)
            have A14l := A13l.quiet tc
            clear HN HA HrO HI HrI f0 f1 f0d f1d G13 A13 A13l T13 O13 own13 O3 O4 O5 tc A14
            go_wp2_with fail
            go_loopw [138] (fun i wr => ∃ (k : Nat) (O : List Ar), i = .int .i64 (k : Int) ∧ k ≤ R.length ∧ OA wr (.slice xa R.length xc) O ∧ Turn (fun j => w12.heap.size ≤ j) u7 wr) (fun i _ => R.length - (intOf i).toNat)
            case atStart => exact ⟨0, _, rfl, Nat.zero_le _, O14, Turn.refl _ _⟩
            case round =>
              clear O14
              obtain ⟨k, O, rfl, hk, hO, tr⟩ := hrel
              by_cases hlt : k < R.length
              · obtain ⟨g13, off13, hxa⟩ : ∃ g13 off13, xa = some ⟨g13, off13, none⟩ := by
                  rcases hO.2 with ⟨hv, h0⟩ | ⟨g', o', cap', cur', hv, _⟩
                  · simp only [Value.slice.injEq] at hv; omega
                  · simp only [Value.slice.injEq] at hv; exact ⟨g', o', hv.1⟩
                have hgb := unhide hxg g13 off13 hxa
                subst hxa
                obtain ⟨⟨y, y0, y1, y2⟩, z0, z1, z2, hO2⟩ := hO.wipe hlt (0, 0, 0)
                have tr2 := tr.then (((((Turn.refl (fun j => w12.heap.size ≤ j) wr).setCell (p := ⟨g13, off13 + k * 3, none⟩) (.inl hgb) (.int .i64 0)).setCell (p := ⟨g13, off13 + k * 3 + 1, none⟩) (.inl hgb) (.int .i64 0)).setCell (p := ⟨g13, off13 + k * 3 + 2, none⟩) (.inl hgb) (.int .i64 0)))
                simp only at hO2
                clear hO tr hgb
                go_wp2
                exact ⟨⟨k + 1, _, by go_num, by omega, hO2, tr2⟩, by simp [intOf]; omega⟩
              · have G15 := G14.turn tr (fun j hj h => by have := (unhide hsz12).2; omega)
                have A15 := (A14l.turn tr (fun j hj => by have := hj.2; omega)).mono (B' := any) (fun _ _ => trivial)
                have k0 : wr.cell? ⟨b, 0, none⟩ = some (.int .i64 (N : Int)) := tr.cell c0 (fun h => absurd (show w12.heap.size ≤ b from h) (by have := (unhide hsz12).1; omega))
                have k1 : wr.cell? ⟨b, 1, none⟩ = some (.slice ax L.length cx) := tr.cell c1 (fun h => absurd (show w12.heap.size ≤ b from h) (by have := (unhide hsz12).1; omega))
                have T15 : Turn (fun _ => False) w wr := T14.trans tr (fun j hj => .inr (by have := (unhide hsz12).1; have := unhide Hbs; omega))
                have k0d : wr.drew.cell? ⟨b, 0, none⟩ = some (.int .i64 (N : Int)) := k0
                have k1d : wr.drew.cell? ⟨b, 1, none⟩ = some (.slice ax L.length cx) := k1
                have Hcb2 : Hid (∀ u, Turn (fun _ => False) wr u → u.cell? ⟨b, 0, none⟩ = some (.int .i64 (N : Int)) ∧ u.cell? ⟨b, 1, none⟩ = some (.slice ax L.length cx)) := hide (fun u t => ⟨t.cell k0 (fun h => h), t.cell k1 (fun h => h)⟩)
                have tc : Turn (fun _ => False) wr wr.drew := (Turn.refl _ _).drew
                have HO := fun u (t : Turn (fun _ => False) wr u) => HOutF u (G15.quiet t)
                have HrO := fun u (t : Turn (fun _ => False) wr u) => HrOF u (A15.quiet t)
                have HNt := fun u (t : Turn (fun _ => False) wr u) => HNetF u (G15.quiet t)
                have HSo := fun u (t : Turn (fun _ => False) wr u) => HSoF u (A15.quiet t)
                have Hns := fun (u : World) (x y : Value) (h1 : AR any u x S) (h2 : AR any u y S) => (net_same u (N : Int) (N : Int) x y S S h1 h2).mono (fun e w' h => (show e = .returned (.bool true) ∧ Turn (fun _ => False) u w' from ⟨by rw [h.1]; simp, h.2⟩))
                clear hO tr G14 A14l c0 c1 T14 HOutF HrOF HNetF HSoF Hcb
                go_wp2_with fail
                go_region_held3 (fun u => u.cell? ⟨b, 0, none⟩ = some (.int .i64 (N : Int)) ∧ u.cell? ⟨b, 1, none⟩ = some (.slice ax L.length cx)) (first | exact ⟨k0d, k1d⟩ | exact unhide Hcb2 _ tc | go_keep)
                  (first
                  | (go_at_call 25; refine (HO _ tc).mono ?_; rintro e v1 ⟨y1, rfl, O1, t1, own1⟩; have tc := tc.then t1; try (have O2 := O2.turn t1 (fun _ _ h => h)))
                  | (go_at_call 29; refine (HrO _ tc).mono ?_; rintro e v2 ⟨y2, rfl, O2, t2⟩; have tc := tc.then t2; try (have O1 := O1.turn t2 (fun _ _ h => h)))
                  | (go_at_call 28; refine (Hpl _ _ _ _ (O1.ar.mono (fun _ _ => trivial)) (O2.ar.mono (fun _ _ => trivial))).mono ?_; rintro e v3 ⟨rfl, t3⟩; have tc := tc.then t3)
                  | (go_at_call 32; refine (HNt _ tc).mono ?_; rintro e v4 ⟨y4, rfl, O4, t4⟩; have tc := tc.then t4; try (have O5 := O5.turn t4 (fun _ _ h => h)))
                  | (go_at_call 33; refine (HSo _ tc).mono ?_; rintro e v5 ⟨y5, rfl, O5, t5, own5⟩; have tc := tc.then t5; obtain ⟨ya5, yc5, rfl⟩ := O5.form; try (have O4 := O4.turn t5 (fun _ _ h => h)))
                  | (go_at_call 13; refine (Hns _ _ _ (O4.ar.mono (fun _ _ => trivial)) (O5.ar.mono (fun _ _ => trivial))).mono ?_; rintro e v6 ⟨rfl, t6⟩; have tc := tc.then t6))
                all_goals
                  have TF := T15.then tc
                  clear HO HrO HNt HSo Hns Hpl O1 O2 O4 O5 G15 A15 k0 k1 k0d k1d tc T15
                  go_wp2
                  go_ret
                  exact ⟨rfl, TF⟩
    · skip
      have t3 := (Turn.refl (fun _ => False) ((w1.setCell ⟨b, 0, none⟩ (.int .i64 n)).setCell ⟨b, 1, none⟩ (.slice ax L.length cx))).alloc (.cells #[.int .i64 n, .slice ax L.length cx] 26)
      have k3 := heap_alloc_new ((w1.setCell ⟨b, 0, none⟩ (.int .i64 n)).setCell ⟨b, 1, none⟩ (.slice ax L.length cx)) (.cells #[.int .i64 n, .slice ax L.length cx] 26)
      rw [show ((w1.setCell ⟨b, 0, none⟩ (.int .i64 n)).setCell ⟨b, 1, none⟩ (.slice ax L.length cx)).heap.size = w1.heap.size by simp [World.setCell]] at k3
      have b3 := t3.same b2 (fun h => h)
      have p3 := t3.same p2 (fun h => h)
      have A3 := A2.quiet t3
      have T3 := T2.then t3
      have Ho := own_arc _ L (71, 0, 0) _ (by omega) (A3.mono (B' := any) (fun _ _ => trivial))
      unfold arV at Ho
      simp only at Ho
      clear t3 b2 p2 A2 T2
      go_wp2_with fail
      generalize ((w1.setCell ⟨b, 0, none⟩ (.int .i64 n)).setCell ⟨b, 1, none⟩ (.slice ax L.length cx)).alloc (.cells #[.int .i64 n, .slice ax L.length cx] 26) = W3 at *
      generalize w1.heap.size = d at *
      clear f0 f1 z0 z1 g0 g1
      refine Ho.mono ?_
      rintro e w4 ⟨g, rfl, O4, t4, hg⟩
      have b4 := t4.same b3 (fun h => h)
      have p4 := t4.same p3 (fun h => h)
      have k4 := t4.same k3 (fun h => h)
      have hdW : d < W3.heap.size := (Array.getElem?_eq_some_iff.1 k3).1
      have hppW : pp < W3.heap.size := (Array.getElem?_eq_some_iff.1 p3).1
      have hdp : d ≠ pp := by rintro rfl; rw [k3] at p3; cases p3
      have k5 : (w4.setCell ⟨d, 1, none⟩ (.slice (some ⟨g, 0, none⟩) L.length (L.length + 3))).heap[d]? = some (.cells #[.int .i64 n, .slice (some ⟨g, 0, none⟩) L.length (L.length + 3)] 26 (0, 0)) := (heap_setCell_obj (j := 1) k4 (.slice (some ⟨g, 0, none⟩) L.length (L.length + 3))).trans (by rfl)
      have t5 : Turn (fun j => j = d) w4 (w4.setCell ⟨d, 1, none⟩ (.slice (some ⟨g, 0, none⟩) L.length (L.length + 3))) := (Turn.refl (fun j => j = d) w4).setCell (p := ⟨d, 1, none⟩) (.inl rfl) _
      have b5 := t5.same b4 (by omega)
      have p5 := t5.same p4 (fun h => hdp h.symm)
      have A5 := (A3.quiet t4).turn t5 (fun j hj => by have := hj.2; omega)
      have O5 := O4.turn t5 (fun j hj => by simp [Value.ownBlock] at hj; omega)
      have T5 := (T3.then t4).trans t5 (fun j hj => .inr (by have := unhide Hbs; omega))
      have f1 : w4.cell? ⟨d, 1, none⟩ = some (.slice ax L.length cx) := cell_obj k4 1
      have z1 : w4.frozen? ⟨d, 1, none⟩ = false := frozen_obj k4 1
      have g0 : (w4.setCell ⟨d, 1, none⟩ (.slice (some ⟨g, 0, none⟩) L.length (L.length + 3))).cell? ⟨d, 0, none⟩ = some (.int .i64 n) := cell_obj k5 0
      have g1 : (w4.setCell ⟨d, 1, none⟩ (.slice (some ⟨g, 0, none⟩) L.length (L.length + 3))).cell? ⟨d, 1, none⟩ = some (.slice (some ⟨g, 0, none⟩) L.length (L.length + 3)) := cell_obj k5 1
      have hgd : g ≠ d ∧ g ≠ b ∧ g ≠ pp ∧ b ≤ g := by omega
      have hsg : g < (w4.setCell ⟨d, 1, none⟩ (.slice (some ⟨g, 0, none⟩) L.length (L.length + 3))).heap.size := OA.lt O5 g rfl
      have hsd : d < (w4.setCell ⟨d, 1, none⟩ (.slice (some ⟨g, 0, none⟩) L.length (L.length + 3))).heap.size ∧ b < (w4.setCell ⟨d, 1, none⟩ (.slice (some ⟨g, 0, none⟩) L.length (L.length + 3))).heap.size ∧ pp < (w4.setCell ⟨d, 1, none⟩ (.slice (some ⟨g, 0, none⟩) L.length (L.length + 3))).heap.size := ⟨(Array.getElem?_eq_some_iff.1 k5).1, (Array.getElem?_eq_some_iff.1 b5).1, (Array.getElem?_eq_some_iff.1 p5).1⟩
      have Hnew := new_bad _ _ n _ L O5.prefix hmay
      clear Ho t5 t4 O4 b4 k4 p4 A3 T3 b3 k3 p3 hdW hppW
      go_wp2_with fail
      generalize w4.setCell ⟨d, 1, none⟩ (.slice (some ⟨g, 0, none⟩) L.length (L.length + 3)) = w5 at *
      clear f1 z1 g0 g1
      refine Hnew.mono ?_
      rintro e w6 ⟨rfl, t6⟩
      have b6 := t6.same b5 (fun h => h)
      have p6 := t6.same p5 (fun h => h)
      have k6 := t6.same k5 (fun h => h)
      have A6 := A5.quiet t6
      have O6 := O5.turn t6 (fun _ _ h => h)
      have T6 := T5.then t6
      clear Hnew b5 p5 k5 A5 O5 T5
      go_wp2_with fail
      refine (awake_walk _).mono ?_
      rintro e w7 ⟨rfl, t7⟩
      have b7 := t7.same b6 (fun h => h)
      have p7 := t7.same p6 (fun h => h)
      have k7 := t7.same k6 (fun h => h)
      have A7 := A6.quiet t7
      have O7 := O6.turn t7 (fun _ _ h => h)
      have T7 := T6.then t7
      have t67 := t7
      have f1 : w7.cell? ⟨b, 1, none⟩ = some (.slice ax L.length cx) := cell_obj b7 1
      have g1 : w7.cell? ⟨d, 1, none⟩ = some (.slice (some ⟨g, 0, none⟩) L.length (L.length + 3)) := cell_obj k7 1
      have Hk := kept_arc w7 g _ L (71, 0, 0) (by omega) O7 (A7.mono (B' := any) (fun _ _ => trivial))
      unfold arV at Hk
      simp only at Hk
      clear b6 p6 k6 A6 O6 T6 t7
      go_wp2_with fail
      refine Hk.mono ?_
      rintro e w8 ⟨rfl, t8⟩
      have b8 := t8.same b7 (fun h => h)
      have p8 := t8.same p7 (fun h => h)
      have k8 := t8.same k7 (fun h => h)
      have A8 := A7.quiet t8
      have O8 := O7.turn t8 (fun _ _ h => h)
      have T8 := T7.then t8
      have t68 := t67.then t8
      have f0 : w8.cell? ⟨b, 0, none⟩ = some (.int .i64 n) := cell_obj b8 0
      have f1' : w8.cell? ⟨b, 1, none⟩ = some (.slice ax L.length cx) := cell_obj b8 1
      have Hm := may_walk any w8 n _ L (A8.mono (fun _ _ => trivial)) (by omega)
      rw [decide_eq_false hmay] at Hm
      clear Hk f1 g1 b7 p7 k7 A7 O7 T7 t8 t67
      go_wp2_with fail
      refine Hm.mono ?_
      rintro e w9 ⟨rfl, t9⟩
      have T9 := T8.then t9
      clear Hm f0 f1' b8 p8 k8 A8 O8 T8 t68
      go_wp2
      go_ret
      exact ⟨rfl, T9⟩
theorem RoadMakes_law (w : World) (n : Int) (hn : (Lit.int .i64 n).wf = true) (sv : Value) (l : List Ar) (hr : AR any w sv l) (v : Int) (hv : (Lit.int .i64 v).wf = true) (pa pb : Int) (wa : (Lit.int .i32 pa).wf = true) (wb : (Lit.int .i32 pb).wf = true) :
    Calls Try.prog 5 #[.agg #[.int .i64 n, sv], .int .i64 v, .agg #[.int .i32 pa, .int .i32 pb]] w fun e w' => e = .returned (.bool true) ∧ Below w.heap.size w w' :=
  (makes_walk w n sv l hr v pa pb wa wb).mono (fun e w' h => ⟨h.1, h.2.blw⟩)
end Go.Proofs.Ytmmlannnpndkcaa
