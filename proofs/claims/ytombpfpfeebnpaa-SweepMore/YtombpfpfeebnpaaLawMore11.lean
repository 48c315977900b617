/- SweepMore: an arc more makes no distance greater; without it just the distances that go by it may be greater. -/
import Derived.Test.YtombpfpfeebnpaaSLaw
import Derived.Test.YtombpfpfeebnpaaSMany
import Derived.Test.YtombpfpfeebnpaaSGraphed
import Derived.Test.YtombpfpfeebnpaaSOther
import Derived.Test.YtombpfpfeebnpaaLawThree11
import Derived.Deep.CutRange
namespace Go.Proofs.Ytombpfpfeebnpaa
open Go.RowKit Go.Maps
set_option linter.unusedVariables false
set_option linter.unusedSimpArgs false
set_option maxRecDepth 100000

theorem goes_more {l : List Ar} {f t y : Int} : (∀ u s x, goesF l u s x → goesF (l ++ [(f, t, y)]) u s x) ∧ (∀ u s x, goesF (l ++ [(f, t, y)]) u s x → goesF l u s x ∨ (u = f ∧ s = t ∧ x = y)) ∧ goesF (l ++ [(f, t, y)]) f t y := by
  unfold goesF
  refine ⟨fun u s x h => by simp [h], fun u s x h => ?_, by simp⟩
  rcases List.mem_append.1 h with h | h
  · exact .inl h
  · rw [List.mem_singleton] at h
    simp only [Prod.mk.injEq] at h
    exact .inr h
theorem looked_less {n : Int} {l : List Ar} {a : Ar} (h : Looked n (l ++ [a])) : Looked n l := by
  obtain ⟨h1, h2, ⟨h3, h4, h5, h6⟩, h7⟩ := h
  rw [List.length_append] at h2 h5
  refine ⟨h1, by omega, ⟨h3, h4, by omega, fun x hx => h6 x (by simp [hx])⟩, ?_⟩
  unfold Dist at h7 ⊢
  rw [List.map_append] at h7
  exact (List.nodup_append.1 h7).1

set_option maxHeartbeats 64000000 in
theorem more_walk (w : World) (n : Int) (sv : Value) (l : List Ar) (hr : AR any w sv l) (hbig : l.length ≤ 5864062014634) (f t y v : Int) :
    Calls Try.prog 7 #[.agg #[.int .i64 n, sv], .agg #[.int .i64 f, .int .i64 t, .int .i64 y], .int .i64 v] w fun e w' => e = .returned (.bool true) ∧ Turn (fun _ => False) w w' := by
  obtain ⟨sa, sc, rfl⟩ := hr.slice
  have T0 := (Turn.refl (fun _ => False) w).alloc (.cells #[.int .i64 n, .slice sa l.length sc] 24)
  have h0 := heap_alloc_new w (.cells #[.int .i64 n, .slice sa l.length sc] 24)
  have T1 := (Turn.refl (fun _ => False) (w.alloc (.cells #[.int .i64 n, .slice sa l.length sc] 24))).alloc (.cells #[.int .i64 f, .int .i64 t, .int .i64 y] 46)
  have h1 := heap_alloc_new (w.alloc (.cells #[.int .i64 n, .slice sa l.length sc] 24)) (.cells #[.int .i64 f, .int .i64 t, .int .i64 y] 46)
  have h0' := T1.same h0 (fun h => h)
  have TT := T0.then T1
  have hR := hr.quiet TT
  rw [alloc_size] at h1
  clear hr T0 T1 h0
  go_enter Try.func7, Try.ntmps7
  go_wp2_with fail
  generalize (w.alloc (.cells #[.int .i64 n, .slice sa l.length sc] 24)).alloc (.cells #[.int .i64 f, .int .i64 t, .int .i64 y] 46) = W at *
  generalize hnb : w.heap.size = nb at *
  generalize hab : nb + 1 = ab at *
  have hWs := TT.size
  rw [hnb] at hWs
  have n0 : W.cell? ⟨nb, 0, none⟩ = some (.int .i64 n) := cell_obj h0' 0
  have n1 : W.cell? ⟨nb, 1, none⟩ = some (.slice sa l.length sc) := cell_obj h0' 1
  have a0 : W.cell? ⟨ab, 0, none⟩ = some (.int .i64 f) := cell_obj h1 0
  have a1 : W.cell? ⟨ab, 1, none⟩ = some (.int .i64 t) := cell_obj h1 1
  have a2 : W.cell? ⟨ab, 2, none⟩ = some (.int .i64 y) := cell_obj h1 2
  go_cut [7] from 14 to 22 (fun s7 wx => ∃ (mb : Nat) (x : Value), s7 = .pointer (some ⟨mb, 0, none⟩) ∧ wx.heap[mb]? = some (.cells #[.int .i64 n, x] 24 (0, 0)) ∧ OA wx x (l ++ [(f, t, y)]) ∧ Turn (fun _ => False) W wx)
  case first =>
    refine wp_region_T 10 (fun u => Turn (fun _ => False) W u) (by kernel_rfl) ((Turn.refl (fun _ => False) W).drew) (fun hS => ?_)
    refine wpAnyT_take (i := 0) (v := ?_) rfl (by kernel_rfl) (by kernel_rfl) (by kernel_rfl) (by kernel_rfl) (fun _ _ _ h => h) (by rfl) ?_ hS ?_
    rotate_left
    · intro w hSw; have k0 := hSw.cell n0 (fun h => h); have k1 := hSw.cell n1 (fun h => h); have k2 := hSw.cell a0 (fun h => h); have k3 := hSw.cell a1 (fun h => h); have k4 := hSw.cell a2 (fun h => h); go_simp; rfl
    simp only [Act.put, List.setIfInBounds_toArray, List.set_cons_zero, List.set_cons_succ]
    refine wpAnyT_take (i := 1) (v := ?_) rfl (by kernel_rfl) (by kernel_rfl) (by kernel_rfl) (by kernel_rfl) (fun _ _ _ h => h) (by rfl) ?_ hS ?_
    rotate_left
    · intro w hSw; have k0 := hSw.cell n0 (fun h => h); have k1 := hSw.cell n1 (fun h => h); have k2 := hSw.cell a0 (fun h => h); have k3 := hSw.cell a1 (fun h => h); have k4 := hSw.cell a2 (fun h => h); go_simp; rfl
    simp only [Act.put, List.setIfInBounds_toArray, List.set_cons_zero, List.set_cons_succ]
    refine wpAnyT_take (i := 2) (v := ?_) rfl (by kernel_rfl) (by kernel_rfl) (by kernel_rfl) (by kernel_rfl) (fun _ _ _ h => h) (by rfl) ?_ hS ?_
    rotate_left
    · intro w hSw; have k0 := hSw.cell n0 (fun h => h); have k1 := hSw.cell n1 (fun h => h); have k2 := hSw.cell a0 (fun h => h); have k3 := hSw.cell a1 (fun h => h); have k4 := hSw.cell a2 (fun h => h); go_simp; rfl
    simp only [Act.put, List.setIfInBounds_toArray, List.set_cons_zero, List.set_cons_succ]
    refine wpAnyT_take (i := 3) (v := ?_) rfl (by kernel_rfl) (by kernel_rfl) (by kernel_rfl) (by kernel_rfl) (fun _ _ _ h => h) (by rfl) ?_ hS ?_
    rotate_left
    · intro w hSw; have k0 := hSw.cell n0 (fun h => h); have k1 := hSw.cell n1 (fun h => h); have k2 := hSw.cell a0 (fun h => h); have k3 := hSw.cell a1 (fun h => h); have k4 := hSw.cell a2 (fun h => h); go_simp; rfl
    simp only [Act.put, List.setIfInBounds_toArray, List.set_cons_zero, List.set_cons_succ]
    refine wpAnyT_take (i := 5) (v := ?_) rfl (by kernel_rfl) (by kernel_rfl) (by kernel_rfl) (by kernel_rfl) (fun _ _ _ h => h) (by rfl) ?_ hS ?_
    rotate_left
    · intro w hSw; have k0 := hSw.cell n0 (fun h => h); have k1 := hSw.cell n1 (fun h => h); have k2 := hSw.cell a0 (fun h => h); have k3 := hSw.cell a1 (fun h => h); have k4 := hSw.cell a2 (fun h => h); go_simp; rfl
    simp only [Act.put, List.setIfInBounds_toArray, List.set_cons_zero, List.set_cons_succ]
    have tu0 : Turn (fun _ => False) W W.drew := hS
    clear hS
    generalize W.drew = u0 at *
    refine wpAnyT_three (i1 := 4) (i2 := 6) (i3 := 9) (by kernel_rfl) rfl (fun K' hK => ?_) rfl (fun K' hK => ?_) rfl (fun K' hK => ?_)
    · refine step_append_new rfl _ _ 22 rfl (.slice none 0 0) (.slice sa l.length sc) rfl rfl (append_arcs (l := []) (oa_none _) (hR.quiet tu0).src (by simp; omega)) ?_
      rintro v1 u1 ⟨O1, t1, own1⟩
      rw [List.nil_append] at O1
      replace t1 : Turn (fun _ => False) u0 u1 := t1.mono (fun j hj => by simp [Value.ownBlock] at hj)
      have tu1 := tu0.then t1
      have hv1 : ∀ j, v1.ownBlock = some j → W.heap.size ≤ j := fun j hj => (own1 j hj).elim (fun h => by simp [Value.ownBlock] at h) (fun h => Nat.le_trans tu0.size h)
      clear own1
      refine hK _ _ (fun _ => tu1) ?_
      try simp only [Act.put, List.setIfInBounds_toArray, List.set_cons_zero, List.set_cons_succ]
      clear hK K' tu0 t1
      refine wpAnyT_two (i1 := 6) (i2 := 9) (by kernel_rfl) rfl (fun K' hK => ?_) rfl (fun K' hK => ?_)
      · rw [if_pos (by rfl)]
        go_simp
        have t1 := (Turn.refl (fun _ => False) u1).alloc (.cells #[.int .i64 f, .int .i64 t, .int .i64 y] 46)
        have hs := heap_alloc_new u1 (.cells #[.int .i64 f, .int .i64 t, .int .i64 y] 46)
        have tu2 := tu1.then t1
        replace O1 := O1.turn t1 (fun _ _ h => h)
        have HK := hide hK
        clear hK
        generalize u1.alloc (.cells #[.int .i64 f, .int .i64 t, .int .i64 y] 46) = u2 at *
        generalize u1.heap.size = sb at *
        have hK := unhide HK
        clear HK
        refine hK _ _ (fun _ => tu2) ?_
        try simp only [Act.put, List.setIfInBounds_toArray, List.set_cons_zero, List.set_cons_succ]
        clear hK K' tu1 t1
        refine wpAnyT_two (i1 := 7) (i2 := 9) (by kernel_rfl) rfl (fun K' hK => ?_) rfl (fun K' hK => ?_)
        · refine step_append_new rfl _ _ 22 rfl v1 (.slice (some ⟨sb, 0, none⟩) 1 1) rfl rfl (append_arcs O1 (src_at (a := (f, t, y)) hs) (by simp; omega)) ?_
          rintro v2 u3 ⟨O2, t1, own1⟩
          have tu3 := tu2.trans t1 (fun j hj => .inr (hv1 j hj))
          obtain ⟨xa2, xc2, hv2⟩ := O2.form
          rw [List.length_append, List.length_singleton] at hv2
          subst hv2
          clear own1 hs O1 hv1
          refine hK _ _ (fun _ => tu3) ?_
          try simp only [Act.put, List.setIfInBounds_toArray, List.set_cons_zero, List.set_cons_succ]
          clear hK K' tu2 t1
          refine wpAnyT_take (i := 8) (v := ?_) rfl (by kernel_rfl) (by kernel_rfl) (by kernel_rfl) (by kernel_rfl) (fun _ _ _ h => h) (by rfl) ?_ tu3 ?_
          rotate_left
          · intro w hSw; have k0 := hSw.cell n0 (fun h => h); have k1 := hSw.cell n1 (fun h => h); have k2 := hSw.cell a0 (fun h => h); have k3 := hSw.cell a1 (fun h => h); have k4 := hSw.cell a2 (fun h => h); go_simp; rfl
          simp only [Act.put, List.setIfInBounds_toArray, List.set_cons_zero, List.set_cons_succ]
          refine wpAnyT_one (i := 9) (by kernel_rfl) rfl (fun K' hK => ?_)
          rw [if_pos (by rfl)]
          go_simp
          have t1 := (Turn.refl (fun _ => False) u3).alloc (.cells #[.int .i64 0, .slice none 0 0] 24)
          have hn := heap_alloc_new u3 (.cells #[.int .i64 0, .slice none 0 0] 24)
          have tu4 := tu3.then t1
          replace O2 := O2.turn t1 (fun _ _ h => h)
          have hmW : W.heap.size ≤ u3.heap.size := tu3.size
          have HK := hide hK
          clear hK
          generalize u3.alloc (.cells #[.int .i64 0, .slice none 0 0] 24) = u4 at *
          generalize u3.heap.size = mb at *
          have hK := unhide HK
          clear HK
          refine hK _ _ (fun _ => tu4) ?_
          try simp only [Act.put, List.setIfInBounds_toArray, List.set_cons_zero, List.set_cons_succ]
          clear hK K' tu3 t1
          have y0 : u4.frozen? ⟨mb, 0, none⟩ = false := frozen_obj hn 0
          have y1 : u4.frozen? ⟨mb, 1, none⟩ = false := frozen_obj hn 1
          have x0 : u4.cell? ⟨mb, 0, none⟩ = some (.int .i64 0) := cell_obj hn 0
          have x1 : u4.cell? ⟨mb, 1, none⟩ = some (.slice none 0 0) := cell_obj hn 1
          have hn7 : ((u4.setCell ⟨mb, 0, none⟩ (.int .i64 n)).setCell ⟨mb, 1, none⟩ (.slice xa2 (l.length + 1) xc2)).heap[mb]? = some (.cells #[.int .i64 n, (.slice xa2 (l.length + 1) xc2)] 24 (0, 0)) := (heap_setCell_obj (j := 1) (heap_setCell_obj (j := 0) hn (.int .i64 n)) (.slice xa2 (l.length + 1) xc2)).trans (by rfl)
          have t7 : Turn (fun j => j = mb) u4 ((u4.setCell ⟨mb, 0, none⟩ (.int .i64 n)).setCell ⟨mb, 1, none⟩ (.slice xa2 (l.length + 1) xc2)) := ((Turn.refl (fun j => j = mb) u4).setCell (p := ⟨mb, 0, none⟩) (.inl rfl) _).setCell (p := ⟨mb, 1, none⟩) (.inl rfl) _
          have O7 := O2.turn t7 (fun j hj => OwnSl.neObj O2 hn (by decide) j hj)
          have T7 := tu4.trans t7 (fun j hj => .inr (by rw [hj]; exact hmW))
          clear tu4 t7 O2 hn
          refine wpAnyT_one (i := 10) (by kernel_rfl) rfl (fun K' hK => ?_)
          rw [if_pos (by rfl)]
          go_simp
          refine hK _ _ (fun h => absurd rfl h) ?_
          clear hK K'
          refine wpAnyT_done (by kernel_rfl) ?_
          clear y0 y1 x0 x1
          go_wp2_with fail
          go_meet
          exact ⟨mb, _, rfl, hn7, O7, T7⟩
        · rw [if_pos (by rfl)]
          go_simp
          have t1 := (Turn.refl (fun _ => False) u2).alloc (.cells #[.int .i64 0, .slice none 0 0] 24)
          have hn := heap_alloc_new u2 (.cells #[.int .i64 0, .slice none 0 0] 24)
          have tu3 := tu2.then t1
          replace O1 := O1.turn t1 (fun _ _ h => h)
          replace hs := t1.same hs (fun h => h)
          have hmW : W.heap.size ≤ u2.heap.size := tu2.size
          have HK := hide hK
          clear hK
          generalize u2.alloc (.cells #[.int .i64 0, .slice none 0 0] 24) = u3 at *
          generalize u2.heap.size = mb at *
          have hK := unhide HK
          clear HK
          refine hK _ _ (fun _ => tu3) ?_
          try simp only [Act.put, List.setIfInBounds_toArray, List.set_cons_zero, List.set_cons_succ]
          clear hK K' tu2 t1
          refine wpAnyT_one (i := 7) (by kernel_rfl) rfl (fun K' hK => ?_)
          refine step_append_new rfl _ _ 22 rfl v1 (.slice (some ⟨sb, 0, none⟩) 1 1) rfl rfl (append_arcs O1 (src_at (a := (f, t, y)) hs) (by simp; omega)) ?_
          rintro v2 u4 ⟨O2, t1, own1⟩
          have tu4 := tu3.trans t1 (fun j hj => .inr (hv1 j hj))
          replace hn := t1.same hn (fun h => OwnSl.neObj O1 hn (by decide) _ h rfl)
          obtain ⟨xa2, xc2, hv2⟩ := O2.form
          rw [List.length_append, List.length_singleton] at hv2
          subst hv2
          clear own1 hs O1 hv1
          refine hK _ _ (fun _ => tu4) ?_
          try simp only [Act.put, List.setIfInBounds_toArray, List.set_cons_zero, List.set_cons_succ]
          clear hK K' tu3 t1
          refine wpAnyT_take (i := 8) (v := ?_) rfl (by kernel_rfl) (by kernel_rfl) (by kernel_rfl) (by kernel_rfl) (fun _ _ _ h => h) (by rfl) ?_ tu4 ?_
          rotate_left
          · intro w hSw; have k0 := hSw.cell n0 (fun h => h); have k1 := hSw.cell n1 (fun h => h); have k2 := hSw.cell a0 (fun h => h); have k3 := hSw.cell a1 (fun h => h); have k4 := hSw.cell a2 (fun h => h); go_simp; rfl
          simp only [Act.put, List.setIfInBounds_toArray, List.set_cons_zero, List.set_cons_succ]
          have y0 : u4.frozen? ⟨mb, 0, none⟩ = false := frozen_obj hn 0
          have y1 : u4.frozen? ⟨mb, 1, none⟩ = false := frozen_obj hn 1
          have x0 : u4.cell? ⟨mb, 0, none⟩ = some (.int .i64 0) := cell_obj hn 0
          have x1 : u4.cell? ⟨mb, 1, none⟩ = some (.slice none 0 0) := cell_obj hn 1
          have hn7 : ((u4.setCell ⟨mb, 0, none⟩ (.int .i64 n)).setCell ⟨mb, 1, none⟩ (.slice xa2 (l.length + 1) xc2)).heap[mb]? = some (.cells #[.int .i64 n, (.slice xa2 (l.length + 1) xc2)] 24 (0, 0)) := (heap_setCell_obj (j := 1) (heap_setCell_obj (j := 0) hn (.int .i64 n)) (.slice xa2 (l.length + 1) xc2)).trans (by rfl)
          have t7 : Turn (fun j => j = mb) u4 ((u4.setCell ⟨mb, 0, none⟩ (.int .i64 n)).setCell ⟨mb, 1, none⟩ (.slice xa2 (l.length + 1) xc2)) := ((Turn.refl (fun j => j = mb) u4).setCell (p := ⟨mb, 0, none⟩) (.inl rfl) _).setCell (p := ⟨mb, 1, none⟩) (.inl rfl) _
          have O7 := O2.turn t7 (fun j hj => OwnSl.neObj O2 hn (by decide) j hj)
          have T7 := tu4.trans t7 (fun j hj => .inr (by rw [hj]; exact hmW))
          clear tu4 t7 O2 hn
          refine wpAnyT_one (i := 10) (by kernel_rfl) rfl (fun K' hK => ?_)
          rw [if_pos (by rfl)]
          go_simp
          refine hK _ _ (fun h => absurd rfl h) ?_
          clear hK K'
          refine wpAnyT_done (by kernel_rfl) ?_
          clear y0 y1 x0 x1
          go_wp2_with fail
          go_meet
          exact ⟨mb, _, rfl, hn7, O7, T7⟩
      · rw [if_pos (by rfl)]
        go_simp
        have t1 := (Turn.refl (fun _ => False) u1).alloc (.cells #[.int .i64 0, .slice none 0 0] 24)
        have hn := heap_alloc_new u1 (.cells #[.int .i64 0, .slice none 0 0] 24)
        have tu2 := tu1.then t1
        replace O1 := O1.turn t1 (fun _ _ h => h)
        have hmW : W.heap.size ≤ u1.heap.size := tu1.size
        have HK := hide hK
        clear hK
        generalize u1.alloc (.cells #[.int .i64 0, .slice none 0 0] 24) = u2 at *
        generalize u1.heap.size = mb at *
        have hK := unhide HK
        clear HK
        refine hK _ _ (fun _ => tu2) ?_
        try simp only [Act.put, List.setIfInBounds_toArray, List.set_cons_zero, List.set_cons_succ]
        clear hK K' tu1 t1
        refine wpAnyT_one (i := 6) (by kernel_rfl) rfl (fun K' hK => ?_)
        rw [if_pos (by rfl)]
        go_simp
        have t1 := (Turn.refl (fun _ => False) u2).alloc (.cells #[.int .i64 f, .int .i64 t, .int .i64 y] 46)
        have hs := heap_alloc_new u2 (.cells #[.int .i64 f, .int .i64 t, .int .i64 y] 46)
        have tu3 := tu2.then t1
        replace O1 := O1.turn t1 (fun _ _ h => h)
        replace hn := t1.same hn (fun h => h)
        have HK := hide hK
        clear hK
        generalize u2.alloc (.cells #[.int .i64 f, .int .i64 t, .int .i64 y] 46) = u3 at *
        generalize u2.heap.size = sb at *
        have hK := unhide HK
        clear HK
        refine hK _ _ (fun _ => tu3) ?_
        try simp only [Act.put, List.setIfInBounds_toArray, List.set_cons_zero, List.set_cons_succ]
        clear hK K' tu2 t1
        refine wpAnyT_one (i := 7) (by kernel_rfl) rfl (fun K' hK => ?_)
        refine step_append_new rfl _ _ 22 rfl v1 (.slice (some ⟨sb, 0, none⟩) 1 1) rfl rfl (append_arcs O1 (src_at (a := (f, t, y)) hs) (by simp; omega)) ?_
        rintro v2 u4 ⟨O2, t1, own1⟩
        have tu4 := tu3.trans t1 (fun j hj => .inr (hv1 j hj))
        replace hn := t1.same hn (fun h => OwnSl.neObj O1 hn (by decide) _ h rfl)
        obtain ⟨xa2, xc2, hv2⟩ := O2.form
        rw [List.length_append, List.length_singleton] at hv2
        subst hv2
        clear own1 hs O1 hv1
        refine hK _ _ (fun _ => tu4) ?_
        try simp only [Act.put, List.setIfInBounds_toArray, List.set_cons_zero, List.set_cons_succ]
        clear hK K' tu3 t1
        refine wpAnyT_take (i := 8) (v := ?_) rfl (by kernel_rfl) (by kernel_rfl) (by kernel_rfl) (by kernel_rfl) (fun _ _ _ h => h) (by rfl) ?_ tu4 ?_
        rotate_left
        · intro w hSw; have k0 := hSw.cell n0 (fun h => h); have k1 := hSw.cell n1 (fun h => h); have k2 := hSw.cell a0 (fun h => h); have k3 := hSw.cell a1 (fun h => h); have k4 := hSw.cell a2 (fun h => h); go_simp; rfl
        simp only [Act.put, List.setIfInBounds_toArray, List.set_cons_zero, List.set_cons_succ]
        have y0 : u4.frozen? ⟨mb, 0, none⟩ = false := frozen_obj hn 0
        have y1 : u4.frozen? ⟨mb, 1, none⟩ = false := frozen_obj hn 1
        have x0 : u4.cell? ⟨mb, 0, none⟩ = some (.int .i64 0) := cell_obj hn 0
        have x1 : u4.cell? ⟨mb, 1, none⟩ = some (.slice none 0 0) := cell_obj hn 1
        have hn7 : ((u4.setCell ⟨mb, 0, none⟩ (.int .i64 n)).setCell ⟨mb, 1, none⟩ (.slice xa2 (l.length + 1) xc2)).heap[mb]? = some (.cells #[.int .i64 n, (.slice xa2 (l.length + 1) xc2)] 24 (0, 0)) := (heap_setCell_obj (j := 1) (heap_setCell_obj (j := 0) hn (.int .i64 n)) (.slice xa2 (l.length + 1) xc2)).trans (by rfl)
        have t7 : Turn (fun j => j = mb) u4 ((u4.setCell ⟨mb, 0, none⟩ (.int .i64 n)).setCell ⟨mb, 1, none⟩ (.slice xa2 (l.length + 1) xc2)) := ((Turn.refl (fun j => j = mb) u4).setCell (p := ⟨mb, 0, none⟩) (.inl rfl) _).setCell (p := ⟨mb, 1, none⟩) (.inl rfl) _
        have O7 := O2.turn t7 (fun j hj => OwnSl.neObj O2 hn (by decide) j hj)
        have T7 := tu4.trans t7 (fun j hj => .inr (by rw [hj]; exact hmW))
        clear tu4 t7 O2 hn
        refine wpAnyT_one (i := 10) (by kernel_rfl) rfl (fun K' hK => ?_)
        rw [if_pos (by rfl)]
        go_simp
        refine hK _ _ (fun h => absurd rfl h) ?_
        clear hK K'
        refine wpAnyT_done (by kernel_rfl) ?_
        clear y0 y1 x0 x1
        go_wp2_with fail
        go_meet
        exact ⟨mb, _, rfl, hn7, O7, T7⟩
    · rw [if_pos (by rfl)]
      go_simp
      have t1 := (Turn.refl (fun _ => False) u0).alloc (.cells #[.int .i64 f, .int .i64 t, .int .i64 y] 46)
      have hs := heap_alloc_new u0 (.cells #[.int .i64 f, .int .i64 t, .int .i64 y] 46)
      have tu1 := tu0.then t1
      have HK := hide hK
      clear hK
      generalize u0.alloc (.cells #[.int .i64 f, .int .i64 t, .int .i64 y] 46) = u1 at *
      generalize u0.heap.size = sb at *
      have hK := unhide HK
      clear HK
      refine hK _ _ (fun _ => tu1) ?_
      try simp only [Act.put, List.setIfInBounds_toArray, List.set_cons_zero, List.set_cons_succ]
      clear hK K' tu0 t1
      refine wpAnyT_two (i1 := 4) (i2 := 9) (by kernel_rfl) rfl (fun K' hK => ?_) rfl (fun K' hK => ?_)
      · refine step_append_new rfl _ _ 22 rfl (.slice none 0 0) (.slice sa l.length sc) rfl rfl (append_arcs (l := []) (oa_none _) (hR.quiet tu1).src (by simp; omega)) ?_
        rintro v1 u2 ⟨O1, t1, own1⟩
        rw [List.nil_append] at O1
        replace t1 : Turn (fun _ => False) u1 u2 := t1.mono (fun j hj => by simp [Value.ownBlock] at hj)
        have tu2 := tu1.then t1
        have hv1 : ∀ j, v1.ownBlock = some j → W.heap.size ≤ j := fun j hj => (own1 j hj).elim (fun h => by simp [Value.ownBlock] at h) (fun h => Nat.le_trans tu1.size h)
        replace hs := t1.same hs (fun h => h)
        clear own1
        refine hK _ _ (fun _ => tu2) ?_
        try simp only [Act.put, List.setIfInBounds_toArray, List.set_cons_zero, List.set_cons_succ]
        clear hK K' tu1 t1
        refine wpAnyT_two (i1 := 7) (i2 := 9) (by kernel_rfl) rfl (fun K' hK => ?_) rfl (fun K' hK => ?_)
        · refine step_append_new rfl _ _ 22 rfl v1 (.slice (some ⟨sb, 0, none⟩) 1 1) rfl rfl (append_arcs O1 (src_at (a := (f, t, y)) hs) (by simp; omega)) ?_
          rintro v2 u3 ⟨O2, t1, own1⟩
          have tu3 := tu2.trans t1 (fun j hj => .inr (hv1 j hj))
          obtain ⟨xa2, xc2, hv2⟩ := O2.form
          rw [List.length_append, List.length_singleton] at hv2
          subst hv2
          clear own1 hs O1 hv1
          refine hK _ _ (fun _ => tu3) ?_
          try simp only [Act.put, List.setIfInBounds_toArray, List.set_cons_zero, List.set_cons_succ]
          clear hK K' tu2 t1
          refine wpAnyT_take (i := 8) (v := ?_) rfl (by kernel_rfl) (by kernel_rfl) (by kernel_rfl) (by kernel_rfl) (fun _ _ _ h => h) (by rfl) ?_ tu3 ?_
          rotate_left
          · intro w hSw; have k0 := hSw.cell n0 (fun h => h); have k1 := hSw.cell n1 (fun h => h); have k2 := hSw.cell a0 (fun h => h); have k3 := hSw.cell a1 (fun h => h); have k4 := hSw.cell a2 (fun h => h); go_simp; rfl
          simp only [Act.put, List.setIfInBounds_toArray, List.set_cons_zero, List.set_cons_succ]
          refine wpAnyT_one (i := 9) (by kernel_rfl) rfl (fun K' hK => ?_)
          rw [if_pos (by rfl)]
          go_simp
          have t1 := (Turn.refl (fun _ => False) u3).alloc (.cells #[.int .i64 0, .slice none 0 0] 24)
          have hn := heap_alloc_new u3 (.cells #[.int .i64 0, .slice none 0 0] 24)
          have tu4 := tu3.then t1
          replace O2 := O2.turn t1 (fun _ _ h => h)
          have hmW : W.heap.size ≤ u3.heap.size := tu3.size
          have HK := hide hK
          clear hK
          generalize u3.alloc (.cells #[.int .i64 0, .slice none 0 0] 24) = u4 at *
          generalize u3.heap.size = mb at *
          have hK := unhide HK
          clear HK
          refine hK _ _ (fun _ => tu4) ?_
          try simp only [Act.put, List.setIfInBounds_toArray, List.set_cons_zero, List.set_cons_succ]
          clear hK K' tu3 t1
          have y0 : u4.frozen? ⟨mb, 0, none⟩ = false := frozen_obj hn 0
          have y1 : u4.frozen? ⟨mb, 1, none⟩ = false := frozen_obj hn 1
          have x0 : u4.cell? ⟨mb, 0, none⟩ = some (.int .i64 0) := cell_obj hn 0
          have x1 : u4.cell? ⟨mb, 1, none⟩ = some (.slice none 0 0) := cell_obj hn 1
          have hn7 : ((u4.setCell ⟨mb, 0, none⟩ (.int .i64 n)).setCell ⟨mb, 1, none⟩ (.slice xa2 (l.length + 1) xc2)).heap[mb]? = some (.cells #[.int .i64 n, (.slice xa2 (l.length + 1) xc2)] 24 (0, 0)) := (heap_setCell_obj (j := 1) (heap_setCell_obj (j := 0) hn (.int .i64 n)) (.slice xa2 (l.length + 1) xc2)).trans (by rfl)
          have t7 : Turn (fun j => j = mb) u4 ((u4.setCell ⟨mb, 0, none⟩ (.int .i64 n)).setCell ⟨mb, 1, none⟩ (.slice xa2 (l.length + 1) xc2)) := ((Turn.refl (fun j => j = mb) u4).setCell (p := ⟨mb, 0, none⟩) (.inl rfl) _).setCell (p := ⟨mb, 1, none⟩) (.inl rfl) _
          have O7 := O2.turn t7 (fun j hj => OwnSl.neObj O2 hn (by decide) j hj)
          have T7 := tu4.trans t7 (fun j hj => .inr (by rw [hj]; exact hmW))
          clear tu4 t7 O2 hn
          refine wpAnyT_one (i := 10) (by kernel_rfl) rfl (fun K' hK => ?_)
          rw [if_pos (by rfl)]
          go_simp
          refine hK _ _ (fun h => absurd rfl h) ?_
          clear hK K'
          refine wpAnyT_done (by kernel_rfl) ?_
          clear y0 y1 x0 x1
          go_wp2_with fail
          go_meet
          exact ⟨mb, _, rfl, hn7, O7, T7⟩
        · rw [if_pos (by rfl)]
          go_simp
          have t1 := (Turn.refl (fun _ => False) u2).alloc (.cells #[.int .i64 0, .slice none 0 0] 24)
          have hn := heap_alloc_new u2 (.cells #[.int .i64 0, .slice none 0 0] 24)
          have tu3 := tu2.then t1
          replace O1 := O1.turn t1 (fun _ _ h => h)
          replace hs := t1.same hs (fun h => h)
          have hmW : W.heap.size ≤ u2.heap.size := tu2.size
          have HK := hide hK
          clear hK
          generalize u2.alloc (.cells #[.int .i64 0, .slice none 0 0] 24) = u3 at *
          generalize u2.heap.size = mb at *
          have hK := unhide HK
          clear HK
          refine hK _ _ (fun _ => tu3) ?_
          try simp only [Act.put, List.setIfInBounds_toArray, List.set_cons_zero, List.set_cons_succ]
          clear hK K' tu2 t1
          refine wpAnyT_one (i := 7) (by kernel_rfl) rfl (fun K' hK => ?_)
          refine step_append_new rfl _ _ 22 rfl v1 (.slice (some ⟨sb, 0, none⟩) 1 1) rfl rfl (append_arcs O1 (src_at (a := (f, t, y)) hs) (by simp; omega)) ?_
          rintro v2 u4 ⟨O2, t1, own1⟩
          have tu4 := tu3.trans t1 (fun j hj => .inr (hv1 j hj))
          replace hn := t1.same hn (fun h => OwnSl.neObj O1 hn (by decide) _ h rfl)
          obtain ⟨xa2, xc2, hv2⟩ := O2.form
          rw [List.length_append, List.length_singleton] at hv2
          subst hv2
          clear own1 hs O1 hv1
          refine hK _ _ (fun _ => tu4) ?_
          try simp only [Act.put, List.setIfInBounds_toArray, List.set_cons_zero, List.set_cons_succ]
          clear hK K' tu3 t1
          refine wpAnyT_take (i := 8) (v := ?_) rfl (by kernel_rfl) (by kernel_rfl) (by kernel_rfl) (by kernel_rfl) (fun _ _ _ h => h) (by rfl) ?_ tu4 ?_
          rotate_left
          · intro w hSw; have k0 := hSw.cell n0 (fun h => h); have k1 := hSw.cell n1 (fun h => h); have k2 := hSw.cell a0 (fun h => h); have k3 := hSw.cell a1 (fun h => h); have k4 := hSw.cell a2 (fun h => h); go_simp; rfl
          simp only [Act.put, List.setIfInBounds_toArray, List.set_cons_zero, List.set_cons_succ]
          have y0 : u4.frozen? ⟨mb, 0, none⟩ = false := frozen_obj hn 0
          have y1 : u4.frozen? ⟨mb, 1, none⟩ = false := frozen_obj hn 1
          have x0 : u4.cell? ⟨mb, 0, none⟩ = some (.int .i64 0) := cell_obj hn 0
          have x1 : u4.cell? ⟨mb, 1, none⟩ = some (.slice none 0 0) := cell_obj hn 1
          have hn7 : ((u4.setCell ⟨mb, 0, none⟩ (.int .i64 n)).setCell ⟨mb, 1, none⟩ (.slice xa2 (l.length + 1) xc2)).heap[mb]? = some (.cells #[.int .i64 n, (.slice xa2 (l.length + 1) xc2)] 24 (0, 0)) := (heap_setCell_obj (j := 1) (heap_setCell_obj (j := 0) hn (.int .i64 n)) (.slice xa2 (l.length + 1) xc2)).trans (by rfl)
          have t7 : Turn (fun j => j = mb) u4 ((u4.setCell ⟨mb, 0, none⟩ (.int .i64 n)).setCell ⟨mb, 1, none⟩ (.slice xa2 (l.length + 1) xc2)) := ((Turn.refl (fun j => j = mb) u4).setCell (p := ⟨mb, 0, none⟩) (.inl rfl) _).setCell (p := ⟨mb, 1, none⟩) (.inl rfl) _
          have O7 := O2.turn t7 (fun j hj => OwnSl.neObj O2 hn (by decide) j hj)
          have T7 := tu4.trans t7 (fun j hj => .inr (by rw [hj]; exact hmW))
          clear tu4 t7 O2 hn
          refine wpAnyT_one (i := 10) (by kernel_rfl) rfl (fun K' hK => ?_)
          rw [if_pos (by rfl)]
          go_simp
          refine hK _ _ (fun h => absurd rfl h) ?_
          clear hK K'
          refine wpAnyT_done (by kernel_rfl) ?_
          clear y0 y1 x0 x1
          go_wp2_with fail
          go_meet
          exact ⟨mb, _, rfl, hn7, O7, T7⟩
      · rw [if_pos (by rfl)]
        go_simp
        have t1 := (Turn.refl (fun _ => False) u1).alloc (.cells #[.int .i64 0, .slice none 0 0] 24)
        have hn := heap_alloc_new u1 (.cells #[.int .i64 0, .slice none 0 0] 24)
        have tu2 := tu1.then t1
        replace hs := t1.same hs (fun h => h)
        have hmW : W.heap.size ≤ u1.heap.size := tu1.size
        have HK := hide hK
        clear hK
        generalize u1.alloc (.cells #[.int .i64 0, .slice none 0 0] 24) = u2 at *
        generalize u1.heap.size = mb at *
        have hK := unhide HK
        clear HK
        refine hK _ _ (fun _ => tu2) ?_
        try simp only [Act.put, List.setIfInBounds_toArray, List.set_cons_zero, List.set_cons_succ]
        clear hK K' tu1 t1
        refine wpAnyT_one (i := 4) (by kernel_rfl) rfl (fun K' hK => ?_)
        refine step_append_new rfl _ _ 22 rfl (.slice none 0 0) (.slice sa l.length sc) rfl rfl (append_arcs (l := []) (oa_none _) (hR.quiet tu2).src (by simp; omega)) ?_
        rintro v1 u3 ⟨O1, t1, own1⟩
        rw [List.nil_append] at O1
        replace t1 : Turn (fun _ => False) u2 u3 := t1.mono (fun j hj => by simp [Value.ownBlock] at hj)
        have tu3 := tu2.then t1
        have hv1 : ∀ j, v1.ownBlock = some j → W.heap.size ≤ j := fun j hj => (own1 j hj).elim (fun h => by simp [Value.ownBlock] at h) (fun h => Nat.le_trans tu2.size h)
        replace hs := t1.same hs (fun h => h)
        replace hn := t1.same hn (fun h => h)
        clear own1
        refine hK _ _ (fun _ => tu3) ?_
        try simp only [Act.put, List.setIfInBounds_toArray, List.set_cons_zero, List.set_cons_succ]
        clear hK K' tu2 t1
        refine wpAnyT_one (i := 7) (by kernel_rfl) rfl (fun K' hK => ?_)
        refine step_append_new rfl _ _ 22 rfl v1 (.slice (some ⟨sb, 0, none⟩) 1 1) rfl rfl (append_arcs O1 (src_at (a := (f, t, y)) hs) (by simp; omega)) ?_
        rintro v2 u4 ⟨O2, t1, own1⟩
        have tu4 := tu3.trans t1 (fun j hj => .inr (hv1 j hj))
        replace hn := t1.same hn (fun h => OwnSl.neObj O1 hn (by decide) _ h rfl)
        obtain ⟨xa2, xc2, hv2⟩ := O2.form
        rw [List.length_append, List.length_singleton] at hv2
        subst hv2
        clear own1 hs O1 hv1
        refine hK _ _ (fun _ => tu4) ?_
        try simp only [Act.put, List.setIfInBounds_toArray, List.set_cons_zero, List.set_cons_succ]
        clear hK K' tu3 t1
        refine wpAnyT_take (i := 8) (v := ?_) rfl (by kernel_rfl) (by kernel_rfl) (by kernel_rfl) (by kernel_rfl) (fun _ _ _ h => h) (by rfl) ?_ tu4 ?_
        rotate_left
        · intro w hSw; have k0 := hSw.cell n0 (fun h => h); have k1 := hSw.cell n1 (fun h => h); have k2 := hSw.cell a0 (fun h => h); have k3 := hSw.cell a1 (fun h => h); have k4 := hSw.cell a2 (fun h => h); go_simp; rfl
        simp only [Act.put, List.setIfInBounds_toArray, List.set_cons_zero, List.set_cons_succ]
        have y0 : u4.frozen? ⟨mb, 0, none⟩ = false := frozen_obj hn 0
        have y1 : u4.frozen? ⟨mb, 1, none⟩ = false := frozen_obj hn 1
        have x0 : u4.cell? ⟨mb, 0, none⟩ = some (.int .i64 0) := cell_obj hn 0
        have x1 : u4.cell? ⟨mb, 1, none⟩ = some (.slice none 0 0) := cell_obj hn 1
        have hn7 : ((u4.setCell ⟨mb, 0, none⟩ (.int .i64 n)).setCell ⟨mb, 1, none⟩ (.slice xa2 (l.length + 1) xc2)).heap[mb]? = some (.cells #[.int .i64 n, (.slice xa2 (l.length + 1) xc2)] 24 (0, 0)) := (heap_setCell_obj (j := 1) (heap_setCell_obj (j := 0) hn (.int .i64 n)) (.slice xa2 (l.length + 1) xc2)).trans (by rfl)
        have t7 : Turn (fun j => j = mb) u4 ((u4.setCell ⟨mb, 0, none⟩ (.int .i64 n)).setCell ⟨mb, 1, none⟩ (.slice xa2 (l.length + 1) xc2)) := ((Turn.refl (fun j => j = mb) u4).setCell (p := ⟨mb, 0, none⟩) (.inl rfl) _).setCell (p := ⟨mb, 1, none⟩) (.inl rfl) _
        have O7 := O2.turn t7 (fun j hj => OwnSl.neObj O2 hn (by decide) j hj)
        have T7 := tu4.trans t7 (fun j hj => .inr (by rw [hj]; exact hmW))
        clear tu4 t7 O2 hn
        refine wpAnyT_one (i := 10) (by kernel_rfl) rfl (fun K' hK => ?_)
        rw [if_pos (by rfl)]
        go_simp
        refine hK _ _ (fun h => absurd rfl h) ?_
        clear hK K'
        refine wpAnyT_done (by kernel_rfl) ?_
        clear y0 y1 x0 x1
        go_wp2_with fail
        go_meet
        exact ⟨mb, _, rfl, hn7, O7, T7⟩
    · rw [if_pos (by rfl)]
      go_simp
      have t1 := (Turn.refl (fun _ => False) u0).alloc (.cells #[.int .i64 0, .slice none 0 0] 24)
      have hn := heap_alloc_new u0 (.cells #[.int .i64 0, .slice none 0 0] 24)
      have tu1 := tu0.then t1
      have hmW : W.heap.size ≤ u0.heap.size := tu0.size
      have HK := hide hK
      clear hK
      generalize u0.alloc (.cells #[.int .i64 0, .slice none 0 0] 24) = u1 at *
      generalize u0.heap.size = mb at *
      have hK := unhide HK
      clear HK
      refine hK _ _ (fun _ => tu1) ?_
      try simp only [Act.put, List.setIfInBounds_toArray, List.set_cons_zero, List.set_cons_succ]
      clear hK K' tu0 t1
      refine wpAnyT_two (i1 := 4) (i2 := 6) (by kernel_rfl) rfl (fun K' hK => ?_) rfl (fun K' hK => ?_)
      · refine step_append_new rfl _ _ 22 rfl (.slice none 0 0) (.slice sa l.length sc) rfl rfl (append_arcs (l := []) (oa_none _) (hR.quiet tu1).src (by simp; omega)) ?_
        rintro v1 u2 ⟨O1, t1, own1⟩
        rw [List.nil_append] at O1
        replace t1 : Turn (fun _ => False) u1 u2 := t1.mono (fun j hj => by simp [Value.ownBlock] at hj)
        have tu2 := tu1.then t1
        have hv1 : ∀ j, v1.ownBlock = some j → W.heap.size ≤ j := fun j hj => (own1 j hj).elim (fun h => by simp [Value.ownBlock] at h) (fun h => Nat.le_trans tu1.size h)
        replace hn := t1.same hn (fun h => h)
        clear own1
        refine hK _ _ (fun _ => tu2) ?_
        try simp only [Act.put, List.setIfInBounds_toArray, List.set_cons_zero, List.set_cons_succ]
        clear hK K' tu1 t1
        refine wpAnyT_one (i := 6) (by kernel_rfl) rfl (fun K' hK => ?_)
        rw [if_pos (by rfl)]
        go_simp
        have t1 := (Turn.refl (fun _ => False) u2).alloc (.cells #[.int .i64 f, .int .i64 t, .int .i64 y] 46)
        have hs := heap_alloc_new u2 (.cells #[.int .i64 f, .int .i64 t, .int .i64 y] 46)
        have tu3 := tu2.then t1
        replace O1 := O1.turn t1 (fun _ _ h => h)
        replace hn := t1.same hn (fun h => h)
        have HK := hide hK
        clear hK
        generalize u2.alloc (.cells #[.int .i64 f, .int .i64 t, .int .i64 y] 46) = u3 at *
        generalize u2.heap.size = sb at *
        have hK := unhide HK
        clear HK
        refine hK _ _ (fun _ => tu3) ?_
        try simp only [Act.put, List.setIfInBounds_toArray, List.set_cons_zero, List.set_cons_succ]
        clear hK K' tu2 t1
        refine wpAnyT_one (i := 7) (by kernel_rfl) rfl (fun K' hK => ?_)
        refine step_append_new rfl _ _ 22 rfl v1 (.slice (some ⟨sb, 0, none⟩) 1 1) rfl rfl (append_arcs O1 (src_at (a := (f, t, y)) hs) (by simp; omega)) ?_
        rintro v2 u4 ⟨O2, t1, own1⟩
        have tu4 := tu3.trans t1 (fun j hj => .inr (hv1 j hj))
        replace hn := t1.same hn (fun h => OwnSl.neObj O1 hn (by decide) _ h rfl)
        obtain ⟨xa2, xc2, hv2⟩ := O2.form
        rw [List.length_append, List.length_singleton] at hv2
        subst hv2
        clear own1 hs O1 hv1
        refine hK _ _ (fun _ => tu4) ?_
        try simp only [Act.put, List.setIfInBounds_toArray, List.set_cons_zero, List.set_cons_succ]
        clear hK K' tu3 t1
        refine wpAnyT_take (i := 8) (v := ?_) rfl (by kernel_rfl) (by kernel_rfl) (by kernel_rfl) (by kernel_rfl) (fun _ _ _ h => h) (by rfl) ?_ tu4 ?_
        rotate_left
        · intro w hSw; have k0 := hSw.cell n0 (fun h => h); have k1 := hSw.cell n1 (fun h => h); have k2 := hSw.cell a0 (fun h => h); have k3 := hSw.cell a1 (fun h => h); have k4 := hSw.cell a2 (fun h => h); go_simp; rfl
        simp only [Act.put, List.setIfInBounds_toArray, List.set_cons_zero, List.set_cons_succ]
        have y0 : u4.frozen? ⟨mb, 0, none⟩ = false := frozen_obj hn 0
        have y1 : u4.frozen? ⟨mb, 1, none⟩ = false := frozen_obj hn 1
        have x0 : u4.cell? ⟨mb, 0, none⟩ = some (.int .i64 0) := cell_obj hn 0
        have x1 : u4.cell? ⟨mb, 1, none⟩ = some (.slice none 0 0) := cell_obj hn 1
        have hn7 : ((u4.setCell ⟨mb, 0, none⟩ (.int .i64 n)).setCell ⟨mb, 1, none⟩ (.slice xa2 (l.length + 1) xc2)).heap[mb]? = some (.cells #[.int .i64 n, (.slice xa2 (l.length + 1) xc2)] 24 (0, 0)) := (heap_setCell_obj (j := 1) (heap_setCell_obj (j := 0) hn (.int .i64 n)) (.slice xa2 (l.length + 1) xc2)).trans (by rfl)
        have t7 : Turn (fun j => j = mb) u4 ((u4.setCell ⟨mb, 0, none⟩ (.int .i64 n)).setCell ⟨mb, 1, none⟩ (.slice xa2 (l.length + 1) xc2)) := ((Turn.refl (fun j => j = mb) u4).setCell (p := ⟨mb, 0, none⟩) (.inl rfl) _).setCell (p := ⟨mb, 1, none⟩) (.inl rfl) _
        have O7 := O2.turn t7 (fun j hj => OwnSl.neObj O2 hn (by decide) j hj)
        have T7 := tu4.trans t7 (fun j hj => .inr (by rw [hj]; exact hmW))
        clear tu4 t7 O2 hn
        refine wpAnyT_one (i := 10) (by kernel_rfl) rfl (fun K' hK => ?_)
        rw [if_pos (by rfl)]
        go_simp
        refine hK _ _ (fun h => absurd rfl h) ?_
        clear hK K'
        refine wpAnyT_done (by kernel_rfl) ?_
        clear y0 y1 x0 x1
        go_wp2_with fail
        go_meet
        exact ⟨mb, _, rfl, hn7, O7, T7⟩
      · rw [if_pos (by rfl)]
        go_simp
        have t1 := (Turn.refl (fun _ => False) u1).alloc (.cells #[.int .i64 f, .int .i64 t, .int .i64 y] 46)
        have hs := heap_alloc_new u1 (.cells #[.int .i64 f, .int .i64 t, .int .i64 y] 46)
        have tu2 := tu1.then t1
        replace hn := t1.same hn (fun h => h)
        have HK := hide hK
        clear hK
        generalize u1.alloc (.cells #[.int .i64 f, .int .i64 t, .int .i64 y] 46) = u2 at *
        generalize u1.heap.size = sb at *
        have hK := unhide HK
        clear HK
        refine hK _ _ (fun _ => tu2) ?_
        try simp only [Act.put, List.setIfInBounds_toArray, List.set_cons_zero, List.set_cons_succ]
        clear hK K' tu1 t1
        refine wpAnyT_one (i := 4) (by kernel_rfl) rfl (fun K' hK => ?_)
        refine step_append_new rfl _ _ 22 rfl (.slice none 0 0) (.slice sa l.length sc) rfl rfl (append_arcs (l := []) (oa_none _) (hR.quiet tu2).src (by simp; omega)) ?_
        rintro v1 u3 ⟨O1, t1, own1⟩
        rw [List.nil_append] at O1
        replace t1 : Turn (fun _ => False) u2 u3 := t1.mono (fun j hj => by simp [Value.ownBlock] at hj)
        have tu3 := tu2.then t1
        have hv1 : ∀ j, v1.ownBlock = some j → W.heap.size ≤ j := fun j hj => (own1 j hj).elim (fun h => by simp [Value.ownBlock] at h) (fun h => Nat.le_trans tu2.size h)
        replace hs := t1.same hs (fun h => h)
        replace hn := t1.same hn (fun h => h)
        clear own1
        refine hK _ _ (fun _ => tu3) ?_
        try simp only [Act.put, List.setIfInBounds_toArray, List.set_cons_zero, List.set_cons_succ]
        clear hK K' tu2 t1
        refine wpAnyT_one (i := 7) (by kernel_rfl) rfl (fun K' hK => ?_)
        refine step_append_new rfl _ _ 22 rfl v1 (.slice (some ⟨sb, 0, none⟩) 1 1) rfl rfl (append_arcs O1 (src_at (a := (f, t, y)) hs) (by simp; omega)) ?_
        rintro v2 u4 ⟨O2, t1, own1⟩
        have tu4 := tu3.trans t1 (fun j hj => .inr (hv1 j hj))
        replace hn := t1.same hn (fun h => OwnSl.neObj O1 hn (by decide) _ h rfl)
        obtain ⟨xa2, xc2, hv2⟩ := O2.form
        rw [List.length_append, List.length_singleton] at hv2
        subst hv2
        clear own1 hs O1 hv1
        refine hK _ _ (fun _ => tu4) ?_
        try simp only [Act.put, List.setIfInBounds_toArray, List.set_cons_zero, List.set_cons_succ]
        clear hK K' tu3 t1
        refine wpAnyT_take (i := 8) (v := ?_) rfl (by kernel_rfl) (by kernel_rfl) (by kernel_rfl) (by kernel_rfl) (fun _ _ _ h => h) (by rfl) ?_ tu4 ?_
        rotate_left
        · intro w hSw; have k0 := hSw.cell n0 (fun h => h); have k1 := hSw.cell n1 (fun h => h); have k2 := hSw.cell a0 (fun h => h); have k3 := hSw.cell a1 (fun h => h); have k4 := hSw.cell a2 (fun h => h); go_simp; rfl
        simp only [Act.put, List.setIfInBounds_toArray, List.set_cons_zero, List.set_cons_succ]
        have y0 : u4.frozen? ⟨mb, 0, none⟩ = false := frozen_obj hn 0
        have y1 : u4.frozen? ⟨mb, 1, none⟩ = false := frozen_obj hn 1
        have x0 : u4.cell? ⟨mb, 0, none⟩ = some (.int .i64 0) := cell_obj hn 0
        have x1 : u4.cell? ⟨mb, 1, none⟩ = some (.slice none 0 0) := cell_obj hn 1
        have hn7 : ((u4.setCell ⟨mb, 0, none⟩ (.int .i64 n)).setCell ⟨mb, 1, none⟩ (.slice xa2 (l.length + 1) xc2)).heap[mb]? = some (.cells #[.int .i64 n, (.slice xa2 (l.length + 1) xc2)] 24 (0, 0)) := (heap_setCell_obj (j := 1) (heap_setCell_obj (j := 0) hn (.int .i64 n)) (.slice xa2 (l.length + 1) xc2)).trans (by rfl)
        have t7 : Turn (fun j => j = mb) u4 ((u4.setCell ⟨mb, 0, none⟩ (.int .i64 n)).setCell ⟨mb, 1, none⟩ (.slice xa2 (l.length + 1) xc2)) := ((Turn.refl (fun j => j = mb) u4).setCell (p := ⟨mb, 0, none⟩) (.inl rfl) _).setCell (p := ⟨mb, 1, none⟩) (.inl rfl) _
        have O7 := O2.turn t7 (fun j hj => OwnSl.neObj O2 hn (by decide) j hj)
        have T7 := tu4.trans t7 (fun j hj => .inr (by rw [hj]; exact hmW))
        clear tu4 t7 O2 hn
        refine wpAnyT_one (i := 10) (by kernel_rfl) rfl (fun K' hK => ?_)
        rw [if_pos (by rfl)]
        go_simp
        refine hK _ _ (fun h => absurd rfl h) ?_
        clear hK K'
        refine wpAnyT_done (by kernel_rfl) ?_
        clear y0 y1 x0 x1
        go_wp2_with fail
        go_meet
        exact ⟨mb, _, rfl, hn7, O7, T7⟩
  case rest =>
    obtain ⟨mb, x, rfl, hmb, O, tc⟩ := hcut
    obtain ⟨xa, xc, hx⟩ := O.form
    rw [List.length_append, List.length_singleton] at hx
    subst hx
    have td := tc.drew
    have TD := TT.then td
    replace n0 : wc.drew.cell? ⟨nb, 0, none⟩ = some (.int .i64 n) := td.cell n0 (fun h => h)
    replace n1 : wc.drew.cell? ⟨nb, 1, none⟩ = some (.slice sa l.length sc) := td.cell n1 (fun h => h)
    replace a0 : wc.drew.cell? ⟨ab, 0, none⟩ = some (.int .i64 f) := td.cell a0 (fun h => h)
    replace a1 : wc.drew.cell? ⟨ab, 1, none⟩ = some (.int .i64 t) := td.cell a1 (fun h => h)
    replace a2 : wc.drew.cell? ⟨ab, 2, none⟩ = some (.int .i64 y) := td.cell a2 (fun h => h)
    have m0 : wc.drew.cell? ⟨mb, 0, none⟩ = some (.int .i64 n) := cell_obj (show wc.drew.heap[mb]? = _ from hmb) 0
    have m1 : wc.drew.cell? ⟨mb, 1, none⟩ = some (.slice xa (l.length + 1) xc) := cell_obj (show wc.drew.heap[mb]? = _ from hmb) 1
    have hRd := hR.quiet td
    have hOd : AR any wc.drew (.slice xa (l.length + 1) xc) (l ++ [(f, t, y)]) := (O.turn ((Turn.refl (fun _ => False) wc).drew) (fun _ _ h => h)).ar.mono (fun _ _ => trivial)
    clear TT hR h0' h1 tc hmb O td hWs
    go_wp2_with fail
    go_cut [8, 9] from 23 to 26 (fun s8 s9 wx => ∃ g1 g2 : Option Addr, s8 = .pointer g1 ∧ s9 = .pointer g2 ∧ Turn (fun _ => False) wc.drew wx ∧ Graphed wx n l g1 ∧ Graphed wx n (l ++ [(f, t, y)]) g2)
    case first =>
      have tk := Turn.refl (fun _ => False) wc.drew
      go_region_held3 (fun u => u.cell? ⟨nb, 0, none⟩ = some (.int .i64 n) ∧ u.cell? ⟨nb, 1, none⟩ = some (.slice sa l.length sc) ∧ u.cell? ⟨mb, 0, none⟩ = some (.int .i64 n) ∧ u.cell? ⟨mb, 1, none⟩ = some (.slice xa (l.length + 1) xc)) (first | exact ⟨n0, n1, m0, m1⟩ | go_keep)
        (first
        | (go_at_call 9; have gX := graph_any _ n _ l hRd; with_reducible refine gX.mono ?_; clear gX; rintro e w1 ⟨g1, rfl, t1, G1⟩; replace n0 := t1.cell n0 (fun h => h); replace n1 := t1.cell n1 (fun h => h); replace m0 := t1.cell m0 (fun h => h); replace m1 := t1.cell m1 (fun h => h); replace hRd := hRd.quiet t1; replace hOd := hOd.quiet t1; (try replace G2 := G2.quiet t1); replace tk := tk.then t1; clear t1)
        | (go_at_call 9; have gX := graph_any _ n _ (l ++ [(f, t, y)]) hOd; with_reducible refine gX.mono ?_; clear gX; rintro e w1 ⟨g2, rfl, t1, G2⟩; replace n0 := t1.cell n0 (fun h => h); replace n1 := t1.cell n1 (fun h => h); replace m0 := t1.cell m0 (fun h => h); replace m1 := t1.cell m1 (fun h => h); replace hRd := hRd.quiet t1; replace hOd := hOd.quiet t1; (try replace G1 := G1.quiet t1); replace tk := tk.then t1; clear t1))
      all_goals
        clear n0 n1 m0 m1 hRd hOd a0 a1 a2
        go_wp2_with fail
        go_meet
        exact ⟨g1, g2, rfl, rfl, tk, G1, G2⟩
    case rest =>
      obtain ⟨g1, g2, rfl, rfl, tk, G1, G2⟩ := hcut
      replace n0 := tk.cell n0 (fun h => h)
      replace a0 := tk.cell a0 (fun h => h)
      replace a1 := tk.cell a1 (fun h => h)
      replace a2 := tk.cell a2 (fun h => h)
      replace TD := TD.then tk
      clear n1 m0 m1 hRd hOd tk
      rcases G1 with ⟨rfl, _⟩ | ⟨N, G, F1, rfl, rfl, hL1, hG⟩
      · clear G2 n0 a0 a1 a2
        go_wp2_with fail
        refine (awake11 _).mono ?_
        rintro e w2 ⟨rfl, t2⟩
        go_wp2_with fail
        refine (awake11 _).mono ?_
        rintro e w3 ⟨rfl, t3⟩
        go_wp2_with fail
        go_ret
        exact ⟨rfl, (TD.then t2).then t3⟩
      rcases G2 with ⟨rfl, _⟩ | ⟨N2, H, F2, rfl, hn2, hL2, hH⟩
      · clear hG n0 a0 a1 a2 hL1
        go_wp2_with fail
        refine (awake11 _).mono ?_
        rintro e w2 ⟨rfl, t2⟩
        go_wp2_with fail
        refine (awake11 _).mono ?_
        rintro e w3 ⟨rfl, t3⟩
        go_wp2_with fail
        go_ret
        exact ⟨rfl, (TD.then t2).then t3⟩
      obtain rfl : N = N2 := by omega
      have hN1 : 0 < N := by have := hL1.2.2.1.1; omega
      have hN2 : N ≤ 60 := by have := hL1.1; omega
      have hok := hL2.2.2.1.2.2.2 (f, t, y) (by simp)
      unfold okA at hok
      simp only at hok
      obtain ⟨f0, rfl⟩ : ∃ f0 : Nat, f = f0 := ⟨f.toNat, by omega⟩
      obtain ⟨v', hv1, hv2⟩ := node_of N v hN1 hN2
      have wa : IntKind.i64.wrap (v' : Int) = (v' : Int) := by rw [IntKind.wrap_i64]; omega
      have wn : IntKind.u64.wrap (N : Int) = (N : Int) := by rw [IntKind.wrap_u64]; omega
      have hN0 : ((N : Int) == 0) = false := by rw [beq_eq_false_iff_ne]; omega
      have HL1 := hide hL1
      have HL2 := hide hL2
      have Hok := hide hok
      clear hL1 hL2 hok hn2 hbig
      go_wp2_with fail
      refine (awake11 _).mono ?_
      rintro e w2 ⟨rfl, t2⟩
      replace n0 := t2.cell n0 (fun h => h)
      replace a0 := t2.cell a0 (fun h => h)
      replace a1 := t2.cell a1 (fun h => h)
      replace a2 := t2.cell a2 (fun h => h)
      replace hG := hG.quiet t2
      replace hH := hH.quiet t2
      replace TD := TD.then t2
      have hx := From_ok hG (unhide HL1).2.2.1 (v' : Int)
      clear t2
      go_wp2_with fail
      refine hx.mono ?_
      rintro e w3 ⟨xd, X, rfl, hX, hxd, hXs, t3⟩
      replace n0 := t3.cell n0 (fun h => h)
      replace a0 := t3.cell a0 (fun h => h)
      replace a1 := t3.cell a1 (fun h => h)
      replace a2 := t3.cell a2 (fun h => h)
      replace hH := hH.quiet t3
      replace TD := TD.then t3
      have hy := From_ok hH (unhide HL2).2.2.1 (v' : Int)
      clear t3 hx hG hxd
      go_wp2_with fail
      refine hy.mono ?_
      rintro e w4 ⟨yd, Y, rfl, hY, hyd, hYs, t4⟩
      replace n0 := t4.cell n0 (fun h => h)
      replace a0 := t4.cell a0 (fun h => h)
      replace a1 := t4.cell a1 (fun h => h)
      replace a2 := t4.cell a2 (fun h => h)
      replace hH := hH.quiet t4
      replace hX := hX.turn t4 (fun h => h)
      replace TD := TD.then t4
      have hz := From_ok hH (unhide HL2).2.2.1 t
      clear t4 hy hyd
      go_wp2_with fail
      refine hz.mono ?_
      rintro e w5 ⟨zd, Z, rfl, hZ, hzd, hZs, t5⟩
      replace n0 := t5.cell n0 (fun h => h)
      replace a0 := t5.cell a0 (fun h => h)
      replace a1 := t5.cell a1 (fun h => h)
      replace a2 := t5.cell a2 (fun h => h)
      replace hX := hX.turn t5 (fun h => h)
      replace hY := hY.turn t5 (fun h => h)
      replace TD := TD.then t5
      obtain ⟨yf, hyf⟩ : ∃ x, Y[f0]? = some x := ⟨Y[f0]'(by have := hYs.1; have := unhide Hok; omega), by simp [show f0 < Y.length by have := hYs.1; have := unhide Hok; omega]⟩
      have cyf := (hY.at hyf).1
      have HO := hide (And.intro hX (And.intro hY hZ))
      have HX := hide (And.intro hXs (And.intro hYs (And.intro hZs hyf)))
      have HE := hide (fairF (unhide HL2).2.2.1)
      have if1 : (f0 : Int) < (N : Int) := by have := unhide Hok; omega
      have if0 : (0 : Int) ≤ (f0 : Int) := by omega
      clear t5 hz hzd hX hY hZ hXs hYs hZs hyf a1 hH hv2 wa wn hN0
      go_wp2_with fail
      go_loopw [13] (fun i wr => ∃ k : Nat, i = .int .i64 (k : Int) ∧ k ≤ N ∧ Turn (fun _ => False) w5 wr) (fun i _ => N - (intOf i).toNat)
      case atStart => exact ⟨0, rfl, Nat.zero_le _, Turn.refl _ _⟩
      case round =>
        obtain ⟨k, rfl, hk, tr⟩ := hrel
        have n0r := tr.cell n0 (fun h => h)
        by_cases hkn : k < N
        · obtain ⟨q1, q2, q3, q4⟩ := unhide HX
          obtain ⟨o1, o2, o3⟩ := unhide HO
          obtain ⟨xk, hxk⟩ : ∃ x, X[k]? = some x := ⟨X[k]'(by have := q1.1; omega), by simp [show k < X.length by have := q1.1; omega]⟩
          obtain ⟨yk, hyk⟩ : ∃ x, Y[k]? = some x := ⟨Y[k]'(by have := q2.1; omega), by simp [show k < Y.length by have := q2.1; omega]⟩
          obtain ⟨zk, hzk⟩ : ∃ x, Z[k]? = some x := ⟨Z[k]'(by have := q3.1; omega), by simp [show k < Z.length by have := q3.1; omega]⟩
          have dx := q1.2 k xk hxk
          have dy := q2.2 k yk hyk
          have dz := q3.2 k zk hzk
          have df := q2.2 f0 yf q4
          have hle := dx.widen (goes_more (f := (f0 : Int)) (t := t) (y := y)).1 dy
          have hby := fun h => IsD.by_it (unhide HE) (goes_more (f := (f0 : Int)) (t := t) (y := y)).2.1 (goes_more (l := l) (f := (f0 : Int)) (t := t) (y := y)).2.2 dx dy df dz h
          have g1 : 0 ≤ yf ∧ yf ≤ 1152921504606846976 := ⟨df.ge, df.le⟩
          have g2 : 0 ≤ zk ∧ zk ≤ 1152921504606846976 := ⟨dz.ge, dz.le⟩
          have g3 := (unhide Hok)
          have ws1 : IntKind.i64.wrap (yf + y) = yf + y := by rw [IntKind.wrap_i64]; omega
          have ws2 : IntKind.i64.wrap (yf + y + zk) = yf + y + zk := by rw [IntKind.wrap_i64]; omega
          have d1 : decide (xk < yk) = false := decide_eq_false (by omega)
          have xc1 : ∀ p : After wr, p.w.cell? ⟨xd, k, none⟩ = some (.int .i64 xk) := fun p => (tr.then p.turn).cell (o1.at hxk).1 (fun h => h)
          have yc1 : ∀ p : After wr, p.w.cell? ⟨yd, k, none⟩ = some (.int .i64 yk) := fun p => (tr.then p.turn).cell (o2.at hyk).1 (fun h => h)
          have zc1 : ∀ p : After wr, p.w.cell? ⟨zd, k, none⟩ = some (.int .i64 zk) := fun p => (tr.then p.turn).cell (o3.at hzk).1 (fun h => h)
          have fc1 : ∀ p : After wr, p.w.cell? ⟨yd, f0, none⟩ = some (.int .i64 yf) := fun p => (tr.then p.turn).cell cyf (fun h => h)
          have ac0 : ∀ p : After wr, p.w.cell? ⟨ab, 0, none⟩ = some (.int .i64 (f0 : Int)) := fun p => (tr.then p.turn).cell a0 (fun h => h)
          have ac2 : ∀ p : After wr, p.w.cell? ⟨ab, 2, none⟩ = some (.int .i64 y) := fun p => (tr.then p.turn).cell a2 (fun h => h)
          have ik : (k : Int) < (N : Int) := by omega
          have ik0 : (0 : Int) ≤ (k : Int) := by omega
          have hcase : (decide (yk < xk) = true ∧ (yk == yf + y + zk) = true) ∨ decide (yk < xk) = false := by
            by_cases hlt : yk < xk
            · exact .inl ⟨decide_eq_true hlt, by rw [beq_iff_eq]; exact hby hlt⟩
            · exact .inr (decide_eq_false hlt)
          clear q1 q2 q3 q4 o1 o2 o3 hxk hyk hzk dx dy dz df hle hby g1 g2 g3
          have hne := after_ne wr
          go_wp2_with fail
          refine wp_region_after (by kernel_rfl) (by kernel_rfl) ?_
          repeat (go_big_quiet_step (fail))
          refine wpQuiet_nil ?_
          rintro _ ⟨p, rfl⟩
          have tr2 := tr.then p.turn
          have xc2 : ∀ r : After p.w, r.w.cell? ⟨xd, k, none⟩ = some (.int .i64 xk) := fun r => r.turn.cell (xc1 p) (fun h => h)
          have yc2 : ∀ r : After p.w, r.w.cell? ⟨yd, k, none⟩ = some (.int .i64 yk) := fun r => r.turn.cell (yc1 p) (fun h => h)
          have zc2 : ∀ r : After p.w, r.w.cell? ⟨zd, k, none⟩ = some (.int .i64 zk) := fun r => r.turn.cell (zc1 p) (fun h => h)
          have fc2 : ∀ r : After p.w, r.w.cell? ⟨yd, f0, none⟩ = some (.int .i64 yf) := fun r => r.turn.cell (fc1 p) (fun h => h)
          have bc0 : ∀ r : After p.w, r.w.cell? ⟨ab, 0, none⟩ = some (.int .i64 (f0 : Int)) := fun r => r.turn.cell (ac0 p) (fun h => h)
          have bc2 : ∀ r : After p.w, r.w.cell? ⟨ab, 2, none⟩ = some (.int .i64 y) := fun r => r.turn.cell (ac2 p) (fun h => h)
          have hne2 := after_ne p.w
          clear xc1 yc1 zc1 fc1 ac0 ac2 hne
          generalize p.w = w6 at *
          rcases hcase with ⟨e1, e2⟩ | e1
          · go_wp2_with fail
            refine wp_region_after (by kernel_rfl) (by kernel_rfl) ?_
            repeat (go_big_quiet_step (fail))
            refine wpQuiet_nil ?_
            rintro _ ⟨r, rfl⟩
            have tr3 := tr2.then r.turn
            go_wp2_with fail
            exact ⟨⟨k + 1, by go_num, by omega, tr3⟩, by simp [intOf]; omega⟩
          · go_wp2_with fail
            refine wp_region_after (by kernel_rfl) (by kernel_rfl) ?_
            repeat (go_big_quiet_step (fail))
            refine wpQuiet_nil ?_
            rintro _ ⟨r, rfl⟩
            have tr3 := tr2.then r.turn
            go_wp2_with fail
            exact ⟨⟨k + 1, by go_num, by omega, tr3⟩, by simp [intOf]; omega⟩
        · have T6 := TD.then tr
          obtain rfl : k = N := by omega
          clear tr
          go_wp2_with fail
          go_ret
          exact ⟨rfl, T6⟩
theorem SweepMore_law (w : World) (n : Int) (hn : (Lit.int .i64 n).wf = true) (sv : Value) (l : List Ar) (hr : AR any w sv l) (f t y : Int) (hf : (Lit.int .i64 f).wf = true) (ht : (Lit.int .i64 t).wf = true) (hy : (Lit.int .i64 y).wf = true) (v : Int) (hv : (Lit.int .i64 v).wf = true) (hbig : l.length ≤ 5864062014634) :
    Calls Try.prog 7 #[.agg #[.int .i64 n, sv], .agg #[.int .i64 f, .int .i64 t, .int .i64 y], .int .i64 v] w fun e w' => e = .returned (.bool true) ∧ Below w.heap.size w w' :=
  (more_walk w n sv l hr hbig f t y v).mono (fun e w' h => ⟨h.1, h.2.bel⟩)
end Go.Proofs.Ytombpfpfeebnpaa
