/- What is behind the last whole frame taken away; Open. -/
import Derived.Test.YthikiahhochjmaaGreatDoorJFind
namespace Go.Proofs.YthikiahhochjmaaGreatDoor
open Go.RowKit Go.Maps Go.Sort
set_option linter.unusedVariables false
set_option linter.unusedSimpArgs false

theorem segs_init {w : World} {G : Nat → Prop} {sv : Value} {E' : List Seg} {e : Seg} (h : SegM w G sv (E' ++ [e])) :
    ∃ x, (∀ u : World, (Instr.slice 77 sv none (some (.int .i64 (E'.length : Int))) none).run Tryz.prog u = .ok x u) ∧ SegM w G x E' := by
  obtain ⟨i0, hi, hz0, hs, hz2⟩ := info_parts info_seg
  have ht := Tryz.underlying77
  have hl : (E' ++ [e]).length = E'.length + 1 := by simp
  rcases h.own.2 with ⟨hv, h0⟩ | ⟨g, off, cap, cur, hv, hg, hnc, hcm, hfit, htk⟩
  · omega
  subst hv
  have hle : E'.length ≤ cap := by omega
  have hc0 : cap ≠ 0 := by omega
  refine ⟨.slice (some ⟨g, off, none⟩) E'.length cap, fun u => ?_, ⟨⟨cellsS_len E', .inr ⟨g, off, cap, cur, rfl, hg, hle, hcm, hfit, ?_⟩⟩, fun j hj => h.blk j hj, fun x hx => h.recs x (by simp [hx]), ?_⟩⟩
  · simp [Instr.slice, run_underlying ht, Instr.sliceBounds, Instr.sliceBound, asIntOf, sizeOf, typeInfo, hi, Result.andThen, Addr.add, hle, hc0]
  · have h2 := cellsS_take (E' ++ [e]) E'.length
    rw [← htk, List.take_take, hl, Nat.min_eq_left (by omega), List.take_left' rfl] at h2
    exact h2
  · have := h.apart
    rw [List.pairwise_append] at this
    exact this.1

set_option maxRecDepth 100000 in
set_option maxHeartbeats 4000000 in
theorem mend_j (w : World) (F G : Nat → Prop) (D : Nat) (S : Dk) (sv : Value) (E : List Seg) (en : Nat × Nat) (d : DAt w D F S) (m : SegM w G sv E) (hn : ∀ j, F j → ¬ G j) (hE : ∀ e ∈ E, e.first < 100 ∧ e.recs.length ≤ 1000000) (hEl : E.length ≤ 1000000) (h0 : E = [] → en.2 = 0) (hF : ∀ j, F j → j < w.heap.size) :
    Calls Tryz.prog 51 #[.pointer (some ⟨D, 0, none⟩), sv, .agg #[.int .i64 (en.1 : Int), .int .i64 (en.2 : Int)]] w fun e w' => ∃ x E', e = .returned (.tuple #[x, .int .i64 (mendJ S (E.map Seg.sg) en).1]) ∧
      SegM w' G x E' ∧ E'.map Seg.sg = (mendJ S (E.map Seg.sg) en).2.1 ∧ DAt w' D (NF w F) (mendJ S (E.map Seg.sg) en).2.2 ∧ Turn F w w' := by
  obtain ⟨e1, e2⟩ := en
  simp only at h0
  have tA : Turn (fun _ => False) w (w.alloc (.cells #[.int .i64 (e1 : Int), .int .i64 (e2 : Int)] 90)) := (Turn.refl _ w).alloc _
  have kA := heap_alloc_new w (.cells #[.int .i64 (e1 : Int), .int .i64 (e2 : Int)] 90)
  have dA := d.turn tA (fun _ _ _ h => h)
  have mA := m.turn tA (fun _ _ h => h)
  rcases segs_cases E with rfl | ⟨E', e, rfl⟩
  · have he2 := h0 rfl
    have ej : mendJ S (([] : List Seg).map Seg.sg) (e1, e2) = (0, [], S) := by
      unfold mendJ; rw [if_neg (by simp), if_neg (by simp [he2])]; rfl
    have Hej := hide ej
    obtain ⟨sa, sc, hsv⟩ := m.slice
    subst hsv
    subst he2
    clear ej h0 d m
    go_enter Tryz.func51, Tryz.ntmps51
    go_wp2
    go_ret2
    rw [unhide Hej]
    exact ⟨_, [], rfl, mA, rfl, dA.mono (fun j hj _ => .inl hj), tA.mono (fun _ h => h.elim)⟩
  · have hf := (hE e (by simp)).1
    have hsg : (E' ++ [e]).map Seg.sg = E'.map Seg.sg ++ [e.sg] := by simp
    have hll : (E' ++ [e]).length = E'.length + 1 := by simp
    obtain ⟨g, off, cap, hsv, hcap, hgG, q0, q1, qf⟩ := mA.at E'.length e (by simp)
    obtain ⟨va, vc, hv⟩ := (m.recs e (by simp)).slice
    rw [hv] at q1
    rw [hll] at hsv hEl
    have c0 := cell_obj kA 0
    have c1 := cell_obj kA 1
    have hgF : ¬ F g := fun hh => hn g hh hgG
    have hwF : ¬ F w.heap.size := fun hh => by have := hF _ hh; omega
    generalize hM : mendJ S ((E' ++ [e]).map Seg.sg) (e1, e2) = M
    have hi0 : (0 : Int) ≤ (E'.length : Int) := by omega
    have hi1 : (E'.length : Int) < (E'.length : Int) + 1 := by omega
    have hi2 : (E'.length : Int) < ((E'.length + 1 : Nat) : Int) := by omega
    by_cases hrm : 0 < E'.length ∧ e1 = 0
    · obtain ⟨hlp, he1⟩ := hrm
      have ej : M = (removeC S (nameS e.first), E'.map Seg.sg, removeS S (nameS e.first)) := by
        rw [← hM]; unfold mendJ
        rw [hsg, lastF_snoc, if_pos ⟨by simp; omega, he1⟩]
        simp [Seg.sg]
      have Hej := hide ej
      obtain ⟨x, hx, mx⟩ := segs_init m
      obtain ⟨xa, xc, hxv⟩ := mx.slice
      subst hxv
      subst hsv
      subst he1
      clear hM ej h0 d hsg hE hll qf hv
      generalize hfe : e.first = f at *
      generalize hrl : e.recs.length = rl at *
      have hlpi : (0 : Int) < (E'.length : Int) := by omega
      go_enter Tryz.func51, Tryz.ntmps51
      go_wp2_with fail
      generalize w.alloc (.cells #[.int .i64 ((0 : Nat) : Int), .int .i64 (e2 : Int)] 90) = W at *
      have a0 : W.drew.cell? ⟨g, off + E'.length * 2, none⟩ = some (.int .u64 (f : Int)) := q0
      have a1 : W.drew.cell? ⟨g, off + E'.length * 2 + 1, none⟩ = some (.slice va rl vc) := q1
      have a2 : W.drew.cell? ⟨w.heap.size, 0, none⟩ = some (.int .i64 ((0 : Nat) : Int)) := c0
      have dW := dA.turn (F := F) (G := fun _ => False) ((Turn.refl _ W).drew) (fun _ _ _ h => h)
      have sA := tA.size
      have hn1 := name_walk' f hf (.slice va rl vc) W.drew
      go_region_held3 (fun u => u.cell? ⟨g, off + E'.length * 2, none⟩ = some (.int .u64 (f : Int)) ∧ u.cell? ⟨g, off + E'.length * 2 + 1, none⟩ = some (.slice va rl vc) ∧ u.cell? ⟨w.heap.size, 0, none⟩ = some (.int .i64 ((0 : Nat) : Int))) (first | exact ⟨a0, a1, a2⟩ | exact ⟨b0, b1, b2⟩ | exact ⟨g0, g1, g2⟩ | go_keep)
        (first
        | (go_at_call 60; refine hn1.mono ?_; rintro y w3 ⟨rfl, t3⟩; have b0 := t3.cell a0 id; have b1 := t3.cell a1 id; have b2 := t3.cell a2 id; have d3 := dW.turn t3 (fun _ _ _ h => h))
        | (go_at_call 21; refine (Remove_walk w3 D F S (nameB f) (nameB_len f) d3).mono ?_; rintro y w4 ⟨rfl, t4, d4⟩; have g0 := t4.cell b0 hgF; have g1 := t4.cell b1 hgF; have g2 := t4.cell b2 hwF))
      have s3 : W.heap.size ≤ w3.heap.size := t3.size
      have T4 : Turn F w w4 := ((tA.drew.then t3).mono (fun _ h => h.elim)).then t4
      have d5 := d4.mono (G := NF w F) (fun j hj _ => by
        rcases hj with hj | hj
        · exact .inl hj
        · exact .inr (by omega))
      rw [nameB_list] at *
      have m5 := mx.turn T4 (fun j hj hh => hn j hh hj)
      clear hn1 dW d3 d4 a0 a1 a2 b0 b1 b2 g0 g1 g2
      generalize removeC S (nameS f) = rc at *
      generalize removeS S (nameS f) = S2 at *
      go_wp2
      go_ret2
      rw [unhide Hej]
      exact ⟨_, E', rfl, m5, rfl, d5, T4⟩
    · by_cases htn : 0 < e2
      · have ej : M = (cutC S (nameS e.first) (e1 : Int), (E' ++ [e]).map Seg.sg, cutS S (nameS e.first) (e1 : Int)) := by
          rw [← hM]; unfold mendJ
          rw [if_neg (by rw [List.length_map, hll]; intro hh; exact hrm ⟨by omega, hh.2⟩), if_pos htn, hsg, lastF_snoc]
          rfl
        have Hej := hide ej
        subst hsv
        have htni : (0 : Int) < (e2 : Int) := by omega
        have hcase : (E'.length : Int) ≤ 0 ∨ ¬ (e1 : Int) = 0 := by omega
        have hm0 := m
        clear hM ej h0 d hsg hE qf hv hrm
        generalize hfe : e.first = f at *
        generalize hrl : e.recs.length = rl at *
        by_cases hlp : (0 : Int) < (E'.length : Int)
        · have he1 : ((e1 : Int) == 0) = false := by rw [beq_eq_false_iff_ne]; omega
          clear hcase
          go_enter Tryz.func51, Tryz.ntmps51
          go_wp2_with fail
          generalize w.alloc (.cells #[.int .i64 (e1 : Int), .int .i64 (e2 : Int)] 90) = W at *
          have a0 : W.drew.cell? ⟨g, off + E'.length * 2, none⟩ = some (.int .u64 (f : Int)) := q0
          have a1 : W.drew.cell? ⟨g, off + E'.length * 2 + 1, none⟩ = some (.slice va rl vc) := q1
          have a2 : W.drew.cell? ⟨w.heap.size, 0, none⟩ = some (.int .i64 (e1 : Int)) := c0
          have dW := dA.turn (F := F) (G := fun _ => False) ((Turn.refl _ W).drew) (fun _ _ _ h => h)
          have sA := tA.size
          have hn1 := name_walk' f hf (.slice va rl vc) W.drew
          go_region_held3 (fun u => u.cell? ⟨g, off + E'.length * 2, none⟩ = some (.int .u64 (f : Int)) ∧ u.cell? ⟨g, off + E'.length * 2 + 1, none⟩ = some (.slice va rl vc) ∧ u.cell? ⟨w.heap.size, 0, none⟩ = some (.int .i64 (e1 : Int))) (first | exact ⟨a0, a1, a2⟩ | exact ⟨b0, b1, b2⟩ | exact ⟨g0, g1, g2⟩ | go_keep)
            (first
            | (go_at_call 60; refine hn1.mono ?_; rintro y w3 ⟨rfl, t3⟩; have b0 := t3.cell a0 id; have b1 := t3.cell a1 id; have b2 := t3.cell a2 id; have d3 := dW.turn t3 (fun _ _ _ h => h))
            | (go_at_call 22; refine (Cut_walk w3 D F S (nameB f) (e1 : Int) (nameB_len f) d3).mono ?_; rintro y w4 ⟨rfl, t4, d4⟩; have g0 := t4.cell b0 hgF; have g1 := t4.cell b1 hgF; have g2 := t4.cell b2 hwF))
          have s3 : W.heap.size ≤ w3.heap.size := t3.size
          have T4 : Turn F w w4 := ((tA.drew.then t3).mono (fun _ h => h.elim)).then t4
          have d5 := d4.mono (G := NF w F) (fun j hj _ => by
            rcases hj with hj | hj
            · exact .inl hj
            · exact .inr (by omega))
          rw [nameB_list] at *
          have m5 := m.turn T4 (fun j hj hh => hn j hh hj)
          clear hn1 dW d3 d4 a0 a1 a2 b0 b1 b2 g0 g1 g2
          generalize cutC S (nameS f) (e1 : Int) = rc at *
          generalize cutS S (nameS f) (e1 : Int) = S2 at *
          go_wp2
          go_ret2
          rw [unhide Hej]
          exact ⟨_, E' ++ [e], rfl, m5, rfl, d5, T4⟩
        · clear hcase
          go_enter Tryz.func51, Tryz.ntmps51
          go_wp2_with fail
          generalize w.alloc (.cells #[.int .i64 (e1 : Int), .int .i64 (e2 : Int)] 90) = W at *
          have a0 : W.drew.cell? ⟨g, off + E'.length * 2, none⟩ = some (.int .u64 (f : Int)) := q0
          have a1 : W.drew.cell? ⟨g, off + E'.length * 2 + 1, none⟩ = some (.slice va rl vc) := q1
          have a2 : W.drew.cell? ⟨w.heap.size, 0, none⟩ = some (.int .i64 (e1 : Int)) := c0
          have dW := dA.turn (F := F) (G := fun _ => False) ((Turn.refl _ W).drew) (fun _ _ _ h => h)
          have sA := tA.size
          have hn1 := name_walk' f hf (.slice va rl vc) W.drew
          go_region_held3 (fun u => u.cell? ⟨g, off + E'.length * 2, none⟩ = some (.int .u64 (f : Int)) ∧ u.cell? ⟨g, off + E'.length * 2 + 1, none⟩ = some (.slice va rl vc) ∧ u.cell? ⟨w.heap.size, 0, none⟩ = some (.int .i64 (e1 : Int))) (first | exact ⟨a0, a1, a2⟩ | exact ⟨b0, b1, b2⟩ | exact ⟨g0, g1, g2⟩ | go_keep)
            (first
            | (go_at_call 60; refine hn1.mono ?_; rintro y w3 ⟨rfl, t3⟩; have b0 := t3.cell a0 id; have b1 := t3.cell a1 id; have b2 := t3.cell a2 id; have d3 := dW.turn t3 (fun _ _ _ h => h))
            | (go_at_call 22; refine (Cut_walk w3 D F S (nameB f) (e1 : Int) (nameB_len f) d3).mono ?_; rintro y w4 ⟨rfl, t4, d4⟩; have g0 := t4.cell b0 hgF; have g1 := t4.cell b1 hgF; have g2 := t4.cell b2 hwF))
          have s3 : W.heap.size ≤ w3.heap.size := t3.size
          have T4 : Turn F w w4 := ((tA.drew.then t3).mono (fun _ h => h.elim)).then t4
          have d5 := d4.mono (G := NF w F) (fun j hj _ => by
            rcases hj with hj | hj
            · exact .inl hj
            · exact .inr (by omega))
          rw [nameB_list] at *
          have m5 := m.turn T4 (fun j hj hh => hn j hh hj)
          clear hn1 dW d3 d4 a0 a1 a2 b0 b1 b2 g0 g1 g2
          generalize cutC S (nameS f) (e1 : Int) = rc at *
          generalize cutS S (nameS f) (e1 : Int) = S2 at *
          go_wp2
          go_ret2
          rw [unhide Hej]
          exact ⟨_, E' ++ [e], rfl, m5, rfl, d5, T4⟩
      · have ej : M = (0, (E' ++ [e]).map Seg.sg, S) := by
          rw [← hM]; unfold mendJ
          rw [if_neg (by rw [List.length_map, hll]; intro hh; exact hrm ⟨by omega, hh.2⟩), if_neg htn]
        have Hej := hide ej
        have mA' := mA
        subst hsv
        have he20 : e2 = 0 := by omega
        subst he20
        have hcase : (E'.length : Int) ≤ 0 ∨ ¬ (e1 : Int) = 0 := by omega
        have fin := dA.mono (G := NF w F) (fun j hj _ => .inl hj)
        clear hM ej h0 d hsg hE qf hv htn m dA
        by_cases hlp : (0 : Int) < (E'.length : Int)
        · have he1 : ((e1 : Int) == 0) = false := by rw [beq_eq_false_iff_ne]; omega
          clear hcase
          go_enter Tryz.func51, Tryz.ntmps51
          go_wp2
          go_ret2
          rw [unhide Hej]
          exact ⟨_, E' ++ [e], rfl, mA', rfl, fin, tA.mono (fun _ h => h.elim)⟩
        · clear hcase
          go_enter Tryz.func51, Tryz.ntmps51
          go_wp2
          go_ret2
          rw [unhide Hej]
          exact ⟨_, rfl, E' ++ [e], mA', by simp, fin, tA.mono (fun _ h => h.elim)⟩
end Go.Proofs.YthikiahhochjmaaGreatDoor
