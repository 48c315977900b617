/- SweepTurned: from a node in a network is to it in the one with all arcs the other way. -/
import Derived.Test.YtombpfpfeebnpaaSLaw
import Derived.Test.YtombpfpfeebnpaaSTurn
import Derived.Test.YtombpfpfeebnpaaSPlain
namespace Go.Proofs.Ytombpfpfeebnpaa
open Go.RowKit Go.Maps
set_option linter.unusedVariables false
set_option linter.unusedSimpArgs false
set_option maxRecDepth 100000

theorem flips_flips (l : List Ar) : flips (flips l) = l := by
  unfold flips
  rw [List.map_map]
  conv => rhs; rw [← List.map_id l]
  apply List.map_congr_left
  intro a _
  rfl
theorem goes_flips (l : List Ar) : goesB (flips l) = goesF l := by
  funext u t x
  apply propext
  unfold goesB goesF flips
  rw [List.mem_map]
  constructor
  · rintro ⟨⟨f, t', y⟩, h, e⟩
    unfold flip at e
    simp only [Prod.mk.injEq] at e
    obtain ⟨rfl, rfl, rfl⟩ := e
    exact h
  · intro h
    exact ⟨(u, t, x), h, rfl⟩
theorem goes_flips' (l : List Ar) : goesF (flips l) = goesB l := by
  have := goes_flips (flips l)
  rw [flips_flips] at this
  exact this.symm
theorem looked_flips {n : Int} {l : List Ar} (h : Looked n l) : Looked n (flips l) := ⟨h.1, by rw [flips_len]; exact h.2.1, flip_may h.2.2⟩

set_option maxHeartbeats 16000000 in
theorem two_walk (w : World) (n : Int) (sv : Value) (l : List Ar) (hr : AR any w sv l) (hbig : l.length ≤ 5864062014634) (v : Int) :
    Calls Try.prog 6 #[.agg #[.int .i64 n, sv], .int .i64 v] w fun e w' => e = .returned (.bool true) ∧ Turn (fun _ => False) w w' := by
  obtain ⟨sa, sc, rfl⟩ := hr.slice
  have T0 := (Turn.refl (fun _ => False) w).alloc (.cells #[.int .i64 n, .slice sa l.length sc] 24)
  have hb := heap_alloc_new w (.cells #[.int .i64 n, .slice sa l.length sc] 24)
  have hR := hr.quiet T0
  by_cases hL : Looked n l
  · obtain ⟨N, rfl⟩ : ∃ N : Nat, n = N := ⟨n.toNat, by have := hL.2.2.1.1; omega⟩
    have HL := hide hL
    have HF := hide (looked_flips hL)
    clear hr hL
    go_enter Try.func6, Try.ntmps6
    go_wp2_with fail
    generalize w.alloc (.cells #[.int .i64 (N : Int), .slice sa l.length sc] 24) = W at *
    generalize w.heap.size = nb at *
    have td := (Turn.refl (fun _ => False) W).drew
    have TD := T0.then td
    have c0 : W.drew.cell? ⟨nb, 0, none⟩ = some (.int .i64 (N : Int)) := cell_obj (td.same hb (fun h => h)) 0
    have c1 : W.drew.cell? ⟨nb, 1, none⟩ = some (.slice sa l.length sc) := cell_obj (td.same hb (fun h => h)) 1
    have hRd := hR.quiet td
    clear T0 hb hR td
    go_region_held3 (fun u => u.cell? ⟨nb, 0, none⟩ = some (.int .i64 (N : Int)) ∧ u.cell? ⟨nb, 1, none⟩ = some (.slice sa l.length sc)) (first | exact ⟨c0, c1⟩ | go_keep)
      (first
      | (go_at_call 22; have gX := rturned_walk _ (N : Int) _ l hRd hbig; with_reducible refine gX.mono ?_; clear gX; rintro e w2 ⟨x2, rfl, O2, t2⟩; replace c0 := t2.cell c0 (fun h => h); replace c1 := t2.cell c1 (fun h => h); replace hRd := hRd.quiet t2; (try replace hG := hG.quiet t2); replace TD := TD.then t2; clear t2)
      | (go_at_call 9; have gX := graph_some any _ N _ l hRd (unhide HL); with_reducible refine gX.mono ?_; clear gX; rintro e w1 ⟨G, rfl, t1, hG⟩; replace c0 := t1.cell c0 (fun h => h); replace c1 := t1.cell c1 (fun h => h); replace hRd := hRd.quiet t1; (try replace O2 := O2.turn t1 (fun _ _ h => h)); (try replace hH := hH.quiet t1); replace TD := TD.then t1; clear t1)
      | (go_at_call 9; have gX := graph_some any _ N _ (flips l) (O2.ar.mono (fun _ _ => trivial)) (unhide HF); with_reducible refine gX.mono ?_; clear gX; rintro e w3 ⟨H, rfl, t3, hH⟩; replace c0 := t3.cell c0 (fun h => h); replace c1 := t3.cell c1 (fun h => h); replace hRd := hRd.quiet t3; (try replace hG := hG.quiet t3); replace TD := TD.then t3; clear t3 O2))
    all_goals
     have hG3 := hG
     have T3 := TD
     (first | clear O2 | skip)
     clear c0 c1 hRd TD hG
     go_wp2_with fail
     refine (awake11 _).mono ?_
     rintro e w4 ⟨rfl, t4⟩
     have hG4 := hG3.quiet t4
     have hH4 := hH.quiet t4
     have T4 := T3.then t4
     have hx := From_ok hG4 (unhide HL).2.2.1 v
     clear hG3 hH T3 t4
     go_wp2_with fail
     refine hx.mono ?_
     rintro e w5 ⟨xd, X, rfl, hX, hxd, hXs, t5⟩
     have hG5 := hG4.quiet t5
     have hH5 := hH4.quiet t5
     have T5 := T4.then t5
     have hy := To_ok hH5 (unhide HF).2.2.1 v
     clear hx hG4 hH4 T4 t5 hxd
     go_wp2_with fail
     refine hy.mono ?_
     rintro e w6 ⟨yd, Y, rfl, hY, hyd, hYs, t6⟩
     rw [goes_flips] at hYs
     have hG6 := hG5.quiet t6
     have hH6 := hH5.quiet t6
     have T6 := T5.then t6
     have hX6 := hX.turn t6 (fun h => h)
     have hp := plain_ints w6 xd yd _ _ X Y hX6 hY
     rw [decide_eq_true (hXs.uniq hYs)] at hp
     clear hy hG5 hH5 T5 t6 hyd hX hX6 hY hXs hYs
     go_wp2_with fail
     refine hp.mono ?_
     rintro e w7 ⟨rfl, t7⟩
     have hG7 := hG6.quiet t7
     have hH7 := hH6.quiet t7
     have T7 := T6.then t7
     have hx := To_ok hG7 (unhide HL).2.2.1 v
     clear hp hG6 hH6 T6 t7
     go_wp2_with fail
     refine hx.mono ?_
     rintro e w8 ⟨xd2, X2, rfl, hX, hxd, hXs, t8⟩
     have hH8 := hH7.quiet t8
     have T8 := T7.then t8
     have hy := From_ok hH8 (unhide HF).2.2.1 v
     clear hx hG7 hH7 T7 t8 hxd
     go_wp2_with fail
     refine hy.mono ?_
     rintro e w9 ⟨yd2, Y2, rfl, hY, hyd, hYs, t9⟩
     rw [goes_flips'] at hYs
     have T9 := T8.then t9
     have hX9 := hX.turn t9 (fun h => h)
     have hp := plain_ints w9 xd2 yd2 _ _ X2 Y2 hX9 hY
     rw [decide_eq_true (hXs.uniq hYs)] at hp
     clear hy hH8 T8 t9 hyd hX hX9 hY hXs hYs
     go_wp2_with fail
     refine hp.mono ?_
     rintro e w10 ⟨rfl, t10⟩
     have T10 := T9.then t10
     clear hp T9 t10
     go_wp2_with fail
     go_ret
     exact ⟨rfl, T10⟩
  · have hF : ¬ Looked n (flips l) := fun h => hL (by have := looked_flips h; rw [flips_flips] at this; exact this)
    have HL := hide hL
    have HF := hide hF
    clear hr hL hF
    go_enter Try.func6, Try.ntmps6
    go_wp2_with fail
    generalize w.alloc (.cells #[.int .i64 n, .slice sa l.length sc] 24) = W at *
    generalize w.heap.size = nb at *
    have td := (Turn.refl (fun _ => False) W).drew
    have TD := T0.then td
    have c0 : W.drew.cell? ⟨nb, 0, none⟩ = some (.int .i64 n) := cell_obj (td.same hb (fun h => h)) 0
    have c1 : W.drew.cell? ⟨nb, 1, none⟩ = some (.slice sa l.length sc) := cell_obj (td.same hb (fun h => h)) 1
    have hRd := hR.quiet td
    clear T0 hb hR td
    go_region_held3 (fun u => u.cell? ⟨nb, 0, none⟩ = some (.int .i64 n) ∧ u.cell? ⟨nb, 1, none⟩ = some (.slice sa l.length sc)) (first | exact ⟨c0, c1⟩ | go_keep)
      (first
      | (go_at_call 22; have gX := rturned_walk _ n _ l hRd hbig; with_reducible refine gX.mono ?_; clear gX; rintro e w2 ⟨x2, rfl, O2, t2⟩; replace c0 := t2.cell c0 (fun h => h); replace c1 := t2.cell c1 (fun h => h); replace hRd := hRd.quiet t2; replace TD := TD.then t2; clear t2)
      | (go_at_call 9; have gX := graph_none any _ n _ l hRd (unhide HL); with_reducible refine gX.mono ?_; clear gX; rintro e w1 ⟨rfl, t1⟩; replace c0 := t1.cell c0 (fun h => h); replace c1 := t1.cell c1 (fun h => h); replace hRd := hRd.quiet t1; (try replace O2 := O2.turn t1 (fun _ _ h => h)); replace TD := TD.then t1; clear t1)
      | (go_at_call 9; have gX := graph_none any _ n _ (flips l) (O2.ar.mono (fun _ _ => trivial)) (unhide HF); with_reducible refine gX.mono ?_; clear gX; rintro e w3 ⟨rfl, t3⟩; replace c0 := t3.cell c0 (fun h => h); replace c1 := t3.cell c1 (fun h => h); replace hRd := hRd.quiet t3; replace TD := TD.then t3; clear t3 O2))
    all_goals
     have T3 := TD
     (first | clear O2 | skip)
     clear c0 c1 hRd TD
     go_wp2_with fail
     refine (awake11 _).mono ?_
     rintro e w4 ⟨rfl, t4⟩
     have T4 := T3.then t4
     clear T3 t4
     go_wp2_with fail
     refine (awake11 _).mono ?_
     rintro e w5 ⟨rfl, t5⟩
     have T5 := T4.then t5
     clear T4 t5
     go_wp2_with fail
     go_ret
     exact ⟨rfl, T5⟩
theorem SweepTurned_law (w : World) (n : Int) (hn : (Lit.int .i64 n).wf = true) (sv : Value) (l : List Ar) (hr : AR any w sv l) (v : Int) (hv : (Lit.int .i64 v).wf = true) (hbig : l.length ≤ 5864062014634) :
    Calls Try.prog 6 #[.agg #[.int .i64 n, sv], .int .i64 v] w fun e w' => e = .returned (.bool true) ∧ Below w.heap.size w w' :=
  (two_walk w n sv l hr hbig v).mono (fun e w' h => ⟨h.1, h.2.bel⟩)
end Go.Proofs.Ytombpfpfeebnpaa
