/- SweepTells: distances from any node, to any node, of any pair, and all nodes within any. -/
import Derived.Test.YtombpfpfeebnpaaSRest
import Derived.Test.YtombpfpfeebnpaaSWithin
namespace Go.Proofs.Ytombpfpfeebnpaa
open Go.RowKit Go.Maps
set_option linter.unusedVariables false
set_option linter.unusedSimpArgs false
set_option maxRecDepth 100000

set_option maxHeartbeats 64000000 in
theorem tells_walk (w : World) (n : Int) (sv : Value) (l : List Ar) (hr : AR any w sv l) (v a b most : Int) (ha : I32 a) (hb : I32 b) :
    Calls Try.prog 3 #[.agg #[.int .i64 n, sv], .int .i64 v, .agg #[.int .i32 a, .int .i32 b], .int .i64 most] w fun e w' => e = .returned (.bool true) ∧ Turn (fun _ => False) w w' := by
  obtain ⟨sa, sc, rfl⟩ := hr.slice
  have T0 := (Turn.refl (fun _ => False) w).alloc (.cells #[.int .i64 n, .slice sa l.length sc] 24)
  have h0 := heap_alloc_new w (.cells #[.int .i64 n, .slice sa l.length sc] 24)
  have T1 := (Turn.refl (fun _ => False) (w.alloc (.cells #[.int .i64 n, .slice sa l.length sc] 24))).alloc (.cells #[.int .i32 a, .int .i32 b] 26)
  have h1 := heap_alloc_new (w.alloc (.cells #[.int .i64 n, .slice sa l.length sc] 24)) (.cells #[.int .i32 a, .int .i32 b] 26)
  have h0' := T1.same h0 (fun h => h)
  have TT := T0.then T1
  have hR := hr.quiet TT
  rw [alloc_size] at h1
  clear hr T0 T1 h0
  by_cases hL : Looked n l
  · obtain ⟨N, rfl⟩ : ∃ N : Nat, n = N := ⟨n.toNat, by have := hL.2.2.1.1; omega⟩
    have hg := graph_some _ _ N _ l hR hL
    have HL := hide hL
    clear hL
    go_enter Try.func3, Try.ntmps3
    go_wp2_with fail
    generalize (w.alloc (.cells #[.int .i64 (N : Int), .slice sa l.length sc] 24)).alloc (.cells #[.int .i32 a, .int .i32 b] 26) = W at *
    generalize hnb : w.heap.size = nb at *
    generalize hpb : nb + 1 = pb at *
    refine hg.mono ?_
    rintro e w1 ⟨G, rfl, t1, hG⟩
    have h01 := t1.same h0' (fun h => h)
    have h11 := t1.same h1 (fun h => h)
    have T1 := TT.then t1
    have hR1 := hR.quiet t1
    clear hg h0' h1 TT t1 hR
    go_wp2_with fail
    refine (awake11 _).mono ?_
    rintro e w2 ⟨rfl, t2⟩
    have td := t2.drew
    have c0 : w2.drew.cell? ⟨nb, 0, none⟩ = some (.int .i64 (N : Int)) := cell_obj (td.same h01 (fun h => h)) 0
    have c1 : w2.drew.cell? ⟨nb, 1, none⟩ = some (.slice sa l.length sc) := cell_obj (td.same h01 (fun h => h)) 1
    have p0 : w2.drew.cell? ⟨pb, 0, none⟩ = some (.int .i32 a) := cell_obj (td.same h11 (fun h => h)) 0
    have p1 : w2.drew.cell? ⟨pb, 1, none⟩ = some (.int .i32 b) := cell_obj (td.same h11 (fun h => h)) 1
    have TD := T1.then td
    have hR := hR1.quiet td
    have hGr := hG.quiet td
    clear h01 h11 T1 hR1 hG t2 td hnb hpb
    go_wp2_with fail
    go_region_held3 (fun u => u.cell? ⟨nb, 0, none⟩ = some (.int .i64 (N : Int)) ∧ u.cell? ⟨nb, 1, none⟩ = some (.slice sa l.length sc) ∧ u.cell? ⟨pb, 0, none⟩ = some (.int .i32 a) ∧ u.cell? ⟨pb, 1, none⟩ = some (.int .i32 b)) (first | exact ⟨c0, c1, p0, p1⟩ | go_keep)
      (first
      | (go_at_call 12; have gX := From_ok hGr (unhide HL).2.2.1 v; refine gX.mono ?_; clear gX; rintro e wx ⟨xd, X, rfl, hX, hxd, hXs, tx⟩; replace c0 := tx.cell c0 (fun h => h); replace c1 := tx.cell c1 (fun h => h); replace p0 := tx.cell p0 (fun h => h); replace p1 := tx.cell p1 (fun h => h); replace hR := hR.quiet tx; replace hGr := hGr.quiet tx; replace TD := TD.then tx; (try (first | replace hY := hY.turn tx (fun h => h) | replace hY := hY.turn tx (fun _ _ h => h))); clear tx; clear hxd)
      | (go_at_call 13; have gX := rfrom_walk _ N _ l hR (unhide HL) v; refine gX.mono ?_; clear gX; rintro e wx ⟨yd, Y, rfl, hY, hyd, hYs, tx⟩; replace c0 := tx.cell c0 (fun h => h); replace c1 := tx.cell c1 (fun h => h); replace p0 := tx.cell p0 (fun h => h); replace p1 := tx.cell p1 (fun h => h); replace hR := hR.quiet tx; replace hGr := hGr.quiet tx; replace TD := TD.then tx; (try (first | replace hX := hX.turn tx (fun h => h) | replace hX := hX.turn tx (fun _ _ h => h))); clear tx; clear hyd)
      | (go_at_call 14; have gX := To_ok hGr (unhide HL).2.2.1 v; refine gX.mono ?_; clear gX; rintro e wx ⟨xd, X, rfl, hX, hxd, hXs, tx⟩; replace c0 := tx.cell c0 (fun h => h); replace c1 := tx.cell c1 (fun h => h); replace p0 := tx.cell p0 (fun h => h); replace p1 := tx.cell p1 (fun h => h); replace hR := hR.quiet tx; replace hGr := hGr.quiet tx; replace TD := TD.then tx; (try (first | replace hY := hY.turn tx (fun h => h) | replace hY := hY.turn tx (fun _ _ h => h))); clear tx; clear hxd)
      | (go_at_call 15; have gX := rto_walk _ N _ l hR (unhide HL) v; refine gX.mono ?_; clear gX; rintro e wx ⟨yd, Y, rfl, hY, hyd, hYs, tx⟩; replace c0 := tx.cell c0 (fun h => h); replace c1 := tx.cell c1 (fun h => h); replace p0 := tx.cell p0 (fun h => h); replace p1 := tx.cell p1 (fun h => h); replace hR := hR.quiet tx; replace hGr := hGr.quiet tx; replace TD := TD.then tx; (try (first | replace hX := hX.turn tx (fun h => h) | replace hX := hX.turn tx (fun _ _ h => h))); clear tx; clear hyd)
      | (go_at_call 11; have gX := plain_ints _ xd yd _ _ X Y hX hY; rw [decide_eq_true (hXs.uniq hYs)] at gX; refine gX.mono ?_; clear gX hX hY hXs hYs; rintro e wx ⟨rfl, tx⟩; replace c0 := tx.cell c0 (fun h => h); replace c1 := tx.cell c1 (fun h => h); replace p0 := tx.cell p0 (fun h => h); replace p1 := tx.cell p1 (fun h => h); replace hR := hR.quiet tx; replace hGr := hGr.quiet tx; replace TD := TD.then tx; clear tx)
      | (go_at_call 16; have gX := Dist_ok hGr (unhide HL).2.2.1 a b ha hb; refine gX.mono ?_; clear gX; rintro e wx ⟨d1, rfl, hD1, tx⟩; replace c0 := tx.cell c0 (fun h => h); replace c1 := tx.cell c1 (fun h => h); replace p0 := tx.cell p0 (fun h => h); replace p1 := tx.cell p1 (fun h => h); replace hR := hR.quiet tx; replace hGr := hGr.quiet tx; replace TD := TD.then tx; clear tx; (try (have hq := hD2.uniq hD1; subst hq)))
      | (go_at_call 17; have gX := rdist_walk _ N _ l hR (unhide HL) a b ha hb; refine gX.mono ?_; clear gX; rintro e wx ⟨d2, rfl, hD2, tx⟩; replace c0 := tx.cell c0 (fun h => h); replace c1 := tx.cell c1 (fun h => h); replace p0 := tx.cell p0 (fun h => h); replace p1 := tx.cell p1 (fun h => h); replace hR := hR.quiet tx; replace hGr := hGr.quiet tx; replace TD := TD.then tx; clear tx; (try (have hq := hD1.uniq hD2; subst hq)))
      | (go_at_call 19; have gX := Within_ok hGr (unhide HL).2.2.1 v most; refine gX.mono ?_; clear gX; rintro e wx ⟨xd, X, rfl, hX, hxd, hXs, tx⟩; replace c0 := tx.cell c0 (fun h => h); replace c1 := tx.cell c1 (fun h => h); replace p0 := tx.cell p0 (fun h => h); replace p1 := tx.cell p1 (fun h => h); replace hR := hR.quiet tx; replace hGr := hGr.quiet tx; replace TD := TD.then tx; (try (first | replace hY := hY.turn tx (fun h => h) | replace hY := hY.turn tx (fun _ _ h => h))); clear tx; clear hxd)
      | (go_at_call 20; have gX := rwithin_walk _ N _ l hR (unhide HL) v most; refine gX.mono ?_; clear gX; rintro e wx ⟨yd, Y, rfl, hY, hYs, tx⟩; replace c0 := tx.cell c0 (fun h => h); replace c1 := tx.cell c1 (fun h => h); replace p0 := tx.cell p0 (fun h => h); replace p1 := tx.cell p1 (fun h => h); replace hR := hR.quiet tx; replace hGr := hGr.quiet tx; replace TD := TD.then tx; (try (first | replace hX := hX.turn tx (fun h => h) | replace hX := hX.turn tx (fun _ _ h => h))); clear tx)
      | (go_at_call 18; have gX := plain_dists _ xd yd X Y hX hY; rw [decide_eq_true (hXs.uniq hYs)] at gX; refine gX.mono ?_; clear gX hX hY hXs hYs; rintro e wx ⟨rfl, tx⟩; replace c0 := tx.cell c0 (fun h => h); replace c1 := tx.cell c1 (fun h => h); replace p0 := tx.cell p0 (fun h => h); replace p1 := tx.cell p1 (fun h => h); replace hR := hR.quiet tx; replace hGr := hGr.quiet tx; replace TD := TD.then tx; clear tx))
    all_goals
      clear c0 c1 p0 p1 hR hGr
      go_wp2_with fail
      go_ret
      exact ⟨rfl, TD⟩
  · have hg := graph_none _ _ n _ l hR hL
    clear hR hL h0' h1
    go_enter Try.func3, Try.ntmps3
    go_wp2_with fail
    refine hg.mono ?_
    rintro e w1 ⟨rfl, t1⟩
    go_wp2_with fail
    refine (awake11 _).mono ?_
    rintro e w2 ⟨rfl, t2⟩
    go_wp2_with fail
    refine (awake11 _).mono ?_
    rintro e w3 ⟨rfl, t3⟩
    go_wp2
    go_ret
    exact ⟨rfl, ((TT.then t1).then t2).then t3⟩
theorem SweepTells_law (w : World) (n : Int) (hn : (Lit.int .i64 n).wf = true) (sv : Value) (l : List Ar) (hr : AR any w sv l) (v : Int) (hv : (Lit.int .i64 v).wf = true) (a b : Int) (ha : (Lit.int .i32 a).wf = true) (hb : (Lit.int .i32 b).wf = true) (most : Int) (hm : (Lit.int .i64 most).wf = true) :
    Calls Try.prog 3 #[.agg #[.int .i64 n, sv], .int .i64 v, .agg #[.int .i32 a, .int .i32 b], .int .i64 most] w fun e w' => e = .returned (.bool true) ∧ Below w.heap.size w w' :=
  (tells_walk w n sv l hr v a b most ha hb).mono (fun e w' h => ⟨h.1, h.2.bel⟩)
end Go.Proofs.Ytombpfpfeebnpaa
