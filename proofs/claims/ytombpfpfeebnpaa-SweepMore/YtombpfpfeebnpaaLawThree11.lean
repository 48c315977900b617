/- SweepThree: no way is shorter by way of a third node. -/
import Derived.Test.YtombpfpfeebnpaaSLaw
namespace Go.Proofs.Ytombpfpfeebnpaa
open Go.RowKit Go.Maps
set_option linter.unusedVariables false
set_option linter.unusedSimpArgs false
set_option maxRecDepth 100000

/-- a number from outside, as a node -/
theorem node_of (N : Nat) (a : Int) (h : 0 < N) (h2 : N ≤ 60) : ∃ a' : Nat, a' < N ∧ (IntKind.u64.wrap a).tmod (N : Int) = (a' : Int) := by
  have h0 : 0 ≤ IntKind.u64.wrap a := by rw [IntKind.wrap_u64]; omega
  rw [Int.tmod_eq_emod_of_nonneg h0]
  have h1 := Int.emod_nonneg (IntKind.u64.wrap a) (show (N : Int) ≠ 0 by omega)
  have h3 := Int.emod_lt_of_pos (IntKind.u64.wrap a) (show (0 : Int) < N by omega)
  exact ⟨((IntKind.u64.wrap a) % (N : Int)).toNat, by omega, by omega⟩

set_option maxHeartbeats 16000000 in
theorem three_walk (w : World) (n : Int) (sv : Value) (l : List Ar) (hr : AR any w sv l) (a b : Int) :
    Calls Try.prog 4 #[.agg #[.int .i64 n, sv], .int .i64 a, .int .i64 b] w fun e w' => e = .returned (.bool true) ∧ Turn (fun _ => False) w w' := by
  obtain ⟨sa, sc, rfl⟩ := hr.slice
  have T0 := (Turn.refl (fun _ => False) w).alloc (.cells #[.int .i64 n, .slice sa l.length sc] 24)
  have hb := heap_alloc_new w (.cells #[.int .i64 n, .slice sa l.length sc] 24)
  have hR := hr.quiet T0
  by_cases hL : Looked n l
  · obtain ⟨N, rfl⟩ : ∃ N : Nat, n = N := ⟨n.toNat, by have := hL.2.2.1.1; omega⟩
    have hN1 : 0 < N := by have := hL.2.2.1.1; omega
    have hN2 : N ≤ 60 := by have := hL.1; omega
    have hg := graph_some _ _ N _ l hR hL
    have HL := hide hL
    clear hr hR hL
    go_enter Try.func4, Try.ntmps4
    go_wp2_with fail
    generalize w.alloc (.cells #[.int .i64 (N : Int), .slice sa l.length sc] 24) = W at *
    generalize w.heap.size = nb at *
    refine hg.mono ?_
    rintro e w1 ⟨G, rfl, t1, hG⟩
    have hb1 := t1.same hb (fun h => h)
    have T1 := T0.then t1
    clear hg hb T0 t1
    go_wp2_with fail
    refine (awake11 _).mono ?_
    rintro e w2 ⟨rfl, t2⟩
    have hb2 := t2.same hb1 (fun h => h)
    have T2 := T1.then t2
    have hG2 := hG.quiet t2
    obtain ⟨a', ha1, ha2⟩ := node_of N a hN1 hN2
    obtain ⟨b', hb1', hb2'⟩ := node_of N b hN1 hN2
    have wa : IntKind.i64.wrap (a' : Int) = (a' : Int) := by rw [IntKind.wrap_i64]; omega
    have wb : IntKind.i64.wrap (b' : Int) = (b' : Int) := by rw [IntKind.wrap_i64]; omega
    have wn : IntKind.u64.wrap (N : Int) = (N : Int) := by rw [IntKind.wrap_u64]; omega
    have hN0 : ((N : Int) == 0) = false := by rw [beq_eq_false_iff_ne]; omega
    have n0 : ∀ p : After w2, p.w.cell? ⟨nb, 0, none⟩ = some (.int .i64 (N : Int)) := fun p => p.turn.cell (cell_obj hb2 0) (fun h => h)
    clear hb1 T1 t2 hG
    go_wp2_with fail
    have hne := after_ne w2
    refine wp_region_after (by kernel_rfl) (by kernel_rfl) ?_
    repeat (go_big_quiet_step (fail))
    refine wpQuiet_nil ?_
    rintro _ ⟨p, rfl⟩
    have tp := p.turn
    have hG3 := hG2.quiet tp
    have hb3 := tp.same hb2 (fun h => h)
    have T3 := T2.then tp
    generalize p.w = w3 at *
    have hx := From_ok hG3 (unhide HL).2.2.1 (a' : Int)
    clear n0 hb2 hG2 tp hne p T2 ha2 hb2'
    go_wp2_with fail
    refine hx.mono ?_
    rintro e w4 ⟨xd, X, rfl, hX, hxd, hXs, t4⟩
    have hy := From_ok (hG3.quiet t4) (unhide HL).2.2.1 (b' : Int)
    have hb4 := t4.same hb3 (fun h => h)
    have T4 := T3.then t4
    have hX4 := hX
    have hG4 := hG3.quiet t4
    clear hx hb3 hG3 T3
    go_wp2_with fail
    refine hy.mono ?_
    rintro e w5 ⟨yd, Y, rfl, hY, hyd, hYs, t5⟩
    have hb5 := t5.same hb4 (fun h => h)
    have T5 := T4.then t5
    have hX5 := hX4.turn t5 (fun h => h)
    have hG5 := hide (hG4.quiet t5)
    have hE := hide (fairF (unhide HL).2.2.1)
    -- what is told of a and b
    have hXl := hX5.1
    have hYl := hY.1
    have xa0 : X[a']? = some 0 := by
      have h1 : a' < X.length := by omega
      have h2 := hXs.2 a' X[a'] (by simp [h1])
      have h3 := (isD_self (unhide hE) (s := (a' : Int)) ⟨by omega, by omega⟩).uniq h2
      rw [List.getElem?_eq_getElem h1, h3]
    obtain ⟨xb, hxb⟩ : ∃ xb, X[b']? = some xb := ⟨X[b']'(by omega), by simp [show b' < X.length by omega]⟩
    have hDb := hXs.2 b' xb hxb
    have cxa := (hX5.at xa0).1
    have cxb := (hX5.at hxb).1
    have n0 : w5.cell? ⟨nb, 0, none⟩ = some (.int .i64 (N : Int)) := cell_obj hb5 0
    have ia : (a' : Int) < (N : Int) := by omega
    have ib : (b' : Int) < (N : Int) := by omega
    have ia0 : (0 : Int) ≤ (a' : Int) := by omega
    have ib0 : (0 : Int) ≤ (b' : Int) := by omega
    have HX := hide (And.intro hXs (And.intro hYs (And.intro hDb hxb)))
    have HO := hide (And.intro hX5 (And.intro hY (And.intro hXl hYl)))
    clear hy hX hX4 hb4 hG4 T4 t4 t5 xa0 hXs hYs hDb hxb hX5 hY hXl hYl hxd hyd
    have hcase : ((((a' : Int) == (b' : Int)) = true ∧ Hid (true = true ↔ ((a' : Int) = (b' : Int) ∨ xb = INF))) ∨ (((a' : Int) == (b' : Int)) = false ∧ (xb == 1152921504606846976) = true ∧ Hid (true = true ↔ ((a' : Int) = (b' : Int) ∨ xb = INF)))) ∨ (((a' : Int) == (b' : Int)) = false ∧ (xb == 1152921504606846976) = false ∧ Hid (false = true ↔ ((a' : Int) = (b' : Int) ∨ xb = INF))) := by
      by_cases hab : (a' : Int) = (b' : Int)
      · exact .inl (.inl ⟨by rw [hab]; simp, hide ⟨fun _ => .inl hab, fun _ => rfl⟩⟩)
      · have h1 : ((a' : Int) == (b' : Int)) = false := by rw [beq_eq_false_iff_ne]; exact hab
        by_cases hxi : xb = 1152921504606846976
        · exact .inl (.inr ⟨h1, by rw [hxi]; rfl, hide ⟨fun _ => .inr hxi, fun _ => rfl⟩⟩)
        · refine .inr ⟨h1, by rw [beq_eq_false_iff_ne]; exact hxi, hide ⟨fun h => (by cases h), fun h => ?_⟩⟩
          rcases h with h | h
          · exact absurd h hab
          · exact absurd h hxi
    have hfin : ∀ (m : Bool), (m = true ↔ ((a' : Int) = (b' : Int) ∨ xb = INF)) → ∀ K : Prop, True := fun _ _ _ => trivial
    clear hfin
    rcases hcase with (⟨hbe, hm⟩ | ⟨hbe, hbx, hm⟩) | ⟨hbe, hbx, hm⟩
    all_goals
      go_wp2_with fail
      (first | clear hbx | skip)
      clear hbe
      go_loopw [11] (fun i wr => ∃ k : Nat, i = .int .i64 (k : Int) ∧ k ≤ N ∧ Turn (fun _ => False) w5 wr) (fun i _ => N - (intOf i).toNat)
      case atStart => exact ⟨0, rfl, Nat.zero_le _, Turn.refl _ _⟩
      case round =>
        obtain ⟨k, rfl, hk, tr⟩ := hrel
        have n0r := tr.cell n0 (fun h => h)
        by_cases hkn : k < N
        · obtain ⟨q1, q2, q3, q4⟩ := unhide HX
          obtain ⟨o1, o2, o3, o4⟩ := unhide HO
          obtain ⟨xv, hxv⟩ : ∃ x, X[k]? = some x := ⟨X[k]'(by omega), by simp [show k < X.length by omega]⟩
          obtain ⟨yv, hyv⟩ : ∃ x, Y[k]? = some x := ⟨Y[k]'(by omega), by simp [show k < Y.length by omega]⟩
          have dx := q1.2 k xv hxv
          have dy := q2.2 k yv hyv
          have h3 := q3.three dy dx
          have g1 : 0 ≤ xv ∧ xv ≤ 1152921504606846976 := ⟨dx.ge, dx.le⟩
          have g2 : 0 ≤ yv ∧ yv ≤ 1152921504606846976 := ⟨dy.ge, dy.le⟩
          have g3 : 0 ≤ xb ∧ xb ≤ 1152921504606846976 := ⟨q3.ge, q3.le⟩
          have wsum : IntKind.i64.wrap (xb + yv) = xb + yv := by rw [IntKind.wrap_i64]; omega
          have d1 : decide (xb + yv < xv) = false := decide_eq_false (by omega)
          have d2 : decide (xv < 0) = false := decide_eq_false (by omega)
          have d3 : decide (1152921504606846976 < xv) = false := decide_eq_false (by omega)
          have xc : ∀ p : After wr, p.w.cell? ⟨xd, k, none⟩ = some (.int .i64 xv) := fun p => (tr.then p.turn).cell (o1.at hxv).1 (fun h => h)
          have yc : ∀ p : After wr, p.w.cell? ⟨yd, k, none⟩ = some (.int .i64 yv) := fun p => (tr.then p.turn).cell (o2.at hyv).1 (fun h => h)
          have bc : ∀ p : After wr, p.w.cell? ⟨xd, b', none⟩ = some (.int .i64 xb) := fun p => (tr.then p.turn).cell cxb (fun h => h)
          have ik : (k : Int) < (N : Int) := by omega
          have ik0 : (0 : Int) ≤ (k : Int) := by omega
          clear q1 q2 q3 q4 o1 o2 o3 o4 hxv hyv dx dy h3 g1 g2 g3
          have hne := after_ne wr
          by_cases c1 : xb < 1152921504606846976
          · by_cases c2 : yv < 1152921504606846976
            · have c2' : decide (yv < 1152921504606846976) = true := decide_eq_true c2
              go_wp2_with fail
              refine wp_region_after (by kernel_rfl) (by kernel_rfl) ?_
              repeat (go_big_quiet_step (fail))
              refine wpQuiet_nil ?_
              rintro _ ⟨p, rfl⟩
              have tr2 := tr.then p.turn
              go_wp2_with fail
              exact ⟨⟨k + 1, by go_num, by omega, tr2⟩, by simp [intOf]; omega⟩
            · have c2' : decide (yv < 1152921504606846976) = false := decide_eq_false c2
              go_wp2_with fail
              refine wp_region_after (by kernel_rfl) (by kernel_rfl) ?_
              repeat (go_big_quiet_step (fail))
              refine wpQuiet_nil ?_
              rintro _ ⟨p, rfl⟩
              have tr2 := tr.then p.turn
              go_wp2_with fail
              exact ⟨⟨k + 1, by go_num, by omega, tr2⟩, by simp [intOf]; omega⟩
          · have c1' : decide (xb < 1152921504606846976) = false := decide_eq_false c1
            go_wp2_with fail
            refine wp_region_after (by kernel_rfl) (by kernel_rfl) ?_
            repeat (go_big_quiet_step (fail))
            refine wpQuiet_nil ?_
            rintro _ ⟨p, rfl⟩
            have tr2 := tr.then p.turn
            go_wp2_with fail
            exact ⟨⟨k + 1, by go_num, by omega, tr2⟩, by simp [intOf]; omega⟩
        · have hkn2 : ¬ (k : Int) < (N : Int) := by omega
          have hin := In_ask wr G N l ((unhide hG5).quiet tr) (unhide HL).2.2.1 (b' : Int)
          have T6 := T5.then tr
          have hA := hide (fun a => ends_iff (ke := keT) (v := (b' : Int)) (a := a) (unhide HL).2.2.1)
          clear hkn hk
          go_wp2_with fail
          refine hin.mono ?_
          rintro e w6 ⟨x6, rfl, O6, t6, own6⟩
          have t56 := tr.then t6
          have hbig := O6.ar.len
          unfold maxLen at hbig
          generalize ends keT l N (b' : Int) = S at *
          obtain ⟨sa6, sc6, rfl⟩ := O6.form
          have T7 := T6.then t6
          clear hin own6 T6 n0r hkn2 tr t6
          go_wp2_with fail
          go_loopw [10, 13] (fun mv i wr => ∃ (m : Bool) (k : Nat), mv = .bool m ∧ i = .int .i64 (k : Int) ∧ k ≤ S.length ∧ Turn (fun _ => False) w6 wr ∧ Hid (m = true ↔ ((a' : Int) = (b' : Int) ∨ xb = INF ∨ ∃ c ∈ S.take k, ∃ d, X[c.1.toNat]? = some d ∧ d < INF ∧ d + c.2.2 = xb))) (fun _ i _ => S.length - (intOf i).toNat)
          case atStart =>
            refine ⟨_, 0, rfl, rfl, Nat.zero_le _, Turn.refl _ _, hide (by have h := unhide hm; simpa using h)⟩
          case round =>
            obtain ⟨m, k2, rfl, rfl, hk2, tq, hmk⟩ := hrel
            have O7 := O6.turn tq (fun _ _ h => h)
            by_cases hlt : k2 < S.length
            · obtain ⟨⟨f, t, y⟩, hy⟩ := lt_take hlt
              obtain ⟨q1, q2, q3, q4⟩ := unhide HX
              obtain ⟨o1, o2, o3, o4⟩ := unhide HO
              obtain ⟨g, off, c1, hv, _, hcl⟩ := O7.ar.form (by omega)
              simp only [Value.slice.injEq] at hv
              obtain ⟨rfl, _, rfl⟩ := hv
              obtain ⟨p0, p1, p2⟩ := hcl k2 _ hy
              have hyS : ((f, t, y) : Ar) ∈ S := (List.getElem?_eq_some_iff.1 hy).2 ▸ List.getElem_mem _
              obtain ⟨hyl, hyt⟩ := (unhide hA (f, t, y)).1 hyS
              have hya : okA (N : Int) (f, t, y) := (unhide HL).2.2.1.2.2.2 _ hyl
              unfold okA at hya
              simp only at hya p0 p1 p2
              obtain ⟨u0, rfl⟩ : ∃ u0 : Nat, f = u0 := ⟨f.toNat, by omega⟩
              obtain ⟨xu, hxu⟩ : ∃ x, X[u0]? = some x := ⟨X[u0]'(by omega), by simp [show u0 < X.length by omega]⟩
              have du := q1.2 u0 xu hxu
              have harc := du.arc (unhide hE) q3 (show goesF l (u0 : Int) (b' : Int) y by rw [show (b' : Int) = t from hyt.symm]; exact hyl)
              have g1 : 0 ≤ xu ∧ xu ≤ 1152921504606846976 := ⟨du.ge, du.le⟩
              have wsum : IntKind.i64.wrap (xu + y) = xu + y := by rw [IntKind.wrap_i64]; omega
              have d1 : decide (xu + y < xb) = false := decide_eq_false (by omega)
              have t5q := t56.then tq
              have xcu := t5q.cell (o1.at hxu).1 (fun h => h)
              have bcu := t5q.cell cxb (fun h => h)
              have iu : (u0 : Int) < (N : Int) := by omega
              have iu0 : (0 : Int) ≤ (u0 : Int) := by omega
              have ik : (k2 : Int) < (S.length : Int) := by omega
              have ik0 : (0 : Int) ≤ (k2 : Int) := by omega
              have hmore : ∀ b2 : Bool, (b2 = true ↔ (m = true ∨ (xu < INF ∧ xu + y = xb))) → Hid (b2 = true ↔ ((a' : Int) = (b' : Int) ∨ xb = INF ∨ ∃ c ∈ S.take (k2 + 1), ∃ d, X[c.1.toNat]? = some d ∧ d < INF ∧ d + c.2.2 = xb)) := by
                intro b2 hb2
                refine hide ?_
                rw [hb2, unhide hmk, List.take_add_one, hy, Option.toList_some]
                constructor
                · rintro ((h | h | ⟨c, hc, h⟩) | h)
                  · exact .inl h
                  · exact .inr (.inl h)
                  · exact .inr (.inr ⟨c, by simp [hc], h⟩)
                  · exact .inr (.inr ⟨((u0 : Int), t, y), by simp, xu, by simpa using hxu, h.1, h.2⟩)
                · rintro (h | h | ⟨c, hc, d, h1, h2, h3⟩)
                  · exact .inl (.inl h)
                  · exact .inl (.inr (.inl h))
                  · rw [List.mem_append, List.mem_singleton] at hc
                    rcases hc with hc | rfl
                    · exact .inl (.inr (.inr ⟨c, hc, d, h1, h2, h3⟩))
                    · simp only [Int.toNat_natCast] at h1
                      rw [hxu] at h1
                      cases h1
                      exact .inr ⟨h2, h3⟩
              have Hmore := hide hmore
              have Hle : Hid (k2 + 1 ≤ S.length) := hide hlt
              clear hmore hcl q1 q2 q3 q4 o1 o2 o3 o4 hxu du harc g1 hyS hyl hyt hya hmk t5q O7
              have z0 : ∀ p : After wr, p.w.cell? ⟨g, off + k2 * 3, none⟩ = some (.int .i64 (u0 : Int)) := fun p => p.turn.cell p0 (fun h => h)
              have z2 : ∀ p : After wr, p.w.cell? ⟨g, off + k2 * 3 + 2, none⟩ = some (.int .i64 y) := fun p => p.turn.cell p2 (fun h => h)
              have zx : ∀ p : After wr, p.w.cell? ⟨xd, u0, none⟩ = some (.int .i64 xu) := fun p => p.turn.cell xcu (fun h => h)
              have zb : ∀ p : After wr, p.w.cell? ⟨xd, b', none⟩ = some (.int .i64 xb) := fun p => p.turn.cell bcu (fun h => h)
              have hne := after_ne wr
              have hmx : (m = true ∧ Hid (true = true ↔ (m = true ∨ (xu < INF ∧ xu + y = xb)))) ∨ (m = false ∧ decide (xu < 1152921504606846976) = true ∧ Hid ((xu + y == xb) = true ↔ (m = true ∨ (xu < INF ∧ xu + y = xb)))) ∨ (m = false ∧ decide (xu < 1152921504606846976) = false ∧ Hid (false = true ↔ (m = true ∨ (xu < INF ∧ xu + y = xb)))) := by
                cases m
                · by_cases hc : xu < 1152921504606846976
                  · refine .inr (.inl ⟨rfl, decide_eq_true hc, hide ?_⟩)
                    rw [beq_iff_eq]
                    exact ⟨fun h => .inr ⟨hc, h⟩, fun h => h.elim (fun h => (by cases h)) (fun h => h.2)⟩
                  · exact .inr (.inr ⟨rfl, decide_eq_false hc, hide ⟨fun h => (by cases h), fun h => h.elim (fun h => h) (fun h => absurd h.1 hc)⟩⟩)
                · exact .inl ⟨rfl, hide ⟨fun _ => .inl rfl, fun _ => rfl⟩⟩
              have hcu : decide (xu < 1152921504606846976) = true ∨ decide (xu < 1152921504606846976) = false := by cases decide (xu < 1152921504606846976) <;> simp
              clear xcu bcu p1 p2
              rcases hmx with ⟨rfl, hb⟩ | ⟨rfl, hcu, hb⟩ | ⟨rfl, hcu, hb⟩
              · rcases hcu with hcu | hcu
                · go_wp2_with fail
                  refine wp_region_after (by kernel_rfl) (by kernel_rfl) ?_
                  repeat (go_big_quiet_step (fail))
                  refine wpQuiet_nil ?_
                  rintro _ ⟨p, rfl⟩
                  have tq2 := tq.then p.turn
                  have y0 : ∀ r : After p.w, r.w.cell? ⟨g, off + k2 * 3, none⟩ = some (.int .i64 (u0 : Int)) := fun r => r.turn.cell (z0 p) (fun h => h)
                  have y2 : ∀ r : After p.w, r.w.cell? ⟨g, off + k2 * 3 + 2, none⟩ = some (.int .i64 y) := fun r => r.turn.cell (z2 p) (fun h => h)
                  have yx : ∀ r : After p.w, r.w.cell? ⟨xd, u0, none⟩ = some (.int .i64 xu) := fun r => r.turn.cell (zx p) (fun h => h)
                  have yb : ∀ r : After p.w, r.w.cell? ⟨xd, b', none⟩ = some (.int .i64 xb) := fun r => r.turn.cell (zb p) (fun h => h)
                  have hne2 := after_ne p.w
                  clear z0 z2 zx zb hne
                  generalize p.w = w8 at *
                  go_wp2_with fail
                  refine wp_region_after (by kernel_rfl) (by kernel_rfl) ?_
                  repeat (go_big_quiet_step (fail))
                  refine wpQuiet_nil ?_
                  rintro _ ⟨r, rfl⟩
                  have tq3 := tq2.then r.turn
                  go_wp2_with fail
                  exact ⟨⟨_, k2 + 1, rfl, by go_num, unhide Hle, tq3, unhide Hmore _ (by have h := unhide hb; (first | exact h | simp | simpa using h))⟩, by have := unhide Hle; simp [intOf]; omega⟩
                · go_wp2_with fail
                  refine wp_region_after (by kernel_rfl) (by kernel_rfl) ?_
                  repeat (go_big_quiet_step (fail))
                  refine wpQuiet_nil ?_
                  rintro _ ⟨p, rfl⟩
                  have tq2 := tq.then p.turn
                  have y0 : ∀ r : After p.w, r.w.cell? ⟨g, off + k2 * 3, none⟩ = some (.int .i64 (u0 : Int)) := fun r => r.turn.cell (z0 p) (fun h => h)
                  have y2 : ∀ r : After p.w, r.w.cell? ⟨g, off + k2 * 3 + 2, none⟩ = some (.int .i64 y) := fun r => r.turn.cell (z2 p) (fun h => h)
                  have yx : ∀ r : After p.w, r.w.cell? ⟨xd, u0, none⟩ = some (.int .i64 xu) := fun r => r.turn.cell (zx p) (fun h => h)
                  have yb : ∀ r : After p.w, r.w.cell? ⟨xd, b', none⟩ = some (.int .i64 xb) := fun r => r.turn.cell (zb p) (fun h => h)
                  have hne2 := after_ne p.w
                  clear z0 z2 zx zb hne
                  generalize p.w = w8 at *
                  go_wp2_with fail
                  refine wp_region_after (by kernel_rfl) (by kernel_rfl) ?_
                  repeat (go_big_quiet_step (fail))
                  refine wpQuiet_nil ?_
                  rintro _ ⟨r, rfl⟩
                  have tq3 := tq2.then r.turn
                  go_wp2_with fail
                  exact ⟨⟨_, k2 + 1, rfl, by go_num, unhide Hle, tq3, unhide Hmore _ (by have h := unhide hb; (first | exact h | simp | simpa using h))⟩, by have := unhide Hle; simp [intOf]; omega⟩
              · go_wp2_with fail
                refine wp_region_after (by kernel_rfl) (by kernel_rfl) ?_
                repeat (go_big_quiet_step (fail))
                refine wpQuiet_nil ?_
                rintro _ ⟨p, rfl⟩
                have tq2 := tq.then p.turn
                have y0 : ∀ r : After p.w, r.w.cell? ⟨g, off + k2 * 3, none⟩ = some (.int .i64 (u0 : Int)) := fun r => r.turn.cell (z0 p) (fun h => h)
                have y2 : ∀ r : After p.w, r.w.cell? ⟨g, off + k2 * 3 + 2, none⟩ = some (.int .i64 y) := fun r => r.turn.cell (z2 p) (fun h => h)
                have yx : ∀ r : After p.w, r.w.cell? ⟨xd, u0, none⟩ = some (.int .i64 xu) := fun r => r.turn.cell (zx p) (fun h => h)
                have yb : ∀ r : After p.w, r.w.cell? ⟨xd, b', none⟩ = some (.int .i64 xb) := fun r => r.turn.cell (zb p) (fun h => h)
                have hne2 := after_ne p.w
                clear z0 z2 zx zb hne
                generalize p.w = w8 at *
                go_wp2_with fail
                refine wp_region_after (by kernel_rfl) (by kernel_rfl) ?_
                repeat (go_big_quiet_step (fail))
                refine wpQuiet_nil ?_
                rintro _ ⟨r, rfl⟩
                have tq3 := tq2.then r.turn
                go_wp2_with fail
                exact ⟨⟨_, k2 + 1, rfl, by go_num, unhide Hle, tq3, unhide Hmore _ (by have h := unhide hb; (first | exact h | simp | simpa using h))⟩, by have := unhide Hle; simp [intOf]; omega⟩
              · go_wp2_with fail
                refine wp_region_after (by kernel_rfl) (by kernel_rfl) ?_
                repeat (go_big_quiet_step (fail))
                refine wpQuiet_nil ?_
                rintro _ ⟨p, rfl⟩
                have tq2 := tq.then p.turn
                have y0 : ∀ r : After p.w, r.w.cell? ⟨g, off + k2 * 3, none⟩ = some (.int .i64 (u0 : Int)) := fun r => r.turn.cell (z0 p) (fun h => h)
                have y2 : ∀ r : After p.w, r.w.cell? ⟨g, off + k2 * 3 + 2, none⟩ = some (.int .i64 y) := fun r => r.turn.cell (z2 p) (fun h => h)
                have yx : ∀ r : After p.w, r.w.cell? ⟨xd, u0, none⟩ = some (.int .i64 xu) := fun r => r.turn.cell (zx p) (fun h => h)
                have yb : ∀ r : After p.w, r.w.cell? ⟨xd, b', none⟩ = some (.int .i64 xb) := fun r => r.turn.cell (zb p) (fun h => h)
                have hne2 := after_ne p.w
                clear z0 z2 zx zb hne
                generalize p.w = w8 at *
                go_wp2_with fail
                refine wp_region_after (by kernel_rfl) (by kernel_rfl) ?_
                repeat (go_big_quiet_step (fail))
                refine wpQuiet_nil ?_
                rintro _ ⟨r, rfl⟩
                have tq3 := tq2.then r.turn
                go_wp2_with fail
                exact ⟨⟨_, k2 + 1, rfl, by go_num, unhide Hle, tq3, unhide Hmore _ (by have h := unhide hb; (first | exact h | simp | simpa using h))⟩, by have := unhide Hle; simp [intOf]; omega⟩
            · obtain rfl : k2 = S.length := by omega
              rw [List.take_length] at hmk
              have hmt : m = true := by
                rw [unhide hmk]
                obtain ⟨q1, q2, q3, q4⟩ := unhide HX
                by_cases e1 : (a' : Int) = (b' : Int)
                · exact .inl e1
                · by_cases e2 : xb < INF
                  · obtain ⟨p, x, e, h1, h2, h3⟩ := q3.made (unhide hE) e2 (fun h => e1 h.symm)
                    have hx := (unhide hE) _ _ _ h1
                    have hl1 : p.toNat < X.length := by rw [q1.1]; omega
                    have hu := q1.2 p.toNat (X[p.toNat]'hl1) (by simp [hl1])
                    rw [show ((p.toNat : Nat) : Int) = p by omega] at hu
                    have he := hu.uniq h2
                    exact .inr (.inr ⟨(p, (b' : Int), x), (unhide hA _).2 ⟨h1, rfl⟩, e, by rw [← he]; simp [hl1], by omega, h3⟩)
                  · exact .inr (.inl (by have := q3.le; omega))
              subst hmt
              have T9 := T7.then tq
              clear hmk O7 hlt hk2
              go_wp2_with fail
              go_ret
              exact ⟨rfl, T9⟩
  · have hg := graph_none _ _ n _ l hR hL
    clear hr hR hL
    go_enter Try.func4, Try.ntmps4
    go_wp2_with fail
    refine hg.mono ?_
    rintro e w1 ⟨rfl, t1⟩
    go_wp2_with fail
    refine (awake11 _).mono ?_
    rintro e w2 ⟨rfl, t2⟩
    go_wp2_with fail
    refine (awake11 _).mono ?_
    rintro e w3 ⟨rfl, t3⟩
    go_wp2
    go_ret
    exact ⟨rfl, ((T0.then t1).then t2).then t3⟩
theorem SweepThree_law (w : World) (n : Int) (hn : (Lit.int .i64 n).wf = true) (sv : Value) (l : List Ar) (hr : AR any w sv l) (a : Int) (ha : (Lit.int .i64 a).wf = true) (b : Int) (hb : (Lit.int .i64 b).wf = true) :
    Calls Try.prog 4 #[.agg #[.int .i64 n, sv], .int .i64 a, .int .i64 b] w fun e w' => e = .returned (.bool true) ∧ Below w.heap.size w w' :=
  (three_walk w n sv l hr a b).mono (fun e w' h => ⟨h.1, h.2.bel⟩)
end Go.Proofs.Ytombpfpfeebnpaa
