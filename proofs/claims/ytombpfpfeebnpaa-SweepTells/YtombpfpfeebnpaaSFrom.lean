/- The reference's From: over all arcs till nothing gets less. -/
import Derived.Test.YtombpfpfeebnpaaSLaw
import Derived.Test.YtombpfpfeebnpaaSBell
import Derived.Test.YtombpfpfeebnpaaGLast
namespace Go.Proofs.Ytombpfpfeebnpaa
open Go.RowKit Go.Maps
set_option linter.unusedVariables false
set_option linter.unusedSimpArgs false
set_option maxRecDepth 100000

theorem zero_i64s (n : Nat) : (madeCells (Value.int .i64 0).cells (n * 1)).toList = nC (fillN 0 n) := by
  rw [Nat.mul_one, show (Value.int .i64 0).cells = #[Value.int .i64 0] from rfl, toList_madeCells_one]; simp [nC, fillN]
theorem fillN_step {k n : Nat} (h : k < n) : (fillN k n).set k INF = fillN (k + 1) n := by
  unfold fillN
  rw [List.set_append_right _ _ (by simp), List.length_replicate, Nat.sub_self, show n - k = (n - (k + 1)) + 1 by omega, List.replicate_succ, List.set_cons_zero, List.replicate_succ' (n := k), List.append_assoc]
  rfl
theorem fillN_at {k n : Nat} (h : k < n) : (fillN k n)[k]? = some 0 := by
  unfold fillN
  rw [List.getElem?_append_right (by simp), List.length_replicate, Nat.sub_self, List.getElem?_replicate, if_pos (by omega)]
theorem fillN_all (n : Nat) : fillN n n = List.replicate n INF := by unfold fillN; simp

set_option maxHeartbeats 16000000 in
theorem rfrom_walk (w : World) (N : Nat) (sv : Value) (l : List Ar) (hr : AR any w sv l) (hL : Looked N l) (v : Int) :
    Calls Try.prog 13 #[.agg #[.int .i64 (N : Int), sv], .int .i64 v] w fun e w' => ∃ b L, e = .returned (.slice (some ⟨b, 0, none⟩) N N) ∧ ND w' b N L ∧ w.heap.size ≤ b ∧ IsDs N (goesF l) v L ∧ Turn (fun _ => False) w w' := by
  obtain ⟨i0, hi, hz0, hz1, hz2⟩ := info_parts info_i64
  obtain ⟨sa, sc, rfl⟩ := hr.slice
  have hN1 : 0 < N := by have := hL.2.2.1.1; omega
  have hN2 : N ≤ 60 := by have := hL.1; omega
  have hl1 : l.length ≤ 300 := hL.2.1
  have T0 := (Turn.refl (fun _ => False) w).alloc (.cells #[.int .i64 (N : Int), .slice sa l.length sc] 24)
  have hb := heap_alloc_new w (.cells #[.int .i64 (N : Int), .slice sa l.length sc] 24)
  have A0 := hr.lt.quiet T0
  have HE := hide (fairF hL.2.2.1)
  have HB := hide hL.2.2.1.2.2.2
  obtain ⟨D, hD⟩ := all_dists (fairF hL.2.2.1) v
  have HD := hide hD
  clear hr hL hD
  go_enter Try.func13, Try.ntmps13
  go_wp2_with (at_make; generalize hW : w.alloc (.cells #[.int .i64 (N : Int), .slice sa l.length sc] 24) = W at *; generalize hnbe : w.heap.size = nb at *; refine wpList_make_full _ rfl _ _ 31 rfl W.heap.size 2 i0 (.int .i64 0) 1 Try.underlying31 hi hz0 hz1 .i64 .i64 (N : Int) (N : Int) N rfl rfl rfl rfl (by rw [hz2]; omega) (by unfold maxLen; omega) (Nat.le_refl _) ?_; intro w1 hown1 hgrow1)
  have Hnb := hide hnbe
  have hnbW : nb < W.heap.size := (Array.getElem?_eq_some_iff.1 hb).1
  rw [zero_i64s] at hown1
  have t1 : Turn (fun _ => False) W w1 := Turn.grown hgrow1 (fun k e => by cases e)
  have hO : ND w1 W.heap.size N (fillN 0 N) := ⟨by unfold fillN; simp, OwnSl.of_owns hown1⟩
  generalize hdb : W.heap.size = db at *
  have A1 := A0.quiet t1
  have b1 := t1.same hb (fun h => h)
  have T1 := T0.then t1
  clear hown1 hgrow1 A0 hb hW t1 T0 hdb hnbe hz0 hz1 hz2
  go_loopw [6] (fun i wr => ∃ (k : Nat), i = .int .i64 (k : Int) ∧ k ≤ N ∧ ND wr db N (fillN k N) ∧ Turn (fun j => j = db) w1 wr) (fun i _ => N - (intOf i).toNat)
  case atStart => exact ⟨0, rfl, Nat.zero_le _, hO, Turn.refl _ _⟩
  case round =>
    clear hO
    obtain ⟨k, rfl, hk, hO, tr⟩ := hrel
    have b2 := tr.same b1 (by omega)
    have n0 : wr.cell? ⟨nb, 0, none⟩ = some (.int .i64 (N : Int)) := cell_obj b2 0
    by_cases hlt : k < N
    · obtain ⟨c0, f0⟩ := hO.at (fillN_at hlt)
      have ik : (k : Int) < (N : Int) := by omega
      have ik0 : (0 : Int) ≤ (k : Int) := by omega
      have hO2 := hO.put hlt INF
      rw [fillN_step hlt] at hO2
      have t2 : Turn (fun j => j = db) wr (wr.setCell ⟨db, k, none⟩ (.int .i64 INF)) := (Turn.refl (fun j => j = db) wr).setCell (p := ⟨db, k, none⟩) (.inl rfl) _
      have tr2 := tr.then t2
      clear hO tr t2 b2
      go_wp2_with fail
      exact ⟨⟨k + 1, by go_num, by omega, hO2, tr2⟩, by simp [intOf]; omega⟩
    · obtain rfl : k = N := by omega
      rw [fillN_all] at hO
      have A2 : AR (fun j => (any j ∧ j < nb)) wr (.slice sa l.length sc) l := A1.turn tr (fun j hj => by have := hj.2; omega)
      have Hnb2 := unhide Hnb
      have T2 : Turn (fun _ => False) w wr := (T1.trans tr (fun j hj => .inr (by omega)))
      clear hlt tr T1 A1 b1
      obtain ⟨w2, hw2⟩ : ∃ x, x = wr := ⟨_, rfl⟩
      subst hw2
      by_cases hv : 0 ≤ v ∧ v < (k : Int)
      · obtain ⟨v', rfl⟩ : ∃ v' : Nat, v = v' := ⟨v.toNat, by omega⟩
        have hv' : v' < k := by omega
        have hv1 : ¬ (v' : Int) < 0 := by omega
        have hv2 : ¬ (k : Int) ≤ (v' : Int) := by omega
        have hv3 : (v' : Int) < (k : Int) := by omega
        have hv4 : (0 : Int) ≤ (v' : Int) := by omega
        obtain ⟨c0, f0⟩ := hO.at (i := v') (x := INF) (by simp [hv'])
        have hO2 := hO.put hv' 0
        have t2 : Turn (fun j => j = db) w2 (w2.setCell ⟨db, v', none⟩ (.int .i64 0)) := (Turn.refl (fun j => j = db) w2).setCell (p := ⟨db, v', none⟩) (.inl rfl) _
        have hBF := hide (bf_start (E := goesF l) hv')
        have hLev := hide (lev_zero (unhide HE) hv4 hv3 (unhide HD) (unhide hBF))
        have A3 : AR (fun j => (any j ∧ j < nb)) (w2.setCell ⟨db, v', none⟩ (.int .i64 0)) (.slice sa l.length sc) l := A2.turn t2 (fun j hj => by have := hj.2; omega)
        have b3 := t2.same b2 (by omega)
        have T3 : Turn (fun _ => False) w (w2.setCell ⟨db, v', none⟩ (.int .i64 0)) := (T2.trans t2 (fun j hj => .inr (by omega)))
        have Hg := hide (And.intro hv' (And.intro hv3 hv4))
        clear hO t2 A2 b2 T2 hv'
        go_wp2_with fail
        clear n0 c0 f0 hv1 hv2 hv3 hv4
        generalize w2.setCell ⟨db, v', none⟩ (.int .i64 0) = w3 at *
        go_loopw [7] (fun i wr => ∃ (j : Nat) (L : List Int), i = .int .i64 (j : Int) ∧ j ≤ k ∧ ND wr db k L ∧ Hid (BF k (goesF l) (v' : Int) L) ∧ Hid (Lev k D j L) ∧ Turn (fun j => j = db) w3 wr) (fun i _ => k - (intOf i).toNat)
        case atStart => exact ⟨0, _, rfl, Nat.zero_le _, hO2, hBF, hLev, Turn.refl _ _⟩
        case round =>
          clear hO2 hBF hLev
          obtain ⟨j, L, rfl, hj, hO, hBF, hLev, tr⟩ := hrel
          obtain ⟨w4, hw4⟩ : ∃ x, x = wr := ⟨_, rfl⟩
          subst hw4
          have b4 := tr.same b3 (by omega)
          have n0 : w4.cell? ⟨nb, 0, none⟩ = some (.int .i64 (k : Int)) := cell_obj b4 0
          by_cases hlt : j < k
          · have ij : (j : Int) < (k : Int) := by omega
            have A4 : AR (fun j => (any j ∧ j < nb)) w4 (.slice sa l.length sc) l := A3.turn tr (fun j hj => by have := hj.2; omega)
            go_wp2_with fail
            go_loopw [8, 9] (fun m i wr => ∃ (less : Bool) (i2 : Nat) (M : List Int), m = .bool less ∧ i = .int .i64 (i2 : Int) ∧ i2 ≤ l.length ∧ ND wr db k M ∧ Hid (BF k (goesF l) (v' : Int) M) ∧ Hid (Rnd L M (l.take i2) less) ∧ Turn (fun j => j = db) w4 wr) (fun _ i _ => l.length - (intOf i).toNat)
            case atStart => exact ⟨false, 0, L, rfl, rfl, Nat.zero_le _, hO, hBF, hide (Rnd.begin L), Turn.refl _ _⟩
            case round =>
              obtain ⟨less, i2, M, rfl, rfl, hi2, hO5, hBF5, hRnd, t5⟩ := hrel
              have b5 := t5.same b4 (by omega)
              have n1 : wr.cell? ⟨nb, 1, none⟩ = some (.slice sa l.length sc) := cell_obj b5 1
              by_cases hlt2 : i2 < l.length
              · obtain ⟨⟨f, t, y⟩, hy⟩ := lt_take hlt2
                obtain ⟨g, off, c1, hvv, _, hcl⟩ := (A4.turn t5 (fun j hj => by have := hj.2; omega)).form (by omega)
                simp only [Value.slice.injEq] at hvv
                obtain ⟨rfl, _, rfl⟩ := hvv
                obtain ⟨p0, p1, p2⟩ := hcl i2 _ hy
                have hmem : ((f, t, y) : Ar) ∈ l := (List.getElem?_eq_some_iff.1 hy).2 ▸ List.getElem_mem _
                have hya := unhide HB _ hmem
                unfold okA at hya
                simp only at hya p0 p1 p2
                obtain ⟨u0, rfl⟩ : ∃ u0 : Nat, f = u0 := ⟨f.toNat, by omega⟩
                obtain ⟨t0, rfl⟩ : ∃ t0 : Nat, t = t0 := ⟨t.toNat, by omega⟩
                have hMl := hO5.1
                obtain ⟨xu, hxu⟩ : ∃ x, M[u0]? = some x := ⟨M[u0]'(by omega), by simp [show u0 < M.length by omega]⟩
                obtain ⟨xt, hxt⟩ : ∃ x, M[t0]? = some x := ⟨M[t0]'(by omega), by simp [show t0 < M.length by omega]⟩
                have vu := val_at hxu
                have vt := val_at hxt
                have hBFm := unhide hBF5
                have gu := hBFm.rng (u0 : Int)
                have gt := hBFm.rng (t0 : Int)
                have gu2 : 0 ≤ xu ∧ xu ≤ 1152921504606846976 := by rw [← vu]; exact gu
                have gt2 : 0 ≤ xt ∧ xt ≤ 1152921504606846976 := by rw [← vt]; exact gt
                have ha : goesF l (u0 : Int) (t0 : Int) y := hmem
                have wsum : IntKind.i64.wrap (xu + y) = xu + y := by rw [IntKind.wrap_i64]; omega
                have iu : (u0 : Int) < (k : Int) := by omega
                have iu0 : (0 : Int) ≤ (u0 : Int) := by omega
                have it : (t0 : Int) < (k : Int) := by omega
                have it0 : (0 : Int) ≤ (t0 : Int) := by omega
                have ik : (i2 : Int) < (l.length : Int) := by omega
                have ik0 : (0 : Int) ≤ (i2 : Int) := by omega
                have itn : t0 < k := by omega
                have hkeep : ¬ (xu < INF ∧ xu + y < xt) → Hid (Rnd L M (l.take (i2 + 1)) less) := by
                  intro hn
                  refine hide ?_
                  rw [List.take_add_one, hy, Option.toList_some]
                  exact (unhide hRnd).keep (unhide hBF) hBFm (by show 0 ≤ y; omega) (by show ¬ (val M (u0 : Int) < INF ∧ val M (u0 : Int) + y < val M (t0 : Int)); rw [vu, vt]; exact hn)
                have hput : (xu < INF ∧ xu + y < xt) → Hid (BF k (goesF l) (v' : Int) (M.set t0 (xu + y)) ∧ Rnd L (M.set t0 (xu + y)) (l.take (i2 + 1)) true) := by
                  intro hn
                  refine hide ⟨?_, ?_⟩
                  · have := hBFm.see (unhide HE) ha (by rw [vu]; exact hn.1) (by rw [vu, vt]; exact hn.2)
                    rwa [vu] at this
                  · rw [List.take_add_one, hy, Option.toList_some]
                    have := (unhide hRnd).put (a := ((u0 : Int), (t0 : Int), y)) (n := k) (E := goesF l) (s := (v' : Int)) (t := t0) rfl (by omega) (by show val M (u0 : Int) + y < val M (t0 : Int); rw [vu, vt]; exact hn.2)
                    simp only [vu] at this
                    exact this
                have Hkeep := hide hkeep
                have Hput := hide hput
                have HO := hide hO5
                have tX := (Turn.refl (fun _ => False) wr).alloc (.cells #[.int .i64 (u0 : Int), .int .i64 (t0 : Int), .int .i64 y] 46)
                have hX := heap_alloc_new wr (.cells #[.int .i64 (u0 : Int), .int .i64 (t0 : Int), .int .i64 y] 46)
                have hOX := hO5.turn tX (fun h => h)
                have xcu := (hOX.at hxu).1
                obtain ⟨xct, xft⟩ := hOX.at hxt
                have tr5 := t5.then (tX.mono (fun _ h => h.elim))
                have Hle : Hid (i2 + 1 ≤ l.length) := hide hlt2
                have HXT := hide hxt
                clear hkeep hput hcl hy hmem hya hMl hxu hxt vu vt hBFm gu gt ha hO5 tX t5 b5 hRnd gu2 gt2
                go_wp2_with fail
                generalize wr.alloc (.cells #[.int .i64 (u0 : Int), .int .i64 (t0 : Int), .int .i64 y] 46) = w5 at *
                generalize wr.heap.size = ab at *
                have z0 : ∀ p : After w5, p.w.cell? ⟨ab, 0, none⟩ = some (.int .i64 (u0 : Int)) := fun p => p.turn.cell (cell_obj hX 0) (fun h => h)
                have z1 : ∀ p : After w5, p.w.cell? ⟨ab, 1, none⟩ = some (.int .i64 (t0 : Int)) := fun p => p.turn.cell (cell_obj hX 1) (fun h => h)
                have z2 : ∀ p : After w5, p.w.cell? ⟨ab, 2, none⟩ = some (.int .i64 y) := fun p => p.turn.cell (cell_obj hX 2) (fun h => h)
                have zu : ∀ p : After w5, p.w.cell? ⟨db, u0, none⟩ = some (.int .i64 xu) := fun p => p.turn.cell xcu (fun h => h)
                have zt : ∀ p : After w5, p.w.cell? ⟨db, t0, none⟩ = some (.int .i64 xt) := fun p => p.turn.cell xct (fun h => h)
                have hne := after_ne w5
                clear p0 p1 p2 n1
                by_cases d1 : xu < 1152921504606846976
                · have e1 : decide (xu < 1152921504606846976) = true := decide_eq_true d1
                  by_cases d2 : xu + y < xt
                  · have e2 : decide (xu + y < xt) = true := decide_eq_true d2
                    refine wp_region_after (by kernel_rfl) (by kernel_rfl) ?_
                    repeat (go_big_quiet_step (fail))
                    refine wpQuiet_nil ?_
                    rintro _ ⟨p, rfl⟩
                    have tr6 := tr5.then (p.turn.mono (fun _ h => h.elim))
                    have hO6 := hOX.turn p.turn (fun h => h)
                    have hX6 := p.turn.same hX (fun h => h)
                    obtain ⟨y0, y1, y2, yu⟩ := And.intro (z0 p) (And.intro (z1 p) (And.intro (z2 p) (zu p)))
                    obtain ⟨yt, ft⟩ := hO6.at (unhide HXT)
                    clear z0 z1 z2 zu zt hne
                    generalize p.w = w6 at *
                    have hset : ND (w6.drew.setCell ⟨db, t0, none⟩ (.int .i64 (xu + y))) db k (M.set t0 (xu + y)) := (hO6.turn (Turn.refl (fun _ => False) w6).drew (fun h => h)).put itn (xu + y)
                    have t7 : Turn (fun j => j = db) w6.drew (w6.drew.setCell ⟨db, t0, none⟩ (.int .i64 (xu + y))) := (Turn.refl (fun j => j = db) w6.drew).setCell (p := ⟨db, t0, none⟩) (.inl rfl) _
                    have tr8 := (tr6.drew).then t7
                    clear tr6 t7 hO6 hX6 hOX hX
                    go_wp2_with fail
                    refine wp_region_T 12 (fun u => u.cell? ⟨ab, 0, none⟩ = some (.int .i64 (u0 : Int)) ∧ u.cell? ⟨ab, 1, none⟩ = some (.int .i64 (t0 : Int)) ∧ u.cell? ⟨ab, 2, none⟩ = some (.int .i64 y) ∧ u.cell? ⟨db, u0, none⟩ = some (.int .i64 xu)) (by kernel_rfl) ?_ (fun hS => ?_)
                    · exact ⟨y0, y1, y2, yu⟩
                    refine wpAnyT_take (i := 0) (v := ?_) rfl (by kernel_rfl) (by kernel_rfl) (by kernel_rfl) (by kernel_rfl) (fun _ _ _ h => h) (by rfl) ?_ hS ?_
                    rotate_left
                    · intro w hSw; (try dsimp only at hSw); go_simp; rfl
                    simp only [Act.put, List.setIfInBounds_toArray, List.set_cons_zero, List.set_cons_succ]
                    refine wpAnyT_take (i := 1) (v := ?_) rfl (by kernel_rfl) (by kernel_rfl) (by kernel_rfl) (by kernel_rfl) (fun _ _ _ h => h) (by rfl) ?_ hS ?_
                    rotate_left
                    · intro w hSw; (try dsimp only at hSw); go_simp; rfl
                    simp only [Act.put, List.setIfInBounds_toArray, List.set_cons_zero, List.set_cons_succ]
                    refine wpAnyT_take (i := 2) (v := ?_) rfl (by kernel_rfl) (by kernel_rfl) (by kernel_rfl) (by kernel_rfl) (fun _ _ _ h => h) (by rfl) ?_ hS ?_
                    rotate_left
                    · intro w hSw; (try dsimp only at hSw); go_simp; rfl
                    simp only [Act.put, List.setIfInBounds_toArray, List.set_cons_zero, List.set_cons_succ]
                    refine wpAnyT_take (i := 3) (v := ?_) rfl (by kernel_rfl) (by kernel_rfl) (by kernel_rfl) (by kernel_rfl) (fun _ _ _ h => h) (by rfl) ?_ hS ?_
                    rotate_left
                    · intro w hSw; (try dsimp only at hSw); go_simp; rfl
                    simp only [Act.put, List.setIfInBounds_toArray, List.set_cons_zero, List.set_cons_succ]
                    refine wpAnyT_take (i := 4) (v := ?_) rfl (by kernel_rfl) (by kernel_rfl) (by kernel_rfl) (by kernel_rfl) (fun _ _ _ h => h) (by rfl) ?_ hS ?_
                    rotate_left
                    · intro w hSw; (try dsimp only at hSw); go_simp; rfl
                    simp only [Act.put, List.setIfInBounds_toArray, List.set_cons_zero, List.set_cons_succ]
                    refine wpAnyT_take (i := 5) (v := ?_) rfl (by kernel_rfl) (by kernel_rfl) (by kernel_rfl) (by kernel_rfl) (fun _ _ _ h => h) (by rfl) ?_ hS ?_
                    rotate_left
                    · intro w hSw; (try dsimp only at hSw); go_simp; rfl
                    simp only [Act.put, List.setIfInBounds_toArray, List.set_cons_zero, List.set_cons_succ]
                    refine wpAnyT_take (i := 6) (v := ?_) rfl (by kernel_rfl) (by kernel_rfl) (by kernel_rfl) (by kernel_rfl) (fun _ _ _ h => h) (by rfl) ?_ hS ?_
                    rotate_left
                    · intro w hSw; (try dsimp only at hSw); go_simp; rfl
                    simp only [Act.put, List.setIfInBounds_toArray, List.set_cons_zero, List.set_cons_succ]
                    refine wpAnyT_take (i := 7) (v := ?_) rfl (by kernel_rfl) (by kernel_rfl) (by kernel_rfl) (by kernel_rfl) (fun _ _ _ h => h) (by rfl) ?_ hS ?_
                    rotate_left
                    · intro w hSw; (try dsimp only at hSw); go_simp; rfl
                    simp only [Act.put, List.setIfInBounds_toArray, List.set_cons_zero, List.set_cons_succ]
                    refine wpAnyT_take (i := 8) (v := ?_) rfl (by kernel_rfl) (by kernel_rfl) (by kernel_rfl) (by kernel_rfl) (fun _ _ _ h => h) (by rfl) ?_ hS ?_
                    rotate_left
                    · intro w hSw; (try dsimp only at hSw); go_simp; rfl
                    simp only [Act.put, List.setIfInBounds_toArray, List.set_cons_zero, List.set_cons_succ]
                    refine wpAnyT_take (i := 9) (v := ?_) rfl (by kernel_rfl) (by kernel_rfl) (by kernel_rfl) (by kernel_rfl) (fun _ _ _ h => h) (by rfl) ?_ hS ?_
                    rotate_left
                    · intro w hSw; (try dsimp only at hSw); go_simp; rfl
                    simp only [Act.put, List.setIfInBounds_toArray, List.set_cons_zero, List.set_cons_succ]
                    refine wpAnyT_take (i := 10) (v := ?_) rfl (by kernel_rfl) (by kernel_rfl) (by kernel_rfl) (by kernel_rfl) (fun _ _ _ h => h) (by rfl) ?_ hS ?_
                    rotate_left
                    · intro w hSw; (try dsimp only at hSw); go_simp; rfl
                    simp only [Act.put, List.setIfInBounds_toArray, List.set_cons_zero, List.set_cons_succ]
                    refine wpAnyT_take (i := 11) (v := ?_) rfl (by kernel_rfl) (by kernel_rfl) (by kernel_rfl) (by kernel_rfl) (fun _ _ _ h => h) (by rfl) ?_ hS ?_
                    rotate_left
                    · intro w hSw; (try dsimp only at hSw); go_simp; rfl
                    simp only [Act.put, List.setIfInBounds_toArray, List.set_cons_zero, List.set_cons_succ]
                    refine wpAnyT_one (i := 12) (by kernel_rfl) rfl (fun K' hK => ?_)
                    rw [if_pos (by rfl)]
                    go_simp
                    refine hK _ _ (fun h => absurd rfl h) ?_
                    clear hK K'
                    refine wpAnyT_done (by kernel_rfl) ?_
                    clear hS y0 y1 y2 yu yt ft
                    go_wp2_with fail
                    exact ⟨⟨true, i2 + 1, _, rfl, by go_num, unhide Hle, hset, hide (unhide (unhide Hput ⟨d1, d2⟩)).1, hide (unhide (unhide Hput ⟨d1, d2⟩)).2, tr8⟩, by have := unhide Hle; simp [intOf]; omega⟩
                  · have e2 : decide (xu + y < xt) = false := decide_eq_false d2
                    refine wp_region_after (by kernel_rfl) (by kernel_rfl) ?_
                    repeat (go_big_quiet_step (fail))
                    refine wpQuiet_nil ?_
                    rintro _ ⟨p, rfl⟩
                    have tr6 := tr5.then (p.turn.mono (fun _ h => h.elim))
                    have hO6 := hOX.turn p.turn (fun h => h)
                    go_wp2_with fail
                    exact ⟨⟨less, i2 + 1, M, rfl, by go_num, unhide Hle, hO6, hBF5, unhide Hkeep (fun h => d2 h.2), tr6⟩, by have := unhide Hle; simp [intOf]; omega⟩
                · have e1 : decide (xu < 1152921504606846976) = false := decide_eq_false d1
                  refine wp_region_after (by kernel_rfl) (by kernel_rfl) ?_
                  repeat (go_big_quiet_step (fail))
                  refine wpQuiet_nil ?_
                  rintro _ ⟨p, rfl⟩
                  have tr6 := tr5.then (p.turn.mono (fun _ h => h.elim))
                  have hO6 := hOX.turn p.turn (fun h => h)
                  go_wp2_with fail
                  exact ⟨⟨less, i2 + 1, M, rfl, by go_num, unhide Hle, hO6, hBF5, unhide Hkeep (fun h => d1 h.1), tr6⟩, by have := unhide Hle; simp [intOf]; omega⟩
              · obtain rfl : i2 = l.length := by omega
                rw [List.take_length] at hRnd
                have tr5 := tr.then t5
                have i2l : ¬ (l.length : Int) < (l.length : Int) := by omega
                cases less
                · have hML := (unhide hRnd).same rfl
                  subst hML
                  have hds : Hid (IsDs k (goesF l) (v' : Int) M) := hide ((unhide hBF5).fix (unhide HE) (fun u t y h => (unhide hRnd).arcs _ h))
                  have T5 : Hid (Turn (fun _ => False) w wr ∧ w.heap.size ≤ db) := hide ⟨(T3.trans tr5 (fun j hj => .inr (by have := unhide Hnb; omega))), by have := unhide Hnb; omega⟩
                  clear hRnd tr5 hi2
                  go_wp2_with fail
                  go_ret
                  first | exact ⟨db, _, rfl, hO5, (unhide T5).2, unhide hds, (unhide T5).1⟩ | exact ⟨db, rfl, _, hO5, (by have := (unhide T5).2; have := unhide Hnb; omega), unhide hds, (unhide T5).1⟩
                · have hLev2 := hide (lev_step (unhide HE) (unhide Hg).2.2 (unhide Hg).2.1 (unhide HD) (unhide hBF5) (unhide hRnd) (fun u t y h => h) (unhide hLev))
                  go_wp2_with fail
                  exact ⟨⟨j + 1, M, by go_num, by omega, hO5, hBF5, hLev2, tr5⟩, by simp [intOf]; omega⟩
          · obtain rfl : j = k := by omega
            have hds : Hid (IsDs j (goesF l) (v' : Int) L) := hide (lev_all (unhide HE) (unhide HD) (unhide hBF) (unhide hLev))
            have T5 : Hid (Turn (fun _ => False) w w4 ∧ w.heap.size ≤ db) := hide ⟨(T3.trans tr (fun j hj => .inr (by have := unhide Hnb; omega))), by have := unhide Hnb; omega⟩
            go_wp2_with fail
            go_ret
            first | exact ⟨db, _, rfl, hO, (unhide T5).2, unhide hds, (unhide T5).1⟩ | exact ⟨db, rfl, _, hO, (by have := (unhide T5).2; have := unhide Hnb; omega), unhide hds, (unhide T5).1⟩
      · have hds := isDs_none (unhide HE) hv
        by_cases c1 : v < 0
        · go_wp2_with fail
          go_ret
          first | exact ⟨db, _, rfl, hO, by omega, hds, T2⟩ | exact ⟨db, rfl, _, hO, by omega, hds, T2⟩
        · have c2 : ¬ v < (k : Int) := by omega
          have c3 : (k : Int) ≤ v := by omega
          go_wp2_with fail
          go_ret
          first | exact ⟨db, _, rfl, hO, by omega, hds, T2⟩ | exact ⟨db, rfl, _, hO, by omega, hds, T2⟩
end Go.Proofs.Ytombpfpfeebnpaa
