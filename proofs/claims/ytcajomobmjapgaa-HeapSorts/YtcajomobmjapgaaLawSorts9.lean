/- HeapSorts: things that are pushed in any order come by rising ranks. -/
import Derived.Test.YtcajomobmjapgaaHFirsts
import Derived.Deep.RegionHeld3
namespace Go.Proofs.Ytcajomobmjapgaa
open Go.RowKit Go.Maps
set_option linter.unusedVariables false
set_option linter.unusedSimpArgs false

set_option maxRecDepth 100000 in
set_option maxHeartbeats 8000000 in
theorem sorts_walk (w : World) (v : Value) (zs : List Int) (hr : Row .i64 any w v zs) (hwf : ∀ n ∈ zs, (Lit.int .i64 n).wf = true) :
    Calls Try.prog 4 #[v] w fun e w' => e = .returned (.bool true) ∧ Turn (fun _ => False) w w' := by
  obtain ⟨a, c, rfl⟩ := hr.slice
  obtain ⟨n, hn⟩ : ∃ n, n = min zs.length 200 := ⟨_, rfl⟩
  obtain ⟨m, hm⟩ : ∃ m, m = max n 1 := ⟨_, rfl⟩
  have hmi : (if 200 < (zs.length : Int) then (200 : Int) else (zs.length : Int)) = (n : Int) := by split <;> omega
  have hmm : (if (n : Int) < 1 then (1 : Int) else (n : Int)) = (m : Int) := by split <;> omega
  have hnz : n ≤ zs.length := by omega
  have hn2 : n ≤ 200 := by omega
  have hm1 : 1 ≤ m := by omega
  have hm2 : m ≤ 200 := by omega
  have hnm : n ≤ m := by omega
  clear hn hm
  go_enter Try.func4, Try.ntmps4
  go_wp2_with fail
  refine (newH _ m (by omega) (by omega)).mono ?_
  rintro e w1 ⟨B, rfl, t1, hB, h1⟩
  go_wp2_with fail
  refine (awake_walk _).mono ?_
  rintro e w2 ⟨rfl, t2⟩
  have h2 := h1.quiet t2
  have T2 : Turn (fun j => w.heap.size ≤ j) w w2 := (t1.then t2).mono (fun _ h => h.elim)
  have hrow : ∀ u : World, Turn (fun j => w.heap.size ≤ j) w u → Row .i64 any u (.slice a zs.length c) zs := fun u tu => (hr.lt.turn tu (fun b hb => by have := hb.2; omega)).mono (fun _ _ => trivial)
  clear h1 t1 t2 hmi hmm hr
  go_wp2_with fail
  go_loopw [6] (fun i wr => ∃ (k : Nat) (T : List It), i = .int .i64 (k : Int) ∧ k ≤ n ∧ HAt wr B m (fun j => w.heap.size ≤ j) T ∧ T.length = k ∧ Hid (Firsts zs k T) ∧ Turn (fun j => w.heap.size ≤ j) w wr) (fun i _ => n - (intOf i).toNat)
  case atStart => exact ⟨0, [], rfl, Nat.zero_le _, h2, rfl, hide (firsts_nil zs), T2⟩
  case round =>
    obtain ⟨k, T, rfl, hk, hH, hl, hF, tr⟩ := hrel
    by_cases hkn : k < n
    · have hkz : k < zs.length := by omega
      obtain ⟨r, hzr⟩ : ∃ r, zs[k]? = some r := ⟨zs[k], by simp [hkz]⟩
      have hcell : ∃ b off, a = some ⟨b, off, none⟩ ∧ wr.cell? ⟨b, off + k, none⟩ = some (.int .i64 r) := by
        rcases hrow wr tr with ⟨_, _, hv, _, _, rfl⟩ | ⟨b, off, c', hv, _, _, _, hc⟩
        · simp at hkz
        · simp only [Value.slice.injEq] at hv
          refine ⟨b, off, hv.1, ?_⟩
          rw [hc k hkz]
          rw [show zs.getD k 0 = r by rw [List.getD_eq_getElem?_getD, hzr]; rfl]
      obtain ⟨b, off, rfl, hc⟩ := hcell
      have hp := push_ok hH (fun j hj => Nat.le_trans tr.size hj) k r (by omega) (fun q hm => by have := ((unhide hF) _).1 hm; simp at this)
      have Hzr := hide hzr
      clear hzr
      go_wp2_with fail
      refine hp.mono ?_
      rintro e w3 ⟨rfl, t3, T', h3, l3, m3⟩
      have F3 := hide ((unhide hF).push (unhide Hzr) m3)
      clear m3 hp
      go_wp2_with fail
      exact ⟨⟨k + 1, T', by go_num, by omega, h3, by omega, F3, tr.then t3⟩, by simp [intOf]; omega⟩
    · obtain rfl : k = n := by omega
      have hO := hH.old.quiet ((Turn.refl (fun _ => False) wr).alloc (.cells #[.int .i64 (-1), .int .i64 0] 36))
      have k7 : (wr.alloc (.cells #[.int .i64 (-1), .int .i64 0] 36)).heap[wr.heap.size]? = some (.cells #[.int .i64 (-1), .int .i64 0] 36 (0, 0)) := heap_alloc_new wr _
      have tv := tr.alloc (.cells #[.int .i64 (-1), .int .i64 0] 36)
      have hb7 := tr.size
      have hO2 := hO.mono (G := fun j => w.heap.size ≤ j ∧ j ≠ wr.heap.size) (fun j hj => ⟨hj.1, by omega⟩)
      have hall : Hid (∀ u ∈ T, u.1 < k ∧ zs[u.1]? = some u.2) := hide (fun u hu => ((unhide hF) u).1 hu)
      clear hO hH tr h2 T2 hF
      go_wp2_with fail
      generalize wr.alloc (.cells #[.int .i64 (-1), .int .i64 0] 36) = v0 at *
      generalize wr.heap.size = b7 at *
      go_loopw [8] (fun i wr => ∃ (k' : Nat) (T : List It) (p q : Int), i = .int .i64 (k' : Int) ∧ k' ≤ k ∧ HAt wr B m (fun j => w.heap.size ≤ j ∧ j ≠ b7) T ∧ T.length + k' = k ∧ Hid (∀ u ∈ T, u.1 < k ∧ zs[u.1]? = some u.2) ∧ Hid (0 < k' → ∃ l : It, p = (l.1 : Int) ∧ q = l.2 ∧ ∀ u ∈ T, bef l u) ∧ wr.heap[b7]? = some (.cells #[.int .i64 p, .int .i64 q] 36 (0, 0)) ∧ Turn (fun j => w.heap.size ≤ j) w wr) (fun i _ => k - (intOf i).toNat)
      case atStart => exact ⟨0, T, -1, 0, rfl, Nat.zero_le _, hO2, by omega, hall, hide (fun h => by omega), k7, tv⟩
      case round =>
        clear hall hO2 k7 tv hl
        clear T
        obtain ⟨k', T, p, q, rfl, hk', hH, hl, hall, hlast, k7, tr⟩ := hrel
        by_cases hkn : k' < k
        · go_wp2_with fail
          refine (popH hH).mono ?_
          rintro e w3 ⟨t3, ⟨rfl, _⟩ | ⟨x, T', hx, hmin, h3, hl3, rfl⟩⟩
          · simp at hl; omega
          have hxa := unhide hall x hx
          have hxn := hxa.1
          have tr3 := tr.then (t3.mono (fun _ h => h.1))
          have hcell : ∃ b off, a = some ⟨b, off, none⟩ ∧ w3.cell? ⟨b, off + x.1, none⟩ = some (.int .i64 x.2) := by
            rcases hrow w3 tr3 with ⟨_, _, hv, _, _, rfl⟩ | ⟨b, off, c', hv, _, _, _, hc⟩
            · simp at hnz; omega
            · simp only [Value.slice.injEq] at hv
              refine ⟨b, off, hv.1, ?_⟩
              rw [hc x.1 (by omega)]
              rw [show zs.getD x.1 0 = x.2 by rw [List.getD_eq_getElem?_getD, hxa.2]; rfl]
          obtain ⟨b, off, rfl, hc⟩ := hcell
          have hxz : x.1 < zs.length := by omega
          have k73 := t3.same k7 (fun h => h.2 rfl)
          have ta := (Turn.refl (fun _ => False) w3).alloc (.cells #[.int .i64 (x.1 : Int), .int .i64 x.2] 36)
          have k9 : (w3.alloc (.cells #[.int .i64 (x.1 : Int), .int .i64 x.2] 36)).heap[w3.heap.size]? = some (.cells #[.int .i64 (x.1 : Int), .int .i64 x.2] 36 (0, 0)) := heap_alloc_new w3 _
          have k74 := ta.same k73 (fun h => h)
          have hc4 := ta.cell hc (fun h => h)
          have h4 := h3.quiet ta
          have tr4 := tr3.then (ta.mono (fun _ h => h.elim))
          have hb9 : w3.heap.size ≠ b7 := by have := (Array.getElem?_eq_some_iff.1 k73).1; omega
          have hmin' : Hid (∀ u ∈ T', bef x u) := hide (fun u hu => by
            have h1 := ((hl3.2 u).1 hu)
            by_cases hb : bef x u
            · exact hb
            · exact absurd (bef_total hb (hmin u h1.1)) (fun e => h1.2 (by rw [e])))
          have hall' : Hid (∀ u ∈ T', u.1 < k ∧ zs[u.1]? = some u.2) := hide (fun u hu => unhide hall u ((hl3.2 u).1 hu).1)
          have hlen' := hl3.1
          have hlx : Hid (0 < k' → ∃ l : It, p = (l.1 : Int) ∧ q = l.2 ∧ bef l x) := hide (fun h0 => by
            obtain ⟨l, e1, e2, e3⟩ := unhide hlast h0
            exact ⟨l, e1, e2, e3 x hx⟩)
          clear t3 tr3 hc k73 h3 ta hmin hl3 hxa hx hall hlast hH tr k7
          unfold itV
          go_wp2_with fail
          generalize w3.alloc (.cells #[.int .i64 (x.1 : Int), .int .i64 x.2] 36) = v4 at *
          generalize w3.heap.size = b9 at *
          have x0 : v4.cell? ⟨b9, 0, none⟩ = some (.int .i64 (x.1 : Int)) := cell_obj k9 0
          have x1 : v4.cell? ⟨b9, 1, none⟩ = some (.int .i64 x.2) := cell_obj k9 1
          have l0 : v4.cell? ⟨b7, 0, none⟩ = some (.int .i64 p) := cell_obj k74 0
          have l1 : v4.cell? ⟨b7, 1, none⟩ = some (.int .i64 q) := cell_obj k74 1
          have nk : ¬ k ≤ x.1 := by omega
          have nx0 : decide ((x.1 : Int) < 0) = false := decide_eq_false (by omega)
          have fin : ∀ (v5 : World), Turn (fun _ => False) v4 v5 → v5.heap[b7]? = some (.cells #[.int .i64 p, .int .i64 q] 36 (0, 0)) ∧ v5.cell? ⟨b9, 0, none⟩ = some (.int .i64 (x.1 : Int)) ∧ v5.cell? ⟨b9, 1, none⟩ = some (.int .i64 x.2) := fun v5 t5 => ⟨t5.same k74 (fun h => h), t5.cell x0 (fun h => h), t5.cell x1 (fun h => h)⟩
          by_cases h0 : 0 < k'
          · obtain ⟨l, rfl, rfl, hbl⟩ := unhide hlx h0
            have e1 : decide (x.2 < l.2) = false := decide_eq_false (by unfold bef at hbl; omega)
            by_cases heq : x.2 = l.2
            · have e2 : (x.2 == l.2) = true := by simpa using heq
              have e3 : ¬ x.1 ≤ l.1 := by unfold bef at hbl; omega
              clear heq hbl
              go_quiet (fail)
              obtain ⟨k75, y0, y1⟩ := fin (v4.drewN nq) ((Turn.refl (fun _ => False) v4).drewN nq)
              have T5 := tr4.then (((Turn.refl (fun _ => False) v4).drewN nq).mono (fun _ h => h.elim))
              have h5 := h4.quiet ((Turn.refl (fun _ => False) v4).drewN nq)
              generalize v4.drewN nq = v5 at *
              have m0 : v5.cell? ⟨b7, 0, none⟩ = some (.int .i64 (l.1 : Int)) := cell_obj k75 0
              have m1 : v5.cell? ⟨b7, 1, none⟩ = some (.int .i64 l.2) := cell_obj k75 1
              have z0 : v5.frozen? ⟨b7, 0, none⟩ = false := frozen_obj k75 _
              have z1 : v5.frozen? ⟨b7, 1, none⟩ = false := frozen_obj k75 _
              have k76 := heap_setCell_obj (j := 1) (heap_setCell_obj (j := 0) k75 (.int .i64 (x.1 : Int))) (.int .i64 x.2)
              have T6' : Turn (fun j => j = b7) v5 ((v5.setCell ⟨b7, 0, none⟩ (.int .i64 (x.1 : Int))).setCell ⟨b7, 1, none⟩ (.int .i64 x.2)) := (((Turn.refl (fun j => j = b7) v5).setCell (p := ⟨b7, 0, none⟩) (.inl rfl) _).setCell (p := ⟨b7, 1, none⟩) (.inl rfl) _)
              have h6 := h5.turn T6' (fun j hj e => hj.2 e)
              have T6 := T5.then (T6'.mono (fun j hj => by rw [hj]; exact hb7))
              clear fin x0 x1 l0 l1 k9 k74 hc4 h4 tr4 T6' h5 T5
              go_wp2_with fail
              refine ⟨⟨k' + 1, T', (x.1 : Int), x.2, by go_num, by omega, h6, by omega, hall', hide (fun _ => ⟨x, rfl, rfl, unhide hmin'⟩), k76, T6⟩, by simp [intOf]; omega⟩
            · have e2 : (x.2 == l.2) = false := by simpa using heq
              clear heq hbl
              go_quiet (fail)
              obtain ⟨k75, y0, y1⟩ := fin (v4.drewN nq) ((Turn.refl (fun _ => False) v4).drewN nq)
              have T5 := tr4.then (((Turn.refl (fun _ => False) v4).drewN nq).mono (fun _ h => h.elim))
              have h5 := h4.quiet ((Turn.refl (fun _ => False) v4).drewN nq)
              generalize v4.drewN nq = v5 at *
              have m0 : v5.cell? ⟨b7, 0, none⟩ = some (.int .i64 (l.1 : Int)) := cell_obj k75 0
              have m1 : v5.cell? ⟨b7, 1, none⟩ = some (.int .i64 l.2) := cell_obj k75 1
              have z0 : v5.frozen? ⟨b7, 0, none⟩ = false := frozen_obj k75 _
              have z1 : v5.frozen? ⟨b7, 1, none⟩ = false := frozen_obj k75 _
              have k76 := heap_setCell_obj (j := 1) (heap_setCell_obj (j := 0) k75 (.int .i64 (x.1 : Int))) (.int .i64 x.2)
              have T6' : Turn (fun j => j = b7) v5 ((v5.setCell ⟨b7, 0, none⟩ (.int .i64 (x.1 : Int))).setCell ⟨b7, 1, none⟩ (.int .i64 x.2)) := (((Turn.refl (fun j => j = b7) v5).setCell (p := ⟨b7, 0, none⟩) (.inl rfl) _).setCell (p := ⟨b7, 1, none⟩) (.inl rfl) _)
              have h6 := h5.turn T6' (fun j hj e => hj.2 e)
              have T6 := T5.then (T6'.mono (fun j hj => by rw [hj]; exact hb7))
              clear fin x0 x1 l0 l1 k9 k74 hc4 h4 tr4 T6' h5 T5
              go_wp2_with fail
              refine ⟨⟨k' + 1, T', (x.1 : Int), x.2, by go_num, by omega, h6, by omega, hall', hide (fun _ => ⟨x, rfl, rfl, unhide hmin'⟩), k76, T6⟩, by simp [intOf]; omega⟩
          · obtain rfl : k' = 0 := by omega
            clear h0
            rw [show (((0 : Nat) : Int)) = 0 from rfl]
            go_quiet (fail)
            obtain ⟨k75, y0, y1⟩ := fin (v4.drewN nq) ((Turn.refl (fun _ => False) v4).drewN nq)
            have T5 := tr4.then (((Turn.refl (fun _ => False) v4).drewN nq).mono (fun _ h => h.elim))
            have h5 := h4.quiet ((Turn.refl (fun _ => False) v4).drewN nq)
            generalize v4.drewN nq = v5 at *
            have m0 : v5.cell? ⟨b7, 0, none⟩ = some (.int .i64 p) := cell_obj k75 0
            have m1 : v5.cell? ⟨b7, 1, none⟩ = some (.int .i64 q) := cell_obj k75 1
            have z0 : v5.frozen? ⟨b7, 0, none⟩ = false := frozen_obj k75 _
            have z1 : v5.frozen? ⟨b7, 1, none⟩ = false := frozen_obj k75 _
            have k76 := heap_setCell_obj (j := 1) (heap_setCell_obj (j := 0) k75 (.int .i64 (x.1 : Int))) (.int .i64 x.2)
            have T6' : Turn (fun j => j = b7) v5 ((v5.setCell ⟨b7, 0, none⟩ (.int .i64 (x.1 : Int))).setCell ⟨b7, 1, none⟩ (.int .i64 x.2)) := (((Turn.refl (fun j => j = b7) v5).setCell (p := ⟨b7, 0, none⟩) (.inl rfl) _).setCell (p := ⟨b7, 1, none⟩) (.inl rfl) _)
            have h6 := h5.turn T6' (fun j hj e => hj.2 e)
            have T6 := T5.then (T6'.mono (fun j hj => by rw [hj]; exact hb7))
            clear fin x0 x1 l0 l1 k9 k74 hc4 h4 tr4 T6' h5 T5
            go_wp2_with fail
            refine ⟨⟨0 + 1, T', (x.1 : Int), x.2, by go_num, by omega, h6, by omega, hall', hide (fun _ => ⟨x, rfl, rfl, unhide hmin'⟩), k76, T6⟩, by simp [intOf]; omega⟩
        · obtain rfl : k' = k := by omega
          obtain rfl : T = [] := List.eq_nil_of_length_eq_zero (by omega)
          have hH' : HAt wr B m (fun j => w.heap.size ≤ j) [] := hH.mono (fun j hj => hj.1)
          have hl0 : ∀ u : World, HAt u B m (fun j => w.heap.size ≤ j) [] → Calls Try.prog 16 #[.pointer (some ⟨B, 0, none⟩)] u fun e w' => e = .returned (.int .i64 0) ∧ w' = u := fun u hu => lenH hu
          go_wp2_with fail
          refine (pop_empty hH').mono ?_
          rintro e w3 ⟨rfl, t3, h3⟩
          have h4 := hl0 _ (h3.quiet ((Turn.refl (fun _ => False) w3).alloc (.cells #[.int .i64 0, .int .i64 0] 36)))
          have T4 := ((tr.then t3).fresh (fun j hj => hj)).alloc (.cells #[.int .i64 0, .int .i64 0] 36)
          unfold itV
          clear hl0 hlast hall
          go_wp2_with (go_at_call 16; refine h4.mono ?_; rintro e w5 ⟨rfl, rfl⟩)
          go_ret
          exact ⟨rfl, T4⟩
theorem HeapSorts_law (w : World) (v : Value) (zs : List Int) (hr : Row .i64 any w v zs) (hwf : ∀ n ∈ zs, (Lit.int .i64 n).wf = true) (hz : zs.length * 8 ≤ 140737488351232) :
    Calls Try.prog 4 #[v] w fun e w' => e = .returned (.bool true) ∧ Below w.heap.size w w' :=
  (sorts_walk w v zs hr hwf).mono (fun e w' h => ⟨h.1, h.2.bel⟩)
end Go.Proofs.Ytcajomobmjapgaa
