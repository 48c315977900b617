/- The reference's order: less, Sorted (by halves). -/
import Derived.Test.YtombpfpfeebnpaaGNets
import Derived.Deep.RegionHeld3
import Derived.Deep.CutBlock
namespace Go.Proofs.Ytombpfpfeebnpaa
open Go.RowKit Go.Maps
set_option linter.unusedVariables false
set_option linter.unusedSimpArgs false
set_option maxRecDepth 100000

set_option maxHeartbeats 2000000 in
theorem less_walk (a b : Ar) (w : World) : Calls Try.prog 54 #[arV a, arV b] w fun e w' => e = .returned (.bool (decide (ltA a b))) ∧ Turn (fun _ => False) w w' := by
  obtain ⟨f, t, v⟩ := a
  obtain ⟨f', t', v'⟩ := b
  unfold arV
  simp only
  obtain ⟨D, hD⟩ : ∃ D, D = decide (ltA (f, t, v) (f', t', v')) := ⟨_, rfl⟩
  rw [← hD]
  rcases ltA_cases f t v f' t' v' with ⟨h, h'⟩ | ⟨h, h', hl⟩ | ⟨h, h', hl⟩ | ⟨h, h', hl⟩
  · have Hd := hide (hD.trans (decide_eq_true h'))
    clear h' hD
    go_enter Try.func54, Try.ntmps54
    go_wp2
    go_ret
    exact ⟨ret_bool (unhide Hd).symm, ((Turn.refl _ _).alloc _).alloc _⟩
  · have Hd := hide (hD.trans (decide_eq_true hl))
    clear hl hD
    go_enter Try.func54, Try.ntmps54
    go_wp2
    go_ret
    exact ⟨ret_bool (unhide Hd).symm, ((Turn.refl _ _).alloc _).alloc _⟩
  · have Hd := hide (hD.trans (decide_eq_false hl))
    have nl1 : ¬ f < f' := fun h => hl (.inl h)
    have nl2 : f = f' → ¬ t < t' := fun e h => hl (.inr ⟨e, h⟩)
    have nl3 := fun e => nl2 e
    clear hl hD
    go_enter Try.func54, Try.ntmps54
    go_wp2
    go_ret
    exact ⟨ret_bool (unhide Hd).symm, ((Turn.refl _ _).alloc _).alloc _⟩
  · have Hd := hide (hD.trans (decide_eq_false hl))
    have nl1 : ¬ f < f' := fun h => hl (.inl h)
    have nl2 : f = f' → ¬ t < t' := fun e h => hl (.inr ⟨e, h⟩)
    have nl3 := fun e => nl2 e
    clear hl hD
    go_enter Try.func54, Try.ntmps54
    go_wp2
    go_ret
    exact ⟨ret_bool (unhide Hd).symm, ((Turn.refl _ _).alloc _).alloc _⟩

/-- append of one arc onto a slice of one's own -/
theorem append_arc {w : World} {v : Value} {l : List Ar} (h : OA w v l) (a : Ar) (hm : l.length ≤ 5864062014790) :
    ∃ v' w', (Builtin.append_ #[22, 22] 22 #[v, .slice (some ⟨w.heap.size, 0, none⟩) 1 1]).run Try.prog (w.alloc (.cells #[.int .i64 a.1, .int .i64 a.2.1, .int .i64 a.2.2] 46)) = .ok v' w' ∧ OA w' v' (l ++ [a]) ∧ Turn (fun j => v.ownBlock = some j) w w' ∧ (∀ j, v'.ownBlock = some j → v.ownBlock = some j ∨ w.heap.size ≤ j) := by
  have t0 := (Turn.refl (fun _ => False) w).alloc (.cells #[.int .i64 a.1, .int .i64 a.2.1, .int .i64 a.2.2] 46)
  obtain ⟨v', w', h1, h2, h3, h4⟩ := append_arcs (h.turn t0 (fun _ _ h => h)) (src_one w a) (by simp; omega)
  refine ⟨v', w', h1, h2, (t0.mono (fun _ h => h.elim)).then h3, fun j hj => ?_⟩
  rcases h4 j hj with h | h
  · exact .inl h
  · have := t0.size; exact .inr (by omega)

theorem ar_unique {B B' : Nat → Prop} {w : World} {v : Value} {l m : List Ar} (h : AR B w v l) (k : AR B' w v m) : l = m := by
  obtain ⟨a, c, e1⟩ := h.slice
  obtain ⟨a', c', e2⟩ := k.slice
  rw [e1] at e2
  simp only [Value.slice.injEq] at e2
  by_cases h0 : 0 < l.length
  · obtain ⟨b, off, c1, e3, _, q⟩ := h.form h0
    obtain ⟨b', off', c2, e4, _, q'⟩ := k.form (by omega)
    rw [e3] at e4
    simp only [Value.slice.injEq, Option.some.injEq, Addr.mk.injEq, and_true] at e4
    obtain ⟨⟨rfl, rfl⟩, _⟩ := e4
    refine eq_of_at l m e2.2.1 (fun j x y hj hx hy => ?_)
    obtain ⟨a1, a2, a3⟩ := q j x hx
    obtain ⟨b1, b2, b3⟩ := q' j y hy
    rw [a1] at b1; rw [a2] at b2; rw [a3] at b3
    obtain ⟨x1, x2, x3⟩ := x
    obtain ⟨y1, y2, y3⟩ := y
    simp at b1 b2 b3
    rw [b1, b2, b3]
  · have h1 := List.eq_nil_of_length_eq_zero (show l.length = 0 by omega)
    have h2 := List.eq_nil_of_length_eq_zero (show m.length = 0 by omega)
    rw [h1, h2]

/-- so far merged -/
def Merged (A B O : List Ar) (i k : Nat) : Prop := mergeA A B = O ++ mergeA (A.drop i) (B.drop k)
theorem merged_nil (A B : List Ar) : Merged A B [] 0 0 := by simp [Merged]
theorem Merged.left {A B O : List Ar} {i k : Nat} {x y : Ar} (h : Merged A B O i k) (hx : A[i]? = some x) (hy : B[k]? = some y) (hl : ¬ ltA y x) : Merged A B (O ++ [x]) (i + 1) k := by
  obtain ⟨h1, rfl⟩ := List.getElem?_eq_some_iff.1 hx
  obtain ⟨h2, rfl⟩ := List.getElem?_eq_some_iff.1 hy
  unfold Merged at *
  rw [h, List.drop_eq_getElem_cons h1, List.drop_eq_getElem_cons h2, mergeA_cons, if_neg hl]
  simp
theorem Merged.right {A B O : List Ar} {i k : Nat} {x y : Ar} (h : Merged A B O i k) (hx : A[i]? = some x) (hy : B[k]? = some y) (hl : ltA y x) : Merged A B (O ++ [y]) i (k + 1) := by
  obtain ⟨h1, rfl⟩ := List.getElem?_eq_some_iff.1 hx
  obtain ⟨h2, rfl⟩ := List.getElem?_eq_some_iff.1 hy
  unfold Merged at *
  rw [h, List.drop_eq_getElem_cons h1, List.drop_eq_getElem_cons h2, mergeA_cons, if_pos hl]
  simp
theorem Merged.leftOnly {A B O : List Ar} {i k : Nat} {x : Ar} (h : Merged A B O i k) (hx : A[i]? = some x) (hk : B.length ≤ k) : Merged A B (O ++ [x]) (i + 1) k := by
  obtain ⟨h1, rfl⟩ := List.getElem?_eq_some_iff.1 hx
  unfold Merged at *
  rw [h, List.drop_of_length_le hk, mergeA_none, mergeA_none, List.drop_eq_getElem_cons h1]
  simp
theorem Merged.rightOnly {A B O : List Ar} {i k : Nat} {y : Ar} (h : Merged A B O i k) (hy : B[k]? = some y) (hi : A.length ≤ i) : Merged A B (O ++ [y]) i (k + 1) := by
  obtain ⟨h1, rfl⟩ := List.getElem?_eq_some_iff.1 hy
  unfold Merged at *
  rw [h, List.drop_of_length_le hi, mergeA_nil, mergeA_nil, List.drop_eq_getElem_cons h1]
  simp
theorem Merged.all {A B O : List Ar} {i k : Nat} (h : Merged A B O i k) (hi : A.length ≤ i) (hk : B.length ≤ k) : mergeA A B = O := by
  unfold Merged at h
  rw [h, List.drop_of_length_le hi, List.drop_of_length_le hk, mergeA_nil]
  simp
theorem Merged.len {A B O : List Ar} {i k : Nat} (h : Merged A B O i k) : O.length ≤ A.length + B.length := by
  have h1 := (mergeA_perm _ A B rfl).length_eq
  unfold Merged at h
  rw [h] at h1
  simp at h1
  omega

set_option maxHeartbeats 2000000 in
theorem sorted_short (w : World) (v : Value) (l : List Ar) (h2 : l.length < 2) (hr : AR any w v l) :
    Calls Try.prog 40 #[v] w fun e w' => ∃ x, e = .returned x ∧ OA w' x (sortA l) ∧ Turn (fun _ => False) w w' ∧ ∀ j, x.ownBlock = some j → w.heap.size ≤ j := by
  rw [sortA_short h2]
  obtain ⟨x, w2, hrun, O2, t2, own2⟩ := append_arcs (oa_none w) hr.src (by simp; omega)
  have T2 : Turn (fun _ => False) w w2 := t2.mono (fun j hj => by simp [Value.ownBlock] at hj)
  have Own : Hid (∀ j, x.ownBlock = some j → w.heap.size ≤ j) := hide (fun j hj => by
    rcases own2 j hj with h | h
    · simp [Value.ownBlock] at h
    · exact h)
  obtain ⟨a, c, rfl⟩ := hr.slice
  clear own2 t2 hr
  go_enter Try.func40, Try.ntmps40
  go_wp2_with (at_builtin; refine list_append_run rfl _ _ 22 rfl _ _ _ _ rfl rfl hrun ?_)
  go_ret
  exact ⟨x, rfl, by simpa using O2, T2, unhide Own⟩

set_option maxHeartbeats 8000000 in
theorem sorted_walk : ∀ (n : Nat) (w : World) (v : Value) (l : List Ar), l.length ≤ n → l.length ≤ 1000000 → AR any w v l →
    Calls Try.prog 40 #[v] w fun e w' => ∃ x, e = .returned x ∧ OA w' x (sortA l) ∧ Turn (fun _ => False) w w' ∧ ∀ j, x.ownBlock = some j → w.heap.size ≤ j := by
  intro n
  induction n with
  | zero =>
    intro w v l hn hl hr
    exact sorted_short w v l (by omega) hr
  | succ n ih =>
    intro w v l hn hl hr
    by_cases h2 : l.length < 2
    · exact sorted_short w v l h2 hr
    · rw [sortA_long h2]
      obtain ⟨x1, hx1, A1⟩ := ar_to (ki := .i64) hr (l.length / 2) (by omega)
      obtain ⟨x2, hx2, A2⟩ := ar_from (ki := .i64) hr (l.length / 2) (by omega)
      have ihc : ∀ (u : World) (y : Value), Turn (fun _ => False) w u → (y = x1 ∨ y = x2) → Calls Try.prog 40 #[y] u fun e w' => ∃ x, e = .returned x ∧ (y = x1 → OA w' x (sortA (l.take (l.length / 2)))) ∧ (y = x2 → OA w' x (sortA (l.drop (l.length / 2)))) ∧ Turn (fun _ => False) u w' ∧ ∀ j, x.ownBlock = some j → u.heap.size ≤ j := by
        intro u y t hy
        have B1 := A1.quiet t
        have B2 := A2.quiet t
        have key : ∀ m : List Ar, AR any u y m → m.length ≤ n → m.length ≤ 1000000 → Calls Try.prog 40 #[y] u fun e w' => ∃ x, e = .returned x ∧ (y = x1 → OA w' x (sortA (l.take (l.length / 2)))) ∧ (y = x2 → OA w' x (sortA (l.drop (l.length / 2)))) ∧ Turn (fun _ => False) u w' ∧ ∀ j, x.ownBlock = some j → u.heap.size ≤ j := by
          intro m hm hmn hm1
          refine (ih u y m hmn hm1 hm).mono ?_
          rintro e w' ⟨x, rfl, h1, h2, h3⟩
          refine ⟨x, rfl, fun e => ?_, fun e => ?_, h2, h3⟩
          · subst e; rw [ar_unique B1 hm]; exact h1
          · subst e; rw [ar_unique B2 hm]; exact h1
        rcases hy with rfl | rfl
        · exact key _ B1 (by rw [List.length_take]; omega) (by rw [List.length_take]; omega)
        · exact key _ B2 (by rw [List.length_drop]; omega) (by rw [List.length_drop]; omega)
      have hs1 : (sortA (l.take (l.length / 2))).length = l.length / 2 := by rw [sort_len, List.length_take]; omega
      have hs2 : (sortA (l.drop (l.length / 2))).length = l.length - l.length / 2 := by rw [sort_len, List.length_drop]
      generalize sortA (l.take (l.length / 2)) = S1 at *
      generalize sortA (l.drop (l.length / 2)) = S2 at *
      obtain ⟨a, c, rfl⟩ := hr.slice
      rw [show ((l.length / 2 : Nat) : Int) = (l.length : Int) / 2 by omega] at hx1 hx2
      have hwr : IntKind.i64.wrap ((l.length : Int) / 2) = (l.length : Int) / 2 := by rw [IntKind.wrap_i64]; omega
      have hwl : (0 : Int) ≤ (l.length : Int) / 2 := by omega
      have T0 : Turn (fun _ => False) w w.drew := (Turn.refl _ _).drew
      have Hsl := hide (show S1.length + S2.length ≤ 1000000 by omega)
      clear A1 A2 hr ih hs1 hs2
      go_enter Try.func40, Try.ntmps40
      go_wp2_with fail
      go_cut [3, 4] from 13 to 24 (fun y1 y2 wr => OA wr y1 S1 ∧ OA wr y2 S2 ∧ Turn (fun _ => False) w wr ∧ Hid (∀ j, y1.ownBlock = some j → w.heap.size ≤ j) ∧ Hid (∀ j, y2.ownBlock = some j → w.heap.size ≤ j))
      case first =>
        go_region_with
          (first
          | (refine (ihc _ _ (T0.then t1) (by first | exact .inl rfl | exact .inr rfl)).mono ?_; rintro e w2 ⟨y2, rfl, a2, b2, t2, own2⟩)
          | (refine (ihc _ _ T0 (by first | exact .inl rfl | exact .inr rfl)).mono ?_; rintro e w1 ⟨y1, rfl, a1, b1, t1, own1⟩))
        all_goals
          have tt := (T0.then t1).then t2
          have sz1 := (T0.then t1).size
          have o1 : Hid (∀ j, y1.ownBlock = some j → w.heap.size ≤ j) := hide (fun j hj => own1 j hj)
          have o2 : Hid (∀ j, y2.ownBlock = some j → w.heap.size ≤ j) := hide (fun j hj => by have := own2 j hj; omega)
          clear own1 own2
          first
          | have c1 := (a1 (by trivial)).turn t2 (fun _ _ h => h)
            have c2 := b2 (by trivial)
            clear a1 b1 a2 b2 t1 t2
            go_wp2
            go_meet
            exact ⟨c1, c2, tt, o1, o2⟩
          | have c1 := (b1 (by trivial)).turn t2 (fun _ _ h => h)
            have c2 := a2 (by trivial)
            clear a1 b1 a2 b2 t1 t2
            go_wp2
            go_meet
            exact ⟨c2, c1, tt, o2, o1⟩
      case rest =>
        obtain ⟨O1, O2, T1, own1, own2⟩ := hcut
        have R1 := O1.ar.lt
        have R2 := O2.ar.lt
        obtain ⟨p1, q1, rfl⟩ := O1.form
        obtain ⟨p2, q2, rfl⟩ := O2.form
        clear O1 O2 own1 own2 ihc hx1 hx2 T0 hwr hwl
        have HW := hide T1.size
        obtain ⟨pw, hpw⟩ : ∃ pw, pw = wc.heap.size := ⟨_, rfl⟩
        rw [← hpw] at R1 R2
        have HPW := hide hpw
        clear hpw
        go_wp2_with fail
        go_loopw [5, 6, 7] (fun s i k wr => ∃ (o : Value) (O : List Ar) (ni nk : Nat), o = s ∧ i = .int .i64 (ni : Int) ∧ k = .int .i64 (nk : Int) ∧ ni ≤ S1.length ∧ nk ≤ S2.length ∧ OA wr o O ∧ Hid (Merged S1 S2 O ni nk) ∧ Hid (∀ j, o.ownBlock = some j → pw ≤ j) ∧ Turn (fun j => pw ≤ j) wc wr) (fun _ i k _ => (S1.length - (intOf i).toNat) + (S2.length - (intOf k).toNat))
        case atStart => exact ⟨.slice none 0 0, [], 0, 0, rfl, rfl, rfl, Nat.zero_le _, Nat.zero_le _, oa_none _, hide (merged_nil _ _), hide (fun j hj => by simp [Value.ownBlock] at hj), Turn.refl _ _⟩
        case round =>
          obtain ⟨o, O, ni, nk, rfl, rfl, rfl, hni, hnk, hO, hM, hown, tr⟩ := hrel
          have HOl := hide ((unhide hM).len)
          have R1r := R1.turn tr (fun j hj => by omega)
          have R2r := R2.turn tr (fun j hj => by omega)
          clear R1 R2
          have hs1 : (S1.length : Int) ≤ 1000000 := by have := unhide Hsl; omega
          have hs2 : (S2.length : Int) ≤ 1000000 := by have := unhide Hsl; omega
          by_cases hi : ni < S1.length
          · obtain ⟨x, hx⟩ := lt_take hi
            obtain ⟨g, off, c1, hv, _, hcl⟩ := R1r.form (by omega)
            simp only [Value.slice.injEq] at hv
            obtain ⟨rfl, _, rfl⟩ := hv
            obtain ⟨u0, u1, u2⟩ := hcl ni x hx
            have z0 : ∀ p : After wr, p.w.cell? ⟨g, off + ni * 3, none⟩ = some (.int .i64 x.1) := fun p => p.turn.cell u0 (fun h => h)
            have z1 : ∀ p : After wr, p.w.cell? ⟨g, off + ni * 3 + 1, none⟩ = some (.int .i64 x.2.1) := fun p => p.turn.cell u1 (fun h => h)
            have z2 : ∀ p : After wr, p.w.cell? ⟨g, off + ni * 3 + 2, none⟩ = some (.int .i64 x.2.2) := fun p => p.turn.cell u2 (fun h => h)
            clear hcl u0 u1 u2 R1r
            by_cases hk : nk < S2.length
            · obtain ⟨y, hy⟩ := lt_take hk
              obtain ⟨g', off', c2, hv, _, hcl⟩ := R2r.form (by omega)
              simp only [Value.slice.injEq] at hv
              obtain ⟨rfl, _, rfl⟩ := hv
              obtain ⟨u0, u1, u2⟩ := hcl nk y hy
              have y0 : ∀ p : After wr, p.w.cell? ⟨g', off' + nk * 3, none⟩ = some (.int .i64 y.1) := fun p => p.turn.cell u0 (fun h => h)
              have y1 : ∀ p : After wr, p.w.cell? ⟨g', off' + nk * 3 + 1, none⟩ = some (.int .i64 y.2.1) := fun p => p.turn.cell u1 (fun h => h)
              have y2 : ∀ p : After wr, p.w.cell? ⟨g', off' + nk * 3 + 2, none⟩ = some (.int .i64 y.2.2) := fun p => p.turn.cell u2 (fun h => h)
              clear hcl u0 u1 u2 R2r
              have hbe : ((nk : Int) == (S2.length : Int)) = false := by rw [beq_eq_false_iff_ne]; omega
              have Hl := fun u => less_walk y x u
              unfold arV at Hl
              by_cases hlt : ltA y x
              · rw [decide_eq_true hlt] at Hl
                have hM2 := hide ((unhide hM).right hx hy hlt)
                clear hM hlt hx hy
                obtain ⟨f, t, u⟩ := y
                obtain ⟨f', t', u'⟩ := x
                simp only at z0 z1 z2 y0 y1 y2 Hl
                go_wp2_with fail
                have hne := after_ne wr
                refine wp_region_after (by kernel_rfl) (by kernel_rfl) ?_
                repeat (go_big_quiet_step ((go_at_call 54; exact after_of _ ((Hl _).mono (fun _ _ h => ⟨h.1, h.2.blw⟩)))))
                refine wpQuiet_nil ?_
                rintro _ ⟨p, rfl⟩
                obtain ⟨o3, w3, hrun, O3, t3, own3⟩ := append_arc (hO.turn p.turn (fun _ _ h => h)) (f, t, u) (by have := unhide HOl; have := unhide Hsl; omega)
                simp only at hrun
                have tr3 : Turn (fun j => pw ≤ j) wc w3 := (tr.then (p.turn.mono (fun _ h => h.elim))).then (t3.mono (fun j hj => unhide hown j hj))
                have own4 : Hid (∀ j, o3.ownBlock = some j → pw ≤ j) := hide (fun j hj => by
                  rcases own3 j hj with h | h
                  · exact unhide hown j h
                  · have h1 := tr.size; have h2 := p.turn.size; have h3 := unhide HPW; omega)
                clear own3 t3 hO tr hown Hl
                go_wp2_with (at_builtin; refine list_append_run rfl _ _ 22 rfl _ _ _ _ rfl rfl hrun ?_)
                exact ⟨⟨o3, _, ni, nk + 1, rfl, rfl, by go_num, by omega, by omega, O3, hM2, own4, tr3⟩, by simp [intOf]; omega⟩
              · rw [decide_eq_false hlt] at Hl
                have hM2 := hide ((unhide hM).left hx hy hlt)
                clear hM hlt hx hy
                obtain ⟨f, t, u⟩ := x
                obtain ⟨f', t', u'⟩ := y
                simp only at z0 z1 z2 y0 y1 y2 Hl
                go_wp2_with fail
                have hne := after_ne wr
                refine wp_region_after (by kernel_rfl) (by kernel_rfl) ?_
                repeat (go_big_quiet_step ((go_at_call 54; exact after_of _ ((Hl _).mono (fun _ _ h => ⟨h.1, h.2.blw⟩)))))
                refine wpQuiet_nil ?_
                rintro _ ⟨p, rfl⟩
                obtain ⟨o3, w3, hrun, O3, t3, own3⟩ := append_arc (hO.turn p.turn (fun _ _ h => h)) (f, t, u) (by have := unhide HOl; have := unhide Hsl; omega)
                simp only at hrun
                have tr3 : Turn (fun j => pw ≤ j) wc w3 := (tr.then (p.turn.mono (fun _ h => h.elim))).then (t3.mono (fun j hj => unhide hown j hj))
                have own4 : Hid (∀ j, o3.ownBlock = some j → pw ≤ j) := hide (fun j hj => by
                  rcases own3 j hj with h | h
                  · exact unhide hown j h
                  · have h1 := tr.size; have h2 := p.turn.size; have h3 := unhide HPW; omega)
                clear own3 t3 hO tr hown Hl
                go_wp2_with (at_builtin; refine list_append_run rfl _ _ 22 rfl _ _ _ _ rfl rfl hrun ?_)
                exact ⟨⟨o3, _, ni + 1, nk, rfl, by go_num, rfl, by omega, by omega, O3, hM2, own4, tr3⟩, by simp [intOf]; omega⟩
            · have hbe : ((nk : Int) == (S2.length : Int)) = true := by rw [beq_iff_eq]; omega
              have hM2 := hide ((unhide hM).leftOnly hx (by omega))
              have Hl := trivial
              have y : True := trivial
              have hlt := trivial
              clear hM hlt hx y
              obtain ⟨f, t, u⟩ := x
              simp only at z0 z1 z2 
              go_wp2_with fail
              have hne := after_ne wr
              refine wp_region_after (by kernel_rfl) (by kernel_rfl) ?_
              repeat (go_big_quiet_step (fail))
              refine wpQuiet_nil ?_
              rintro _ ⟨p, rfl⟩
              obtain ⟨o3, w3, hrun, O3, t3, own3⟩ := append_arc (hO.turn p.turn (fun _ _ h => h)) (f, t, u) (by have := unhide HOl; have := unhide Hsl; omega)
              simp only at hrun
              have tr3 : Turn (fun j => pw ≤ j) wc w3 := (tr.then (p.turn.mono (fun _ h => h.elim))).then (t3.mono (fun j hj => unhide hown j hj))
              have own4 : Hid (∀ j, o3.ownBlock = some j → pw ≤ j) := hide (fun j hj => by
                rcases own3 j hj with h | h
                · exact unhide hown j h
                · have h1 := tr.size; have h2 := p.turn.size; have h3 := unhide HPW; omega)
              clear own3 t3 hO tr hown
              go_wp2_with (at_builtin; refine list_append_run rfl _ _ 22 rfl _ _ _ _ rfl rfl hrun ?_)
              exact ⟨⟨o3, _, ni + 1, nk, rfl, by go_num, rfl, by omega, by omega, O3, hM2, own4, tr3⟩, by simp [intOf]; omega⟩
          · by_cases hk : nk < S2.length
            · obtain ⟨y, hy⟩ := lt_take hk
              obtain ⟨g', off', c2, hv, _, hcl⟩ := R2r.form (by omega)
              simp only [Value.slice.injEq] at hv
              obtain ⟨rfl, _, rfl⟩ := hv
              obtain ⟨u0, u1, u2⟩ := hcl nk y hy
              have y0 : ∀ p : After wr, p.w.cell? ⟨g', off' + nk * 3, none⟩ = some (.int .i64 y.1) := fun p => p.turn.cell u0 (fun h => h)
              have y1 : ∀ p : After wr, p.w.cell? ⟨g', off' + nk * 3 + 1, none⟩ = some (.int .i64 y.2.1) := fun p => p.turn.cell u1 (fun h => h)
              have y2 : ∀ p : After wr, p.w.cell? ⟨g', off' + nk * 3 + 2, none⟩ = some (.int .i64 y.2.2) := fun p => p.turn.cell u2 (fun h => h)
              clear hcl u0 u1 u2 R2r
              have hbe : ((nk : Int) == (S2.length : Int)) = false := by rw [beq_eq_false_iff_ne]; omega
              have hM2 := hide ((unhide hM).rightOnly hy (by omega))
              have Hl := trivial
              have hlt := trivial
              have hx := trivial
              clear hM hlt hx hy
              obtain ⟨f, t, u⟩ := y
              simp only at  y0 y1 y2
              go_wp2_with fail
              have hne := after_ne wr
              refine wp_region_after (by kernel_rfl) (by kernel_rfl) ?_
              repeat (go_big_quiet_step (fail))
              refine wpQuiet_nil ?_
              rintro _ ⟨p, rfl⟩
              obtain ⟨o3, w3, hrun, O3, t3, own3⟩ := append_arc (hO.turn p.turn (fun _ _ h => h)) (f, t, u) (by have := unhide HOl; have := unhide Hsl; omega)
              simp only at hrun
              have tr3 : Turn (fun j => pw ≤ j) wc w3 := (tr.then (p.turn.mono (fun _ h => h.elim))).then (t3.mono (fun j hj => unhide hown j hj))
              have own4 : Hid (∀ j, o3.ownBlock = some j → pw ≤ j) := hide (fun j hj => by
                rcases own3 j hj with h | h
                · exact unhide hown j h
                · have h1 := tr.size; have h2 := p.turn.size; have h3 := unhide HPW; omega)
              clear own3 t3 hO tr hown
              go_wp2_with (at_builtin; refine list_append_run rfl _ _ 22 rfl _ _ _ _ rfl rfl hrun ?_)
              exact ⟨⟨o3, _, ni, nk + 1, rfl, rfl, by go_num, by omega, by omega, O3, hM2, own4, tr3⟩, by simp [intOf]; omega⟩
            · have hm := hide ((unhide hM).all (by omega) (by omega))
              go_wp2
              go_ret
              refine ⟨_, rfl, by rw [unhide hm]; exact hO, T1.trans tr (fun j hj => .inr ?_), fun j hj => ?_⟩
              · have h1 := unhide HW; have h2 := unhide HPW; omega
              · have h1 := unhide HW; have h2 := unhide HPW; have := unhide hown j hj; omega
theorem sort_call (w : World) (v : Value) (l : List Ar) (hl : l.length ≤ 1000000) (hr : AR any w v l) :
    Calls Try.prog 40 #[v] w fun e w' => ∃ x, e = .returned x ∧ OA w' x (sortA l) ∧ Turn (fun _ => False) w w' ∧ ∀ j, x.ownBlock = some j → w.heap.size ≤ j := sorted_walk l.length w v l (Nat.le_refl _) hl hr
end Go.Proofs.Ytombpfpfeebnpaa
