/- The reference: the arcs of a node, an arc's weight. -/
import Derived.Test.YtmmlannnpndkcaaGSort
import Derived.Test.YtmmlannnpndkcaaGMap
namespace Go.Proofs.Ytmmlannnpndkcaa
open Go.RowKit Go.Maps
set_option linter.unusedVariables false
set_option linter.unusedSimpArgs false
set_option maxRecDepth 100000

theorem filt_more {p : Ar → Bool} {l : List Ar} {k : Nat} {x : Ar} (h : l[k]? = some x) : (l.take (k + 1)).filter p = (l.take k).filter p ++ (if p x then [x] else []) := by
  rw [List.take_add_one, h, List.filter_append]
  cases hp : p x <;> simp [hp]

set_option maxHeartbeats 4000000 in
theorem rOut_walk (w : World) (n : Int) (v : Value) (l : List Ar) (hr : AR any w v l) (hl : l.length ≤ 1000000) (u : Int) :
    Calls Try.prog 29 #[.agg #[.int .i64 n, v], .int .i64 u] w fun e w' => ∃ x, e = .returned x ∧ OA w' x ((sortA l).filter (fun a => decide (a.1 = u))) ∧ Turn (fun _ => False) w w' := by
  obtain ⟨va, vc, rfl⟩ := hr.slice
  have t1 := (Turn.refl (fun _ => False) w).alloc (.cells #[.int .i64 n, .slice va l.length vc] 26)
  have nb := heap_alloc_new w (.cells #[.int .i64 n, .slice va l.length vc] 26)
  have Hs := sort_call _ _ l hl (hr.quiet t1)
  have hSl := sort_len l
  generalize sortA l = S at *
  have hS6 : S.length ≤ 1000000 := by omega
  clear hr hSl
  go_enter Try.func29, Try.ntmps29
  go_wp2_with fail
  generalize w.alloc (.cells #[.int .i64 n, .slice va l.length vc] 26) = W at *
  generalize w.heap.size = bn at *
  refine Hs.mono ?_
  rintro e w2 ⟨y, rfl, O2, t2, own2⟩
  have T2 := t1.then t2
  obtain ⟨ya, yc, rfl⟩ := O2.form
  have A2 := O2.ar.lt
  obtain ⟨s2, hs2⟩ : ∃ s2, s2 = w2.heap.size := ⟨_, rfl⟩
  rw [← hs2] at A2
  have Hs2 := hide hs2
  clear hs2 t1 t2 own2 Hs O2
  go_wp2_with fail
  go_loopw [5, 7] (fun s i wr => ∃ (k : Nat) (x : Value), x = s ∧ i = .int .i64 (k : Int) ∧ k ≤ S.length ∧ OA wr x ((S.take k).filter (fun a => decide (a.1 = u))) ∧ Hid (∀ j, x.ownBlock = some j → s2 ≤ j) ∧ Turn (fun j => s2 ≤ j) w2 wr) (fun _ i _ => S.length - (intOf i).toNat)
  case atStart => exact ⟨0, _, rfl, rfl, Nat.zero_le _, by simpa using oa_none _, hide (fun j hj => by simp [Value.ownBlock] at hj), Turn.refl _ _⟩
  case round =>
    obtain ⟨k, x, rfl, rfl, hk, hO, hown, tr⟩ := hrel
    by_cases hlt : k < S.length
    · obtain ⟨z, hz⟩ := lt_take hlt
      obtain ⟨g, off, c', hv, _, hcl⟩ := (A2.turn tr (fun j hj => by have := hj.2; omega)).form (by omega)
      simp only [Value.slice.injEq] at hv
      obtain ⟨rfl, _, rfl⟩ := hv
      obtain ⟨q0, q1, q2⟩ := hcl k z hz
      have Hm := hide (filt_more (p := fun a => decide (a.1 = u)) hz)
      have hfl := List.length_filter_le (fun a : Ar => decide (a.1 = u)) (S.take k)
      rw [List.length_take] at hfl
      have HFl := hide (show ((S.take k).filter (fun a : Ar => decide (a.1 = u))).length ≤ 4000000000000 by omega)
      clear hcl hz hfl
      obtain ⟨f, t, v⟩ := z
      simp only at q0 q1 q2
      by_cases hf : f = u
      · have Hm2 : Hid ((S.take (k + 1)).filter (fun a => decide (a.1 = u)) = (S.take k).filter (fun a => decide (a.1 = u)) ++ [(f, t, v)]) := hide (by rw [unhide Hm]; simp [hf])
        obtain ⟨x8, w8, hrun, O8, t8, own8⟩ := append_arc hO (f, t, v) (unhide HFl)
        simp only at hrun
        rw [← unhide Hm2] at O8
        have tr8 : Turn (fun j => s2 ≤ j) w2 w8 := tr.then (t8.mono (fun j hj => unhide hown j hj))
        have own9 : Hid (∀ j, x8.ownBlock = some j → s2 ≤ j) := hide (fun j hj => by
          rcases own8 j hj with h | h
          · exact unhide hown j h
          · have h1 := tr.size; have h2 := unhide Hs2; omega)
        subst hf
        clear Hm Hm2 hO hown tr t8 own8
        go_wp2_with (at_builtin; refine list_append_run rfl _ _ 24 rfl _ _ _ _ rfl rfl hrun ?_)
        exact ⟨⟨k + 1, x8, rfl, by go_num, by omega, O8, own9, tr8⟩, by simp [intOf]; omega⟩
      · have hbe : (f == u) = false := by rw [beq_eq_false_iff_ne]; exact hf
        have Hm2 : Hid ((S.take (k + 1)).filter (fun a => decide (a.1 = u)) = (S.take k).filter (fun a => decide (a.1 = u))) := hide (by rw [unhide Hm]; simp [hf])
        rw [← unhide Hm2] at hO
        clear Hm Hm2 hf
        go_wp2
        exact ⟨⟨k + 1, x, rfl, by go_num, by omega, hO, hown, tr⟩, by simp [intOf]; omega⟩
    · obtain rfl : k = S.length := by omega
      rw [List.take_length] at hO
      have TF := T2.trans tr (fun j hj => .inr (by have h1 := T2.size; have h2 := unhide Hs2; omega))
      go_wp2
      go_ret
      exact ⟨x, rfl, hO, TF⟩

set_option maxHeartbeats 4000000 in
theorem rIn_walk (w : World) (n : Int) (v : Value) (l : List Ar) (hr : AR any w v l) (hl : l.length ≤ 1000000) (u : Int) :
    Calls Try.prog 31 #[.agg #[.int .i64 n, v], .int .i64 u] w fun e w' => ∃ x, e = .returned x ∧ OA w' x ((sortA l).filter (fun a => decide (a.2.1 = u))) ∧ Turn (fun _ => False) w w' := by
  obtain ⟨va, vc, rfl⟩ := hr.slice
  have t1 := (Turn.refl (fun _ => False) w).alloc (.cells #[.int .i64 n, .slice va l.length vc] 26)
  have nb := heap_alloc_new w (.cells #[.int .i64 n, .slice va l.length vc] 26)
  have Hs := sort_call _ _ l hl (hr.quiet t1)
  have hSl := sort_len l
  generalize sortA l = S at *
  have hS6 : S.length ≤ 1000000 := by omega
  clear hr hSl
  go_enter Try.func31, Try.ntmps31
  go_wp2_with fail
  generalize w.alloc (.cells #[.int .i64 n, .slice va l.length vc] 26) = W at *
  generalize w.heap.size = bn at *
  refine Hs.mono ?_
  rintro e w2 ⟨y, rfl, O2, t2, own2⟩
  have T2 := t1.then t2
  obtain ⟨ya, yc, rfl⟩ := O2.form
  have A2 := O2.ar.lt
  obtain ⟨s2, hs2⟩ : ∃ s2, s2 = w2.heap.size := ⟨_, rfl⟩
  rw [← hs2] at A2
  have Hs2 := hide hs2
  clear hs2 t1 t2 own2 Hs O2
  go_wp2_with fail
  go_loopw [5, 7] (fun s i wr => ∃ (k : Nat) (x : Value), x = s ∧ i = .int .i64 (k : Int) ∧ k ≤ S.length ∧ OA wr x ((S.take k).filter (fun a => decide (a.2.1 = u))) ∧ Hid (∀ j, x.ownBlock = some j → s2 ≤ j) ∧ Turn (fun j => s2 ≤ j) w2 wr) (fun _ i _ => S.length - (intOf i).toNat)
  case atStart => exact ⟨0, _, rfl, rfl, Nat.zero_le _, by simpa using oa_none _, hide (fun j hj => by simp [Value.ownBlock] at hj), Turn.refl _ _⟩
  case round =>
    obtain ⟨k, x, rfl, rfl, hk, hO, hown, tr⟩ := hrel
    by_cases hlt : k < S.length
    · obtain ⟨z, hz⟩ := lt_take hlt
      obtain ⟨g, off, c', hv, _, hcl⟩ := (A2.turn tr (fun j hj => by have := hj.2; omega)).form (by omega)
      simp only [Value.slice.injEq] at hv
      obtain ⟨rfl, _, rfl⟩ := hv
      obtain ⟨q0, q1, q2⟩ := hcl k z hz
      have Hm := hide (filt_more (p := fun a => decide (a.2.1 = u)) hz)
      have hfl := List.length_filter_le (fun a : Ar => decide (a.2.1 = u)) (S.take k)
      rw [List.length_take] at hfl
      have HFl := hide (show ((S.take k).filter (fun a : Ar => decide (a.2.1 = u))).length ≤ 4000000000000 by omega)
      clear hcl hz hfl
      obtain ⟨f, t, v⟩ := z
      simp only at q0 q1 q2
      by_cases hf : t = u
      · have Hm2 : Hid ((S.take (k + 1)).filter (fun a => decide (a.2.1 = u)) = (S.take k).filter (fun a => decide (a.2.1 = u)) ++ [(f, t, v)]) := hide (by rw [unhide Hm]; simp [hf])
        obtain ⟨x8, w8, hrun, O8, t8, own8⟩ := append_arc hO (f, t, v) (unhide HFl)
        simp only at hrun
        rw [← unhide Hm2] at O8
        have tr8 : Turn (fun j => s2 ≤ j) w2 w8 := tr.then (t8.mono (fun j hj => unhide hown j hj))
        have own9 : Hid (∀ j, x8.ownBlock = some j → s2 ≤ j) := hide (fun j hj => by
          rcases own8 j hj with h | h
          · exact unhide hown j h
          · have h1 := tr.size; have h2 := unhide Hs2; omega)
        subst hf
        clear Hm Hm2 hO hown tr t8 own8
        go_wp2_with (at_builtin; refine list_append_run rfl _ _ 24 rfl _ _ _ _ rfl rfl hrun ?_)
        exact ⟨⟨k + 1, x8, rfl, by go_num, by omega, O8, own9, tr8⟩, by simp [intOf]; omega⟩
      · have hbe : (t == u) = false := by rw [beq_eq_false_iff_ne]; exact hf
        have Hm2 : Hid ((S.take (k + 1)).filter (fun a => decide (a.2.1 = u)) = (S.take k).filter (fun a => decide (a.2.1 = u))) := hide (by rw [unhide Hm]; simp [hf])
        rw [← unhide Hm2] at hO
        clear Hm Hm2 hf
        go_wp2
        exact ⟨⟨k + 1, x, rfl, by go_num, by omega, hO, hown, tr⟩, by simp [intOf]; omega⟩
    · obtain rfl : k = S.length := by omega
      rw [List.take_length] at hO
      have TF := T2.trans tr (fun j hj => .inr (by have h1 := T2.size; have h2 := unhide Hs2; omega))
      go_wp2
      go_ret
      exact ⟨x, rfl, hO, TF⟩

set_option maxHeartbeats 4000000 in
theorem rweight_walk (w : World) (n : Int) (v : Value) (l : List Ar) (hr : AR any w v l) (a b : Int) (wa : I32 a) (wb : I32 b) :
    Calls Try.prog 24 #[.agg #[.int .i64 n, v], .agg #[.int .i32 a, .int .i32 b]] w fun e w' => e = .returned (.tuple #[.int .i64 (refW l a b).1, .bool (refW l a b).2]) ∧ Turn (fun _ => False) w w' := by
  have hra : -2147483648 ≤ a ∧ a ≤ 2147483647 := by unfold I32 at wa; simp [Lit.wf, IntKind.min, IntKind.max, IntKind.signed, IntKind.bits] at wa; omega
  have hrb : -2147483648 ≤ b ∧ b ≤ 2147483647 := by unfold I32 at wb; simp [Lit.wf, IntKind.min, IntKind.max, IntKind.signed, IntKind.bits] at wb; omega
  have hwa : IntKind.i64.wrap a = a := by rw [IntKind.wrap_i64]; omega
  have hwb : IntKind.i64.wrap b = b := by rw [IntKind.wrap_i64]; omega
  have hlen := hr.len
  unfold maxLen at hlen
  obtain ⟨va, vc, rfl⟩ := hr.slice
  obtain ⟨D, hD⟩ : ∃ D, D = refW l a b := ⟨_, rfl⟩
  rw [← hD]
  replace hD := hide hD
  have t1 := (Turn.refl (fun _ => False) w).alloc (.cells #[.int .i64 n, .slice va l.length vc] 26)
  have t2 := t1.alloc (.cells #[.int .i32 a, .int .i32 b] 44)
  have tb := (Turn.refl (fun _ => False) (w.alloc (.cells #[.int .i64 n, .slice va l.length vc] 26))).alloc (.cells #[.int .i32 a, .int .i32 b] 44)
  have nb := tb.same (heap_alloc_new w (.cells #[.int .i64 n, .slice va l.length vc] 26)) (fun h => h)
  have pb := heap_alloc_new (w.alloc (.cells #[.int .i64 n, .slice va l.length vc] 26)) (.cells #[.int .i32 a, .int .i32 b] 44)
  rw [alloc_size] at pb
  have A2 := hr.quiet t2
  clear hr t1 tb wa wb hra hrb
  go_enter Try.func24, Try.ntmps24
  go_wp2_with fail
  generalize ((w.alloc (.cells #[.int .i64 n, .slice va l.length vc] 26)).alloc (.cells #[.int .i32 a, .int .i32 b] 44)) = W at *
  obtain ⟨pp, hpp⟩ : ∃ pp, pp = w.heap.size + 1 := ⟨_, rfl⟩
  rw [← hpp] at pb ⊢
  clear hpp
  generalize w.heap.size = bn at *
  go_loopw [6] (fun i wr => ∃ k : Nat, i = .int .i64 (k : Int) ∧ k ≤ l.length ∧ Turn (fun _ => False) W wr ∧ Hid (∀ j x, j < k → l[j]? = some x → ¬ (x.1 = a ∧ x.2.1 = b))) (fun i _ => l.length - (intOf i).toNat)
  case atStart => exact ⟨0, rfl, Nat.zero_le _, Turn.refl _ _, hide (fun j x hj => by omega)⟩
  case round =>
    obtain ⟨k, rfl, hk, tr, hno⟩ := hrel
    have nbr := tr.same nb (fun h => h)
    have n1 : wr.cell? ⟨bn, 1, none⟩ = some (.slice va l.length vc) := cell_obj nbr 1
    by_cases hlt : k < l.length
    · obtain ⟨x, hx⟩ := lt_take hlt
      obtain ⟨g, off, c', hv, _, hcl⟩ := (A2.quiet tr).form (by omega)
      simp only [Value.slice.injEq] at hv
      obtain ⟨rfl, _, rfl⟩ := hv
      obtain ⟨q0, q1, q2⟩ := hcl k x hx
      have z0 : ∀ p : After wr, p.w.cell? ⟨g, off + k * 3, none⟩ = some (.int .i64 x.1) := fun p => p.turn.cell q0 (fun h => h)
      have z1 : ∀ p : After wr, p.w.cell? ⟨g, off + k * 3 + 1, none⟩ = some (.int .i64 x.2.1) := fun p => p.turn.cell q1 (fun h => h)
      have z2 : ∀ p : After wr, p.w.cell? ⟨g, off + k * 3 + 2, none⟩ = some (.int .i64 x.2.2) := fun p => p.turn.cell q2 (fun h => h)
      have s1 : ∀ p : After wr, p.w.cell? ⟨bn, 1, none⟩ = some (.slice (some ⟨g, off, none⟩) l.length vc) := fun p => p.turn.cell n1 (fun h => h)
      have pbr := tr.same pb (fun h => h)
      have p0 : ∀ p : After wr, p.w.cell? ⟨pp, 0, none⟩ = some (.int .i32 a) := fun p => p.turn.cell (cell_obj pbr 0) (fun h => h)
      have p1 : ∀ p : After wr, p.w.cell? ⟨pp, 1, none⟩ = some (.int .i32 b) := fun p => p.turn.cell (cell_obj pbr 1) (fun h => h)
      have Hst : Hid (x.1 = a ∧ x.2.1 = b → D = (x.2.2, true)) := hide (fun h => by
        rw [unhide hD]
        unfold refW
        have : l.find? (fun x => decide (x.1 = a ∧ x.2.1 = b)) = some x := by
          rw [List.find?_eq_some_iff_getElem]
          refine ⟨by simpa using h, k, hlt, (List.getElem?_eq_some_iff.1 hx).2, fun j hj => ?_⟩
          have := unhide hno j l[j] hj (by simp)
          simp only [Bool.not_eq_true', decide_eq_false_iff_not]
          exact this
        rw [this])
      have Hgo : Hid (¬ (x.1 = a ∧ x.2.1 = b) → ∀ j y, j < k + 1 → l[j]? = some y → ¬ (y.1 = a ∧ y.2.1 = b)) := hide (fun h => all_more (unhide hno) hx h)
      clear hcl hx hno q0 q1 q2 nbr pbr
      obtain ⟨f, t, u⟩ := x
      simp only at z0 z1 z2
      by_cases hf : f = a
      · by_cases ht : t = b
        · have HD := hide (unhide Hst ⟨hf, ht⟩)
          subst hf ht
          clear Hst Hgo
          go_wp2_with fail
          have hne := after_ne wr
          refine wp_region_after (by kernel_rfl) (by kernel_rfl) ?_
          repeat (go_big_quiet_step (fail))
          refine wpQuiet_nil ?_
          rintro _ ⟨p, rfl⟩
          have tr2 := t2.then (tr.then p.turn)
          go_wp2
          go_ret2
          exact ⟨by rw [unhide HD]; rfl, tr2⟩
        · have hbe : (t == b) = false := by rw [beq_eq_false_iff_ne]; exact ht
          have Hg := hide (unhide Hgo (fun h => ht h.2))
          subst hf
          clear Hst Hgo ht
          go_wp2_with fail
          have hne := after_ne wr
          refine wp_region_after (by kernel_rfl) (by kernel_rfl) ?_
          repeat (go_big_quiet_step (fail))
          refine wpQuiet_nil ?_
          rintro _ ⟨p, rfl⟩
          have tr2 := tr.then p.turn
          go_wp2
          exact ⟨⟨k + 1, by go_num, by omega, tr2, Hg⟩, by simp [intOf]; omega⟩
      · have hbe : (f == a) = false := by rw [beq_eq_false_iff_ne]; exact hf
        have Hg := hide (unhide Hgo (fun h => hf h.1))
        clear Hst Hgo hf
        go_wp2_with fail
        have hne := after_ne wr
        refine wp_region_after (by kernel_rfl) (by kernel_rfl) ?_
        repeat (go_big_quiet_step (fail))
        refine wpQuiet_nil ?_
        rintro _ ⟨p, rfl⟩
        have tr2 := tr.then p.turn
        go_wp2
        exact ⟨⟨k + 1, by go_num, by omega, tr2, Hg⟩, by simp [intOf]; omega⟩
    · obtain rfl : k = l.length := by omega
      have HD : Hid (D = (0, false)) := hide (by
        rw [unhide hD]
        unfold refW
        have : l.find? (fun x => decide (x.1 = a ∧ x.2.1 = b)) = none := by
          rw [List.find?_eq_none]
          intro y hy
          have := all_mem (unhide hno) y hy
          simpa using this
        rw [this])
      go_wp2
      go_ret2
      exact ⟨by rw [unhide HD]; rfl, t2.then tr⟩
end Go.Proofs.Ytmmlannnpndkcaa
