/- Lists of arcs and networks held against each other; a copy. -/
import Derived.Test.YtmmlannnpndkcaaGAwake
import Derived.Test.YtmmlannnpndkcaaBAfter
namespace Go.Proofs.Ytmmlannnpndkcaa
open Go.RowKit Go.Maps
set_option linter.unusedVariables false
set_option linter.unusedSimpArgs false
set_option maxRecDepth 100000

theorem After.turn {W : World} (p : After W) : Turn (fun _ => False) W p.w := Turn.of_below p.bel
theorem Turn.blw {w w' : World} (h : Turn (fun _ => False) w w') : Below w.heap.size w w' := h.below (fun _ h => h.elim) (Nat.le_refl _)

theorem eq_of_at (a b : List Ar) (hl : a.length = b.length) (h : ∀ j x y, j < a.length → a[j]? = some x → b[j]? = some y → x = y) : a = b := by
  apply List.ext_getElem hl
  intro i h1 h2
  exact h i _ _ h1 (by simp [h1]) (by simp [h2])

set_option maxHeartbeats 2000000 in
theorem same_arcs (w : World) (v v' : Value) (l l' : List Ar) (hr : AR any w v l) (hr' : AR any w v' l') :
    Calls Try.prog 50 #[v, v', .func (.func 51) #[] #[]] w fun e w' => e = .returned (.bool (decide (l = l'))) ∧ Turn (fun _ => False) w w' := by
  obtain ⟨a, c, rfl⟩ := hr.slice
  obtain ⟨a', c', rfl⟩ := hr'.slice
  have hlen := hr.len
  have hlen' := hr'.len
  unfold maxLen at hlen hlen'
  obtain ⟨D, hD⟩ : ∃ D, D = decide (l = l') := ⟨_, rfl⟩
  rw [← hD]
  replace hD := hide hD
  by_cases hl : l.length = l'.length
  · have Hl := hide hl
    have hne : ((l.length : Int) != (l'.length : Int)) = false := by rw [hl]; simp
    clear hl
    go_enter Try.func50, Try.ntmps50
    go_wp2_with fail
    go_loopw [7] (fun i wr => ∃ k : Nat, k ≤ l.length ∧ i = .int .i64 (k : Int) ∧ Turn (fun _ => False) w wr ∧ Hid (∀ j x y, j < k → l[j]? = some x → l'[j]? = some y → x = y)) (fun i _ => l.length - (intOf i).toNat)
    case atStart => exact ⟨0, Nat.zero_le _, rfl, Turn.refl _ _, hide (fun j x y hj => by omega)⟩
    case round =>
      obtain ⟨k, hk, rfl, tr, hsm⟩ := hrel
      by_cases hlt : k < l.length
      · have hlt' : k < l'.length := by rw [← unhide Hl]; exact hlt
        obtain ⟨x, hx⟩ := lt_take hlt
        obtain ⟨y, hy⟩ := lt_take hlt'
        obtain ⟨g, off, c1, hv, _, hcl⟩ := (hr.quiet tr).form (by omega)
        simp only [Value.slice.injEq] at hv
        obtain ⟨rfl, _, rfl⟩ := hv
        obtain ⟨q0, q1, q2⟩ := hcl k x hx
        obtain ⟨g', off', c2, hv, _, hcl'⟩ := (hr'.quiet tr).form (by omega)
        simp only [Value.slice.injEq] at hv
        obtain ⟨rfl, _, rfl⟩ := hv
        obtain ⟨r0, r1, r2⟩ := hcl' k y hy
        have z0 : ∀ p : After wr, p.w.cell? ⟨g, off + k * 3, none⟩ = some (.int .i64 x.1) := fun p => p.turn.cell q0 (fun h => h)
        have z1 : ∀ p : After wr, p.w.cell? ⟨g, off + k * 3 + 1, none⟩ = some (.int .i64 x.2.1) := fun p => p.turn.cell q1 (fun h => h)
        have z2 : ∀ p : After wr, p.w.cell? ⟨g, off + k * 3 + 2, none⟩ = some (.int .i64 x.2.2) := fun p => p.turn.cell q2 (fun h => h)
        have s0 : ∀ p : After wr, p.w.cell? ⟨g', off' + k * 3, none⟩ = some (.int .i64 y.1) := fun p => p.turn.cell r0 (fun h => h)
        have s1 : ∀ p : After wr, p.w.cell? ⟨g', off' + k * 3 + 1, none⟩ = some (.int .i64 y.2.1) := fun p => p.turn.cell r1 (fun h => h)
        have s2 : ∀ p : After wr, p.w.cell? ⟨g', off' + k * 3 + 2, none⟩ = some (.int .i64 y.2.2) := fun p => p.turn.cell r2 (fun h => h)
        have Hone := fun u => one_arc x y u
        unfold arV at Hone
        by_cases hxy : x = y
        · have hd : decide (x = y) = true := decide_eq_true hxy
          rw [hd] at Hone
          have Hsm : Hid (∀ j x y, j < k + 1 → l[j]? = some x → l'[j]? = some y → x = y) := hide (fun j a b hj ha hb => by
            by_cases e : j = k
            · subst e; rw [hx] at ha; rw [hy] at hb; cases ha; cases hb; exact hxy
            · exact unhide hsm j a b (by omega) ha hb)
          clear hcl hcl' hx hy hxy hd hsm q0 q1 q2 r0 r1 r2 hr hr'
          obtain ⟨f, t, u⟩ := x
          obtain ⟨f', t', u'⟩ := y
          simp only at z0 z1 z2 s0 s1 s2 Hone
          go_wp2_with fail
          have hne2 := after_ne wr
          refine wp_region_after (by kernel_rfl) (by kernel_rfl) ?_
          repeat (go_big_quiet_step ((go_at_call 51; exact after_of _ ((Hone _).mono (fun _ _ h => ⟨h.1, h.2.blw⟩)))))
          refine wpQuiet_nil ?_
          rintro _ ⟨p, rfl⟩
          have tr2 := tr.then p.turn
          go_wp2
          exact ⟨⟨k + 1, by omega, by go_num, tr2, Hsm⟩, by simp [intOf]; omega⟩
        · have hd : decide (x = y) = false := decide_eq_false hxy
          rw [hd] at Hone
          have Hd : Hid (D = false) := hide ((unhide hD).trans (decide_eq_false (fun e => hxy (by rw [e, hy] at hx; cases hx; rfl))))
          clear hcl hcl' hx hy hxy hd hsm q0 q1 q2 r0 r1 r2 hr hr'
          obtain ⟨f, t, u⟩ := x
          obtain ⟨f', t', u'⟩ := y
          simp only at z0 z1 z2 s0 s1 s2 Hone
          go_wp2_with fail
          have hne2 := after_ne wr
          refine wp_region_after (by kernel_rfl) (by kernel_rfl) ?_
          repeat (go_big_quiet_step ((go_at_call 51; exact after_of _ ((Hone _).mono (fun _ _ h => ⟨h.1, h.2.blw⟩)))))
          refine wpQuiet_nil ?_
          rintro _ ⟨p, rfl⟩
          have tr2 := tr.then p.turn
          go_wp2
          go_ret
          exact ⟨ret_bool (unhide Hd).symm, tr2⟩
      · have Hd : Hid (D = true) := hide ((unhide hD).trans (decide_eq_true (eq_of_at l l' (unhide Hl) (fun j x y hj => unhide hsm j x y (by omega)))))
        go_wp2
        go_ret
        exact ⟨ret_bool (unhide Hd).symm, tr⟩
  · have hne : ((l.length : Int) != (l'.length : Int)) = true := by rw [bne_iff_ne]; omega
    have Hd : Hid (D = false) := hide ((unhide hD).trans (decide_eq_false (fun e => hl (by rw [e]))))
    clear hl hr hr'
    go_enter Try.func50, Try.ntmps50
    go_wp2
    go_ret
    exact ⟨ret_bool (unhide Hd).symm, Turn.refl _ _⟩

set_option maxHeartbeats 1000000 in
theorem plain_arcs (w : World) (v v' : Value) (l l' : List Ar) (hr : AR any w v l) (hr' : AR any w v' l') :
    Calls Try.prog 28 #[v, v'] w fun e w' => e = .returned (.bool (decide (l = l'))) ∧ Turn (fun _ => False) w w' := by
  go_enter Try.func28, Try.ntmps28
  go_wp2_with fail
  refine (same_arcs _ v v' l l' hr hr').mono ?_
  rintro e w' ⟨rfl, t⟩
  go_wp2
  go_ret
  exact ⟨rfl, t⟩

set_option maxHeartbeats 1000000 in
theorem net_same (w : World) (n n' : Int) (v v' : Value) (l l' : List Ar) (hr : AR any w v l) (hr' : AR any w v' l') :
    Calls Try.prog 13 #[.agg #[.int .i64 n, v], .agg #[.int .i64 n', v']] w fun e w' => e = .returned (.bool (decide (n = n' ∧ l = l'))) ∧ Turn (fun _ => False) w w' := by
  obtain ⟨a, c, rfl⟩ := hr.slice
  obtain ⟨a', c', rfl⟩ := hr'.slice
  obtain ⟨D, hD⟩ : ∃ D, D = decide (n = n' ∧ l = l') := ⟨_, rfl⟩
  rw [← hD]
  replace hD := hide hD
  by_cases hn : n = n'
  · subst hn
    have Hd : Hid (D = decide (l = l')) := hide ((unhide hD).trans (by simp))
    have t0 := fun (o o' : Obj) => ((Turn.refl (fun _ => False) w).alloc o).alloc o'
    have Hp := plain_arcs _ _ _ l l' (hr.quiet (t0 (.cells #[.int .i64 n, .slice a l.length c] 26) (.cells #[.int .i64 n, .slice a' l'.length c'] 26))) (hr'.quiet (t0 _ _))
    clear hr hr'
    have T0 := t0 (.cells #[.int .i64 n, .slice a l.length c] 26) (.cells #[.int .i64 n, .slice a' l'.length c'] 26)
    clear t0
    go_enter Try.func13, Try.ntmps13
    go_wp2_with fail
    refine Hp.mono ?_
    rintro e w1 ⟨rfl, t1⟩
    generalize decide (l = l') = E at *
    go_wp2
    go_ret
    exact ⟨ret_bool (unhide Hd).symm, T0.then t1⟩
  · have Hd : Hid (D = false) := hide ((unhide hD).trans (decide_eq_false (fun h => hn h.1)))
    have hbe : (n == n') = false := by rw [beq_eq_false_iff_ne]; exact hn
    clear hn hr hr'
    go_enter Try.func13, Try.ntmps13
    go_wp2
    go_ret
    exact ⟨ret_bool (unhide Hd).symm, ((Turn.refl _ _).alloc _).alloc _⟩

set_option maxHeartbeats 1000000 in
theorem clone_arcs (B : Nat → Prop) (w : World) (v : Value) (l : List Ar) (hr : AR B w v l) (hl : l.length ≤ 5000000000000) :
    Calls Try.prog 52 #[v] w fun e w' => ∃ x, e = .returned x ∧ OA w' x l ∧ Turn (fun _ => False) w w' ∧ ∀ j, x.ownBlock = some j → w.heap.size ≤ j := by
  obtain ⟨a, c, rfl⟩ := hr.slice
  have q : ∀ (w : World) (a : Option Addr) (n c n' c' : Nat), (binOp .eql 24 (.slice a n c) (.slice none n' c')).run Try.prog w = .ok (.bool a.isNone) w := fun w a n c n' c' => by cases a <;> rfl
  cases a with
  | none =>
    have h0 : l = [] := by
      rcases hr with ⟨a, c, h, _, _, rfl⟩ | ⟨b, off, c, h, _⟩
      · rfl
      · simp at h
    subst h0
    go_enter Try.func52, Try.ntmps52
    go_wp2
    go_ret
    exact ⟨_, rfl, oa_none _, Turn.refl _ _, fun j hj => by simp [Value.ownBlock] at hj⟩
  | some a =>
    have T0 := (Turn.refl (fun _ => False) w).alloc (.cells #[] 37)
    have hO : OA (w.alloc (.cells #[] 37)) (.slice (some ⟨w.heap.size, 0, none⟩) 0 0) [] := ⟨rfl, .inr ⟨_, 0, 0, _, rfl, heap_alloc_new w _, Nat.le_refl _, Nat.zero_le _, by simp, rfl⟩⟩
    obtain ⟨x, w2, hrun, O2, t2, own2⟩ := append_arcs hO (hr.quiet T0).src (by simpa using hl)
    have T2 : Turn (fun _ => False) w w2 := T0.trans t2 (fun j hj => by simp [Value.ownBlock] at hj; omega)
    have Own : Hid (∀ j, x.ownBlock = some j → w.heap.size ≤ j) := hide (fun j hj => by
      rcases own2 j hj with h | h
      · simp [Value.ownBlock] at h; omega
      · have := T0.size; omega)
    clear own2 t2 T0 hO hr
    go_enter Try.func52, Try.ntmps52
    go_wp2_with (at_builtin; refine list_append_run rfl _ _ 24 rfl _ _ _ _ rfl rfl hrun ?_)
    go_ret
    exact ⟨x, rfl, by simpa using O2, T2, unhide Own⟩
end Go.Proofs.Ytmmlannnpndkcaa
