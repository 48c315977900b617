/- The reference: may a network be, is it in order. -/
import Derived.Test.YtombpfpfeebnpaaGSort
import Derived.Test.YtombpfpfeebnpaaGRef
namespace Go.Proofs.Ytombpfpfeebnpaa
open Go.RowKit Go.Maps
set_option linter.unusedVariables false
set_option linter.unusedSimpArgs false
set_option maxRecDepth 100000

theorem okA_cases7 (n f t v : Int) (h : ¬ okA n (f, t, v)) : f < 0 ∨ (¬ f < 0 ∧ n ≤ f) ∨ (¬ f < 0 ∧ ¬ n ≤ f ∧ t < 0) ∨ (¬ f < 0 ∧ ¬ n ≤ f ∧ ¬ t < 0 ∧ n ≤ t) ∨ (¬ f < 0 ∧ ¬ n ≤ f ∧ ¬ t < 0 ∧ ¬ n ≤ t ∧ f = t) ∨ (¬ f < 0 ∧ ¬ n ≤ f ∧ ¬ t < 0 ∧ ¬ n ≤ t ∧ f ≠ t ∧ v < 1) ∨ (¬ f < 0 ∧ ¬ n ≤ f ∧ ¬ t < 0 ∧ ¬ n ≤ t ∧ f ≠ t ∧ ¬ v < 1 ∧ 1048576 < v) := by
  unfold okA at h
  simp only at h
  omega

set_option maxHeartbeats 8000000 in
theorem may_walk (B : Nat → Prop) (w : World) (n : Int) (v : Value) (l : List Ar) (hr : AR B w v l) (hl6 : l.length ≤ 1000000) :
    Calls Try.prog 23 #[.agg #[.int .i64 n, v]] w fun e w' => e = .returned (.bool (decide (MayA n l))) ∧ Turn (fun _ => False) w w' := by
  obtain ⟨D, hD⟩ : ∃ D, D = decide (MayA n l) := ⟨_, rfl⟩
  rw [← hD]
  obtain ⟨a, c, rfl⟩ := hr.slice
  have T0 := (Turn.refl (fun _ => False) w).alloc (.cells #[.int .i64 n, .slice a l.length c] 24)
  have hR := hr.quiet T0
  have hb := heap_alloc_new w (.cells #[.int .i64 n, .slice a l.length c] 24)
  have hlen := hr.len
  unfold maxLen at hlen
  by_cases h1 : n < 1
  · have Hd : Hid (D = false) := hide (hD.trans (decide_eq_false (fun h => by have := h.1.1; omega)))
    clear hD hr hR
    go_enter Try.func23, Try.ntmps23
    go_wp2
    go_ret
    exact ⟨ret_bool (unhide Hd).symm, T0⟩
  by_cases h2 : 4194304 < n
  · have Hd : Hid (D = false) := hide (hD.trans (decide_eq_false (fun h => by have := h.1.2.1; omega)))
    clear hD hr hR
    go_enter Try.func23, Try.ntmps23
    go_wp2
    go_ret
    exact ⟨ret_bool (unhide Hd).symm, T0⟩
  have h3 : ¬ 4194304 < l.length := by omega
  clear hr
  replace hD := hide hD
  go_enter Try.func23, Try.ntmps23
  go_wp2_with fail
  generalize hW : w.alloc (.cells #[.int .i64 n, .slice a l.length c] 24) = W at *
  clear hW
  generalize hbs : w.heap.size = b at *
  go_loopw [3] (fun i wr => ∃ k : Nat, i = .int .i64 (k : Int) ∧ k ≤ l.length ∧ Turn (fun _ => False) W wr ∧ Hid (∀ j y, j < k → l[j]? = some y → okA n y)) (fun i _ => l.length - (intOf i).toNat)
  case atStart => exact ⟨0, rfl, Nat.zero_le _, Turn.refl _ _, hide (fun j y hj => by omega)⟩
  case round =>
    obtain ⟨k, rfl, hk, tr, hall⟩ := hrel
    have hb2 := tr.same hb (fun h => h)
    have g0 : wr.cell? ⟨b, 0, none⟩ = some (.int .i64 n) := cell_obj hb2 0
    have g1 : wr.cell? ⟨b, 1, none⟩ = some (.slice a l.length c) := cell_obj hb2 1
    by_cases hlt : k < l.length
    · obtain ⟨x, hx⟩ := lt_take hlt
      obtain ⟨g, off, c', hv, _, hcl⟩ := (hR.quiet tr).form (by omega)
      simp only [Value.slice.injEq] at hv
      obtain ⟨rfl, _, rfl⟩ := hv
      obtain ⟨q0, q1, q2⟩ := hcl k x hx
      have tr2 := tr.alloc (.cells #[.int .i64 x.1, .int .i64 x.2.1, .int .i64 x.2.2] 46)
      have hb3 := tr2.same hb (fun h => h)
      have e0 : (wr.alloc (.cells #[.int .i64 x.1, .int .i64 x.2.1, .int .i64 x.2.2] 46)).cell? ⟨b, 0, none⟩ = some (.int .i64 n) := cell_obj hb3 0
      have Hok : Hid (okA n x → ∀ j y, j < k + 1 → l[j]? = some y → okA n y) := hide (fun h => all_more (unhide hall) hx h)
      have Hno : Hid (¬ okA n x → D = false) := hide (fun h => (unhide hD).trans (decide_eq_false (fun h' => h (h'.1.2.2.2 x (List.mem_of_getElem? hx)))))
      obtain ⟨f, t, v⟩ := x
      simp only at q0 q1 q2 e0 tr2
      clear hcl hb2 hb3 hx hall
      by_cases hok : okA n (f, t, v)
      · have Hmore := hide (unhide Hok hok)
        obtain ⟨o1, o2, o3, o4, o5, o6, o7⟩ := hok
        simp only at o1 o2 o3 o4 o5 o6 o7
        clear Hok Hno
        have hbe : (f == t) = false := by rw [beq_eq_false_iff_ne]; exact o5
        have p1 : ¬ f < 0 := by omega
        have p2 : ¬ n ≤ f := by omega
        have p3 : ¬ t < 0 := by omega
        have p4 : ¬ n ≤ t := by omega
        go_wp2
        exact ⟨⟨k + 1, by go_num, by omega, tr2, Hmore⟩, by simp [intOf]; omega⟩
      · have Hd := hide (unhide Hno hok)
        have Hc := okA_cases7 n f t v hok
        clear Hok Hno hok
        rcases Hc with o | ⟨p1, o⟩ | ⟨p1, p2, o⟩ | ⟨p1, p2, p3, o⟩ | ⟨p1, p2, p3, p4, o⟩ | ⟨p1, p2, p3, p4, o5, o⟩ | ⟨p1, p2, p3, p4, o5, o6, o⟩
        · go_wp2
          go_ret
          exact ⟨ret_bool (unhide Hd).symm, T0.then tr2⟩
        · go_wp2
          go_ret
          exact ⟨ret_bool (unhide Hd).symm, T0.then tr2⟩
        · go_wp2
          go_ret
          exact ⟨ret_bool (unhide Hd).symm, T0.then tr2⟩
        · go_wp2
          go_ret
          exact ⟨ret_bool (unhide Hd).symm, T0.then tr2⟩
        · subst o
          go_wp2
          go_ret
          exact ⟨ret_bool (unhide Hd).symm, T0.then tr2⟩
        · have hbe : (f == t) = false := by rw [beq_eq_false_iff_ne]; exact o5
          go_wp2
          go_ret
          exact ⟨ret_bool (unhide Hd).symm, T0.then tr2⟩
        · have hbe : (f == t) = false := by rw [beq_eq_false_iff_ne]; exact o5
          go_wp2
          go_ret
          exact ⟨ret_bool (unhide Hd).symm, T0.then tr2⟩
    · obtain rfl : k = l.length := by omega
      have Hb := hide (show BoundedN n l from ⟨by omega, by omega, by omega, all_mem (unhide hall)⟩)
      have Hs := sort_call wr _ l hl6 ((hR.quiet tr).mono (fun _ _ => trivial))
      have Hdist := hide (dist_iff l)
      have hsl := sort_len l
      clear hall hR hb hb2
      generalize sortA l = S at *
      go_wp2_with fail
      refine Hs.mono ?_
      rintro e w2 ⟨x2, rfl, O2, t2, own2⟩
      have T2 := (T0.then tr).then t2
      have R2 := O2.ar
      obtain ⟨p2, q2, rfl⟩ := O2.form
      have hS : S.length ≤ 1000000 := by omega
      clear own2 O2 t2 Hs T0 tr hsl
      go_wp2_with fail
      go_loopw [6] (fun i wr => ∃ k : Nat, i = .int .i64 ((k : Int) + 1) ∧ (k + 1 ≤ S.length ∨ k = 0) ∧ Turn (fun _ => False) w2 wr ∧ Hid (∀ j a b, j < k → S[j]? = some a → S[j + 1]? = some b → ¬ (a.1 = b.1 ∧ a.2.1 = b.2.1))) (fun i _ => S.length - (intOf i).toNat)
      case atStart => exact ⟨0, rfl, .inr rfl, Turn.refl _ _, hide (fun j a b hj => by omega)⟩
      case round =>
        obtain ⟨k, rfl, hk, tr, hall⟩ := hrel
        by_cases hlt : k + 1 < S.length
        · obtain ⟨x, hx⟩ := lt_take (show k < S.length by omega)
          obtain ⟨y, hy⟩ := lt_take hlt
          obtain ⟨g, off, c', hv, _, hcl⟩ := (R2.quiet tr).form (by omega)
          simp only [Value.slice.injEq] at hv
          obtain ⟨rfl, _, rfl⟩ := hv
          obtain ⟨q0, q1, q2⟩ := hcl k x hx
          obtain ⟨r0, r1, r2⟩ := hcl (k + 1) y hy
          have z0 : ∀ p : After wr, p.w.cell? ⟨g, off + k * 3, none⟩ = some (.int .i64 x.1) := fun p => p.turn.cell q0 (fun h => h)
          have z1 : ∀ p : After wr, p.w.cell? ⟨g, off + k * 3 + 1, none⟩ = some (.int .i64 x.2.1) := fun p => p.turn.cell q1 (fun h => h)
          have s0 : ∀ p : After wr, p.w.cell? ⟨g, off + (k + 1) * 3, none⟩ = some (.int .i64 y.1) := fun p => p.turn.cell r0 (fun h => h)
          have s1 : ∀ p : After wr, p.w.cell? ⟨g, off + (k + 1) * 3 + 1, none⟩ = some (.int .i64 y.2.1) := fun p => p.turn.cell r1 (fun h => h)
          have hwr : IntKind.i64.wrap (k : Int) = (k : Int) := by rw [IntKind.wrap_i64]; omega
          by_cases hxy : x.1 = y.1 ∧ x.2.1 = y.2.1
          · have Hd : Hid (D = false) := hide ((unhide hD).trans (decide_eq_false (fun h' => (unhide Hdist).1 h'.2 k x y hx hy hxy)))
            obtain ⟨f, t, u⟩ := x
            obtain ⟨f', t', u'⟩ := y
            simp only at z0 z1 s0 s1 hxy
            obtain ⟨rfl, rfl⟩ := hxy
            clear hcl hx hy hall q0 q1 q2 r0 r1 r2 R2
            go_wp2_with fail
            have hne := after_ne wr
            refine wp_region_after (by kernel_rfl) (by kernel_rfl) ?_
            repeat (go_big_quiet_step (fail))
            refine wpQuiet_nil ?_
            rintro _ ⟨p, rfl⟩
            have tr2 := tr.then p.turn
            go_wp2
            go_ret
            exact ⟨ret_bool (unhide Hd).symm, T2.then tr2⟩
          · have Hok : Hid (∀ j a b, j < k + 1 → S[j]? = some a → S[j + 1]? = some b → ¬ (a.1 = b.1 ∧ a.2.1 = b.2.1)) := hide (fun j a b hj ha hb => by
              by_cases e : j = k
              · subst e; rw [hx] at ha; rw [hy] at hb; cases ha; cases hb; exact hxy
              · exact unhide hall j a b (by omega) ha hb)
            obtain ⟨f, t, u⟩ := x
            obtain ⟨f', t', u'⟩ := y
            simp only at z0 z1 s0 s1 hxy
            clear hcl hx hy hall q0 q1 q2 r0 r1 r2 R2
            by_cases hf : f = f'
            · have ht : t ≠ t' := fun e => hxy ⟨hf, e⟩
              subst hf
              have hb2 : (t == t') = false := by rw [beq_eq_false_iff_ne]; exact ht
              clear hxy ht
              go_wp2_with fail
              have hne := after_ne wr
              refine wp_region_after (by kernel_rfl) (by kernel_rfl) ?_
              repeat (go_big_quiet_step (fail))
              refine wpQuiet_nil ?_
              rintro _ ⟨p, rfl⟩
              have tr2 := tr.then p.turn
              go_wp2
              exact ⟨⟨k + 1, by go_num, by omega, tr2, Hok⟩, by simp [intOf]; omega⟩
            · have hb2 : (f == f') = false := by rw [beq_eq_false_iff_ne]; exact hf
              clear hxy hf
              go_wp2_with fail
              have hne := after_ne wr
              refine wp_region_after (by kernel_rfl) (by kernel_rfl) ?_
              repeat (go_big_quiet_step (fail))
              refine wpQuiet_nil ?_
              rintro _ ⟨p, rfl⟩
              have tr2 := tr.then p.turn
              go_wp2
              exact ⟨⟨k + 1, by go_num, by omega, tr2, Hok⟩, by simp [intOf]; omega⟩
        · have Hd : Hid (D = true) := hide ((unhide hD).trans (decide_eq_true ⟨unhide Hb, (unhide Hdist).2 (fun j a b ha hb => unhide hall j a b (by have := (List.getElem?_eq_some_iff.1 hb).1; omega) ha hb)⟩))
          go_wp2
          go_ret
          exact ⟨ret_bool (unhide Hd).symm, T2.then tr⟩
end Go.Proofs.Ytombpfpfeebnpaa
