/- Lists of distances held against each other. -/
import Derived.Test.YtombpfpfeebnpaaSMore
import Derived.Test.YtombpfpfeebnpaaBAfter
import Derived.Test.YtombpfpfeebnpaaGNets
namespace Go.Proofs.Ytombpfpfeebnpaa
open Go.RowKit Go.Maps
set_option linter.unusedVariables false
set_option linter.unusedSimpArgs false
set_option maxRecDepth 100000

theorem eq_of_ats {α : Type} (a b : List α) (hl : a.length = b.length) (h : ∀ j x y, j < a.length → a[j]? = some x → b[j]? = some y → x = y) : a = b := by
  apply List.ext_getElem hl
  intro i h1 h2
  exact h i _ _ h1 (by simp [h1]) (by simp [h2])
theorem ND.lens {w : World} {b n : Nat} {L : List Int} (h : ND w b n L) : n ≤ maxLen := by
  rcases h.2.2 with ⟨h1, h0⟩ | ⟨g, off, cap, cur, h1, hg, hn, hm, hs, ht⟩
  · omega
  · simp only [Value.slice.injEq] at h1; omega
theorem DL.lens {w : World} {v : Value} {R : List It} (h : DL w v R) : R.length ≤ maxLen := by
  rcases h.2 with ⟨h1, h0⟩ | ⟨g, off, cap, cur, h1, hg, hn, hm, hs, ht⟩
  · omega
  · omega
theorem lt_some {α : Type} {l : List α} {k : Nat} (hk : k < l.length) : ∃ x : α, l[k]? = some x := ⟨l[k], by simp [hk]⟩

set_option maxHeartbeats 1000000 in
theorem one_int (a b : Int) (w : World) : Calls Try.prog 26 #[.int .i64 a, .int .i64 b] w fun e w' => e = .returned (.bool (decide (a = b))) ∧ Turn (fun _ => False) w w' := by
  by_cases h : a = b
  · have Hd : Hid (decide (a = b) = true) := hide (decide_eq_true h)
    have h1 : (a == b) = true := beq_iff_eq.2 h
    generalize decide (a = b) = D at *
    clear h
    go_enter Try.func26, Try.ntmps26
    go_wp2
    go_ret
    exact ⟨ret_bool (unhide Hd).symm, Turn.refl _ _⟩
  · have Hd : Hid (decide (a = b) = false) := hide (decide_eq_false h)
    have h1 : (a == b) = false := beq_eq_false_iff_ne.2 h
    generalize decide (a = b) = D at *
    clear h
    go_enter Try.func26, Try.ntmps26
    go_wp2
    go_ret
    exact ⟨ret_bool (unhide Hd).symm, Turn.refl _ _⟩
set_option maxHeartbeats 1000000 in
theorem one_dist (x y : It) (w : World) : Calls Try.prog 36 #[.agg #[.int .i64 (x.1 : Int), .int .i64 x.2], .agg #[.int .i64 (y.1 : Int), .int .i64 y.2]] w fun e w' => e = .returned (.bool (decide (x = y))) ∧ Turn (fun _ => False) w w' := by
  obtain ⟨f, t⟩ := x
  obtain ⟨f', t'⟩ := y
  simp only
  by_cases h1 : f = f'
  · by_cases h2 : t = t'
    · have Hd : Hid (decide (((f, t) : It) = (f', t')) = true) := hide (by simp [h1, h2])
      generalize decide (((f, t) : It) = (f', t')) = D at *
      go_enter Try.func36, Try.ntmps36
      go_wp2
      go_ret
      exact ⟨ret_bool (unhide Hd).symm, ((Turn.refl _ _).alloc _).alloc _⟩
    · have Hd : Hid (decide (((f, t) : It) = (f', t')) = false) := hide (by simp [h1, h2])
      generalize decide (((f, t) : It) = (f', t')) = D at *
      go_enter Try.func36, Try.ntmps36
      go_wp2
      go_ret
      exact ⟨ret_bool (unhide Hd).symm, ((Turn.refl _ _).alloc _).alloc _⟩
  · have Hd : Hid (decide (((f, t) : It) = (f', t')) = false) := hide (by simp [h1])
    generalize decide (((f, t) : It) = (f', t')) = D at *
    go_enter Try.func36, Try.ntmps36
    go_wp2
    go_ret
    exact ⟨ret_bool (unhide Hd).symm, ((Turn.refl _ _).alloc _).alloc _⟩

set_option maxHeartbeats 2000000 in
theorem same_ints (w : World) (b b' n n' : Nat) (l l' : List Int) (hr : ND w b n l) (hr' : ND w b' n' l') :
    Calls Try.prog 25 #[.slice (some ⟨b, 0, none⟩) n n, .slice (some ⟨b', 0, none⟩) n' n', .func (.func 26) #[] #[]] w fun e w' => e = .returned (.bool (decide (l = l'))) ∧ Turn (fun _ => False) w w' := by
  have hlen := hr.1
  have hlen' := hr'.1
  have hbig := hr.lens
  unfold maxLen at hbig
  obtain ⟨D, hD⟩ : ∃ D, D = decide (l = l') := ⟨_, rfl⟩
  rw [← hD]
  replace hD := hide hD
  by_cases hl : n = n'
  · have Hl : Hid (l.length = l'.length) := hide (by omega)
    subst hl
    have hne : ((n : Int) != (n : Int)) = false := by simp
    go_enter Try.func25, Try.ntmps25
    go_wp2_with fail
    go_loopw [7] (fun i wr => ∃ k : Nat, k ≤ n ∧ i = .int .i64 (k : Int) ∧ Turn (fun _ => False) w wr ∧ Hid (∀ j x y, j < k → l[j]? = some x → l'[j]? = some y → x = y)) (fun i _ => n - (intOf i).toNat)
    case atStart => exact ⟨0, Nat.zero_le _, rfl, Turn.refl _ _, hide (fun j x y hj => by omega)⟩
    case round =>
      obtain ⟨k, hk, rfl, tr, hsm⟩ := hrel
      by_cases hlt : k < n
      · obtain ⟨x, hx⟩ := lt_some (l := l) (show k < l.length by omega)
        obtain ⟨y, hy⟩ := lt_some (l := l') (show k < l'.length by omega)
        have q0 := ((hr.turn tr (fun h => h)).at hx).1
        have r0 := ((hr'.turn tr (fun h => h)).at hy).1
        have z0 : ∀ p : After wr, p.w.cell? ⟨b, k, none⟩ = some (.int .i64 x) := fun p => p.turn.cell q0 (fun h => h)
        have s0 : ∀ p : After wr, p.w.cell? ⟨b', k, none⟩ = some (.int .i64 y) := fun p => p.turn.cell r0 (fun h => h)
        have Hone := fun u => one_int x y u
        have ik : (k : Int) < (n : Int) := by omega
        have ik0 : (0 : Int) ≤ (k : Int) := by omega
        have Hk := hide hlt
        by_cases hxy : x = y
        · have hd : decide (x = y) = true := decide_eq_true hxy
          rw [hd] at Hone
          have Hsm : Hid (∀ j x y, j < k + 1 → l[j]? = some x → l'[j]? = some y → x = y) := hide (fun j a b hj ha hb => by
            by_cases e : j = k
            · subst e; rw [hx] at ha; rw [hy] at hb; cases ha; cases hb; exact hxy
            · exact unhide hsm j a b (by omega) ha hb)
          clear hx hy hxy hd hsm q0 r0 hr hr' hlen hlen'
          go_wp2_with fail
          have hne2 := after_ne wr
          refine wp_region_after (by kernel_rfl) (by kernel_rfl) ?_
          repeat (go_big_quiet_step ((go_at_call 26; exact after_of _ ((Hone _).mono (fun _ _ h => ⟨h.1, h.2.blw⟩)))))
          refine wpQuiet_nil ?_
          rintro _ ⟨p, rfl⟩
          have tr2 := tr.then p.turn
          go_wp2
          exact ⟨⟨k + 1, unhide Hk, by go_num, tr2, Hsm⟩, by have := unhide Hk; simp [intOf]; omega⟩
        · have hd : decide (x = y) = false := decide_eq_false hxy
          rw [hd] at Hone
          have Hd : Hid (D = false) := hide ((unhide hD).trans (decide_eq_false (fun e => hxy (by rw [e, hy] at hx; cases hx; rfl))))
          clear hx hy hxy hd hsm q0 r0 hr hr' hlen hlen'
          go_wp2_with fail
          have hne2 := after_ne wr
          refine wp_region_after (by kernel_rfl) (by kernel_rfl) ?_
          repeat (go_big_quiet_step ((go_at_call 26; exact after_of _ ((Hone _).mono (fun _ _ h => ⟨h.1, h.2.blw⟩)))))
          refine wpQuiet_nil ?_
          rintro _ ⟨p, rfl⟩
          have tr2 := tr.then p.turn
          go_wp2
          go_ret
          exact ⟨ret_bool (unhide Hd).symm, tr2⟩
      · have Hd : Hid (D = true) := hide ((unhide hD).trans (decide_eq_true (eq_of_ats l l' (unhide Hl) (fun j x y hj => unhide hsm j x y (by omega)))))
        have ik : ¬ (k : Int) < (n : Int) := by omega
        go_wp2
        go_ret
        exact ⟨ret_bool (unhide Hd).symm, tr⟩
  · have hne : ((n : Int) != (n' : Int)) = true := by rw [bne_iff_ne]; omega
    have Hd : Hid (D = false) := hide ((unhide hD).trans (decide_eq_false (fun e => hl (by rw [e] at hlen; omega))))
    clear hl hr hr' hlen hlen'
    go_enter Try.func25, Try.ntmps25
    go_wp2
    go_ret
    exact ⟨ret_bool (unhide Hd).symm, Turn.refl _ _⟩
set_option maxHeartbeats 1000000 in
theorem plain_ints (w : World) (b b' n n' : Nat) (l l' : List Int) (hr : ND w b n l) (hr' : ND w b' n' l') :
    Calls Try.prog 11 #[.slice (some ⟨b, 0, none⟩) n n, .slice (some ⟨b', 0, none⟩) n' n'] w fun e w' => e = .returned (.bool (decide (l = l'))) ∧ Turn (fun _ => False) w w' := by
  go_enter Try.func11, Try.ntmps11
  go_wp2_with fail
  refine (same_ints _ b b' n n' l l' hr hr').mono ?_
  rintro e w' ⟨rfl, t⟩
  go_wp2
  go_ret
  exact ⟨rfl, t⟩

theorem DL.turn {F : Nat → Prop} {w w' : World} {v : Value} {R : List It} (h : DL w v R) (ht : Turn F w w') (hn : ∀ k, v.ownBlock = some k → ¬ F k) : DL w' v R := OwnSl.turn h ht hn
theorem DL.form {w : World} {v : Value} {R : List It} (h : DL w v R) : (v = .slice none 0 0 ∧ R = []) ∨ ∃ g off c, v = .slice (some ⟨g, off, none⟩) R.length c ∧ v.ownBlock = some g ∧ ∀ (k : Nat) (x : It), R[k]? = some x → w.cell? ⟨g, off + k * 2, none⟩ = some (.int .i64 (x.1 : Int)) ∧ w.cell? ⟨g, off + k * 2 + 1, none⟩ = some (.int .i64 x.2) := by
  rcases h.2 with ⟨rfl, h0⟩ | ⟨g, off, cap, cur, rfl, hg, hn, hm, hs, ht⟩
  · exact .inl ⟨rfl, List.eq_nil_of_length_eq_zero h0⟩
  · refine .inr ⟨g, off, cap, rfl, rfl, fun k x hx => ⟨h.cells (k * 2) _ (tCells_at R k x hx).1, ?_⟩⟩
    rw [Nat.add_assoc]
    exact h.cells (k * 2 + 1) _ (tCells_at R k x hx).2
theorem DL.slice {w : World} {v : Value} {R : List It} (h : DL w v R) : ∃ a c, v = .slice a R.length c := by
  rcases h.form with ⟨rfl, rfl⟩ | ⟨g, off, c, rfl, _⟩
  · exact ⟨_, _, rfl⟩
  · exact ⟨_, _, rfl⟩
set_option maxHeartbeats 2000000 in
theorem same_dists (w : World) (v v' : Value) (l l' : List It) (hr : DL w v l) (hr' : DL w v' l') :
    Calls Try.prog 35 #[v, v', .func (.func 36) #[] #[]] w fun e w' => e = .returned (.bool (decide (l = l'))) ∧ Turn (fun _ => False) w w' := by
  have hbig := hr.lens
  unfold maxLen at hbig
  obtain ⟨a, c, rfl⟩ := hr.slice
  obtain ⟨a', c', rfl⟩ := hr'.slice
  obtain ⟨D, hD⟩ : ∃ D, D = decide (l = l') := ⟨_, rfl⟩
  rw [← hD]
  replace hD := hide hD
  by_cases hl : l.length = l'.length
  · have Hl := hide hl
    have hne : ((l.length : Int) != (l'.length : Int)) = false := by rw [hl]; simp
    clear hl
    go_enter Try.func35, Try.ntmps35
    go_wp2_with fail
    go_loopw [7] (fun i wr => ∃ k : Nat, k ≤ l.length ∧ i = .int .i64 (k : Int) ∧ Turn (fun _ => False) w wr ∧ Hid (∀ j x y, j < k → l[j]? = some x → l'[j]? = some y → x = y)) (fun i _ => l.length - (intOf i).toNat)
    case atStart => exact ⟨0, Nat.zero_le _, rfl, Turn.refl _ _, hide (fun j x y hj => by omega)⟩
    case round =>
      obtain ⟨k, hk, rfl, tr, hsm⟩ := hrel
      by_cases hlt : k < l.length
      · have hlt' : k < l'.length := by rw [← unhide Hl]; exact hlt
        obtain ⟨x, hx⟩ := lt_some hlt
        obtain ⟨y, hy⟩ := lt_some hlt'
        have h2 := (hr.turn tr (fun _ _ h => h)).form
        rcases h2 with ⟨_, h3⟩ | ⟨g, off, c1, hv, _, hcl⟩
        · rw [h3] at hlt; exact absurd hlt (Nat.not_lt_zero _)
        simp only [Value.slice.injEq] at hv
        obtain ⟨rfl, _, rfl⟩ := hv
        obtain ⟨q0, q1⟩ := hcl k x hx
        have h2 := (hr'.turn tr (fun _ _ h => h)).form
        rcases h2 with ⟨_, h3⟩ | ⟨g', off', c2, hv, _, hcl'⟩
        · rw [h3] at hlt'; exact absurd hlt' (Nat.not_lt_zero _)
        simp only [Value.slice.injEq] at hv
        obtain ⟨rfl, _, rfl⟩ := hv
        obtain ⟨r0, r1⟩ := hcl' k y hy
        have z0 : ∀ p : After wr, p.w.cell? ⟨g, off + k * 2, none⟩ = some (.int .i64 (x.1 : Int)) := fun p => p.turn.cell q0 (fun h => h)
        have z1 : ∀ p : After wr, p.w.cell? ⟨g, off + k * 2 + 1, none⟩ = some (.int .i64 x.2) := fun p => p.turn.cell q1 (fun h => h)
        have s0 : ∀ p : After wr, p.w.cell? ⟨g', off' + k * 2, none⟩ = some (.int .i64 (y.1 : Int)) := fun p => p.turn.cell r0 (fun h => h)
        have s1 : ∀ p : After wr, p.w.cell? ⟨g', off' + k * 2 + 1, none⟩ = some (.int .i64 y.2) := fun p => p.turn.cell r1 (fun h => h)
        have Hone := fun u => one_dist x y u
        by_cases hxy : x = y
        · have hd : decide (x = y) = true := decide_eq_true hxy
          rw [hd] at Hone
          have Hsm : Hid (∀ j x y, j < k + 1 → l[j]? = some x → l'[j]? = some y → x = y) := hide (fun j a b hj ha hb => by
            by_cases e : j = k
            · subst e; rw [hx] at ha; rw [hy] at hb; cases ha; cases hb; exact hxy
            · exact unhide hsm j a b (by omega) ha hb)
          clear hcl hcl' hx hy hxy hd hsm q0 q1 r0 r1 hr hr'
          obtain ⟨f, t⟩ := x
          obtain ⟨f', t'⟩ := y
          simp only at z0 z1 s0 s1 Hone
          go_wp2_with fail
          have hne2 := after_ne wr
          refine wp_region_after (by kernel_rfl) (by kernel_rfl) ?_
          repeat (go_big_quiet_step ((go_at_call 36; exact after_of _ ((Hone _).mono (fun _ _ h => ⟨h.1, h.2.blw⟩)))))
          refine wpQuiet_nil ?_
          rintro _ ⟨p, rfl⟩
          have tr2 := tr.then p.turn
          go_wp2
          exact ⟨⟨k + 1, by omega, by go_num, tr2, Hsm⟩, by simp [intOf]; omega⟩
        · have hd : decide (x = y) = false := decide_eq_false hxy
          rw [hd] at Hone
          have Hd : Hid (D = false) := hide ((unhide hD).trans (decide_eq_false (fun e => hxy (by rw [e, hy] at hx; cases hx; rfl))))
          clear hcl hcl' hx hy hxy hd hsm q0 q1 r0 r1 hr hr'
          obtain ⟨f, t⟩ := x
          obtain ⟨f', t'⟩ := y
          simp only at z0 z1 s0 s1 Hone
          go_wp2_with fail
          have hne2 := after_ne wr
          refine wp_region_after (by kernel_rfl) (by kernel_rfl) ?_
          repeat (go_big_quiet_step ((go_at_call 36; exact after_of _ ((Hone _).mono (fun _ _ h => ⟨h.1, h.2.blw⟩)))))
          refine wpQuiet_nil ?_
          rintro _ ⟨p, rfl⟩
          have tr2 := tr.then p.turn
          go_wp2
          go_ret
          exact ⟨ret_bool (unhide Hd).symm, tr2⟩
      · have Hd : Hid (D = true) := hide ((unhide hD).trans (decide_eq_true (eq_of_ats l l' (unhide Hl) (fun j x y hj => unhide hsm j x y (by omega)))))
        go_wp2
        go_ret
        exact ⟨ret_bool (unhide Hd).symm, tr⟩
  · have hne : ((l.length : Int) != (l'.length : Int)) = true := by rw [bne_iff_ne]; omega
    have Hd : Hid (D = false) := hide ((unhide hD).trans (decide_eq_false (fun e => hl (by rw [e]))))
    clear hl hr hr'
    go_enter Try.func35, Try.ntmps35
    go_wp2
    go_ret
    exact ⟨ret_bool (unhide Hd).symm, Turn.refl _ _⟩
set_option maxHeartbeats 1000000 in
theorem plain_dists (w : World) (v v' : Value) (l l' : List It) (hr : DL w v l) (hr' : DL w v' l') :
    Calls Try.prog 18 #[v, v'] w fun e w' => e = .returned (.bool (decide (l = l'))) ∧ Turn (fun _ => False) w w' := by
  go_enter Try.func18, Try.ntmps18
  go_wp2_with fail
  refine (same_dists _ v v' l l' hr hr').mono ?_
  rintro e w' ⟨rfl, t⟩
  go_wp2
  go_ret
  exact ⟨rfl, t⟩
end Go.Proofs.Ytombpfpfeebnpaa
