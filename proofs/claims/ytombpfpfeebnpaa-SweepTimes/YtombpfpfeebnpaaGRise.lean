/- Do arcs rise? -/
import Derived.Test.YtombpfpfeebnpaaGSmall
namespace Go.Proofs.Ytombpfpfeebnpaa
open Go.RowKit Go.Maps
set_option linter.unusedVariables false
set_option linter.unusedSimpArgs false
set_option maxRecDepth 100000

theorem ltA_cases (f t v f' t' v' : Int) : (f < f' ∧ ltA (f, t, v) (f', t', v')) ∨ (f = f' ∧ t < t' ∧ ltA (f, t, v) (f', t', v')) ∨ (f' < f ∧ ¬ f = f' ∧ ¬ ltA (f, t, v) (f', t', v')) ∨ (f = f' ∧ t' ≤ t ∧ ¬ ltA (f, t, v) (f', t', v')) := by
  unfold ltA
  simp only
  omega

set_option maxHeartbeats 4000000 in
theorem rising_walk (B : Nat → Prop) (w : World) (v : Value) (l : List Ar) (hr : AR B w v l) :
    Calls Try.prog 45 #[v] w fun e w' => e = .returned (.bool (decide (l.Pairwise ltA))) ∧ Turn (fun _ => False) w w' := by
  obtain ⟨D, hD⟩ : ∃ D, D = decide (l.Pairwise ltA) := ⟨_, rfl⟩
  rw [← hD]
  obtain ⟨a, c, rfl⟩ := hr.slice
  have hlen := hr.len
  unfold maxLen at hlen
  replace hD := hide hD
  go_enter Try.func45, Try.ntmps45
  go_wp2_with fail
  go_loopw [3] (fun i wr => ∃ k : Nat, i = .int .i64 ((k : Int) + 1) ∧ (k + 1 ≤ l.length ∨ k = 0) ∧ Turn (fun _ => False) w wr ∧ Hid (∀ j a b, j < k → l[j]? = some a → l[j + 1]? = some b → ltA a b)) (fun i _ => l.length - (intOf i).toNat)
  case atStart => exact ⟨0, rfl, .inr rfl, Turn.refl _ _, hide (fun j a b hj => by omega)⟩
  case round =>
    obtain ⟨k, rfl, hk, tr, hall⟩ := hrel
    by_cases hlt : k + 1 < l.length
    · obtain ⟨x, hx⟩ := lt_take (show k < l.length by omega)
      obtain ⟨y, hy⟩ := lt_take hlt
      obtain ⟨g, off, c', hv, _, hcl⟩ := (hr.quiet tr).form (by omega)
      simp only [Value.slice.injEq] at hv
      obtain ⟨rfl, _, rfl⟩ := hv
      obtain ⟨q0, q1, q2⟩ := hcl k x hx
      obtain ⟨r0, r1, r2⟩ := hcl (k + 1) y hy
      have Hok : Hid (ltA x y → ∀ j a b, j < k + 1 → l[j]? = some a → l[j + 1]? = some b → ltA a b) := hide (fun h j a b hj ha hb => by
        by_cases e : j = k
        · subst e; rw [hx] at ha; rw [hy] at hb; cases ha; cases hb; exact h
        · exact unhide hall j a b (by omega) ha hb)
      have Hno : Hid (¬ ltA x y → D = false) := hide (fun h => (unhide hD).trans (decide_eq_false (fun h' => h (pairwise_adj h' k x y hx hy))))
      obtain ⟨f, t, v⟩ := x
      obtain ⟨f', t', v'⟩ := y
      simp only at q0 q1 q2 r0 r1 r2
      clear hcl hx hy hall hr
      have tr2 := (tr.alloc (.cells #[.int .i64 f, .int .i64 t, .int .i64 v] 46)).alloc (.cells #[.int .i64 f', .int .i64 t', .int .i64 v'] 46)
      have tz := fun o o' => ((Turn.refl (fun _ => False) wr).alloc o).alloc o'
      have z0 := fun o o' => (tz o o').cell q0 (fun h => h)
      have z1 := fun o o' => (tz o o').cell q1 (fun h => h)
      have z2 := fun o o' => (tz o o').cell q2 (fun h => h)
      have s0 := fun o o' => (tz o o').cell r0 (fun h => h)
      have s1 := fun o o' => (tz o o').cell r1 (fun h => h)
      have s2 := fun o o' => (tz o o').cell r2 (fun h => h)
      have ty := fun o => (Turn.refl (fun _ => False) wr).alloc o
      have y0 := fun o => (ty o).cell q0 (fun h => h)
      have y1 := fun o => (ty o).cell q1 (fun h => h)
      have y2 := fun o => (ty o).cell q2 (fun h => h)
      have x0 := fun o => (ty o).cell r0 (fun h => h)
      have x1 := fun o => (ty o).cell r1 (fun h => h)
      have x2 := fun o => (ty o).cell r2 (fun h => h)
      clear tz ty
      go_wp2_with fail
      go_region
      all_goals clear z0 z1 z2 s0 s1 s2 y0 y1 y2 x0 x1 x2 q0 q1 q2 r0 r1 r2
      all_goals rcases ltA_cases f t v f' t' v' with ⟨h, h'⟩ | ⟨h, h', hl⟩ | ⟨h, h', hl⟩ | ⟨h, h', hl⟩
      all_goals first
        | have Hd := hide (unhide Hno hl)
        | have Hm := hide (unhide Hok hl)
        | have Hm := hide (unhide Hok h')
      all_goals try clear hl
      all_goals clear Hno Hok
      all_goals go_wp2
      all_goals first
        | exact ⟨⟨k + 1, by go_num, by omega, ((tr.alloc _).alloc _).drew, Hm⟩, by simp [intOf]; omega⟩
        | (go_ret; exact ⟨ret_bool (unhide Hd).symm, ((tr.alloc _).alloc _).drew⟩)
    · have Hd : Hid (D = true) := hide ((unhide hD).trans (decide_eq_true (adj_pairwise (R := ltA) (fun _ _ _ a b => ltA_trans a b) (fun i a b ha hb => unhide hall i a b (by have := (List.getElem?_eq_some_iff.1 hb).1; omega) ha hb))))
      go_wp2
      go_ret
      exact ⟨ret_bool (unhide Hd).symm, tr⟩
end Go.Proofs.Ytombpfpfeebnpaa
