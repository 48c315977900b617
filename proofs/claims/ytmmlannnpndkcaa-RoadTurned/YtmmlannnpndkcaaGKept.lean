/- Are copies kept; at most 300 arcs. -/
import Derived.Test.YtmmlannnpndkcaaGOwn
namespace Go.Proofs.Ytmmlannnpndkcaa
open Go.RowKit Go.Maps
set_option linter.unusedVariables false
set_option linter.unusedSimpArgs false
set_option maxRecDepth 100000

theorem own3_len (l : List Ar) (f : Ar) : (own3 l f).length = l.length + 3 := by simp [own3]
theorem own3_at {l : List Ar} {f : Ar} {j : Nat} {x : Ar} (h : l[j]? = some x) : (own3 l f)[j]? = some x := by
  unfold own3
  rw [List.getElem?_append_left (List.getElem?_eq_some_iff.1 h).1]; exact h
theorem own3_rest {l : List Ar} {f : Ar} {j : Nat} (h1 : l.length ≤ j) (h2 : j < l.length + 3) : (own3 l f)[j]? = some f := by
  unfold own3
  rw [List.getElem?_append_right h1]
  obtain ⟨r, hr⟩ : ∃ r, j - l.length = r := ⟨_, rfl⟩
  rw [hr]
  have : r < 3 := by omega
  match r, this with
  | 0, _ => rfl
  | 1, _ => rfl
  | 2, _ => rfl
/-- the copy itself -/
theorem OA.prefix {w : World} {g : Nat} {l : List Ar} {f : Ar} (h : OA w (.slice (some ⟨g, 0, none⟩) (l.length + 3) (l.length + 3)) (own3 l f)) : AR (fun j => j = g) w (.slice (some ⟨g, 0, none⟩) l.length (l.length + 3)) l := by
  have hm := h.ar.len
  rw [own3_len] at hm
  obtain ⟨b, off, c, hv, _, hc⟩ := h.ar.form (by rw [own3_len]; omega)
  simp only [Value.slice.injEq, Option.some.injEq, Addr.mk.injEq, and_true] at hv
  obtain ⟨⟨rfl, rfl⟩, _, rfl⟩ := hv
  exact .inr ⟨g, 0, l.length + 3, rfl, by omega, hm, rfl, fun i x hx => hc i x (own3_at hx)⟩

set_option maxHeartbeats 4000000 in
theorem kept_arc (w : World) (g : Nat) (v : Value) (l : List Ar) (f : Ar) (hl : l.length ≤ 1000000) (hO : OA w (.slice (some ⟨g, 0, none⟩) (l.length + 3) (l.length + 3)) (own3 l f)) (hr : AR any w v l) :
    Calls Try.prog 20 #[.slice (some ⟨g, 0, none⟩) l.length (l.length + 3), v, arV f] w fun e w' => e = .returned (.bool true) ∧ Turn (fun _ => False) w w' := by
  obtain ⟨f1, f2, f3⟩ := f
  unfold arV
  simp only
  have T0 := (Turn.refl (fun _ => False) w).alloc (.cells #[.int .i64 f1, .int .i64 f2, .int .i64 f3] 37)
  have hb := heap_alloc_new w (.cells #[.int .i64 f1, .int .i64 f2, .int .i64 f3] 37)
  have hO1 := hO.turn T0 (fun _ _ h => h)
  have Hp := plain_arcs _ _ _ l l (hO1.prefix.mono (B' := any) (fun _ _ => trivial)) (hr.quiet T0)
  rw [show decide (l = l) = true by simp] at Hp
  obtain ⟨a, c, rfl⟩ := hr.slice
  clear hr hO
  go_enter Try.func20, Try.ntmps20
  go_wp2_with fail
  generalize w.alloc (.cells #[.int .i64 f1, .int .i64 f2, .int .i64 f3] 37) = W at *
  generalize w.heap.size = b at *
  refine Hp.mono ?_
  rintro e w1 ⟨rfl, t1⟩
  have hO2 := hO1.turn t1 (fun _ _ h => h)
  have hb1 := t1.same hb (fun h => h)
  have T1 := T0.then t1
  have hc1 : ∀ k, l.length ≤ k → k < l.length + 3 → w1.cell? ⟨g, k * 3, none⟩ = some (.int .i64 f1) ∧ w1.cell? ⟨g, k * 3 + 1, none⟩ = some (.int .i64 f2) ∧ w1.cell? ⟨g, k * 3 + 2, none⟩ = some (.int .i64 f3) := by
    intro k h1 h2
    obtain ⟨b', off, c', hv, _, hc⟩ := hO2.ar.form (by rw [own3_len]; omega)
    simp only [Value.slice.injEq, Option.some.injEq, Addr.mk.injEq, and_true] at hv
    obtain ⟨⟨rfl, rfl⟩, _, rfl⟩ := hv
    have := hc k _ (own3_rest h1 h2)
    simpa using this
  have Hc1 := hide hc1
  clear Hp hb t1 hO1 hO2 T0 hc1
  go_wp2_with fail
  go_loopw [8] (fun i wr => ∃ k : Nat, l.length ≤ k ∧ k ≤ l.length + 3 ∧ i = .int .i64 (k : Int) ∧ Turn (fun _ => False) w1 wr) (fun i _ => l.length + 3 - (intOf i).toNat)
  case atStart => exact ⟨l.length, Nat.le_refl _, by omega, rfl, Turn.refl _ _⟩
  case round =>
    obtain ⟨k, hk1, hk2, rfl, tr⟩ := hrel
    by_cases hlt : k < l.length + 3
    · obtain ⟨c0, c1, c2⟩ := unhide Hc1 k hk1 hlt
      have z0 : ∀ p : After wr, p.w.cell? ⟨g, k * 3, none⟩ = some (.int .i64 f1) := fun p => (tr.then p.turn).cell c0 (fun h => h)
      have z1 : ∀ p : After wr, p.w.cell? ⟨g, k * 3 + 1, none⟩ = some (.int .i64 f2) := fun p => (tr.then p.turn).cell c1 (fun h => h)
      have z2 : ∀ p : After wr, p.w.cell? ⟨g, k * 3 + 2, none⟩ = some (.int .i64 f3) := fun p => (tr.then p.turn).cell c2 (fun h => h)
      have s0 : ∀ p : After wr, p.w.cell? ⟨b, 0, none⟩ = some (.int .i64 f1) := fun p => (tr.then p.turn).cell (cell_obj hb1 0) (fun h => h)
      have s1 : ∀ p : After wr, p.w.cell? ⟨b, 1, none⟩ = some (.int .i64 f2) := fun p => (tr.then p.turn).cell (cell_obj hb1 1) (fun h => h)
      have s2 : ∀ p : After wr, p.w.cell? ⟨b, 2, none⟩ = some (.int .i64 f3) := fun p => (tr.then p.turn).cell (cell_obj hb1 2) (fun h => h)
      clear c0 c1 c2
      go_wp2_with fail
      have hne := after_ne wr
      refine wp_region_after (by kernel_rfl) (by kernel_rfl) ?_
      repeat (go_big_quiet_step (fail))
      refine wpQuiet_nil ?_
      rintro _ ⟨p, rfl⟩
      have tr2 := tr.then p.turn
      go_wp2
      exact ⟨⟨k + 1, by omega, by omega, by go_num, tr2⟩, by simp [intOf]; omega⟩
    · obtain rfl : k = l.length + 3 := by omega
      go_wp2
      go_ret
      exact ⟨rfl, T1.then tr⟩

set_option maxHeartbeats 1000000 in
theorem cut_walk (B : Nat → Prop) (w : World) (n : Int) (v : Value) (l : List Ar) (hr : AR B w v l) :
    Calls Try.prog 15 #[.agg #[.int .i64 n, v]] w fun e w' => ∃ x, e = .returned (.agg #[.int .i64 n, x]) ∧ AR B w' x (l.take 300) ∧ Turn (fun _ => False) w w' := by
  have hlen := hr.len
  unfold maxLen at hlen
  obtain ⟨x, hx, hA⟩ := ar_to (ki := .i64) hr (min 300 l.length) (by omega)
  obtain ⟨a, c, rfl⟩ := hr.slice
  obtain ⟨xa, xc, rfl⟩ := hA.slice
  have T1 := ((Turn.refl (fun _ => False) w).alloc (.cells #[.int .i64 n, .slice a l.length c] 26)).alloc (.cells #[.int .i64 0, .slice none 0 0] 26)
  by_cases h3 : 300 < l.length
  · have hx' : ∀ u : World, (Instr.slice 24 (.slice a l.length c) none (some (.int .i64 300)) none).run Try.prog u = .ok (.slice xa (l.take (min 300 l.length)).length xc) u := by
      rw [show min 300 l.length = 300 by omega] at hx ⊢
      exact hx
    have h3i : (300 : Int) < (l.length : Int) := by omega
    rw [show min 300 l.length = 300 by omega] at *
    clear hx
    generalize (l.take 300).length = ln at *
    go_enter Try.func15, Try.ntmps15
    go_wp2
    exact bodyPost_ret (v := .agg #[.int .i64 n, .slice xa ln xc]) (by simp [results, Try.results15, go_sem]) rfl ⟨_, rfl, hA.quiet (((Turn.refl _ _).alloc _).alloc _), ((Turn.refl _ _).alloc _).alloc _⟩
  · have h3i : ¬ (300 : Int) < (l.length : Int) := by omega
    rw [List.take_of_length_le (show l.length ≤ 300 by omega)]
    clear hx hA
    go_enter Try.func15, Try.ntmps15
    go_wp2
    exact bodyPost_ret (v := .agg #[.int .i64 n, .slice a l.length c]) (by simp [results, Try.results15, go_sem]) rfl ⟨_, rfl, hr.quiet (((Turn.refl _ _).alloc _).alloc _), ((Turn.refl _ _).alloc _).alloc _⟩
end Go.Proofs.Ytmmlannnpndkcaa
