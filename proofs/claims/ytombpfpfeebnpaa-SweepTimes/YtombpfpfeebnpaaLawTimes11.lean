/- SweepTimes: with all weights so many times greater all distances are; the nodes within so many times are the same. -/
import Derived.Test.YtombpfpfeebnpaaSLaw
import Derived.Test.YtombpfpfeebnpaaSMany
import Derived.Test.YtombpfpfeebnpaaSTimes
import Derived.Test.YtombpfpfeebnpaaSPlain
import Derived.Test.YtombpfpfeebnpaaSGraphed
import Derived.Deep.CutRange
namespace Go.Proofs.Ytombpfpfeebnpaa
open Go.RowKit Go.Maps
set_option linter.unusedVariables false
set_option linter.unusedSimpArgs false
set_option maxRecDepth 100000

set_option maxHeartbeats 64000000 in
theorem times_walk (w : World) (n : Int) (sv : Value) (l : List Ar) (hr : AR any w sv l) (hbig : l.length ≤ 5864062014634) (k v most : Int) :
    Calls Try.prog 8 #[.agg #[.int .i64 n, sv], .int .i64 k, .int .i64 v, .int .i64 most] w fun e w' => e = .returned (.bool true) ∧ Turn (fun _ => False) w w' := by
  obtain ⟨sa, sc, rfl⟩ := hr.slice
  have T0 := (Turn.refl (fun _ => False) w).alloc (.cells #[.int .i64 n, .slice sa l.length sc] 24)
  have h0 := heap_alloc_new w (.cells #[.int .i64 n, .slice sa l.length sc] 24)
  have A0 := hr.lt.quiet T0
  obtain ⟨r, hr9, hr2⟩ := nine_of k
  have wr1 : IntKind.i64.wrap (r : Int) = (r : Int) := by rw [IntKind.wrap_i64]; omega
  have wr2 : IntKind.i64.wrap (1 + (r : Int)) = 1 + (r : Int) := by rw [IntKind.wrap_i64]; omega
  obtain ⟨M, hM, hM0, hM1⟩ : ∃ M, bits BinOp.and IntKind.i64 most 1099511627775 = M ∧ 0 ≤ M ∧ M ≤ 1099511627775 := ⟨_, rfl, (mask40 most).1, (mask40 most).2⟩
  clear hr
  go_enter Try.func8, Try.ntmps8
  go_wp2_with fail
  have tm := (Turn.refl (fun _ => False) (w.alloc (.cells #[.int .i64 n, .slice sa l.length sc] 24))).alloc (.cells #[.int .i64 n, .slice none 0 0] 24)
  have mb5 := heap_alloc_new (w.alloc (.cells #[.int .i64 n, .slice sa l.length sc] 24)) (.cells #[.int .i64 n, .slice none 0 0] 24)
  have b5 := tm.same h0 (fun h => h)
  have A5 := A0.quiet tm
  have T5 := T0.then tm
  rw [alloc_size] at mb5
  generalize (w.alloc (.cells #[.int .i64 n, .slice sa l.length sc] 24)).alloc (.cells #[.int .i64 n, .slice none 0 0] 24) = W5 at *
  clear h0 T0 A0 tm hr2 wr1 wr2
  generalize hbb : w.heap.size = b at *
  generalize hmm : b + 1 = mb at *
  generalize hKe : 1 + (r : Int) = K at *
  have Hm1 := hide (And.intro hbb hmm)
  have hK1 : 1 ≤ K ∧ K ≤ 9 := by omega
  clear hbb hmm hKe hr9
  go_loopw [10] (fun i wr => ∃ (j : Nat) (x : Value), i = .int .i64 (j : Int) ∧ j ≤ l.length ∧ OA wr x (tims K (l.take j)) ∧ wr.heap[mb]? = some (.cells #[.int .i64 n, x] 24 (0, 0)) ∧ Hid (∀ q, x.ownBlock = some q → mb < q) ∧ Hid (∀ a ∈ l.take j, 1 ≤ a.2.2 ∧ a.2.2 ≤ 104857) ∧ Turn (fun q => mb ≤ q) W5 wr) (fun i _ => l.length - (intOf i).toNat)
  case atStart => exact ⟨0, .slice none 0 0, rfl, Nat.zero_le _, by simpa [tims] using oa_none _, mb5, hide (fun j hj => by simp [Value.ownBlock] at hj), hide (by simp), Turn.refl _ _⟩
  case round =>
    clear mb5
    obtain ⟨hw1, hw2⟩ := unhide Hm1
    obtain ⟨j, x, rfl, hj, hO, hmb, hown, hwt, tr⟩ := hrel
    have br := tr.same b5 (by omega)
    obtain ⟨xa, xc, rfl⟩ := hO.form
    have f1 : wr.cell? ⟨b, 1, none⟩ = some (.slice sa l.length sc) := cell_obj br 1
    by_cases hlt : j < l.length
    · obtain ⟨y, hy⟩ := lt_take hlt
      obtain ⟨g, off, c', hv, hgB, hcl⟩ := (A5.turn tr (fun j hj => by have := hj.2; omega)).form (by omega)
      simp only [Value.slice.injEq] at hv
      obtain ⟨rfl, _, rfl⟩ := hv
      obtain ⟨q0, q1, q2⟩ := hcl j y hy
      have ij : (j : Int) < (l.length : Int) := by omega
      have ij0 : (0 : Int) ≤ (j : Int) := by omega
      by_cases hgood : 1 ≤ y.2.2 ∧ y.2.2 ≤ 104857
      · have m1 : wr.cell? ⟨mb, 1, none⟩ = some (.slice xa (tims K (l.take j)).length xc) := cell_obj hmb 1
        have hyK : 1 ≤ y.2.2 * K ∧ y.2.2 * K ≤ 943713 := by
          have h1 := Int.mul_le_mul_of_nonneg_left (c := y.2.2) hK1.2 (by omega)
          have h2 := Int.mul_le_mul_of_nonneg_left (c := y.2.2) hK1.1 (by omega)
          omega
        have wK : IntKind.i64.wrap (y.2.2 * K) = y.2.2 * K := by rw [IntKind.wrap_i64]; omega
        obtain ⟨x8, w8, hrun, O8, t8, own8⟩ := append_arc (hO.turn (Turn.refl (fun _ => False) wr).drew (fun _ _ h => h)) (y.1, y.2.1, y.2.2 * K) (by rw [tims_len, List.length_take]; omega)
        rw [← tims_more hy] at O8
        have nmb : ∀ q, (Value.slice xa (tims K (l.take j)).length xc).ownBlock = some q → q ≠ mb := fun q hq => OwnSl.neObj hO hmb (by decide) q hq
        have mb8 := t8.same (show wr.drew.heap[mb]? = _ from hmb) (fun h => nmb mb h rfl)
        have hwt2 : Hid (∀ a ∈ l.take (j + 1), 1 ≤ a.2.2 ∧ a.2.2 ≤ 104857) := hide (by
          intro a ha
          rw [List.take_add_one, hy, Option.toList_some] at ha
          rcases List.mem_append.1 ha with ha | ha
          · exact unhide hwt a ha
          · rw [List.mem_singleton] at ha; rw [ha]; exact hgood)
        obtain ⟨ya, yc, rfl⟩ := O8.form
        have z1 : w8.frozen? ⟨mb, 1, none⟩ = false := frozen_obj mb8 1
        have c1 : w8.cell? ⟨mb, 1, none⟩ = some (.slice xa (tims K (l.take j)).length xc) := cell_obj mb8 1
        obtain ⟨f, t, u'⟩ := y
        simp only at q0 q1 q2 hrun hgood wK
        have e3 : ¬ (104857 : Int) < u' := by omega
        have e4 : ¬ u' < 1 := by omega
        have ta := fun (o : Obj) => (Turn.refl (fun _ => False) wr).alloc o
        have a0 := fun o => (ta o).cell q0 (fun h => h)
        have a1 := fun o => (ta o).cell q1 (fun h => h)
        have a2 := fun o => (ta o).cell q2 (fun h => h)
        have a3 := fun o => (ta o).cell m1 (fun h => h)
        have a4 := fun o => (ta o).cell f1 (fun h => h)
        have mb9 := heap_setCell_obj (j := 1) mb8 (.slice ya (tims K (l.take (j + 1))).length yc)
        have t9 : Turn (fun q => q = mb) w8 (w8.setCell ⟨mb, 1, none⟩ (.slice ya (tims K (l.take (j + 1))).length yc)) := (Turn.refl (fun q => q = mb) w8).setCell (p := ⟨mb, 1, none⟩) (.inl rfl) _
        have O9 := O8.turn t9 (fun q hq => OwnSl.neObj O8 mb8 (by decide) q hq)
        have tr8 : Turn (fun q => mb ≤ q) W5 w8 := (tr.drew).then (t8.mono (fun q hq => by have := unhide hown q hq; omega))
        have tr9 := tr8.then (t9.mono (fun q hq => by omega))
        have hmw : mb < wr.heap.size := (Array.getElem?_eq_some_iff.1 hmb).1
        have own9 : Hid (∀ q, (Value.slice ya (tims K (l.take (j + 1))).length yc).ownBlock = some q → mb < q) := hide (fun q hq => by
          rcases own8 q hq with h | h
          · exact unhide hown q h
          · have : wr.heap.size ≤ q := h
            omega)
        have hg2 := hgB.2
        have e1 := t8.cell (show wr.drew.cell? ⟨b, 1, none⟩ = _ from f1) (fun h => by have : mb < b := unhide hown b h; omega)
        have e2 := t8.cell (show wr.drew.cell? ⟨g, off + j * 3, none⟩ = _ from q0) (fun h => by have : mb < g := unhide hown g h; omega)
        have e5 := t8.cell (show wr.drew.cell? ⟨g, off + j * 3 + 1, none⟩ = _ from q1) (fun h => by have : mb < g := unhide hown g h; omega)
        have e6 := t8.cell (show wr.drew.cell? ⟨g, off + j * 3 + 2, none⟩ = _ from q2) (fun h => by have : mb < g := unhide hown g h; omega)
        have Hlt : Hid (j + 1 ≤ l.length) := hide hlt
        clear hcl hy ta hO hmb hown tr own8 t8 O8 mb8 nmb t9 tr8 hmw br hgB hg2 hwt hgood hyK
        go_wp2_with fail
        refine wp_region_T 26 (fun u => u.cell? ⟨b, 1, none⟩ = some (.slice (some ⟨g, off, none⟩) l.length sc) ∧ u.cell? ⟨mb, 1, none⟩ = some (.slice xa (tims K (l.take j)).length xc) ∧ u.cell? ⟨g, off + j * 3, none⟩ = some (.int .i64 f) ∧ u.cell? ⟨g, off + j * 3 + 1, none⟩ = some (.int .i64 t) ∧ u.cell? ⟨g, off + j * 3 + 2, none⟩ = some (.int .i64 u')) (by kernel_rfl) ?_ (fun hS => ?_)
        · exact ⟨f1, m1, q0, q1, q2⟩
        refine wpAnyT_take (i := 0) (v := ?_) rfl (by kernel_rfl) (by kernel_rfl) (by kernel_rfl) (by kernel_rfl) (fun _ _ _ h => h) (by rfl) ?_ hS ?_
        rotate_left
        · intro w hSw; (try dsimp only at hSw); go_simp; rfl
        simp only [Act.put, List.setIfInBounds_toArray, List.set_cons_zero, List.set_cons_succ]
        refine wpAnyT_take (i := 1) (v := ?_) rfl (by kernel_rfl) (by kernel_rfl) (by kernel_rfl) (by kernel_rfl) (fun _ _ _ h => h) (by rfl) ?_ hS ?_
        rotate_left
        · intro w hSw; (try dsimp only at hSw); go_simp; rfl
        simp only [Act.put, List.setIfInBounds_toArray, List.set_cons_zero, List.set_cons_succ]
        refine wpAnyT_take (i := 2) (v := ?_) rfl (by kernel_rfl) (by kernel_rfl) (by kernel_rfl) (by kernel_rfl) (fun _ _ _ h => h) (by rfl) ?_ hS ?_
        rotate_left
        · intro w hSw; (try dsimp only at hSw); go_simp; rfl
        simp only [Act.put, List.setIfInBounds_toArray, List.set_cons_zero, List.set_cons_succ]
        refine wpAnyT_take (i := 3) (v := ?_) rfl (by kernel_rfl) (by kernel_rfl) (by kernel_rfl) (by kernel_rfl) (fun _ _ _ h => h) (by rfl) ?_ hS ?_
        rotate_left
        · intro w hSw; (try dsimp only at hSw); go_simp; rfl
        simp only [Act.put, List.setIfInBounds_toArray, List.set_cons_zero, List.set_cons_succ]
        refine wpAnyT_take (i := 4) (v := ?_) rfl (by kernel_rfl) (by kernel_rfl) (by kernel_rfl) (by kernel_rfl) (fun _ _ _ h => h) (by rfl) ?_ hS ?_
        rotate_left
        · intro w hSw; (try dsimp only at hSw); go_simp; rfl
        simp only [Act.put, List.setIfInBounds_toArray, List.set_cons_zero, List.set_cons_succ]
        refine wpAnyT_take (i := 5) (v := ?_) rfl (by kernel_rfl) (by kernel_rfl) (by kernel_rfl) (by kernel_rfl) (fun _ _ _ h => h) (by rfl) ?_ hS ?_
        rotate_left
        · intro w hSw; (try dsimp only at hSw); go_simp; rfl
        simp only [Act.put, List.setIfInBounds_toArray, List.set_cons_zero, List.set_cons_succ]
        refine wpAnyT_take (i := 6) (v := ?_) rfl (by kernel_rfl) (by kernel_rfl) (by kernel_rfl) (by kernel_rfl) (fun _ _ _ h => h) (by rfl) ?_ hS ?_
        rotate_left
        · intro w hSw; (try dsimp only at hSw); go_simp; rfl
        simp only [Act.put, List.setIfInBounds_toArray, List.set_cons_zero, List.set_cons_succ]
        refine wpAnyT_take (i := 7) (v := ?_) rfl (by kernel_rfl) (by kernel_rfl) (by kernel_rfl) (by kernel_rfl) (fun _ _ _ h => h) (by rfl) ?_ hS ?_
        rotate_left
        · intro w hSw; (try dsimp only at hSw); go_simp; rfl
        simp only [Act.put, List.setIfInBounds_toArray, List.set_cons_zero, List.set_cons_succ]
        refine wpAnyT_take (i := 8) (v := ?_) rfl (by kernel_rfl) (by kernel_rfl) (by kernel_rfl) (by kernel_rfl) (fun _ _ _ h => h) (by rfl) ?_ hS ?_
        rotate_left
        · intro w hSw; (try dsimp only at hSw); go_simp; rfl
        simp only [Act.put, List.setIfInBounds_toArray, List.set_cons_zero, List.set_cons_succ]
        refine wpAnyT_take (i := 9) (v := ?_) rfl (by kernel_rfl) (by kernel_rfl) (by kernel_rfl) (by kernel_rfl) (fun _ _ _ h => h) (by rfl) ?_ hS ?_
        rotate_left
        · intro w hSw; (try dsimp only at hSw); go_simp; rfl
        simp only [Act.put, List.setIfInBounds_toArray, List.set_cons_zero, List.set_cons_succ]
        refine wpAnyT_take (i := 10) (v := ?_) rfl (by kernel_rfl) (by kernel_rfl) (by kernel_rfl) (by kernel_rfl) (fun _ _ _ h => h) (by rfl) ?_ hS ?_
        rotate_left
        · intro w hSw; (try dsimp only at hSw); go_simp; rfl
        simp only [Act.put, List.setIfInBounds_toArray, List.set_cons_zero, List.set_cons_succ]
        refine wpAnyT_take (i := 11) (v := ?_) rfl (by kernel_rfl) (by kernel_rfl) (by kernel_rfl) (by kernel_rfl) (fun _ _ _ h => h) (by rfl) ?_ hS ?_
        rotate_left
        · intro w hSw; (try dsimp only at hSw); go_simp; rfl
        simp only [Act.put, List.setIfInBounds_toArray, List.set_cons_zero, List.set_cons_succ]
        refine wpAnyT_take (i := 12) (v := ?_) rfl (by kernel_rfl) (by kernel_rfl) (by kernel_rfl) (by kernel_rfl) (fun _ _ _ h => h) (by rfl) ?_ hS ?_
        rotate_left
        · intro w hSw; (try dsimp only at hSw); go_simp; rfl
        simp only [Act.put, List.setIfInBounds_toArray, List.set_cons_zero, List.set_cons_succ]
        refine wpAnyT_take (i := 13) (v := ?_) rfl (by kernel_rfl) (by kernel_rfl) (by kernel_rfl) (by kernel_rfl) (fun _ _ _ h => h) (by rfl) ?_ hS ?_
        rotate_left
        · intro w hSw; (try dsimp only at hSw); go_simp; rfl
        simp only [Act.put, List.setIfInBounds_toArray, List.set_cons_zero, List.set_cons_succ]
        refine wpAnyT_take (i := 14) (v := ?_) rfl (by kernel_rfl) (by kernel_rfl) (by kernel_rfl) (by kernel_rfl) (fun _ _ _ h => h) (by rfl) ?_ hS ?_
        rotate_left
        · intro w hSw; (try dsimp only at hSw); go_simp; rfl
        simp only [Act.put, List.setIfInBounds_toArray, List.set_cons_zero, List.set_cons_succ]
        refine wpAnyT_take (i := 15) (v := ?_) rfl (by kernel_rfl) (by kernel_rfl) (by kernel_rfl) (by kernel_rfl) (fun _ _ _ h => h) (by rfl) ?_ hS ?_
        rotate_left
        · intro w hSw; (try dsimp only at hSw); go_simp; rfl
        simp only [Act.put, List.setIfInBounds_toArray, List.set_cons_zero, List.set_cons_succ]
        refine wpAnyT_take (i := 16) (v := ?_) rfl (by kernel_rfl) (by kernel_rfl) (by kernel_rfl) (by kernel_rfl) (fun _ _ _ h => h) (by rfl) ?_ hS ?_
        rotate_left
        · intro w hSw; (try dsimp only at hSw); go_simp; rfl
        simp only [Act.put, List.setIfInBounds_toArray, List.set_cons_zero, List.set_cons_succ]
        refine wpAnyT_take (i := 17) (v := ?_) rfl (by kernel_rfl) (by kernel_rfl) (by kernel_rfl) (by kernel_rfl) (fun _ _ _ h => h) (by rfl) ?_ hS ?_
        rotate_left
        · intro w hSw; (try dsimp only at hSw); go_simp; rfl
        simp only [Act.put, List.setIfInBounds_toArray, List.set_cons_zero, List.set_cons_succ]
        refine wpAnyT_take (i := 18) (v := ?_) rfl (by kernel_rfl) (by kernel_rfl) (by kernel_rfl) (by kernel_rfl) (fun _ _ _ h => h) (by rfl) ?_ hS ?_
        rotate_left
        · intro w hSw; (try dsimp only at hSw); go_simp; rfl
        simp only [Act.put, List.setIfInBounds_toArray, List.set_cons_zero, List.set_cons_succ]
        refine wpAnyT_take (i := 19) (v := ?_) rfl (by kernel_rfl) (by kernel_rfl) (by kernel_rfl) (by kernel_rfl) (fun _ _ _ h => h) (by rfl) ?_ hS ?_
        rotate_left
        · intro w hSw; (try dsimp only at hSw); go_simp; rfl
        simp only [Act.put, List.setIfInBounds_toArray, List.set_cons_zero, List.set_cons_succ]
        refine wpAnyT_take (i := 20) (v := ?_) rfl (by kernel_rfl) (by kernel_rfl) (by kernel_rfl) (by kernel_rfl) (fun _ _ _ h => h) (by rfl) ?_ hS ?_
        rotate_left
        · intro w hSw; (try dsimp only at hSw); go_simp; rfl
        simp only [Act.put, List.setIfInBounds_toArray, List.set_cons_zero, List.set_cons_succ]
        refine wpAnyT_take (i := 21) (v := ?_) rfl (by kernel_rfl) (by kernel_rfl) (by kernel_rfl) (by kernel_rfl) (fun _ _ _ h => h) (by rfl) ?_ hS ?_
        rotate_left
        · intro w hSw; (try dsimp only at hSw); go_simp; rfl
        simp only [Act.put, List.setIfInBounds_toArray, List.set_cons_zero, List.set_cons_succ]
        refine wpAnyT_take (i := 22) (v := ?_) rfl (by kernel_rfl) (by kernel_rfl) (by kernel_rfl) (by kernel_rfl) (fun _ _ _ h => h) (by rfl) ?_ hS ?_
        rotate_left
        · intro w hSw; (try dsimp only at hSw); go_simp; rfl
        simp only [Act.put, List.setIfInBounds_toArray, List.set_cons_zero, List.set_cons_succ]
        refine wpAnyT_one (i := 23) (by kernel_rfl) rfl (fun K' hK => ?_)
        rw [if_pos (by rfl)]
        go_simp
        refine hK _ _ (fun _ => ⟨a4 _, a3 _, a0 _, a1 _, a2 _⟩) ?_
        try simp only [List.setIfInBounds_toArray, List.set_cons_zero, List.set_cons_succ]
        clear hK K'
        refine wpAnyT_one (i := 24) (by kernel_rfl) rfl (fun K' hK => ?_)
        refine step_append_run rfl _ _ 22 rfl _ _ _ _ rfl rfl hrun ?_
        go_simp
        refine hK _ _ (fun _ => ⟨e1, c1, e2, e5, e6⟩) ?_
        try simp only [List.setIfInBounds_toArray, List.set_cons_zero, List.set_cons_succ]
        clear hK K'
        refine wpAnyT_one (i := 25) (by kernel_rfl) rfl (fun K' hK => ?_)
        rw [if_pos (by rfl)]
        go_simp
        refine hK _ _ (fun _ => ⟨e1, c1, e2, e5, e6⟩) ?_
        try simp only [List.setIfInBounds_toArray, List.set_cons_zero, List.set_cons_succ]
        clear hK K'
        refine wpAnyT_one (i := 26) (by kernel_rfl) rfl (fun K' hK => ?_)
        rw [if_pos (by rfl)]
        go_simp
        refine hK _ _ (fun h => absurd rfl h) ?_
        clear hK K'
        refine wpAnyT_done (by kernel_rfl) ?_
        clear hS e1 e2 e5 e6 a0 a1 a2 a3 a4 q0 q1 q2 hrun c1 z1
        go_wp2_with fail
        exact ⟨⟨j + 1, _, by go_num, unhide Hlt, O9, mb9.trans (by rfl), own9, hwt2, tr9⟩, by have := unhide Hlt; simp [intOf]; omega⟩
      · have T9 : Turn (fun _ => False) w wr := T5.trans tr (fun q hq => .inr (by omega))
        have hbad : (104857 < y.2.2) ∨ (¬ 104857 < y.2.2 ∧ y.2.2 < 1) := by omega
        clear hcl hy hO hmb hown tr br hwt hgood q0 q1
        rcases hbad with e3 | ⟨e3, e4⟩
        · go_wp2_with fail
          refine (awake11 _).mono ?_
          rintro e w2 ⟨rfl, t2⟩
          go_wp2_with fail
          go_ret
          exact ⟨rfl, T9.then t2⟩
        · go_wp2_with fail
          refine (awake11 _).mono ?_
          rintro e w2 ⟨rfl, t2⟩
          go_wp2_with fail
          go_ret
          exact ⟨rfl, T9.then t2⟩
    · obtain rfl : j = l.length := by omega
      rw [List.take_length] at hO hmb hwt
      have bq := tr.same b5 (by omega)
      have T6 : Turn (fun _ => False) w wr := T5.trans tr (fun q hq => .inr (by omega))
      have n0 : wr.cell? ⟨b, 0, none⟩ = some (.int .i64 n) := cell_obj br 0
      have n1 : wr.cell? ⟨b, 1, none⟩ = some (.slice sa l.length sc) := cell_obj br 1
      have m0 : wr.cell? ⟨mb, 0, none⟩ = some (.int .i64 n) := cell_obj hmb 0
      have m1 : wr.cell? ⟨mb, 1, none⟩ = some (.slice xa (tims K l).length xc) := cell_obj hmb 1
      have hRd : AR any wr (.slice sa l.length sc) l := (A5.turn tr (fun j hj => by have := hj.2; omega)).mono (fun _ _ => trivial)
      have hOd : AR any wr (.slice xa (tims K l).length xc) (tims K l) := hO.ar.mono (fun _ _ => trivial)
      clear A5 T5 hlt hown b5 hO hmb bq tr br f1 hj Hm1 hw1 hw2
      go_wp2_with fail
      go_cut [11, 12] from 77 to 80 (fun s11 s12 wx => ∃ g1 g2 : Option Addr, s11 = .pointer g1 ∧ s12 = .pointer g2 ∧ Turn (fun _ => False) wr wx ∧ Graphed wx n l g1 ∧ Graphed wx n (tims K l) g2)
      case first =>
        have tk := (Turn.refl (fun _ => False) wr).drew
        replace n0 : wr.drew.cell? ⟨b, 0, none⟩ = some (.int .i64 n) := n0
        replace n1 : wr.drew.cell? ⟨b, 1, none⟩ = some (.slice sa l.length sc) := n1
        replace m0 : wr.drew.cell? ⟨mb, 0, none⟩ = some (.int .i64 n) := m0
        replace m1 : wr.drew.cell? ⟨mb, 1, none⟩ = some (.slice xa (tims K l).length xc) := m1
        replace hRd := hRd.quiet tk
        replace hOd := hOd.quiet tk
        go_region_held3 (fun u => u.cell? ⟨b, 0, none⟩ = some (.int .i64 n) ∧ u.cell? ⟨b, 1, none⟩ = some (.slice sa l.length sc) ∧ u.cell? ⟨mb, 0, none⟩ = some (.int .i64 n) ∧ u.cell? ⟨mb, 1, none⟩ = some (.slice xa (tims K l).length xc)) (first | exact ⟨n0, n1, m0, m1⟩ | go_keep)
          (first
          | (go_at_call 9; have gX := graph_any _ n _ l hRd; with_reducible refine gX.mono ?_; clear gX; rintro e w1 ⟨g1, rfl, t1, G1⟩; replace n0 := t1.cell n0 (fun h => h); replace n1 := t1.cell n1 (fun h => h); replace m0 := t1.cell m0 (fun h => h); replace m1 := t1.cell m1 (fun h => h); replace hRd := hRd.quiet t1; replace hOd := hOd.quiet t1; (try replace G2 := G2.quiet t1); replace tk := tk.then t1; clear t1)
          | (go_at_call 9; have gX := graph_any _ n _ (tims K l) hOd; with_reducible refine gX.mono ?_; clear gX; rintro e w1 ⟨g2, rfl, t1, G2⟩; replace n0 := t1.cell n0 (fun h => h); replace n1 := t1.cell n1 (fun h => h); replace m0 := t1.cell m0 (fun h => h); replace m1 := t1.cell m1 (fun h => h); replace hRd := hRd.quiet t1; replace hOd := hOd.quiet t1; (try replace G1 := G1.quiet t1); replace tk := tk.then t1; clear t1))
        all_goals
          clear n0 n1 m0 m1 hRd hOd
          go_wp2_with fail
          go_meet
          exact ⟨g1, g2, rfl, rfl, tk, G1, G2⟩
      case rest =>
        obtain ⟨g1, g2, rfl, rfl, tk, G1, G2⟩ := hcut
        replace n0 := tk.cell n0 (fun h => h)
        replace n1 := tk.cell n1 (fun h => h)
        replace hRd := hRd.quiet tk
        have TD := T6.then tk
        clear m0 m1 hOd tk T6
        rcases G1 with ⟨rfl, _⟩ | ⟨N, G, F1, rfl, rfl, hL1, hG⟩
        · clear G2 n0 n1 hRd
          go_wp2_with fail
          refine (awake11 _).mono ?_
          rintro e w2 ⟨rfl, t2⟩
          go_wp2_with fail
          refine (awake11 _).mono ?_
          rintro e w3 ⟨rfl, t3⟩
          go_wp2_with fail
          go_ret
          exact ⟨rfl, (TD.then t2).then t3⟩
        rcases G2 with ⟨rfl, _⟩ | ⟨N2, H, F2, rfl, hn2, hL2, hH⟩
        · clear hG n0 n1 hRd hL1
          go_wp2_with fail
          refine (awake11 _).mono ?_
          rintro e w2 ⟨rfl, t2⟩
          go_wp2_with fail
          refine (awake11 _).mono ?_
          rintro e w3 ⟨rfl, t3⟩
          go_wp2_with fail
          go_ret
          exact ⟨rfl, (TD.then t2).then t3⟩
        obtain rfl : N = N2 := by omega
        have hN1 : 0 < N := by have := hL1.2.2.1.1; omega
        have hN2 : N ≤ 60 := by have := hL1.1; omega
        have HL1 := hide hL1
        have HL2 := hide hL2
        have HE := hide (fairF hL1.2.2.1)
        have HE2 := hide (fairF hL2.2.2.1)
        have hsm : Hid (∀ s u d, IsD N (goesF l) s u d → d < INF → d ≤ 6291420) := hide (by
          intro s u d hd h1
          have := dist_small (m := 104857) (unhide HE) (fun u t y hy => (unhide hwt _ hy).2) (by omega) hd h1
          have h2 := Int.mul_le_mul_of_nonneg_right (a := (N : Int)) (b := 60) (c := 104857) (by omega) (by omega)
          omega)
        have hmul : Hid (∀ d : Int, 0 ≤ d → d ≤ 6291420 → 0 ≤ d * K ∧ d * K ≤ 56622780) := hide (by
          intro d h0 h1
          have h2 := Int.mul_le_mul_of_nonneg_left (c := d) hK1.2 h0
          have h3 := Int.mul_le_mul_of_nonneg_left (c := d) hK1.1 h0
          omega)
        have hMK : 0 ≤ M * K ∧ M * K ≤ 9895604649975 := by
          have h2 := Int.mul_le_mul_of_nonneg_left (c := M) hK1.2 hM0
          have h3 := Int.mul_le_mul_of_nonneg_left (c := M) hK1.1 hM0
          omega
        have wMK : IntKind.i64.wrap (M * K) = M * K := by rw [IntKind.wrap_i64]; omega
        have HK := hide hK1
        clear hL1 hL2 hn2 hbig hwt hMK hM0 hM1 hK1
        go_wp2_with fail
        refine (awake11 _).mono ?_
        rintro e w2 ⟨rfl, t2⟩
        replace n0 := t2.cell n0 (fun h => h)
        replace n1 := t2.cell n1 (fun h => h)
        replace hG := hG.quiet t2
        replace hH := hH.quiet t2
        replace hRd := hRd.quiet t2
        replace TD := TD.then t2
        have hmay := may_walk any _ (N : Int) _ l hRd (by have := (unhide HL1).2.1; omega)
        rw [decide_eq_true (unhide HL1).2.2] at hmay
        clear t2 hRd
        go_wp2_with fail
        refine hmay.mono ?_
        rintro e w3 ⟨rfl, t3⟩
        replace hG := hG.quiet t3
        replace hH := hH.quiet t3
        replace TD := TD.then t3
        have hx := From_ok hG (unhide HL1).2.2.1 v
        clear t3 hmay n0 n1
        go_wp2_with fail
        refine hx.mono ?_
        rintro e w4 ⟨xd, X, rfl, hX, hxd, hXs, t4⟩
        replace hG := hG.quiet t4
        replace hH := hH.quiet t4
        replace TD := TD.then t4
        have hy := From_ok hH (unhide HL2).2.2.1 v
        clear t4 hx hxd
        go_wp2_with fail
        refine hy.mono ?_
        rintro e w5 ⟨yd, Y, rfl, hY, hyd, hYs, t5⟩
        replace hG := hG.quiet t5
        replace hH := hH.quiet t5
        replace hX := hX.turn t5 (fun h => h)
        replace TD := TD.then t5
        have ha := Within_ok hG (unhide HL1).2.2.1 v M
        clear t5 hy hyd
        go_wp2_with fail
        refine ha.mono ?_
        rintro e w6 ⟨x1, R, rfl, hA, hao, hAs, t6⟩
        replace hH := hH.quiet t6
        replace hX := hX.turn t6 (fun h => h)
        replace hY := hY.turn t6 (fun h => h)
        replace TD := TD.then t6
        have hb := Within_ok hH (unhide HL2).2.2.1 v (M * K)
        obtain ⟨a1, c1, hx1⟩ := hA.slice
        subst hx1
        clear t6 ha hG hao
        go_wp2_with fail
        refine hb.mono ?_
        rintro e w7 ⟨x2, R2, rfl, hB, hbo, hBs, t7⟩
        replace hX := hX.turn t7 (fun h => h)
        replace hY := hY.turn t7 (fun h => h)
        replace hA := hA.turn t7 (fun _ _ h => h)
        replace TD := TD.then t7
        have hR2 : R2 = R.map (fun z => (z.1, z.2 * K)) := hBs.uniq (hAs.times (unhide HE) goes_tims.1 goes_tims.2 (unhide HK).1 (fun u d hd h1 => by
          have h2 := unhide hsm _ _ _ hd h1
          have h3 := unhide hmul d hd.ge h2
          show d * K < 1152921504606846976
          omega) (unhide HE2))
        subst hR2
        obtain ⟨a2, c2, hx2⟩ := hB.slice
        rw [List.length_map] at hx2
        subst hx2
        have HO := hide (And.intro hX (And.intro hY (And.intro hA hB)))
        have HX := hide (And.intro hXs (And.intro hYs hAs))
        have hRl : R.length ≤ 9223372036854775807 := by have := hA.lens; unfold maxLen at this; omega
        clear t7 hb hH hbo hX hY hA hB hXs hYs hAs hBs HL1 HL2 hM
        go_wp2_with fail
        go_loopw [17] (fun i wr => ∃ j : Nat, i = .int .i64 (j : Int) ∧ j ≤ N ∧ Turn (fun _ => False) w7 wr) (fun i _ => N - (intOf i).toNat)
        case atStart => exact ⟨0, rfl, Nat.zero_le _, Turn.refl _ _⟩
        case round =>
          obtain ⟨j, rfl, hj, tr⟩ := hrel
          by_cases hjn : j < N
          · obtain ⟨q1, q2, q3⟩ := unhide HX
            obtain ⟨o1, o2, o3, o4⟩ := unhide HO
            obtain ⟨xk, hxk⟩ : ∃ x, X[j]? = some x := ⟨X[j]'(by have := q1.1; omega), by simp [show j < X.length by have := q1.1; omega]⟩
            obtain ⟨yk, hyk⟩ : ∃ x, Y[j]? = some x := ⟨Y[j]'(by have := q2.1; omega), by simp [show j < Y.length by have := q2.1; omega]⟩
            have dx := q1.2 j xk hxk
            have dy := q2.2 j yk hyk
            have hm := IsD.times (m := 0) (unhide HE) goes_tims.1 goes_tims.2 (unhide HK).1 (fun h1 => by
              have h2 := unhide hsm _ _ _ dx h1
              have h3 := unhide hmul xk dx.ge h2
              show xk * K < 1152921504606846976
              omega) dx dy
            have xc1 : ∀ p : After wr, p.w.cell? ⟨xd, j, none⟩ = some (.int .i64 xk) := fun p => (tr.then p.turn).cell (o1.at hxk).1 (fun h => h)
            have yc1 : ∀ p : After wr, p.w.cell? ⟨yd, j, none⟩ = some (.int .i64 yk) := fun p => (tr.then p.turn).cell (o2.at hyk).1 (fun h => h)
            have ij : (j : Int) < (N : Int) := by omega
            have ij0 : (0 : Int) ≤ (j : Int) := by omega
            have hcase : (decide (xk < 1152921504606846976) = true ∧ decide ((1152921504606846976 : Int) ≤ xk) = false ∧ yk = xk * K ∧ IntKind.i64.wrap (xk * K) = xk * K) ∨ (xk = 1152921504606846976 ∧ yk = 1152921504606846976) := by
              by_cases h1 : xk < INF
              · have h2 := unhide hsm _ _ _ dx h1
                have h3 := unhide hmul xk dx.ge h2
                exact .inl ⟨decide_eq_true h1, decide_eq_false (by omega), hm.1 h1, by rw [IntKind.wrap_i64]; omega⟩
              · have h2 : xk = INF := by have := dx.le; omega
                exact .inr ⟨h2, hm.2 h2⟩
            have hne := after_ne wr
            clear q1 q2 q3 o1 o2 o3 o4 hxk hyk dx dy hm
            rcases hcase with ⟨e1, e2, rfl, e3⟩ | ⟨rfl, rfl⟩
            · go_wp2_with fail
              refine wp_region_after (by kernel_rfl) (by kernel_rfl) ?_
              repeat (go_big_quiet_step (fail))
              refine wpQuiet_nil ?_
              rintro _ ⟨p, rfl⟩
              have tr2 := tr.then p.turn
              go_wp2_with fail
              exact ⟨⟨j + 1, by go_num, by omega, tr2⟩, by simp [intOf]; omega⟩
            · go_wp2_with fail
              refine wp_region_after (by kernel_rfl) (by kernel_rfl) ?_
              repeat (go_big_quiet_step (fail))
              refine wpQuiet_nil ?_
              rintro _ ⟨p, rfl⟩
              have tr2 := tr.then p.turn
              go_wp2_with fail
              exact ⟨⟨j + 1, by go_num, by omega, tr2⟩, by simp [intOf]; omega⟩
          · obtain rfl : j = N := by omega
            have TE := TD.then tr
            clear hjn hj
            go_wp2_with fail
            go_loopw [18] (fun i wx => ∃ j : Nat, i = .int .i64 (j : Int) ∧ j ≤ R.length ∧ Turn (fun _ => False) wr wx) (fun i _ => R.length - (intOf i).toNat)
            case atStart => exact ⟨0, rfl, Nat.zero_le _, Turn.refl _ _⟩
            case round =>
              obtain ⟨j2, rfl, hj2, tq⟩ := hrel
              by_cases hlt2 : j2 < R.length
              · obtain ⟨q1, q2, q3⟩ := unhide HX
                obtain ⟨o1, o2, o3, o4⟩ := unhide HO
                obtain ⟨y, hy⟩ : ∃ y, R[j2]? = some y := ⟨R[j2], by simp [hlt2]⟩
                have hy2 : (R.map (fun z : It => (z.1, z.2 * K)))[j2]? = some (y.1, y.2 * K) := by rw [List.getElem?_map, hy]; rfl
                have hmem := List.mem_of_getElem? hy
                obtain ⟨k1, k2, k3, k4⟩ := q3.near y hmem
                have h2 := unhide hsm _ _ _ k2 k3
                have h3 := unhide hmul y.2 k2.ge h2
                have wy : IntKind.i64.wrap (y.2 * K) = y.2 * K := by rw [IntKind.wrap_i64]; omega
                rcases o3.form with ⟨_, hn⟩ | ⟨g, off, c, hv, hg, hcl⟩
                · exfalso; rw [hn] at hlt2; simp at hlt2
                rcases o4.form with ⟨_, hn⟩ | ⟨g', off', c', hv', hg', hcl'⟩
                · exfalso; have := congrArg List.length hn; rw [List.length_map] at this; simp at this; rw [this] at hlt2; simp at hlt2
                simp only [Value.slice.injEq] at hv hv'
                obtain ⟨rfl, _, rfl⟩ := hv
                obtain ⟨rfl, hlq, rfl⟩ := hv'
                clear hlq
                obtain ⟨p0, p1⟩ := hcl j2 y hy
                obtain ⟨p2, p3⟩ := hcl' j2 _ hy2
                have tt := tr.then tq
                have z0 : ∀ p : After wr, p.w.cell? ⟨g, off + j2 * 2, none⟩ = some (.int .i64 (y.1 : Int)) := fun p => (tt.then p.turn).cell p0 (fun h => h)
                have z1 : ∀ p : After wr, p.w.cell? ⟨g, off + j2 * 2 + 1, none⟩ = some (.int .i64 y.2) := fun p => (tt.then p.turn).cell p1 (fun h => h)
                have z2 : ∀ p : After wr, p.w.cell? ⟨g', off' + j2 * 2, none⟩ = some (.int .i64 (y.1 : Int)) := fun p => (tt.then p.turn).cell p2 (fun h => h)
                have z3 : ∀ p : After wr, p.w.cell? ⟨g', off' + j2 * 2 + 1, none⟩ = some (.int .i64 (y.2 * K)) := fun p => (tt.then p.turn).cell p3 (fun h => h)
                have ij : (j2 : Int) < (R.length : Int) := by omega
                have ij0 : (0 : Int) ≤ (j2 : Int) := by omega
                have hne := after_ne wr
                clear q1 q2 q3 o1 o2 o3 o4 hy hy2 hmem k1 k2 k3 k4 h2 h3 hg hcl hg' hcl' p0 p1 p2 p3 tt
                go_wp2_with fail
                refine wp_region_after (by kernel_rfl) (by kernel_rfl) ?_
                repeat (go_big_quiet_step (fail))
                refine wpQuiet_nil ?_
                rintro _ ⟨p, rfl⟩
                have tq2 := tq.then p.turn
                go_wp2_with fail
                exact ⟨⟨j2 + 1, by go_num, by omega, tq2⟩, by simp [intOf]; omega⟩
              · obtain rfl : j2 = R.length := by omega
                have TF := TE.then tq
                go_wp2_with fail
                go_ret
                exact ⟨rfl, TF⟩
theorem SweepTimes_law (w : World) (n : Int) (hn : (Lit.int .i64 n).wf = true) (sv : Value) (l : List Ar) (hr : AR any w sv l) (k : Int) (hk : (Lit.int .i64 k).wf = true) (v : Int) (hv : (Lit.int .i64 v).wf = true) (most : Int) (hm : (Lit.int .i64 most).wf = true) (hbig : l.length ≤ 5864062014634) :
    Calls Try.prog 8 #[.agg #[.int .i64 n, sv], .int .i64 k, .int .i64 v, .int .i64 most] w fun e w' => e = .returned (.bool true) ∧ Below w.heap.size w w' :=
  (times_walk w n sv l hr hbig k v most).mono (fun e w' h => ⟨h.1, h.2.bel⟩)
end Go.Proofs.Ytombpfpfeebnpaa
