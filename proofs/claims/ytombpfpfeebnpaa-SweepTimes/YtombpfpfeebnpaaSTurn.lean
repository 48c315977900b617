/- The network with all arcs the other way, as the reference makes it. -/
import Derived.Test.YtombpfpfeebnpaaGTurn
import Derived.Test.YtombpfpfeebnpaaGLast
import Derived.Test.YtombpfpfeebnpaaBAfter
import Derived.Test.YtombpfpfeebnpaaGSort
import Derived.Deep.RegionHeld3
import Derived.Deep.RegionLaw
import Derived.StillTailTactics
namespace Go.Proofs.Ytombpfpfeebnpaa
open Go.RowKit Go.Maps
set_option linter.unusedVariables false
set_option linter.unusedSimpArgs false
set_option maxRecDepth 100000

/-- append, of which the run is known, as one step of a region that draws -/
theorem step_append_run {P : Program} {ops : Array Oper} {o : Oper} {a : Act} {w : World} {K : Act → World → Prop} {Q : Exit → Act → World → Prop} {E : Prop}
    (hg : o.guard = none) (s x : Operand) (t : TypeId) (hop : o.op = Op.call { callee := Callee.builtin Builtin.append, args := #[s, x], argTypes := #[t, t] }) (v xv v' : Value) (w' : World) (hs : a.eval s = v) (hx : a.eval x = xv)
    (hrun : (Builtin.append_ #[t, t] o.type #[v, xv]).run P w = .ok v' w') (hK : K (a.put o.dst v') w') :
    if Region.wanted o (yielded ops a.tmps) = true then Oper.wp P o a w K Q else E := by
  have hw : Region.wanted o (yielded ops a.tmps) = true := by simp [Region.wanted, hg]
  rw [if_pos hw]
  unfold Oper.wp
  simp [execOp, hop, resolve, invoke, builtin, hs, hx, hrun, Result.andThen]
  exact hK

set_option maxHeartbeats 16000000 in
theorem rturned_walk (w : World) (n : Int) (sv : Value) (L : List Ar) (hr : AR any w sv L) (hL : L.length ≤ 5864062014634) :
    Calls Try.prog 22 #[.agg #[.int .i64 n, sv]] w fun e w' => ∃ x, e = .returned (.agg #[.int .i64 n, x]) ∧ OA w' x (flips L) ∧ Turn (fun _ => False) w w' := by
  obtain ⟨ax, cx, rfl⟩ := hr.slice
  have hb := heap_alloc_new w (.cells #[.int .i64 n, .slice ax L.length cx] 24)
  have T0 := (Turn.refl (fun _ => False) w).alloc (.cells #[.int .i64 n, .slice ax L.length cx] 24)
  have A0 := hr.lt.quiet T0
  have hbs : w.heap.size < (w.alloc (.cells #[.int .i64 n, .slice ax L.length cx] 24)).heap.size := by rw [alloc_size]; omega
  clear hr
  go_enter Try.func22, Try.ntmps22
  go_wp2_with fail
  have tz := (Turn.refl (fun _ => False) (w.alloc (.cells #[.int .i64 n, .slice ax L.length cx] 24))).alloc (.cells #[.int .i64 0, .slice none 0 0] 24)
  have tm := (Turn.refl (fun _ => False) ((w.alloc (.cells #[.int .i64 n, .slice ax L.length cx] 24)).alloc (.cells #[.int .i64 0, .slice none 0 0] 24))).alloc (.cells #[.int .i64 n, .slice none 0 0] 24)
  have rb5 := tm.same (heap_alloc_new (w.alloc (.cells #[.int .i64 n, .slice ax L.length cx] 24)) (.cells #[.int .i64 0, .slice none 0 0] 24)) (fun h => h)
  have mb5 := heap_alloc_new ((w.alloc (.cells #[.int .i64 n, .slice ax L.length cx] 24)).alloc (.cells #[.int .i64 0, .slice none 0 0] 24)) (.cells #[.int .i64 n, .slice none 0 0] 24)
  have b5 := (tz.then tm).same hb (fun h => h)
  have A5 := (A0.quiet tz).quiet tm
  have T5 := (T0.then tz).then tm
  rw [alloc_size] at rb5
  rw [alloc_size, alloc_size] at mb5
  generalize ((w.alloc (.cells #[.int .i64 n, .slice ax L.length cx] 24)).alloc (.cells #[.int .i64 0, .slice none 0 0] 24)).alloc (.cells #[.int .i64 n, .slice none 0 0] 24) = W5 at *
  clear hb T0 A0 hbs tz tm
  generalize hbb : w.heap.size = b at *
  generalize hrb : b + 1 = rb at *
  generalize hmm : rb + 1 = mb at *
  have Hm1 := hide (And.intro hbb (And.intro hrb hmm))
  clear hbb hrb hmm
  go_loopw [4] (fun i wr => ∃ (k : Nat) (x : Value), i = .int .i64 (k : Int) ∧ k ≤ L.length ∧ OA wr x (flips (L.take k)) ∧ wr.heap[mb]? = some (.cells #[.int .i64 n, x] 24 (0, 0)) ∧ Hid (∀ j, x.ownBlock = some j → mb < j) ∧ Turn (fun j => mb ≤ j) W5 wr) (fun i _ => L.length - (intOf i).toNat)
  case atStart => exact ⟨0, .slice none 0 0, rfl, Nat.zero_le _, by simpa [flips] using oa_none _, mb5, hide (fun j hj => by simp [Value.ownBlock] at hj), Turn.refl _ _⟩
  case round =>
    clear mb5
    obtain ⟨hw1, hw2, hw3⟩ := unhide Hm1
    obtain ⟨k, x, rfl, hk, hO, hmb, hown, tr⟩ := hrel
    have br := tr.same b5 (by omega)
    obtain ⟨xa, xc, rfl⟩ := hO.form
    have f1 : wr.cell? ⟨b, 1, none⟩ = some (.slice ax L.length cx) := cell_obj br 1
    by_cases hlt : k < L.length
    · obtain ⟨y, hy⟩ := lt_take hlt
      obtain ⟨g, off, c', hv, hgB, hcl⟩ := (A5.turn tr (fun j hj => by have := hj.2; omega)).form (by omega)
      simp only [Value.slice.injEq] at hv
      obtain ⟨rfl, _, rfl⟩ := hv
      obtain ⟨q0, q1, q2⟩ := hcl k y hy
      have m1 : wr.cell? ⟨mb, 1, none⟩ = some (.slice xa (flips (L.take k)).length xc) := cell_obj hmb 1
      obtain ⟨x8, w8, hrun, O8, t8, own8⟩ := append_arc (hO.turn (Turn.refl (fun _ => False) wr).drew (fun _ _ h => h)) (flip y) (by rw [flips_len, List.length_take]; omega)
      rw [← flips_more hy] at O8
      have nmb : ∀ j, (Value.slice xa (flips (L.take k)).length xc).ownBlock = some j → j ≠ mb := fun j hj => OwnSl.neObj hO hmb (by decide) j hj
      have mb8 := t8.same (show wr.drew.heap[mb]? = _ from hmb) (fun h => nmb mb h rfl)
      obtain ⟨ya, yc, rfl⟩ := O8.form
      have z1 : w8.frozen? ⟨mb, 1, none⟩ = false := frozen_obj mb8 1
      have c1 : w8.cell? ⟨mb, 1, none⟩ = some (.slice xa (flips (L.take k)).length xc) := cell_obj mb8 1
      obtain ⟨f, t, u'⟩ := y
      unfold flip at hrun
      simp only at q0 q1 q2 hrun
      have ta := fun (o : Obj) => (Turn.refl (fun _ => False) wr).alloc o
      have a0 := fun o => (ta o).cell q0 (fun h => h)
      have a1 := fun o => (ta o).cell q1 (fun h => h)
      have a2 := fun o => (ta o).cell q2 (fun h => h)
      have a3 := fun o => (ta o).cell m1 (fun h => h)
      have a4 := fun o => (ta o).cell f1 (fun h => h)
      have mb9 := heap_setCell_obj (j := 1) mb8 (.slice ya (flips (L.take (k + 1))).length yc)
      have t9 : Turn (fun j => j = mb) w8 (w8.setCell ⟨mb, 1, none⟩ (.slice ya (flips (L.take (k + 1))).length yc)) := (Turn.refl (fun j => j = mb) w8).setCell (p := ⟨mb, 1, none⟩) (.inl rfl) _
      have O9 := O8.turn t9 (fun j hj => OwnSl.neObj O8 mb8 (by decide) j hj)
      have tr8 : Turn (fun j => mb ≤ j) W5 w8 := (tr.drew).then (t8.mono (fun j hj => by have := unhide hown j hj; omega))
      have tr9 := tr8.then (t9.mono (fun j hj => by omega))
      have hmw : mb < wr.heap.size := (Array.getElem?_eq_some_iff.1 hmb).1
      have own9 : Hid (∀ j, (Value.slice ya (flips (L.take (k + 1))).length yc).ownBlock = some j → mb < j) := hide (fun j hj => by
        rcases own8 j hj with h | h
        · exact unhide hown j h
        · have : wr.heap.size ≤ j := h
          omega)
      have hg2 := hgB.2
      have e1 := t8.cell (show wr.drew.cell? ⟨b, 1, none⟩ = _ from f1) (fun h => by have : mb < b := unhide hown b h; omega)
      have e2 := t8.cell (show wr.drew.cell? ⟨g, off + k * 3, none⟩ = _ from q0) (fun h => by have : mb < g := unhide hown g h; omega)
      have e3 := t8.cell (show wr.drew.cell? ⟨g, off + k * 3 + 1, none⟩ = _ from q1) (fun h => by have : mb < g := unhide hown g h; omega)
      have e4 := t8.cell (show wr.drew.cell? ⟨g, off + k * 3 + 2, none⟩ = _ from q2) (fun h => by have : mb < g := unhide hown g h; omega)
      have s1 := t9.cell e1 (show ¬ b = mb by omega)
      have s2 := t9.cell e2 (show ¬ g = mb by omega)
      have s3 := t9.cell e3 (show ¬ g = mb by omega)
      have s4 := t9.cell e4 (show ¬ g = mb by omega)
      clear hcl hy ta hO hmb hown tr own8 t8 O8 mb8 nmb t9 tr8 hmw br hgB hg2
      go_wp2_with fail
      refine wp_region_T 24 (fun u => u.cell? ⟨b, 1, none⟩ = some (.slice (some ⟨g, off, none⟩) L.length cx) ∧ u.cell? ⟨mb, 1, none⟩ = some (.slice xa (flips (L.take k)).length xc) ∧ u.cell? ⟨g, off + k * 3, none⟩ = some (.int .i64 f) ∧ u.cell? ⟨g, off + k * 3 + 1, none⟩ = some (.int .i64 t) ∧ u.cell? ⟨g, off + k * 3 + 2, none⟩ = some (.int .i64 u')) (by kernel_rfl) ?_ (fun hS => ?_)
      · exact ⟨f1, m1, q0, q1, q2⟩
      refine wpAnyT_take (i := 0) (v := ?_) rfl (by kernel_rfl) (by kernel_rfl) (by kernel_rfl) (by kernel_rfl) (fun _ _ _ h => h) (by rfl) ?_ hS ?_
      rotate_left
      · intro w hSw; (try dsimp only at hSw); go_simp; rfl
      simp only [Act.put, List.setIfInBounds_toArray, List.set_cons_zero, List.set_cons_succ]
      refine wpAnyT_take (i := 1) (v := ?_) rfl (by kernel_rfl) (by kernel_rfl) (by kernel_rfl) (by kernel_rfl) (fun _ _ _ h => h) (by rfl) ?_ hS ?_
      rotate_left
      · intro w hSw; (try dsimp only at hSw); go_simp; rfl
      simp only [Act.put, List.setIfInBounds_toArray, List.set_cons_zero, List.set_cons_succ]
      refine wpAnyT_take (i := 2) (v := ?_) rfl (by kernel_rfl) (by kernel_rfl) (by kernel_rfl) (by kernel_rfl) (fun _ _ _ h => h) (by rfl) ?_ hS ?_
      rotate_left
      · intro w hSw; (try dsimp only at hSw); go_simp; rfl
      simp only [Act.put, List.setIfInBounds_toArray, List.set_cons_zero, List.set_cons_succ]
      refine wpAnyT_take (i := 3) (v := ?_) rfl (by kernel_rfl) (by kernel_rfl) (by kernel_rfl) (by kernel_rfl) (fun _ _ _ h => h) (by rfl) ?_ hS ?_
      rotate_left
      · intro w hSw; (try dsimp only at hSw); go_simp; rfl
      simp only [Act.put, List.setIfInBounds_toArray, List.set_cons_zero, List.set_cons_succ]
      refine wpAnyT_take (i := 4) (v := ?_) rfl (by kernel_rfl) (by kernel_rfl) (by kernel_rfl) (by kernel_rfl) (fun _ _ _ h => h) (by rfl) ?_ hS ?_
      rotate_left
      · intro w hSw; (try dsimp only at hSw); go_simp; rfl
      simp only [Act.put, List.setIfInBounds_toArray, List.set_cons_zero, List.set_cons_succ]
      refine wpAnyT_take (i := 5) (v := ?_) rfl (by kernel_rfl) (by kernel_rfl) (by kernel_rfl) (by kernel_rfl) (fun _ _ _ h => h) (by rfl) ?_ hS ?_
      rotate_left
      · intro w hSw; (try dsimp only at hSw); go_simp; rfl
      simp only [Act.put, List.setIfInBounds_toArray, List.set_cons_zero, List.set_cons_succ]
      refine wpAnyT_take (i := 6) (v := ?_) rfl (by kernel_rfl) (by kernel_rfl) (by kernel_rfl) (by kernel_rfl) (fun _ _ _ h => h) (by rfl) ?_ hS ?_
      rotate_left
      · intro w hSw; (try dsimp only at hSw); go_simp; rfl
      simp only [Act.put, List.setIfInBounds_toArray, List.set_cons_zero, List.set_cons_succ]
      refine wpAnyT_take (i := 7) (v := ?_) rfl (by kernel_rfl) (by kernel_rfl) (by kernel_rfl) (by kernel_rfl) (fun _ _ _ h => h) (by rfl) ?_ hS ?_
      rotate_left
      · intro w hSw; (try dsimp only at hSw); go_simp; rfl
      simp only [Act.put, List.setIfInBounds_toArray, List.set_cons_zero, List.set_cons_succ]
      refine wpAnyT_take (i := 8) (v := ?_) rfl (by kernel_rfl) (by kernel_rfl) (by kernel_rfl) (by kernel_rfl) (fun _ _ _ h => h) (by rfl) ?_ hS ?_
      rotate_left
      · intro w hSw; (try dsimp only at hSw); go_simp; rfl
      simp only [Act.put, List.setIfInBounds_toArray, List.set_cons_zero, List.set_cons_succ]
      refine wpAnyT_take (i := 9) (v := ?_) rfl (by kernel_rfl) (by kernel_rfl) (by kernel_rfl) (by kernel_rfl) (fun _ _ _ h => h) (by rfl) ?_ hS ?_
      rotate_left
      · intro w hSw; (try dsimp only at hSw); go_simp; rfl
      simp only [Act.put, List.setIfInBounds_toArray, List.set_cons_zero, List.set_cons_succ]
      refine wpAnyT_take (i := 10) (v := ?_) rfl (by kernel_rfl) (by kernel_rfl) (by kernel_rfl) (by kernel_rfl) (fun _ _ _ h => h) (by rfl) ?_ hS ?_
      rotate_left
      · intro w hSw; (try dsimp only at hSw); go_simp; rfl
      simp only [Act.put, List.setIfInBounds_toArray, List.set_cons_zero, List.set_cons_succ]
      refine wpAnyT_take (i := 11) (v := ?_) rfl (by kernel_rfl) (by kernel_rfl) (by kernel_rfl) (by kernel_rfl) (fun _ _ _ h => h) (by rfl) ?_ hS ?_
      rotate_left
      · intro w hSw; (try dsimp only at hSw); go_simp; rfl
      simp only [Act.put, List.setIfInBounds_toArray, List.set_cons_zero, List.set_cons_succ]
      refine wpAnyT_take (i := 12) (v := ?_) rfl (by kernel_rfl) (by kernel_rfl) (by kernel_rfl) (by kernel_rfl) (fun _ _ _ h => h) (by rfl) ?_ hS ?_
      rotate_left
      · intro w hSw; (try dsimp only at hSw); go_simp; rfl
      simp only [Act.put, List.setIfInBounds_toArray, List.set_cons_zero, List.set_cons_succ]
      refine wpAnyT_take (i := 13) (v := ?_) rfl (by kernel_rfl) (by kernel_rfl) (by kernel_rfl) (by kernel_rfl) (fun _ _ _ h => h) (by rfl) ?_ hS ?_
      rotate_left
      · intro w hSw; (try dsimp only at hSw); go_simp; rfl
      simp only [Act.put, List.setIfInBounds_toArray, List.set_cons_zero, List.set_cons_succ]
      refine wpAnyT_take (i := 14) (v := ?_) rfl (by kernel_rfl) (by kernel_rfl) (by kernel_rfl) (by kernel_rfl) (fun _ _ _ h => h) (by rfl) ?_ hS ?_
      rotate_left
      · intro w hSw; (try dsimp only at hSw); go_simp; rfl
      simp only [Act.put, List.setIfInBounds_toArray, List.set_cons_zero, List.set_cons_succ]
      refine wpAnyT_take (i := 15) (v := ?_) rfl (by kernel_rfl) (by kernel_rfl) (by kernel_rfl) (by kernel_rfl) (fun _ _ _ h => h) (by rfl) ?_ hS ?_
      rotate_left
      · intro w hSw; (try dsimp only at hSw); go_simp; rfl
      simp only [Act.put, List.setIfInBounds_toArray, List.set_cons_zero, List.set_cons_succ]
      refine wpAnyT_take (i := 16) (v := ?_) rfl (by kernel_rfl) (by kernel_rfl) (by kernel_rfl) (by kernel_rfl) (fun _ _ _ h => h) (by rfl) ?_ hS ?_
      rotate_left
      · intro w hSw; (try dsimp only at hSw); go_simp; rfl
      simp only [Act.put, List.setIfInBounds_toArray, List.set_cons_zero, List.set_cons_succ]
      refine wpAnyT_take (i := 17) (v := ?_) rfl (by kernel_rfl) (by kernel_rfl) (by kernel_rfl) (by kernel_rfl) (fun _ _ _ h => h) (by rfl) ?_ hS ?_
      rotate_left
      · intro w hSw; (try dsimp only at hSw); go_simp; rfl
      simp only [Act.put, List.setIfInBounds_toArray, List.set_cons_zero, List.set_cons_succ]
      refine wpAnyT_take (i := 18) (v := ?_) rfl (by kernel_rfl) (by kernel_rfl) (by kernel_rfl) (by kernel_rfl) (fun _ _ _ h => h) (by rfl) ?_ hS ?_
      rotate_left
      · intro w hSw; (try dsimp only at hSw); go_simp; rfl
      simp only [Act.put, List.setIfInBounds_toArray, List.set_cons_zero, List.set_cons_succ]
      refine wpAnyT_take (i := 19) (v := ?_) rfl (by kernel_rfl) (by kernel_rfl) (by kernel_rfl) (by kernel_rfl) (fun _ _ _ h => h) (by rfl) ?_ hS ?_
      rotate_left
      · intro w hSw; (try dsimp only at hSw); go_simp; rfl
      simp only [Act.put, List.setIfInBounds_toArray, List.set_cons_zero, List.set_cons_succ]
      refine wpAnyT_take (i := 20) (v := ?_) rfl (by kernel_rfl) (by kernel_rfl) (by kernel_rfl) (by kernel_rfl) (fun _ _ _ h => h) (by rfl) ?_ hS ?_
      rotate_left
      · intro w hSw; (try dsimp only at hSw); go_simp; rfl
      simp only [Act.put, List.setIfInBounds_toArray, List.set_cons_zero, List.set_cons_succ]
      refine wpAnyT_one (i := 21) (by kernel_rfl) rfl (fun K' hK => ?_)
      rw [if_pos (by rfl)]
      go_simp
      refine hK _ _ (fun _ => ⟨a4 _, a3 _, a0 _, a1 _, a2 _⟩) ?_
      try simp only [List.setIfInBounds_toArray, List.set_cons_zero, List.set_cons_succ]
      clear hK K'
      refine wpAnyT_one (i := 22) (by kernel_rfl) rfl (fun K' hK => ?_)
      refine step_append_run rfl _ _ 22 rfl _ _ _ _ rfl rfl hrun ?_
      go_simp
      refine hK _ _ (fun _ => ⟨e1, c1, e2, e3, e4⟩) ?_
      try simp only [List.setIfInBounds_toArray, List.set_cons_zero, List.set_cons_succ]
      clear hK K'
      refine wpAnyT_one (i := 23) (by kernel_rfl) rfl (fun K' hK => ?_)
      rw [if_pos (by rfl)]
      go_simp
      refine hK _ _ (fun _ => ⟨e1, c1, e2, e3, e4⟩) ?_
      try simp only [List.setIfInBounds_toArray, List.set_cons_zero, List.set_cons_succ]
      clear hK K'
      refine wpAnyT_one (i := 24) (by kernel_rfl) rfl (fun K' hK => ?_)
      rw [if_pos (by rfl)]
      go_simp
      refine hK _ _ (fun h => absurd rfl h) ?_
      clear hK K'
      refine wpAnyT_done (by kernel_rfl) ?_
      clear hS e1 e2 e3 e4 a0 a1 a2 a3 a4 q0 q1 q2 hrun c1 z1
      go_wp2_with fail
      exact ⟨⟨k + 1, _, by go_num, by omega, O9, mb9.trans (by rfl), own9, tr9⟩, by simp [intOf]; omega⟩
    · obtain rfl : k = L.length := by omega
      rw [List.take_length] at hO hmb
      have rbr := tr.same rb5 (by omega)
      have m0 : wr.cell? ⟨mb, 0, none⟩ = some (.int .i64 n) := cell_obj hmb 0
      have m1 : wr.cell? ⟨mb, 1, none⟩ = some (.slice xa (flips L).length xc) := cell_obj hmb 1
      have T6 := T5.trans tr (fun j hj => .inr (by omega))
      have y0 : wr.frozen? ⟨rb, 0, none⟩ = false := frozen_obj rbr 0
      have y1 : wr.frozen? ⟨rb, 1, none⟩ = false := frozen_obj rbr 1
      have x0 : wr.cell? ⟨rb, 0, none⟩ = some (.int .i64 0) := cell_obj rbr 0
      have x1 : wr.cell? ⟨rb, 1, none⟩ = some (.slice none 0 0) := cell_obj rbr 1
      have rb7 : ((wr.setCell ⟨rb, 0, none⟩ (.int .i64 n)).setCell ⟨rb, 1, none⟩ (.slice xa (flips L).length xc)).heap[rb]? = some (.cells #[.int .i64 n, .slice xa (flips L).length xc] 24 (0, 0)) := (heap_setCell_obj (j := 1) (heap_setCell_obj (j := 0) rbr (.int .i64 n)) (.slice xa (flips L).length xc)).trans (by rfl)
      have t7 : Turn (fun j => j = rb) wr ((wr.setCell ⟨rb, 0, none⟩ (.int .i64 n)).setCell ⟨rb, 1, none⟩ (.slice xa (flips L).length xc)) := ((Turn.refl (fun j => j = rb) wr).setCell (p := ⟨rb, 0, none⟩) (.inl rfl) _).setCell (p := ⟨rb, 1, none⟩) (.inl rfl) _
      have O7 := hO.turn t7 (fun j hj => OwnSl.neObj hO rbr (by decide) j hj)
      have T7 := T6.trans t7 (fun j hj => .inr (by omega))
      have r0 : ((wr.setCell ⟨rb, 0, none⟩ (.int .i64 n)).setCell ⟨rb, 1, none⟩ (.slice xa (flips L).length xc)).cell? ⟨rb, 0, none⟩ = some (.int .i64 n) := cell_obj rb7 0
      have r1 : ((wr.setCell ⟨rb, 0, none⟩ (.int .i64 n)).setCell ⟨rb, 1, none⟩ (.slice xa (flips L).length xc)).cell? ⟨rb, 1, none⟩ = some (.slice xa (flips L).length xc) := cell_obj rb7 1
      clear tr A5 T5 hlt hown b5 rb5 hO hmb rbr T6 t7 rb7 br
      go_wp2_with fail
      exact bodyPost_ret (v := .agg #[.int .i64 n, .slice xa (flips L).length xc]) (by simp [results, Try.results22, go_sem, r0, r1]) rfl ⟨_, rfl, O7, T7⟩
end Go.Proofs.Ytombpfpfeebnpaa
