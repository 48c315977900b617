/- RoadTurned: a network with all arcs the other way. -/
import Derived.Test.YtmmlannnpndkcaaGTurn
import Derived.Test.YtmmlannnpndkcaaGLast
import Derived.Test.YtmmlannnpndkcaaBAfter
import Derived.Test.YtmmlannnpndkcaaGNewOk
import Derived.Test.YtmmlannnpndkcaaGMay
import Derived.Test.YtmmlannnpndkcaaGKept
import Derived.Deep.RegionHeld3
import Derived.Deep.RegionLaw
import Derived.StillTailTactics
namespace Go.Proofs.Ytmmlannnpndkcaa
open Go.RowKit Go.Maps
set_option linter.unusedVariables false
set_option linter.unusedSimpArgs false
set_option maxRecDepth 100000

theorem GraphAt.lows {F : Nat → Prop} {w : World} {G N : Nat} {l : List Ar} (h : GraphAt w G F N l) : GraphAt w G (fun j => F j ∧ j < w.heap.size) N l := by
  obtain ⟨oa, os, ia, is, m, k, h1, h2, ⟨S, h3, h3'⟩, h4, ⟨S', h5, h5'⟩, h6, a, b, c, d, e, f⟩ := h.told
  obtain ⟨_, q2⟩ := h2.lt
  obtain ⟨_, q3⟩ := h3.lt
  obtain ⟨_, q4⟩ := h4.lt
  obtain ⟨_, q5⟩ := h5.lt
  obtain ⟨_, _, q6⟩ := h6.lt
  exact ⟨oa, os, ia, is, m, k, h1, h2, ⟨S, h3, h3'⟩, h4, ⟨S', h5, h5'⟩, h6, ⟨a, (Array.getElem?_eq_some_iff.1 h1).1⟩, ⟨b, (Array.getElem?_eq_some_iff.1 q2).1⟩, ⟨c, (Array.getElem?_eq_some_iff.1 q3).1⟩, ⟨d, (Array.getElem?_eq_some_iff.1 q4).1⟩, ⟨e, (Array.getElem?_eq_some_iff.1 q5).1⟩, ⟨f, (Array.getElem?_eq_some_iff.1 q6).1⟩⟩

/-- append, of which the run is known, as one step of a region that draws -/
theorem step_append_run {P : Program} {ops : Array Oper} {o : Oper} {a : Act} {w : World} {K : Act → World → Prop} {Q : Exit → Act → World → Prop} {E : Prop}
    (hg : o.guard = none) (s x : Operand) (t : TypeId) (hop : o.op = Op.call { callee := Callee.builtin Builtin.append, args := #[s, x], argTypes := #[t, t] }) (v xv v' : Value) (w' : World) (hs : a.eval s = v) (hx : a.eval x = xv)
    (hrun : (Builtin.append_ #[t, t] o.type #[v, xv]).run P w = .ok v' w') (hK : K (a.put o.dst v') w') :
    if Region.wanted o (yielded ops a.tmps) = true then Oper.wp P o a w K Q else E := by
  have hw : Region.wanted o (yielded ops a.tmps) = true := by simp [Region.wanted, hg]
  rw [if_pos hw]
  unfold Oper.wp
  simp [execOp, hop, resolve, invoke, builtin, hs, hx, hrun, Result.andThen]
  exact hK

set_option maxHeartbeats 16000000 in
theorem turned_walk (w : World) (n : Int) (sv : Value) (l : List Ar) (hr : AR any w sv l) (v : Int) :
    Calls Try.prog 8 #[.agg #[.int .i64 n, sv], .int .i64 v] w fun e w' => e = .returned (.bool true) ∧ Turn (fun _ => False) w w' := by
  obtain ⟨a, c, rfl⟩ := hr.slice
  have T0 := (Turn.refl (fun _ => False) w).alloc (.cells #[.int .i64 n, .slice a l.length c] 26)
  have hb := heap_alloc_new w (.cells #[.int .i64 n, .slice a l.length c] 26)
  have Hc := cut_walk _ _ n _ l (hr.lt.quiet T0)
  have hL : (l.take 300).length ≤ 300 := by rw [List.length_take]; omega
  clear hr
  go_enter Try.func8, Try.ntmps8
  go_wp2_with fail
  generalize w.alloc (.cells #[.int .i64 n, .slice a l.length c] 26) = W at *
  have hbw : w.heap.size < W.heap.size := (Array.getElem?_eq_some_iff.1 hb).1
  generalize hbs : w.heap.size = b at *
  refine Hc.mono ?_
  rintro e w1 ⟨x, rfl, A1, t1⟩
  generalize l.take 300 = L at *
  have hb1 := t1.same hb (fun h => h)
  obtain ⟨ax, cx, rfl⟩ := A1.slice
  have b2 : ((w1.setCell ⟨b, 0, none⟩ (.int .i64 n)).setCell ⟨b, 1, none⟩ (.slice ax L.length cx)).heap[b]? = some (.cells #[.int .i64 n, .slice ax L.length cx] 26 (0, 0)) := (heap_setCell_obj (j := 1) (heap_setCell_obj (j := 0) hb1 (.int .i64 n)) (.slice ax L.length cx)).trans (by rfl)
  have t2 : Turn (fun j => j = b) w1 ((w1.setCell ⟨b, 0, none⟩ (.int .i64 n)).setCell ⟨b, 1, none⟩ (.slice ax L.length cx)) := ((Turn.refl (fun j => j = b) w1).setCell (p := ⟨b, 0, none⟩) (.inl rfl) _).setCell (p := ⟨b, 1, none⟩) (.inl rfl) _
  have f0 : w1.cell? ⟨b, 0, none⟩ = some (.int .i64 n) := cell_obj hb1 0
  have f1 : w1.cell? ⟨b, 1, none⟩ = some (.slice a l.length c) := cell_obj hb1 1
  have z0 : w1.frozen? ⟨b, 0, none⟩ = false := frozen_obj hb1 0
  have z1 : w1.frozen? ⟨b, 1, none⟩ = false := frozen_obj hb1 1
  have A2 := A1.turn t2 (fun j hj => by have := hj.2; omega)
  have T2 : Turn (fun _ => False) w _ := (T0.then t1).trans t2 (fun j hj => .inr (by omega))
  have Hbs := hide hbs
  clear Hc t1 A1 T0 hbs t2 hb hb1
  go_wp2_with fail
  generalize (w1.setCell ⟨b, 0, none⟩ (.int .i64 n)).setCell ⟨b, 1, none⟩ (.slice ax L.length cx) = W2 at *
  clear f0 f1 z0 z1
  refine (awake_walk _).mono ?_
  rintro e w3 ⟨rfl, t3⟩
  have b3 := t3.same b2 (fun h => h)
  have A3 := A2.quiet t3
  have T3 := T2.then t3
  have f0 : w3.cell? ⟨b, 0, none⟩ = some (.int .i64 n) := cell_obj b3 0
  have f1 : w3.cell? ⟨b, 1, none⟩ = some (.slice ax L.length cx) := cell_obj b3 1
  clear b2 A2 T2 t3
  by_cases hbig : 1024 < n
  · go_wp2_with fail
    refine (awake_walk _).mono ?_
    rintro e w4 ⟨rfl, t4⟩
    go_wp2
    go_ret
    exact ⟨rfl, T3.then t4⟩
  have Hm := may_walk any w3 n _ L (A3.mono (fun _ _ => trivial)) (by omega)
  by_cases hmay : MayA n L
  · rw [decide_eq_true hmay] at Hm
    obtain ⟨N, rfl⟩ : ∃ N : Nat, n = N := ⟨n.toNat, by have := hmay.1.1; omega⟩
    have HM := hide hmay
    clear hmay
    go_wp2_with fail
    refine Hm.mono ?_
    rintro e w4 ⟨rfl, t4⟩
    have b4 := t4.same b3 (fun h => h)
    have A4 := A3.quiet t4
    have T4 := T3.then t4
    have f0' : w4.cell? ⟨b, 0, none⟩ = some (.int .i64 (N : Int)) := cell_obj b4 0
    have tX := (Turn.refl (fun _ => False) w4).alloc (.cells #[.int .i64 (N : Int), .slice none 0 0] 26)
    have mb5 := heap_alloc_new w4 (.cells #[.int .i64 (N : Int), .slice none 0 0] 26)
    have b5 := tX.same b4 (fun h => h)
    have A5 := (A4.lt).quiet tX
    have T5 := T4.then tX
    have hbw4 : b < w4.heap.size := (Array.getElem?_eq_some_iff.1 b4).1
    clear Hm b3 A3 T3 f0 f1 t4 b4 A4 T4 tX
    go_wp2_with fail
    generalize w4.alloc (.cells #[.int .i64 (N : Int), .slice none 0 0] 26) = W5 at *
    generalize w4.heap.size = mb at *
    clear f0'
    go_loopw [6] (fun i wr => ∃ (k : Nat) (x : Value), i = .int .i64 (k : Int) ∧ k ≤ L.length ∧ OA wr x (flips (L.take k)) ∧ wr.heap[mb]? = some (.cells #[.int .i64 (N : Int), x] 26 (0, 0)) ∧ Hid (∀ j, x.ownBlock = some j → mb < j) ∧ Turn (fun j => mb ≤ j) W5 wr) (fun i _ => L.length - (intOf i).toNat)
    case atStart => exact ⟨0, .slice none 0 0, rfl, Nat.zero_le _, by simpa [flips] using oa_none _, mb5, hide (fun j hj => by simp [Value.ownBlock] at hj), Turn.refl _ _⟩
    case round =>
      clear mb5
      obtain ⟨k, x, rfl, hk, hO, hmb, hown, tr⟩ := hrel
      have br := tr.same b5 (by omega)
      obtain ⟨xa, xc, rfl⟩ := hO.form
      have f1 : wr.cell? ⟨b, 1, none⟩ = some (.slice ax L.length cx) := cell_obj br 1
      by_cases hlt : k < L.length
      · obtain ⟨y, hy⟩ := lt_take hlt
        obtain ⟨g, off, c', hv, hgB, hcl⟩ := (A5.turn tr (fun j hj => by have := hj.2; omega)).form (by omega)
        simp only [Value.slice.injEq] at hv
        obtain ⟨rfl, _, rfl⟩ := hv
        obtain ⟨q0, q1, q2⟩ := hcl k y hy
        have m1 : wr.cell? ⟨mb, 1, none⟩ = some (.slice xa (flips (L.take k)).length xc) := cell_obj hmb 1
        obtain ⟨x8, w8, hrun, O8, t8, own8⟩ := append_arc (hO.turn (Turn.refl (fun _ => False) wr).drew (fun _ _ h => h)) (flip y) (by rw [flips_len, List.length_take]; omega)
        rw [← flips_more hy] at O8
        have nmb : ∀ j, (Value.slice xa (flips (L.take k)).length xc).ownBlock = some j → j ≠ mb := fun j hj => OwnSl.neObj hO hmb (by decide) j hj
        have mb8 := t8.same (show wr.drew.heap[mb]? = _ from hmb) (fun h => nmb mb h rfl)
        obtain ⟨ya, yc, rfl⟩ := O8.form
        have z1 : w8.frozen? ⟨mb, 1, none⟩ = false := frozen_obj mb8 1
        have c1 : w8.cell? ⟨mb, 1, none⟩ = some (.slice xa (flips (L.take k)).length xc) := cell_obj mb8 1
        obtain ⟨f, t, u'⟩ := y
        unfold flip at hrun
        simp only at q0 q1 q2 hrun
        have ta := fun (o : Obj) => (Turn.refl (fun _ => False) wr).alloc o
        have a0 := fun o => (ta o).cell q0 (fun h => h)
        have a1 := fun o => (ta o).cell q1 (fun h => h)
        have a2 := fun o => (ta o).cell q2 (fun h => h)
        have a3 := fun o => (ta o).cell m1 (fun h => h)
        have a4 := fun o => (ta o).cell f1 (fun h => h)
        have mb9 := heap_setCell_obj (j := 1) mb8 (.slice ya (flips (L.take (k + 1))).length yc)
        have t9 : Turn (fun j => j = mb) w8 (w8.setCell ⟨mb, 1, none⟩ (.slice ya (flips (L.take (k + 1))).length yc)) := (Turn.refl (fun j => j = mb) w8).setCell (p := ⟨mb, 1, none⟩) (.inl rfl) _
        have O9 := O8.turn t9 (fun j hj => OwnSl.neObj O8 mb8 (by decide) j hj)
        have tr8 : Turn (fun j => mb ≤ j) W5 w8 := (tr.drew).then (t8.mono (fun j hj => by have := unhide hown j hj; omega))
        have tr9 := tr8.then (t9.mono (fun j hj => by omega))
        have hmw : mb < wr.heap.size := (Array.getElem?_eq_some_iff.1 hmb).1
        have own9 : Hid (∀ j, (Value.slice ya (flips (L.take (k + 1))).length yc).ownBlock = some j → mb < j) := hide (fun j hj => by
          rcases own8 j hj with h | h
          · exact unhide hown j h
          · have : wr.heap.size ≤ j := h
            omega)
        have hg2 := hgB.2
        have e1 := t8.cell (show wr.drew.cell? ⟨b, 1, none⟩ = _ from f1) (fun h => by have : mb < b := unhide hown b h; omega)
        have e2 := t8.cell (show wr.drew.cell? ⟨g, off + k * 3, none⟩ = _ from q0) (fun h => by have : mb < g := unhide hown g h; omega)
        have e3 := t8.cell (show wr.drew.cell? ⟨g, off + k * 3 + 1, none⟩ = _ from q1) (fun h => by have : mb < g := unhide hown g h; omega)
        have e4 := t8.cell (show wr.drew.cell? ⟨g, off + k * 3 + 2, none⟩ = _ from q2) (fun h => by have : mb < g := unhide hown g h; omega)
        have s1 := t9.cell e1 (show ¬ b = mb by omega)
        have s2 := t9.cell e2 (show ¬ g = mb by omega)
        have s3 := t9.cell e3 (show ¬ g = mb by omega)
        have s4 := t9.cell e4 (show ¬ g = mb by omega)
        clear hcl hy ta hO hmb hown tr own8 t8 O8 mb8 nmb t9 tr8 hmw br hgB hg2
        go_wp2_with fail
        refine wp_region_T 24 (fun u => u.cell? ⟨b, 1, none⟩ = some (.slice (some ⟨g, off, none⟩) L.length cx) ∧ u.cell? ⟨mb, 1, none⟩ = some (.slice xa (flips (L.take k)).length xc) ∧ u.cell? ⟨g, off + k * 3, none⟩ = some (.int .i64 f) ∧ u.cell? ⟨g, off + k * 3 + 1, none⟩ = some (.int .i64 t) ∧ u.cell? ⟨g, off + k * 3 + 2, none⟩ = some (.int .i64 u')) (by kernel_rfl) ?_ (fun hS => ?_)
        · exact ⟨f1, m1, q0, q1, q2⟩
        refine wpAnyT_take (i := 0) (v := ?_) rfl (by kernel_rfl) (by kernel_rfl) (by kernel_rfl) (by kernel_rfl) (fun _ _ _ h => h) (by rfl) ?_ hS ?_
        rotate_left
        · intro w hSw; (try dsimp only at hSw); go_simp; rfl
        simp only [Act.put, List.setIfInBounds_toArray, List.set_cons_zero, List.set_cons_succ]
        refine wpAnyT_take (i := 1) (v := ?_) rfl (by kernel_rfl) (by kernel_rfl) (by kernel_rfl) (by kernel_rfl) (fun _ _ _ h => h) (by rfl) ?_ hS ?_
        rotate_left
        · intro w hSw; (try dsimp only at hSw); go_simp; rfl
        simp only [Act.put, List.setIfInBounds_toArray, List.set_cons_zero, List.set_cons_succ]
        refine wpAnyT_take (i := 2) (v := ?_) rfl (by kernel_rfl) (by kernel_rfl) (by kernel_rfl) (by kernel_rfl) (fun _ _ _ h => h) (by rfl) ?_ hS ?_
        rotate_left
        · intro w hSw; (try dsimp only at hSw); go_simp; rfl
        simp only [Act.put, List.setIfInBounds_toArray, List.set_cons_zero, List.set_cons_succ]
        refine wpAnyT_take (i := 3) (v := ?_) rfl (by kernel_rfl) (by kernel_rfl) (by kernel_rfl) (by kernel_rfl) (fun _ _ _ h => h) (by rfl) ?_ hS ?_
        rotate_left
        · intro w hSw; (try dsimp only at hSw); go_simp; rfl
        simp only [Act.put, List.setIfInBounds_toArray, List.set_cons_zero, List.set_cons_succ]
        refine wpAnyT_take (i := 4) (v := ?_) rfl (by kernel_rfl) (by kernel_rfl) (by kernel_rfl) (by kernel_rfl) (fun _ _ _ h => h) (by rfl) ?_ hS ?_
        rotate_left
        · intro w hSw; (try dsimp only at hSw); go_simp; rfl
        simp only [Act.put, List.setIfInBounds_toArray, List.set_cons_zero, List.set_cons_succ]
        refine wpAnyT_take (i := 5) (v := ?_) rfl (by kernel_rfl) (by kernel_rfl) (by kernel_rfl) (by kernel_rfl) (fun _ _ _ h => h) (by rfl) ?_ hS ?_
        rotate_left
        · intro w hSw; (try dsimp only at hSw); go_simp; rfl
        simp only [Act.put, List.setIfInBounds_toArray, List.set_cons_zero, List.set_cons_succ]
        refine wpAnyT_take (i := 6) (v := ?_) rfl (by kernel_rfl) (by kernel_rfl) (by kernel_rfl) (by kernel_rfl) (fun _ _ _ h => h) (by rfl) ?_ hS ?_
        rotate_left
        · intro w hSw; (try dsimp only at hSw); go_simp; rfl
        simp only [Act.put, List.setIfInBounds_toArray, List.set_cons_zero, List.set_cons_succ]
        refine wpAnyT_take (i := 7) (v := ?_) rfl (by kernel_rfl) (by kernel_rfl) (by kernel_rfl) (by kernel_rfl) (fun _ _ _ h => h) (by rfl) ?_ hS ?_
        rotate_left
        · intro w hSw; (try dsimp only at hSw); go_simp; rfl
        simp only [Act.put, List.setIfInBounds_toArray, List.set_cons_zero, List.set_cons_succ]
        refine wpAnyT_take (i := 8) (v := ?_) rfl (by kernel_rfl) (by kernel_rfl) (by kernel_rfl) (by kernel_rfl) (fun _ _ _ h => h) (by rfl) ?_ hS ?_
        rotate_left
        · intro w hSw; (try dsimp only at hSw); go_simp; rfl
        simp only [Act.put, List.setIfInBounds_toArray, List.set_cons_zero, List.set_cons_succ]
        refine wpAnyT_take (i := 9) (v := ?_) rfl (by kernel_rfl) (by kernel_rfl) (by kernel_rfl) (by kernel_rfl) (fun _ _ _ h => h) (by rfl) ?_ hS ?_
        rotate_left
        · intro w hSw; (try dsimp only at hSw); go_simp; rfl
        simp only [Act.put, List.setIfInBounds_toArray, List.set_cons_zero, List.set_cons_succ]
        refine wpAnyT_take (i := 10) (v := ?_) rfl (by kernel_rfl) (by kernel_rfl) (by kernel_rfl) (by kernel_rfl) (fun _ _ _ h => h) (by rfl) ?_ hS ?_
        rotate_left
        · intro w hSw; (try dsimp only at hSw); go_simp; rfl
        simp only [Act.put, List.setIfInBounds_toArray, List.set_cons_zero, List.set_cons_succ]
        refine wpAnyT_take (i := 11) (v := ?_) rfl (by kernel_rfl) (by kernel_rfl) (by kernel_rfl) (by kernel_rfl) (fun _ _ _ h => h) (by rfl) ?_ hS ?_
        rotate_left
        · intro w hSw; (try dsimp only at hSw); go_simp; rfl
        simp only [Act.put, List.setIfInBounds_toArray, List.set_cons_zero, List.set_cons_succ]
        refine wpAnyT_take (i := 12) (v := ?_) rfl (by kernel_rfl) (by kernel_rfl) (by kernel_rfl) (by kernel_rfl) (fun _ _ _ h => h) (by rfl) ?_ hS ?_
        rotate_left
        · intro w hSw; (try dsimp only at hSw); go_simp; rfl
        simp only [Act.put, List.setIfInBounds_toArray, List.set_cons_zero, List.set_cons_succ]
        refine wpAnyT_take (i := 13) (v := ?_) rfl (by kernel_rfl) (by kernel_rfl) (by kernel_rfl) (by kernel_rfl) (fun _ _ _ h => h) (by rfl) ?_ hS ?_
        rotate_left
        · intro w hSw; (try dsimp only at hSw); go_simp; rfl
        simp only [Act.put, List.setIfInBounds_toArray, List.set_cons_zero, List.set_cons_succ]
        refine wpAnyT_take (i := 14) (v := ?_) rfl (by kernel_rfl) (by kernel_rfl) (by kernel_rfl) (by kernel_rfl) (fun _ _ _ h => h) (by rfl) ?_ hS ?_
        rotate_left
        · intro w hSw; (try dsimp only at hSw); go_simp; rfl
        simp only [Act.put, List.setIfInBounds_toArray, List.set_cons_zero, List.set_cons_succ]
        refine wpAnyT_take (i := 15) (v := ?_) rfl (by kernel_rfl) (by kernel_rfl) (by kernel_rfl) (by kernel_rfl) (fun _ _ _ h => h) (by rfl) ?_ hS ?_
        rotate_left
        · intro w hSw; (try dsimp only at hSw); go_simp; rfl
        simp only [Act.put, List.setIfInBounds_toArray, List.set_cons_zero, List.set_cons_succ]
        refine wpAnyT_take (i := 16) (v := ?_) rfl (by kernel_rfl) (by kernel_rfl) (by kernel_rfl) (by kernel_rfl) (fun _ _ _ h => h) (by rfl) ?_ hS ?_
        rotate_left
        · intro w hSw; (try dsimp only at hSw); go_simp; rfl
        simp only [Act.put, List.setIfInBounds_toArray, List.set_cons_zero, List.set_cons_succ]
        refine wpAnyT_take (i := 17) (v := ?_) rfl (by kernel_rfl) (by kernel_rfl) (by kernel_rfl) (by kernel_rfl) (fun _ _ _ h => h) (by rfl) ?_ hS ?_
        rotate_left
        · intro w hSw; (try dsimp only at hSw); go_simp; rfl
        simp only [Act.put, List.setIfInBounds_toArray, List.set_cons_zero, List.set_cons_succ]
        refine wpAnyT_take (i := 18) (v := ?_) rfl (by kernel_rfl) (by kernel_rfl) (by kernel_rfl) (by kernel_rfl) (fun _ _ _ h => h) (by rfl) ?_ hS ?_
        rotate_left
        · intro w hSw; (try dsimp only at hSw); go_simp; rfl
        simp only [Act.put, List.setIfInBounds_toArray, List.set_cons_zero, List.set_cons_succ]
        refine wpAnyT_take (i := 19) (v := ?_) rfl (by kernel_rfl) (by kernel_rfl) (by kernel_rfl) (by kernel_rfl) (fun _ _ _ h => h) (by rfl) ?_ hS ?_
        rotate_left
        · intro w hSw; (try dsimp only at hSw); go_simp; rfl
        simp only [Act.put, List.setIfInBounds_toArray, List.set_cons_zero, List.set_cons_succ]
        refine wpAnyT_take (i := 20) (v := ?_) rfl (by kernel_rfl) (by kernel_rfl) (by kernel_rfl) (by kernel_rfl) (fun _ _ _ h => h) (by rfl) ?_ hS ?_
        rotate_left
        · intro w hSw; (try dsimp only at hSw); go_simp; rfl
        simp only [Act.put, List.setIfInBounds_toArray, List.set_cons_zero, List.set_cons_succ]
        refine wpAnyT_one (i := 21) (by kernel_rfl) rfl (fun K' hK => ?_)
        rw [if_pos (by rfl)]
        go_simp
        refine hK _ _ (fun _ => ⟨a4 _, a3 _, a0 _, a1 _, a2 _⟩) ?_
        try simp only [List.setIfInBounds_toArray, List.set_cons_zero, List.set_cons_succ]
        clear hK K'
        refine wpAnyT_one (i := 22) (by kernel_rfl) rfl (fun K' hK => ?_)
        refine step_append_run rfl _ _ 24 rfl _ _ _ _ rfl rfl hrun ?_
        go_simp
        refine hK _ _ (fun _ => ⟨e1, c1, e2, e3, e4⟩) ?_
        try simp only [List.setIfInBounds_toArray, List.set_cons_zero, List.set_cons_succ]
        clear hK K'
        refine wpAnyT_one (i := 23) (by kernel_rfl) rfl (fun K' hK => ?_)
        rw [if_pos (by rfl)]
        go_simp
        refine hK _ _ (fun _ => ⟨e1, c1, e2, e3, e4⟩) ?_
        try simp only [List.setIfInBounds_toArray, List.set_cons_zero, List.set_cons_succ]
        clear hK K'
        refine wpAnyT_one (i := 24) (by kernel_rfl) rfl (fun K' hK => ?_)
        rw [if_pos (by rfl)]
        go_simp
        refine hK _ _ (fun h => absurd rfl h) ?_
        clear hK K'
        refine wpAnyT_done (by kernel_rfl) ?_
        clear hS e1 e2 e3 e4 a0 a1 a2 a3 a4 q0 q1 q2 hrun c1 z1
        go_wp2_with fail
        exact ⟨⟨k + 1, _, by go_num, by omega, O9, mb9.trans (by rfl), own9, tr9⟩, by simp [intOf]; omega⟩
      · obtain rfl : k = L.length := by omega
        rw [List.take_length] at hO hmb
        have A6 := A5.turn tr (fun j hj => by have := hj.2; omega)
        have T6 := T5.trans tr (fun j hj => .inr (by have := unhide Hbs; omega))
        have f0 : wr.cell? ⟨b, 0, none⟩ = some (.int .i64 (N : Int)) := cell_obj br 0
        have Hnew := new_ok _ _ (N : Int) _ L A6 (unhide HM)
        rw [Int.toNat_natCast] at Hnew
        have HFM := hide (flip_may (unhide HM))
        clear tr A5 T5 hlt hown b5
        go_wp2_with fail
        refine Hnew.mono ?_
        rintro e w6 ⟨G, rfl, G6, t6⟩
        have G6l := G6.lows
        have b6 := t6.same br (fun h => h)
        have mb6 := t6.same hmb (fun h => h)
        have A7 := A6.quiet t6
        have O6 := hO.turn t6 (fun _ _ h => h)
        have T7 := T6.then t6
        have m0 : w6.cell? ⟨mb, 0, none⟩ = some (.int .i64 (N : Int)) := cell_obj mb6 0
        have m1 : w6.cell? ⟨mb, 1, none⟩ = some (.slice xa (flips L).length xc) := cell_obj mb6 1
        have Hnew2 := new_ok _ _ (N : Int) _ (flips L) O6.ar (unhide HFM)
        rw [Int.toNat_natCast] at Hnew2
        clear Hnew f0 f1 G6 br hmb A6 hO T6 t6 O6
        go_wp2_with fail
        refine Hnew2.mono ?_
        rintro e w7 ⟨G', rfl, G7, t7⟩
        have G7k := G6l.quiet t7
        have b7 := t7.same b6 (fun h => h)
        have A8 := A7.quiet t7
        have T8 := T7.then t7
        have HO := Out_ask w7 G N L G7k (unhide HM).1 v
        clear Hnew2 G6l b6 mb6 A7 T7 m0 m1 t7
        go_wp2_with fail
        refine HO.mono ?_
        rintro e w8 ⟨x8, rfl, O8, t8, own8⟩
        have G8 := G7.quiet t8
        have G8k := G7k.quiet t8
        have b8 := t8.same b7 (fun h => h)
        have A9 := A8.quiet t8
        have T9 := T8.then t8
        have HI := In_ask w8 G' N (flips L) G8 (unhide HFM).1 v
        rw [flip_ends (unhide HM) v] at HI
        have hSm : Hid (∀ x ∈ ends keF L N v, x ∈ L) := hide (fun x hx => ends_mem (unhide HM).1 hx)
        generalize ends keF L N v = S at *
        clear HO G7 G7k b7 A8 T8
        go_wp2_with fail
        refine HI.mono ?_
        rintro e w9 ⟨x9, rfl, O9, t9, own9⟩
        have G9 := G8.quiet t9
        have G9k := G8k.quiet t9
        have b9 := t9.same b8 (fun h => h)
        have A10 := A9.quiet t9
        have T10 := T9.then t9
        have O8 := O8.turn t9 (fun _ _ h => h)
        obtain ⟨sa, sc, rfl⟩ := O8.form
        obtain ⟨za, zc, rfl⟩ := O9.form
        rw [flips_len] at *
        have hSl := O8.ar.len
        unfold maxLen at hSl
        clear HI G8 G8k b8 A9 T9
        go_wp2_with fail
        go_loopw [13] (fun i wr => ∃ k : Nat, i = .int .i64 (k : Int) ∧ k ≤ S.length ∧ Turn (fun _ => False) w9 wr) (fun i _ => S.length - (intOf i).toNat)
        case atStart => exact ⟨0, rfl, Nat.zero_le _, Turn.refl _ _⟩
        case round =>
          rename_i wq
          obtain ⟨k, rfl, hk, tr⟩ := hrel
          by_cases hlt : k < S.length
          · obtain ⟨y, hy⟩ := lt_take hlt
            have hyL := unhide hSm y (List.mem_of_getElem? hy)
            have hok := (unhide HM).1.2.2.2 y hyL
            obtain ⟨sg, soff, c1', hv, _, hcl⟩ := ((O8.turn tr (fun _ _ h => h)).ar).form (by omega)
            simp only [Value.slice.injEq] at hv
            obtain ⟨rfl, _, rfl⟩ := hv
            obtain ⟨q0, q1, q2⟩ := hcl k y hy
            obtain ⟨zg, zoff, c2', hv, _, hcl2⟩ := ((O9.turn tr (fun _ _ h => h)).ar).form (by rw [flips_len]; omega)
            simp only [Value.slice.injEq] at hv
            obtain ⟨rfl, hz9, rfl⟩ := hv
            clear hz9
            obtain ⟨r0, r1, r2⟩ := hcl2 k (flip y) (flips_at hy)
            have G10 := G9.quiet tr
            obtain ⟨f, t, u'⟩ := y
            unfold flip at r0 r1 r2
            unfold okA at hok
            simp only at q0 q1 q2 r0 r1 r2 hok
            have w1 : I32 t := i32_of (by omega) (by omega)
            have w2 : I32 f := i32_of (by omega) (by omega)
            have hw1 : IntKind.i32.wrap t = t := by rw [IntKind.wrap_i32]; omega
            have hw2 : IntKind.i32.wrap f = f := by rw [IntKind.wrap_i32]; omega
            have HW := fun u (h : Turn (fun _ => False) _ u) => weight_ask u G' N (flips L) (G10.quiet h) (unhide HFM).1 (unhide HFM).2 t f w1 w2
            rw [flip_weight (unhide HM) hyL] at HW
            simp only at HW
            have hok' := hide hok
            clear hcl hcl2 hy hyL hok w1 w2
            go_wp2_with fail
            have q0d : wr.drew.cell? ⟨sg, soff + k * 3, none⟩ = some (.int .i64 f) := q0
            have q1d : wr.drew.cell? ⟨sg, soff + k * 3 + 1, none⟩ = some (.int .i64 t) := q1
            go_region_held3 (fun u => u.cell? ⟨sg, soff + k * 3, none⟩ = some (.int .i64 f) ∧ u.cell? ⟨sg, soff + k * 3 + 1, none⟩ = some (.int .i64 t)) (first | exact ⟨q0d, q1d⟩ | exact ⟨q0, q1⟩ | exact ⟨s0, s1⟩ | go_keep)
              (first
              | (go_at_call 23; refine (HW _ ((Turn.refl _ _).drew)).mono ?_; rintro e wx ⟨rfl, tx⟩; have s0 := tx.cell q0d (fun h => h); have s1 := tx.cell q1d (fun h => h)))
            have s2 := tx.cell (show wr.drew.cell? ⟨sg, soff + k * 3 + 2, none⟩ = _ from q2) (fun h => h)
            have p0 := tx.cell (show wr.drew.cell? ⟨zg, zoff + k * 3, none⟩ = _ from r0) (fun h => h)
            have p1 := tx.cell (show wr.drew.cell? ⟨zg, zoff + k * 3 + 1, none⟩ = _ from r1) (fun h => h)
            have p2 := tx.cell (show wr.drew.cell? ⟨zg, zoff + k * 3 + 2, none⟩ = _ from r2) (fun h => h)
            have trx := (tr.drew).then tx
            have y0 : ∀ p : After wx, p.w.cell? ⟨sg, soff + k * 3, none⟩ = some (.int .i64 f) := fun p => p.turn.cell s0 (fun h => h)
            have y1 : ∀ p : After wx, p.w.cell? ⟨sg, soff + k * 3 + 1, none⟩ = some (.int .i64 t) := fun p => p.turn.cell s1 (fun h => h)
            have y2 : ∀ p : After wx, p.w.cell? ⟨sg, soff + k * 3 + 2, none⟩ = some (.int .i64 u') := fun p => p.turn.cell s2 (fun h => h)
            have v0 : ∀ p : After wx, p.w.cell? ⟨zg, zoff + k * 3, none⟩ = some (.int .i64 t) := fun p => p.turn.cell p0 (fun h => h)
            have v1 : ∀ p : After wx, p.w.cell? ⟨zg, zoff + k * 3 + 1, none⟩ = some (.int .i64 f) := fun p => p.turn.cell p1 (fun h => h)
            have v2 : ∀ p : After wx, p.w.cell? ⟨zg, zoff + k * 3 + 2, none⟩ = some (.int .i64 u') := fun p => p.turn.cell p2 (fun h => h)
            clear q0 q1 q2 q0d q1d r0 r1 r2 s0 s1 s2 p0 p1 p2 HW G10 tx tr
            go_wp2_with fail
            have hne := after_ne wx
            refine wp_region_after (by kernel_rfl) (by kernel_rfl) ?_
            repeat (go_big_quiet_step (fail))
            refine wpQuiet_nil ?_
            rintro _ ⟨p, rfl⟩
            have trp := trx.then p.turn
            clear y0 y1 y2 v0 v1 v2 hne
            go_wp2
            exact ⟨⟨k + 1, by go_num, by omega, trp⟩, by simp [intOf]; omega⟩
          · obtain rfl : k = S.length := by omega
            have T11 := T10.then tr
            have b11 := tr.same b9 (fun h => h)
            have G11 := G9k.quiet tr
            have A11 := (A10.quiet tr).mono (B' := any) (fun _ _ => trivial)
            clear T10 tr b9 G9k A10 G9 O8 O9 own8 own9 hSm hSl hlt
            go_wp2_with fail
            go_loopw [16, 17, 18] (fun x z i wr' => ∃ (u a0 c0 : Nat), x = .int .i64 (a0 : Int) ∧ z = .int .i64 (c0 : Int) ∧ i = .int .i64 (u : Int) ∧ u ≤ N ∧ a0 = (gat keF (both L N) u).length ∧ c0 = (gat keT (both L N) u).length ∧ Turn (fun _ => False) wr wr') (fun _ _ i _ => N - (intOf i).toNat)
            case atStart => exact ⟨0, 0, 0, rfl, rfl, rfl, Nat.zero_le _, rfl, rfl, Turn.refl _ _⟩
            case round =>
              obtain ⟨u, a0, c0, rfl, rfl, rfl, hu, ha, hc, tr⟩ := hrel
              have G12 := G11.quiet tr
              have b12 := tr.same b11 (fun h => h)
              have f0 : wr.cell? ⟨b, 0, none⟩ = some (.int .i64 (N : Int)) := cell_obj b12 0
              have f1 : wr.cell? ⟨b, 1, none⟩ = some (.slice ax L.length cx) := cell_obj b12 1
              have eF := ends_all_F (unhide HM).1
              have eT := ends_all_T (unhide HM).1
              by_cases hlt : u < N
              · have HO := Out_ask wr G N L G12 (unhide HM).1 (u : Int)
                have sF := ends_sum keF L N u
                have sT := ends_sum keT L N u
                have mF := gat_mono keF (both L N) (show u + 1 ≤ N by omega)
                have mT := gat_mono keT (both L N) (show u + 1 ≤ N by omega)
                have HI := fun w1 (h : Turn (fun _ => False) wr w1) => In_ask w1 G N L (G12.quiet h) (unhide HM).1 (u : Int)
                generalize ends keF L N (u : Int) = EF at *
                generalize ends keT L N (u : Int) = ET at *
                have hF : a0 + EF.length ≤ 300 := by omega
                have hT : c0 + ET.length ≤ 300 := by omega
                have nF : a0 + EF.length = (gat keF (both L N) (u + 1)).length := by omega
                have nT : c0 + ET.length = (gat keT (both L N) (u + 1)).length := by omega
                clear G11 b11 b12 T11 A11 f1 eF eT sF sT mF mT ha hc G12
                go_wp2_with fail
                refine HO.mono ?_
                rintro e v1 ⟨y1, rfl, O1, t1, own1⟩
                obtain ⟨ya, yc, rfl⟩ := O1.form
                have O1l := O1.ar.len
                have HI := HI v1 t1
                go_wp2_with fail
                refine HI.mono ?_
                rintro e v2 ⟨y2, rfl, O2, t2, own2⟩
                obtain ⟨yb, yd, rfl⟩ := O2.form
                have tr2 := (tr.then t1).then t2
                clear HO HI O1 O2 own1 own2 t1 t2 tr O1l f0
                go_wp2
                exact ⟨⟨u + 1, a0 + EF.length, c0 + ET.length, by go_num, by go_num, by go_num, by omega, nF, nT, tr2⟩, by simp [intOf]; omega⟩
              · obtain rfl : u = N := by omega
                obtain rfl : a0 = L.length := by omega
                obtain rfl : c0 = L.length := by omega
                have hL6 : L.length ≤ 1000000 := by omega
                have A12 := A11.quiet tr
                have T12 := T11.then tr
                have HNt := fun u1 (t : Turn (fun _ => False) wr u1) => net_ask u1 G u L (G12.quiet t) (unhide HM).1
                rw [both_sort (unhide HM).1 (unhide HM).2] at HNt
                have HSo := fun u1 (t : Turn (fun _ => False) wr u1) => sort_call u1 _ L hL6 (A12.quiet t)
                generalize sortA L = S2 at *
                have Hns := fun (u1 : World) (x y : Value) (h1 : AR any u1 x S2) (h2 : AR any u1 y S2) => (net_same u1 (u : Int) (u : Int) x y S2 S2 h1 h2).mono (fun e w' h => (show e = .returned (.bool true) ∧ Turn (fun _ => False) u1 w' from ⟨by rw [h.1]; simp, h.2⟩))
                have tc : Turn (fun _ => False) wr wr.drew := (Turn.refl _ _).drew
                have f0d : wr.drew.cell? ⟨b, 0, none⟩ = some (.int .i64 (u : Int)) := f0
                have f1d : wr.drew.cell? ⟨b, 1, none⟩ = some (.slice ax L.length cx) := f1
                have Hcb2 : Hid (∀ u1, Turn (fun _ => False) wr u1 → u1.cell? ⟨b, 0, none⟩ = some (.int .i64 (u : Int)) ∧ u1.cell? ⟨b, 1, none⟩ = some (.slice ax L.length cx)) := hide (fun u t => ⟨t.cell f0 (fun h => h), t.cell f1 (fun h => h)⟩)
                clear G11 G12 b11 b12 T11 A11 A12 tr eF eT ha hc
                go_wp2_with fail
                go_region_held3 (fun u1 => u1.cell? ⟨b, 0, none⟩ = some (.int .i64 (u : Int)) ∧ u1.cell? ⟨b, 1, none⟩ = some (.slice ax L.length cx)) (first | exact ⟨f0d, f1d⟩ | exact unhide Hcb2 _ tc | go_keep)
                  (first
                  | (go_at_call 32; refine (HNt _ tc).mono ?_; rintro e v4 ⟨y4, rfl, O4, t4⟩; have tc := tc.then t4; try (have O5 := O5.turn t4 (fun _ _ h => h)))
                  | (go_at_call 33; refine (HSo _ tc).mono ?_; rintro e v5 ⟨y5, rfl, O5, t5, own5⟩; have tc := tc.then t5; obtain ⟨ya5, yc5, rfl⟩ := O5.form; try (have O4 := O4.turn t5 (fun _ _ h => h)))
                  | (go_at_call 13; refine (Hns _ _ _ (O4.ar.mono (fun _ _ => trivial)) (O5.ar.mono (fun _ _ => trivial))).mono ?_; rintro e v6 ⟨rfl, t6⟩; have tc := tc.then t6))
                all_goals
                  have TF := T12.then tc
                  clear HNt HSo Hns O4 O5 f0 f1 f0d f1d tc T12
                  go_wp2
                  go_ret
                  exact ⟨rfl, TF⟩
  · rw [decide_eq_false hmay] at Hm
    clear hmay
    go_wp2_with fail
    refine Hm.mono ?_
    rintro e w4 ⟨rfl, t4⟩
    go_wp2_with fail
    refine (awake_walk _).mono ?_
    rintro e w5 ⟨rfl, t5⟩
    go_wp2
    go_ret
    exact ⟨rfl, (T3.then t4).then t5⟩
theorem RoadTurned_law (w : World) (n : Int) (hn : (Lit.int .i64 n).wf = true) (sv : Value) (l : List Ar) (hr : AR any w sv l) (v : Int) (hv : (Lit.int .i64 v).wf = true) :
    Calls Try.prog 8 #[.agg #[.int .i64 n, sv], .int .i64 v] w fun e w' => e = .returned (.bool true) ∧ Below w.heap.size w w' :=
  (turned_walk w n sv l hr v).mono (fun e w' h => ⟨h.1, h.2.blw⟩)
end Go.Proofs.Ytmmlannnpndkcaa
