/- The reference's reader: its texts. -/
import Derived.Test.YtmkaamlacfdhlaaCRef
import Derived.Deep.RegionLaw
namespace Go.Proofs.Ytmkaamlacfdhlaa
open Go.RowKit
set_option linter.unusedVariables false

/-- append, of which the run is known, as one step of a region that draws -/
theorem step_append_run {P : Program} {ops : Array Oper} {o : Oper} {a : Act} {w : World} {K : Act → World → Prop} {Q : Exit → Act → World → Prop} {E : Prop}
    (hg : o.guard = none) (s x : Operand) (t : TypeId) (hop : o.op = Op.call { callee := Callee.builtin Builtin.append, args := #[s, x], argTypes := #[t, t] }) (v xv v' : Value) (w' : World) (hs : a.eval s = v) (hx : a.eval x = xv)
    (hrun : (Builtin.append_ #[t, t] o.type #[v, xv]).run P w = .ok v' w') (hK : K (a.put o.dst v') w') :
    if Region.wanted o (yielded ops a.tmps) = true then Oper.wp P o a w K Q else E := by
  have hw : Region.wanted o (yielded ops a.tmps) = true := by simp [Region.wanted, hg]
  rw [if_pos hw]
  unfold Oper.wp
  simp [execOp, hop, resolve, invoke, builtin, hs, hx, hrun, Result.andThen]
  exact hK

set_option maxHeartbeats 2000000 in
theorem refrtext_walk (B : Nat → Prop) (q : Nat) (zs r : List Int) (e m : Int) (w : World) (hr : RR B w q zs r e) (hb : Bytes zs) (h0 : -9223372036854775808 ≤ m) (h1 : m ≤ 9223372036854775807) (hl : zs.length ≤ 140737488351232) :
    Calls Try.prog 26 #[.pointer (some ⟨q, 0, none⟩), .int .i64 m] w fun en w' => ∃ x, en = .returned x ∧ Row .u8 (from_ w.heap.size) w' x (textT m.toNat r e).1 ∧ RR B w' q zs (textT m.toNat r e).2.1 (textT m.toNat r e).2.2 ∧ Turn (only q) w w' := by
  obtain ⟨i0, hi, hz0, hz1, hz2⟩ := info_parts info_u8
  have hq : ¬ B q := by obtain ⟨x, a, _, _, h, _⟩ := hr; exact h
  have hsm := refrsm_walk B q zs r e m w hr hb h0 h1
  have hle := smallT_le m.toNat r e
  have hmt : m.toNat ≤ 9223372036854775807 := by omega
  clear hr
  generalize m.toNat = M at *
  generalize hS : smallT M r e = S at *
  obtain ⟨v, r', f⟩ := S
  simp only at hsm hle
  by_cases hf : f = 0
  · subst hf
    by_cases hv : r'.length < v
    · rw [textT_s hS hv]
      clear hS
      go_enter Try.func26, Try.ntmps26
      go_wp2_with fail
      refine hsm.mono ?_
      rintro en w1 ⟨⟨a0, rfl, hra, ha0⟩, ⟨x1, a1, hx1, hrow1, _, ha1, hr1⟩, ht1⟩
      have Hra := hide hra
      have hrl : r'.length = zs.length - a1 := by rw [hr1, List.length_drop]
      clear hsm hra hr1
      have hd0 : w1.cell? ⟨q, 0, none⟩ = some x1 := cell_obj hx1
      have hd1 : w1.cell? ⟨q, 1, none⟩ = some (.int .i64 (a1 : Int)) := cell_obj hx1
      have hd2 : w1.cell? ⟨q, 2, none⟩ = some (.int .i64 0) := cell_obj hx1
      obtain ⟨xa, xc, rfl⟩ := hrow1.slice
      have hgt : (zs.length : Int) - (a1 : Int) < (v : Int) := by omega
      have hgd : decide ((zs.length : Int) - (a1 : Int) < (v : Int)) = true := by simp; omega
      go_wp2
      go_quiet (fail)
      have hb1 := drewN_below w1 nq
      have t1 := ht1.then (Turn.of_below hb1)
      generalize w1.drewN nq = w2 at *
      have hx2 : w2.heap[q]? = some (.cells #[.slice xa zs.length xc, .int .i64 (a1 : Int), .int .i64 0] 38 (0, 0)) := (hb1.block q (Array.getElem?_eq_some_iff.1 hx1).1).trans hx1
      have hrow2 := hrow1.below hb1
      have he2 : w2.cell? ⟨q, 2, none⟩ = some (.int .i64 0) := cell_obj hx2
      have hf2 := frozen_obj hx2 2
      have hx3 := heap_setCell_obj (j := 2) hx2 (.int .i64 9)
      have he1 : (w2.setCell ⟨q, 2, none⟩ (.int .i64 9)).cell? ⟨q, 1, none⟩ = some (.int .i64 (a1 : Int)) := cell_obj hx3
      have hf1 := frozen_obj hx3 1
      have hx4 := heap_setCell_obj (j := 1) hx3 (.int .i64 (a0 : Int))
      have hrow3 := hrow2.turn (turn_set w2 q 2 (.int .i64 9)) (fun b hb e => hq (by cases e; exact hb))
      have hrow4 := hrow3.turn (turn_set _ q 1 (.int .i64 (a0 : Int))) (fun b hb e => hq (by cases e; exact hb))
      have t4 := (t1.then (turn_set w2 q 2 (.int .i64 9))).then (turn_set _ q 1 (.int .i64 (a0 : Int)))
      clear hx1 hx2 hx3 hrow1 hrow2 hrow3 t1 ht1 hd0 hd1 hd2 hb1
      go_wp2
      go_ret
      exact ⟨_, rfl, row_none _ _ _, ⟨_, a0, by rw [hx4]; rfl, hrow4, hq, ha0, unhide Hra⟩, t4⟩
    · rw [textT_k hS (show v ≤ r'.length by omega)]
      clear hS
      go_enter Try.func26, Try.ntmps26
      go_wp2_with fail
      refine hsm.mono ?_
      rintro en w1 ⟨⟨a0, rfl, hra, ha0⟩, ⟨x1, a1, hx1, hrow1, _, ha1, hr1⟩, ht1⟩
      have Hr1 := hide hr1
      have hrl : r'.length = zs.length - a1 := by rw [hr1, List.length_drop]
      clear hsm hra hr1
      have hd0 : w1.cell? ⟨q, 0, none⟩ = some x1 := cell_obj hx1
      have hd1 : w1.cell? ⟨q, 1, none⟩ = some (.int .i64 (a1 : Int)) := cell_obj hx1
      have hd2 : w1.cell? ⟨q, 2, none⟩ = some (.int .i64 0) := cell_obj hx1
      obtain ⟨xa, xc, rfl⟩ := hrow1.slice
      have hgt : (v : Int) ≤ (zs.length : Int) - (a1 : Int) := by omega
      have hgd : decide ((zs.length : Int) - (a1 : Int) < (v : Int)) = false := by simp; omega
      go_wp2
      go_quiet (fail)
      have hb1 := drewN_below w1 nq
      have t1 := ht1.then (Turn.of_below hb1)
      have hsz1 := ht1.size
      have hsz2 := hb1.size
      generalize w1.drewN nq = w2 at *
      have hx2 : w2.heap[q]? = some (.cells #[.slice xa zs.length xc, .int .i64 (a1 : Int), .int .i64 0] 38 (0, 0)) := (hb1.block q (Array.getElem?_eq_some_iff.1 hx1).1).trans hx1
      have hrow2 := hrow1.below hb1
      clear hd0 hd1 hd2 hx1 hrow1 ht1 hb1
      have hd0 : w2.cell? ⟨q, 0, none⟩ = some (.slice xa zs.length xc) := cell_obj hx2
      have hd1 : w2.cell? ⟨q, 1, none⟩ = some (.int .i64 (a1 : Int)) := cell_obj hx2
      obtain ⟨y, hcut, hy⟩ := cut_mid (P := Try.prog) Try.underlying23 hi hz1 hrow2 a1 v (by omega)
      rw [show ((a1 + v : Nat) : Int) = (a1 : Int) + v by omega] at hcut
      have hyd : Row .u8 B w2.drew y ((zs.drop a1).take v) := hy.below (Below.refl _ _).drew
      have htl : ((zs.drop a1).take v).length ≤ 140737488351232 := by rw [List.length_take, List.length_drop]; omega
      obtain ⟨u, w3, hrun, hu, hb3⟩ := append_row (P := Try.prog) (w := w2.drew) (base := w2.heap.size) (ty := 23) (v := .slice none 0 0) (xs := []) Try.underlying23 hi hz0 hz1 hz2 rfl (World.ownsRow_nil _ _ _ _) hyd (by unfold maxLen; simp only [List.length_nil, Nat.zero_add]; omega) (by simp only [List.length_nil, Nat.zero_add, Nat.mul_one]; omega) (Nat.le_refl _)
      have hul : ((zs.drop a1).take v).length = v := by rw [List.length_take, List.length_drop]; omega
      obtain ⟨ya, yc, rfl⟩ := hy.slice
      rw [hul] at hrun hcut
      have hwr : IntKind.i64.wrap ((a1 : Int) + v) = (a1 : Int) + v := by rw [IntKind.wrap_i64]; omega
      have hb4 : Below w2.heap.size w2 w3 := ((Below.refl _ _).drew).trans hb3
      have hx3 : w3.heap[q]? = some (.cells #[.slice xa zs.length xc, .int .i64 (a1 : Int), .int .i64 0] 38 (0, 0)) := (hb4.block q (Array.getElem?_eq_some_iff.1 hx2).1).trans hx2
      have hrow3 := hrow2.below hb4
      have he1 : w3.cell? ⟨q, 1, none⟩ = some (.int .i64 (a1 : Int)) := cell_obj hx3
      have hf1 := frozen_obj hx3 1
      have hx4 := heap_setCell_obj (j := 1) hx3 (.int .i64 ((a1 : Int) + v))
      have hrow4 := hrow3.turn (turn_set w3 q 1 (.int .i64 ((a1 : Int) + v))) (fun b hb e => hq (by cases e; exact hb))
      have t4 := (t1.then (Turn.of_below hb4)).then (turn_set w3 q 1 (.int .i64 ((a1 : Int) + v)))
      have hqlt : q < w2.heap.size := (Array.getElem?_eq_some_iff.1 hx2).1
      have hu4 := ((row_of_owns hu).turn (turn_set w3 q 1 (.int .i64 ((a1 : Int) + v))) (fun b hb e => by cases e; exact absurd (show w2.heap.size ≤ q from hb) (by omega))).mono (B' := from_ w.heap.size) (fun b hb => Nat.le_trans (Nat.le_trans hsz1 hsz2) hb)
      have hav : a1 + v ≤ zs.length := by omega
      have Hfin : Hid (Row .u8 (from_ w.heap.size) (w3.setCell ⟨q, 1, none⟩ (.int .i64 ((a1 : Int) + v))) u (r'.take v) ∧ RR B (w3.setCell ⟨q, 1, none⟩ (.int .i64 ((a1 : Int) + v))) q zs (r'.drop v) 0) := by
        refine hide ⟨?_, ⟨_, a1 + v, by rw [hx4]; rfl, hrow4, hq, hav, ?_⟩⟩
        · rw [unhide Hr1]; exact hu4
        · rw [unhide Hr1, List.drop_drop]
      clear hx3 hrow3 hx4 hrow4 t1 hu4 hu hrow2 hx2 hb3 hb4 hyd hy Hr1
      go_wp2
      go_region_law (refine step_append_run rfl _ _ 23 rfl _ _ _ _ rfl rfl hrun ?_)
      all_goals
        go_wp2
        go_ret
        exact ⟨u, rfl, (unhide Hfin).1, (unhide Hfin).2, t4⟩
  · obtain ⟨hv0, hr0⟩ := smallT_stay hS hf
    subst hv0 hr0
    rw [textT_e hS hf]
    clear hS
    go_enter Try.func26, Try.ntmps26
    go_wp2_with fail
    refine hsm.mono ?_
    rintro en w1 ⟨⟨a0, rfl, hgo⟩, hr1, ht1⟩
    clear hsm hgo
    have hr2 := hr1
    obtain ⟨x1, a1, hx1, hgo⟩ := hr2
    have hd2 : w1.cell? ⟨q, 2, none⟩ = some (.int .i64 f) := cell_obj hx1
    clear hgo hx1
    go_wp2
    go_ret
    exact ⟨_, rfl, row_none _ _ _, hr1, ht1⟩
end Go.Proofs.Ytmkaamlacfdhlaa
