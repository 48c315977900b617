/- The reference's reader: where it stands, what is answered. -/
import Derived.Test.YtmkaamlacfdhlaaCText
namespace Go.Proofs.Ytmkaamlacfdhlaa
open Go.RowKit
set_option linter.unusedVariables false

/-- the reference's reader in block q, over these bytes, in a row in a block of B; r is behind its place -/
def RR (B : Nat → Prop) (w : World) (q : Nat) (zs r : List Int) (e : Int) : Prop :=
  ∃ x at_, w.heap[q]? = some (.cells #[x, .int .i64 ((at_ : Nat) : Int), .int .i64 e] 38 (0, 0)) ∧ Row .u8 B w x zs ∧ ¬ B q ∧ at_ ≤ zs.length ∧ r = zs.drop at_

theorem RR.turn {B F : Nat → Prop} {w w' : World} {q : Nat} {zs r : List Int} {e : Int} (h : RR B w q zs r e) (ht : Turn F w w') (hp : ¬ F q) (hB : ∀ b, B b → ¬ F b) : RR B w' q zs r e := by
  obtain ⟨x, a, h1, h2, h3⟩ := h
  exact ⟨x, a, (ht.block q (Array.getElem?_eq_some_iff.1 h1).1 hp).trans h1, h2.turn ht hB, h3⟩

theorem drewN_below (w : World) (n : Nat) : Below w.heap.size w (w.drewN n) := by
  induction n with
  | zero => exact Below.refl _ _
  | succ n ih => exact ih.drew

theorem numT_e {r : List Int} {e : Int} (h : e ≠ 0) : smallT wide r e = (0, r, e) := smallT_e h
theorem ge_wide {v : Nat} (h : v < 18446744073709551616) : v ≤ wide := by unfold wide; omega

set_option maxHeartbeats 1000000 in
theorem refrnum_walk (B : Nat → Prop) (q : Nat) (zs r : List Int) (e : Int) (w : World) (hr : RR B w q zs r e) (hb : Bytes zs) :
    Calls Try.prog 28 #[.pointer (some ⟨q, 0, none⟩)] w fun en w' => en = .returned (.int .u64 ((smallT wide r e).1 : Nat)) ∧ RR B w' q zs (smallT wide r e).2.1 (smallT wide r e).2.2 ∧ Turn (only q) w w' := by
  obtain ⟨i0, hi, hz0, hz1, hz2⟩ := info_parts info_u8
  obtain ⟨x, a, hx, hrow, hq, ha, rfl⟩ := hr
  have hlen := hrow.len
  unfold maxLen at hlen
  have hc0 : w.cell? ⟨q, 0, none⟩ = some x := cell_obj hx
  have hc1 : w.cell? ⟨q, 1, none⟩ = some (.int .i64 (a : Int)) := cell_obj hx
  have hc2 : w.cell? ⟨q, 2, none⟩ = some (.int .i64 e) := cell_obj hx
  have hf1 := frozen_obj hx 1
  have hf2 := frozen_obj hx 2
  by_cases he : e = 0
  · subst he
    obtain ⟨x', hrun, hrow'⟩ := cut_from (P := Try.prog) (ki := .i64) Try.underlying23 hi hz1 hrow a ha
    have htk : ∀ n : Nat, Calls Try.prog 38 #[x'] (w.drewN n) fun e w' => e = .returned (.tuple #[.int .u64 ((dec 0 0 (zs.drop a)).1 : Nat), .int .i64 ((dec 0 0 (zs.drop a)).2.1 : Nat), .int .i64 (dec 0 0 (zs.drop a)).2.2]) ∧ w' = w.drewN n :=
      fun n => take_any B x' (zs.drop a) _ (hb.drop a) (hrow'.below (drewN_below w n))
    obtain ⟨xa, xc, rfl⟩ := hrow.slice
    have hout : ∃ v n f, dec 0 0 (zs.drop a) = (v, n, f) ∧ smallT wide (zs.drop a) 0 = (v, zs.drop (a + n), f) ∧ a + n ≤ zs.length ∧ v < 18446744073709551616 := by
      generalize hd : dec 0 0 (zs.drop a) = D
      obtain ⟨v, n, f⟩ := D
      by_cases hf : f = 0
      · subst hf
        obtain ⟨h1, h2, h3, h4, h5⟩ := dec_ok (hb.drop a) hd
        rw [List.length_drop] at h3
        exact ⟨v, n, 0, rfl, by rw [smallT_k hd (ge_wide h2), List.drop_drop], by omega, h2⟩
      · have hd2 := dec_fault0 (zs := zs.drop a) (by rw [hd]; exact hf)
        rw [hd] at hd2
        simp only [Prod.mk.injEq, and_true] at hd2
        obtain ⟨rfl, rfl⟩ := hd2
        exact ⟨0, 0, f, rfl, by rw [smallT_f hd hf]; rfl, by omega, by omega⟩
    obtain ⟨v, n, f, hd, hs, han, hv⟩ := hout
    rw [hd] at htk
    rw [hs]
    have Hd := hide hd
    clear hd hs
    go_enter Try.func28, Try.ntmps28
    go_wp2_with fail
    go_quiet ((go_at_call 38; exact Calls.quiet_of_same (htk _)))
    have hb1 := drewN_below w nq
    have t1 : Turn (only q) w (w.drewN nq) := Turn.of_below hb1
    generalize w.drewN nq = w1 at *
    have hx1 : w1.heap[q]? = some (.cells #[.slice xa zs.length xc, .int .i64 (a : Int), .int .i64 0] 38 (0, 0)) := (hb1.block q (Array.getElem?_eq_some_iff.1 hx).1).trans hx
    have hrow1 := hrow.below hb1
    clear hx hrow hc0 hc1 hc2 hf1 hf2 htk hrun hrow'
    have hd2 : w1.cell? ⟨q, 2, none⟩ = some (.int .i64 0) := cell_obj hx1
    have hf2 := frozen_obj hx1 2
    have hx2 := heap_setCell_obj (j := 2) hx1 (.int .i64 f)
    have hrow2 := hrow1.turn (turn_set w1 q 2 (.int .i64 f)) (fun b hb e => hq (by cases e; exact hb))
    have t2 := t1.then (turn_set w1 q 2 (.int .i64 f))
    have he1 : (w1.setCell ⟨q, 2, none⟩ (.int .i64 f)).cell? ⟨q, 1, none⟩ = some (.int .i64 (a : Int)) := cell_obj hx2
    have hg1 := frozen_obj hx2 1
    have hx3 := heap_setCell_obj (j := 1) hx2 (.int .i64 ((a : Int) + n))
    have hrow3 := hrow2.turn (turn_set _ q 1 (.int .i64 ((a : Int) + n))) (fun b hb e => hq (by cases e; exact hb))
    have t3 := t2.then (turn_set _ q 1 (.int .i64 ((a : Int) + n)))
    clear hx1 hx2 hrow1 hrow2 t1 t2
    go_wp2
    go_ret
    exact ⟨rfl, ⟨_, a + n, by rw [hx3]; rfl, hrow3, hq, han, rfl⟩, t3⟩
  · rw [smallT_e he]
    go_enter Try.func28, Try.ntmps28
    go_wp2
    go_ret
    exact ⟨rfl, ⟨x, a, hx, hrow, hq, ha, rfl⟩, Turn.refl _ _⟩
set_option maxHeartbeats 1000000 in
theorem refrint_walk (B : Nat → Prop) (q : Nat) (zs r : List Int) (e : Int) (w : World) (hr : RR B w q zs r e) (hb : Bytes zs) :
    Calls Try.prog 22 #[.pointer (some ⟨q, 0, none⟩)] w fun en w' => en = .returned (.int .i64 (unzig (smallT wide r e).1)) ∧ RR B w' q zs (smallT wide r e).2.1 (smallT wide r e).2.2 ∧ Turn (only q) w w' := by
  have hle := Nat.lt_of_le_of_lt (smallT_le wide r e) (show wide < 18446744073709551616 by decide)
  have hnum := refrnum_walk B q zs r e w hr hb
  generalize smallT wide r e = S at *
  obtain ⟨v, r', f⟩ := S
  simp only at hle hnum ⊢
  by_cases h2 : v % 2 = 1
  · have hi2 : (v : Int) % 2 = 1 := by omega
    have hu : Hid (unzig v = -((v : Int) / 2) - 1) := hide (by unfold unzig; rw [if_pos h2]; omega)
    generalize unzig v = U at *
    go_enter Try.func22, Try.ntmps22
    go_wp2_with fail
    refine hnum.mono ?_
    rintro en w' ⟨rfl, h1, h2⟩
    go_wp2
    go_ret
    exact ⟨ret_int (unhide hu).symm, h1, h2⟩
  · have hi2 : (v : Int) % 2 = 0 := by omega
    have hu : Hid (unzig v = (v : Int) / 2) := hide (by unfold unzig; rw [if_neg h2]; omega)
    generalize unzig v = U at *
    go_enter Try.func22, Try.ntmps22
    go_wp2_with fail
    refine hnum.mono ?_
    rintro en w' ⟨rfl, h1, h2⟩
    go_wp2
    go_ret
    exact ⟨ret_int (unhide hu).symm, h1, h2⟩

theorem wide_small {M : Nat} {r : List Int} {e : Int} {v : Nat} {r' : List Int} {f : Int} (hM : M ≤ wide) (hs : smallT wide r e = (v, r', f)) : (f ≠ 0 → smallT M r e = (0, r, f)) ∧ (f = 0 → M < v → smallT M r e = (0, r, 10)) ∧ (f = 0 → v ≤ M → smallT M r e = (v, r', 0)) := by
  by_cases he : e = 0
  · subst he
    generalize hd : dec 0 0 r = D at *
    obtain ⟨y, n, g⟩ := D
    by_cases hg : g = 0
    · subst hg
      by_cases hy : wide < y
      · rw [smallT_m hd hy] at hs
        simp only [Prod.mk.injEq] at hs
        obtain ⟨rfl, rfl, rfl⟩ := hs
        refine ⟨fun _ => ?_, fun h => by simp at h, fun h => by simp at h⟩
        exact smallT_m hd (by omega)
      · rw [smallT_k hd (by omega)] at hs
        simp only [Prod.mk.injEq] at hs
        obtain ⟨rfl, rfl, rfl⟩ := hs
        exact ⟨fun h => absurd rfl h, fun _ h => smallT_m hd h, fun _ h => smallT_k hd h⟩
    · have hd2 := dec_fault0 (zs := r) (by rw [hd]; exact hg)
      rw [hd] at hd2
      simp only [Prod.mk.injEq, and_true] at hd2
      obtain ⟨rfl, rfl⟩ := hd2
      rw [smallT_f hd hg] at hs
      simp only [Prod.mk.injEq] at hs
      obtain ⟨rfl, rfl, rfl⟩ := hs
      exact ⟨fun h => smallT_f hd h, fun h => absurd h hg, fun h => absurd h hg⟩
  · rw [smallT_e he] at hs
    simp only [Prod.mk.injEq] at hs
    obtain ⟨rfl, rfl, rfl⟩ := hs
    exact ⟨fun h => smallT_e h, fun h => absurd h he, fun h => absurd h he⟩

set_option maxHeartbeats 1000000 in
theorem refrsm_walk (B : Nat → Prop) (q : Nat) (zs r : List Int) (e m : Int) (w : World) (hr : RR B w q zs r e) (hb : Bytes zs) (h0 : -9223372036854775808 ≤ m) (h1 : m ≤ 9223372036854775807) :
    Calls Try.prog 37 #[.pointer (some ⟨q, 0, none⟩), .int .i64 m] w fun en w' => (∃ a : Nat, en = .returned (.tuple #[.int .i64 ((smallT m.toNat r e).1 : Nat), .int .i64 (a : Int)]) ∧ r = zs.drop a ∧ a ≤ zs.length) ∧ RR B w' q zs (smallT m.toNat r e).2.1 (smallT m.toNat r e).2.2 ∧ Turn (only q) w w' := by
  have hnum := refrnum_walk B q zs r e w hr hb
  have hmw : m.toNat ≤ wide := by unfold wide; omega
  have hmt : (m.toNat : Int) = max m 0 := by omega
  have hmi : m.toNat ≤ 9223372036854775807 := by omega
  have hwide := wide_small (M := m.toNat) (r := r) (e := e) hmw (v := (smallT wide r e).1) (r' := (smallT wide r e).2.1) (f := (smallT wide r e).2.2) rfl
  obtain ⟨x, a, hx, hrow, hq, ha, hra⟩ := hr
  have hlen := hrow.len
  unfold maxLen at hlen
  have hc1 : w.cell? ⟨q, 1, none⟩ = some (.int .i64 (a : Int)) := cell_obj hx
  generalize hS : smallT wide r e = S at *
  obtain ⟨v, r', f⟩ := S
  simp only at hwide hnum
  have Hra := hide hra
  clear hra
  by_cases hf : f = 0
  · subst hf
    by_cases hv : m.toNat < v
    · rw [hwide.2.1 rfl hv]
      have hgt : decide (max m 0 < (v : Int)) = true := by rw [decide_eq_true_iff]; omega
      have hgt2 : max m 0 < (v : Int) := by omega
      clear hwide hmt hmw hmi
      go_enter Try.func37, Try.ntmps37
      go_wp2_with fail
      refine hnum.mono ?_
      rintro en w1 ⟨rfl, ⟨x1, a1, hx1, hrow1, _, ha1, hgo⟩, ht1⟩
      clear hnum hgo
      have hd2 : w1.cell? ⟨q, 2, none⟩ = some (.int .i64 0) := cell_obj hx1
      have hf2 := frozen_obj hx1 2
      have hx2 := heap_setCell_obj (j := 2) hx1 (.int .i64 10)
      have hd3 : (w1.setCell ⟨q, 2, none⟩ (.int .i64 10)).cell? ⟨q, 1, none⟩ = some (.int .i64 (a1 : Int)) := cell_obj hx2
      have hf3 := frozen_obj hx2 1
      have hx3 := heap_setCell_obj (j := 1) hx2 (.int .i64 (a : Int))
      have hrow2 := hrow1.turn (turn_set w1 q 2 (.int .i64 10)) (fun b hb e => hq (by cases e; exact hb))
      have hrow3 := hrow2.turn (turn_set _ q 1 (.int .i64 (a : Int))) (fun b hb e => hq (by cases e; exact hb))
      have t3 := (ht1.then (turn_set w1 q 2 (.int .i64 10))).then (turn_set _ q 1 (.int .i64 (a : Int)))
      clear hx1 hx2 hrow1 hrow2 ht1 hrow hx
      go_wp2
      all_goals
        go_ret2
        exact ⟨⟨a, rfl, unhide Hra, ha⟩, ⟨x1, a, by rw [hx3]; rfl, hrow3, hq, ha, unhide Hra⟩, t3⟩
    · rw [hwide.2.2 rfl (by omega)]
      have hle2 : (v : Int) ≤ max m 0 := by omega
      have hgt : decide (max m 0 < (v : Int)) = false := by rw [decide_eq_false_iff_not]; omega
      have hvi : v ≤ 9223372036854775807 := by omega
      clear hwide hmt hmw hmi
      go_enter Try.func37, Try.ntmps37
      go_wp2_with fail
      refine hnum.mono ?_
      rintro en w1 ⟨rfl, hr1, ht1⟩
      clear hnum
      have hr2 := hr1
      obtain ⟨x1, a1, hx1, hgo⟩ := hr2
      clear hgo
      have hd2 : w1.cell? ⟨q, 2, none⟩ = some (.int .i64 0) := cell_obj hx1
      clear hx1 hrow hx
      go_wp2
      all_goals
        go_ret2
        exact ⟨⟨a, rfl, unhide Hra, ha⟩, hr1, ht1⟩
  · obtain ⟨hv0, hr0⟩ := smallT_stay hS hf
    subst hv0 hr0
    rw [hwide.1 hf]
    clear hwide hmt hmw hmi
    go_enter Try.func37, Try.ntmps37
    go_wp2_with fail
    refine hnum.mono ?_
    rintro en w1 ⟨rfl, hr1, ht1⟩
    clear hnum
    have hr2 := hr1
    obtain ⟨x1, a1, hx1, hgo⟩ := hr2
    clear hgo
    have hd2 : w1.cell? ⟨q, 2, none⟩ = some (.int .i64 f) := cell_obj hx1
    clear hx1 hrow hx
    go_wp2
    go_ret2
    exact ⟨⟨a, rfl, unhide Hra, ha⟩, hr1, ht1⟩

set_option maxHeartbeats 1000000 in
theorem refrsmall_walk (B : Nat → Prop) (q : Nat) (zs r : List Int) (e m : Int) (w : World) (hr : RR B w q zs r e) (hb : Bytes zs) (h0 : -9223372036854775808 ≤ m) (h1 : m ≤ 9223372036854775807) :
    Calls Try.prog 24 #[.pointer (some ⟨q, 0, none⟩), .int .i64 m] w fun en w' => en = .returned (.int .i64 ((smallT m.toNat r e).1 : Nat)) ∧ RR B w' q zs (smallT m.toNat r e).2.1 (smallT m.toNat r e).2.2 ∧ Turn (only q) w w' := by
  go_enter Try.func24, Try.ntmps24
  go_wp2_with fail
  refine (refrsm_walk B q zs r e m _ hr hb h0 h1).mono ?_
  rintro en w1 ⟨⟨a, rfl, hgo⟩, hr1, ht1⟩
  clear hgo
  go_wp2
  go_ret
  exact ⟨rfl, hr1, ht1⟩

set_option maxHeartbeats 1000000 in
theorem refrend_walk (B : Nat → Prop) (q : Nat) (zs r : List Int) (e : Int) (w : World) (hr : RR B w q zs r e) :
    Calls Try.prog 32 #[.pointer (some ⟨q, 0, none⟩)] w fun en w' => en = .returned (.int .i64 (endT r e)) ∧ ∃ n, w' = w.drewN n := by
  obtain ⟨x, a, hx, hrow, hq, ha, hra⟩ := hr
  have hlen := hrow.len
  unfold maxLen at hlen
  have hc0 : w.cell? ⟨q, 0, none⟩ = some x := cell_obj hx
  have hc1 : w.cell? ⟨q, 1, none⟩ = some (.int .i64 (a : Int)) := cell_obj hx
  have hc2 : w.cell? ⟨q, 2, none⟩ = some (.int .i64 e) := cell_obj hx
  obtain ⟨xa, xc, rfl⟩ := hrow.slice
  have hrl : r.length = zs.length - a := by rw [hra, List.length_drop]
  clear hra hrow hx
  by_cases he : e = 0
  · subst he
    by_cases hlt : a < zs.length
    · have hE : Hid (endT r 0 = 10) := hide (by unfold endT; rw [if_neg (by simp), if_pos (by omega)])
      have hlti : (a : Int) < (zs.length : Int) := by omega
      have hdi : decide ((a : Int) < (zs.length : Int)) = true := by simp; omega
      go_enter Try.func32, Try.ntmps32
      go_wp2
      go_quiet (fail)
      go_wp2
      go_ret
      exact ⟨ret_int (unhide hE).symm, nq, rfl⟩
    · have hE : Hid (endT r 0 = 0) := hide (by unfold endT; rw [if_neg (by simp), if_neg (by omega)])
      have hdi : decide ((a : Int) < (zs.length : Int)) = false := by simp; omega
      go_enter Try.func32, Try.ntmps32
      go_wp2
      go_quiet (fail)
      go_wp2
      go_ret
      exact ⟨ret_int (unhide hE).symm, nq, rfl⟩
  · have hE : Hid (endT r e = e) := hide (by unfold endT; rw [if_pos he])
    have hde : decide (e = 0) = false := by simp [he]
    go_enter Try.func32, Try.ntmps32
    go_wp2
    go_quiet (fail)
    go_wp2
    go_ret
    exact ⟨ret_int (unhide hE).symm, nq, rfl⟩

end Go.Proofs.Ytmkaamlacfdhlaa
