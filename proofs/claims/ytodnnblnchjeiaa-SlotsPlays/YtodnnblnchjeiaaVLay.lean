/- Is there room; a frame laid. -/
import Derived.Test.YtodnnblnchjeiaaVOpen
import Derived.Test.YtodnnblnchjeiaaDFork2
import Derived.Deep.RegionWith
import Derived.Deep.RegionHeld3
namespace Go.Proofs.Ytodnnblnchjeiaa
open Go.RowKit Go.Maps
set_option linter.unusedVariables false
set_option linter.unusedSimpArgs false

set_option maxRecDepth 100000 in
set_option maxHeartbeats 2000000 in
theorem fitsV_w (w : World) (H Bk : Nat → Prop) (X D : Nat) (x : Sl) (S : Dk) (n : Nat) (v : Value) (p : List Int) (h : VAt w H X D x S) (hr : Row .u8 Bk w v p) :
    Calls Try.prog 29 #[.pointer (some ⟨X, 0, none⟩), .string (nameVS n), v] w fun e w' => e = .returned (.bool (fitsV S n p)) ∧ Turn (fun _ => False) w w' := by
  have c0 := h.ptr.1
  obtain ⟨F, d, hF⟩ := h.disk
  have hr := hr.lt
  obtain ⟨va, vc, rfl⟩ := hr.slice
  have hfk := Fork_walk w D F S d
  clear h d
  go_enter Try.func29, Try.ntmps29
  go_wp2_with fail
  refine hfk.mono ?_
  rintro y w1 ⟨B2, rfl, t1, d1⟩
  have ha := Arm_walk w1 B2 _ S 0 (by decide) d1
  clear hfk
  go_wp2_with fail
  refine ha.mono ?_
  rintro y w2 ⟨rfl, t2, d2⟩
  have hrm := Remove_walk w2 B2 _ _ (nameVS n) (nameVS_len n) d2
  rw [nameVS_list] at hrm
  clear ha
  go_wp2_with fail
  refine hrm.mono ?_
  rintro y w3 ⟨rfl, t3, d3⟩
  have s1 := t1.size
  have s2 := t2.size
  have T2 : Turn (fun j => w.heap.size ≤ j) w w2 := (t1.mono (fun _ h => h.elim)).then t2
  have T3 := T2.then t3
  have r3 := hr.turn T3 (fun b hb h => by have := hb.2; omega)
  have hap := Append_walk w3 B2 _ _ _ (nameVS n) _ p (nameVS_len n) d3 r3
  rw [nameVS_list] at hap
  have eb : (appendC (removeS (armS S 0) (nmV n)) (nmV n) p == 0) = fitsV S n p := by unfold fitsV; rw [Bool.eq_iff_iff]; simp
  have Heb := hide eb
  clear hrm eb d3 d2 d1 hr r3
  generalize appendC (removeS (armS S 0) (nmV n)) (nmV n) p = ac at *
  generalize removeC (armS S 0) (nmV n) = rc at *
  generalize p.length = pl at *
  go_wp2_with fail
  refine hap.mono ?_
  rintro y w4 ⟨rfl, t4, d4⟩
  go_wp2
  go_ret
  rw [unhide Heb]
  exact ⟨rfl, (T3.trans t4 (fun j hj => by
    rcases hj with hj | hj
    · exact .inl hj
    · exact .inl (by omega))).fresh (Nat.le_refl _)⟩

theorem there_ne {c : Int} (h : thereV c ≠ 0) : thereV c = c := by
  unfold thereV at *
  split
  · rename_i h6; rw [if_pos h6] at h; exact absurd rfl h
  · rfl
/-- names for what a lay goes through -/
theorem layV_1 {S : Dk} {n : Nat} {p : List Int} (h : thereV (syncC S (nmV n)) ≠ 0) : layV S n p = (syncC S (nmV n), syncS S (nmV n)) := by unfold layV; rw [if_pos h]
theorem layV_2 {S : Dk} {n : Nat} {p : List Int} (h : ¬ thereV (syncC S (nmV n)) ≠ 0) (h2 : thereV (removeC (syncS S (nmV n)) (nmV (n + 1))) ≠ 0) : layV S n p = (removeC (syncS S (nmV n)) (nmV (n + 1)), removeS (syncS S (nmV n)) (nmV (n + 1))) := by unfold layV; rw [if_neg h, if_pos h2]
theorem layV_3 {S : Dk} {n : Nat} {p : List Int} (h : ¬ thereV (syncC S (nmV n)) ≠ 0) (h2 : ¬ thereV (removeC (syncS S (nmV n)) (nmV (n + 1))) ≠ 0) : layV S n p = 
  if appendC (removeS (syncS S (nmV n)) (nmV (n + 1))) (nmV (n + 1)) p ≠ 0 then (appendC (removeS (syncS S (nmV n)) (nmV (n + 1))) (nmV (n + 1)) p, appendS (removeS (syncS S (nmV n)) (nmV (n + 1))) (nmV (n + 1)) p) else
  (syncC (appendS (removeS (syncS S (nmV n)) (nmV (n + 1))) (nmV (n + 1)) p) (nmV (n + 1)), syncS (appendS (removeS (syncS S (nmV n)) (nmV (n + 1))) (nmV (n + 1)) p) (nmV (n + 1))) := by unfold layV; rw [if_neg h, if_neg h2]

set_option maxRecDepth 100000 in
set_option maxHeartbeats 4000000 in
theorem layV_w (w : World) (H Bk : Nat → Prop) (X D : Nat) (x : Sl) (S : Dk) (v : Value) (p : List Int) (h : VAt w H X D x S) (hr : Row .u8 Bk w v p) (hB : ∀ j, Bk j → j < w.heap.size → ¬ H j) :
    Calls Try.prog 30 #[.pointer (some ⟨X, 0, none⟩), .string (nameVS (x.n + 1)), v] w fun e w' => e = .returned (.int .i64 (layV S x.n p).1) ∧ Turn H w w' ∧ VAt w' (NF w H) X D x (layV S x.n p).2 := by
  have hr := hr.lt
  obtain ⟨va, vc, rfl⟩ := hr.slice
  have hD : VAt w.drew H X D x S := h.same ((Turn.refl _ w).drew)
  have aX := hD.ptr
  obtain ⟨a0, a1, _⟩ := aX
  have hnm := nameV_w x.n w.drew
  have tD : Turn (fun _ => False) w w.drew := (Turn.refl _ w).drew
  generalize hpl : p.length = pl
  rw [hpl] at hr
  have Hpl := hide hpl
  clear hpl h
  go_enter Try.func30, Try.ntmps30
  go_wp2_with fail
  go_region_held3 (fun u => u.cell? ⟨X, 0, none⟩ = some (.pointer (some ⟨D, 0, none⟩)) ∧ u.cell? ⟨X, 1, none⟩ = some (.int .u64 (x.n : Int))) (first | exact ⟨a0, a1⟩ | exact ⟨b0, b1⟩ | exact ⟨g0, g1⟩ | go_keep)
    (first
    | (go_at_call 28; refine hnm.mono ?_; rintro y w1 ⟨rfl, t1⟩; have b0 := t1.cell a0 id; have b1 := t1.cell a1 id; have d1 := hD.same t1)
    | (go_at_call 43; refine (d1.call (fun F dd => Sync_walk w1 D F S (nameVS x.n) (nameVS_len x.n) dd)).mono ?_; rintro y w2 ⟨rfl, t2, d2⟩; have g0 := d2.ptr.1; have g1 := d2.ptr.2.1)
    | (go_at_call 42; refine (thereV_w _ _).mono ?_; rintro y w3 ⟨rfl, hw3⟩; have hw3 := hw3.symm; subst hw3))
  rw [nameVS_list] at *
  have s1 : w.heap.size ≤ w1.heap.size := t1.size
  have T1 : Turn H w w1 := (tD.then t1).mono (fun _ h => h.elim)
  have T2 : Turn H w w2 := T1.then t2
  have D2 : VAt w2 (NF w H) X D x (syncS S (nmV x.n)) := d2.mono (fun j hj _ => by rcases hj with hj | hj; exact .inl hj; exact .inr (by omega))
  have s2 := T2.size
  have HT := hide T2
  clear t1 t2 d1 d2 hD a0 a1 b0 b1 g1 hnm tD T1
  by_cases hc1 : thereV (syncC S (nmV x.n)) ≠ 0
  · have ej := hide (layV_1 (p := p) hc1)
    have hne := there_ne hc1
    rw [hne] at hc1 ⊢
    have e1 : (syncC S (nmV x.n) == 0) = false := by rw [beq_eq_false_iff_ne]; exact hc1
    have HD := hide D2
    clear hne hc1 D2 T2
    generalize syncC S (nmV x.n) = c at *
    go_wp2
    go_ret
    rw [unhide ej]
    exact ⟨rfl, unhide HT, unhide HD⟩
  rw [show thereV (syncC S (nmV x.n)) = 0 by omega]
  have q0 := D2.ptr.1
  have hrm := D2.call (fun F dd => Remove_walk w2 D F _ (nameVS (x.n + 1)) (nameVS_len _) dd)
  rw [nameVS_list] at hrm
  clear g0 T2
  go_wp2_with fail
  refine hrm.mono ?_
  rintro y w3 ⟨rfl, t3, d3⟩
  have T3 : Turn H w w3 := (unhide HT).trans t3 (fun j hj => hj)
  have D3 : VAt w3 (NF w H) X D x (removeS (syncS S (nmV x.n)) (nmV (x.n + 1))) := d3.nf s2
  have s3 := T3.size
  have HT3 := hide T3
  have hth := thereV_w (removeC (syncS S (nmV x.n)) (nmV (x.n + 1))) w3
  clear hrm d3 t3 HT q0 D2
  by_cases hc2 : thereV (removeC (syncS S (nmV x.n)) (nmV (x.n + 1))) ≠ 0
  · have ej := hide (layV_2 (p := p) hc1 hc2)
    have hne := there_ne hc2
    rw [hne] at hc2 hth
    have e1 : (removeC (syncS S (nmV x.n)) (nmV (x.n + 1)) == 0) = false := by rw [beq_eq_false_iff_ne]; exact hc2
    have HD := hide D3
    clear hne hc2 hc1 D3 T3
    generalize removeC (syncS S (nmV x.n)) (nmV (x.n + 1)) = c at *
    go_wp2_with (first | (go_at_call 42; refine hth.mono ?_; rintro y w0 ⟨rfl, hw0⟩; have hw0 := hw0.symm; subst hw0))
    go_ret
    rw [unhide ej]
    exact ⟨rfl, unhide HT3, unhide HD⟩
  have ej := hide (layV_3 (p := p) hc1 hc2)
  rw [show thereV (removeC (syncS S (nmV x.n)) (nmV (x.n + 1))) = 0 by omega] at hth
  have q0 := D3.ptr.1
  have r3 : Row .u8 (fun b => Bk b ∧ b < w.heap.size) w3 (.slice va pl vc) p := hr.turn T3 (fun b hb => hB b hb.1 hb.2)
  have hap := D3.call (fun F dd => Append_walk w3 D F _ _ (nameVS (x.n + 1)) _ p (nameVS_len _) dd r3)
  rw [nameVS_list] at hap
  clear hc1 hc2 r3 T3
  generalize removeC (syncS S (nmV x.n)) (nmV (x.n + 1)) = c2 at *
  go_wp2_with (first | (go_at_call 42; refine hth.mono ?_; rintro y w0 ⟨rfl, hw0⟩; have hw0 := hw0.symm; subst hw0))
  refine hap.mono ?_
  rintro y w4 ⟨rfl, t4, d4⟩
  have T4 : Turn H w w4 := (unhide HT3).trans t4 (fun j hj => hj)
  have D4 : VAt w4 (NF w H) X D x (appendS (removeS (syncS S (nmV x.n)) (nmV (x.n + 1))) (nmV (x.n + 1)) p) := d4.nf s3
  have s4 := T4.size
  have HT4 := hide T4
  clear hap hth d4 t4 HT3 q0 D3
  by_cases hc3 : appendC (removeS (syncS S (nmV x.n)) (nmV (x.n + 1))) (nmV (x.n + 1)) p ≠ 0
  · have ej2 := hide ((unhide ej).trans (if_pos hc3))
    have e1 : (appendC (removeS (syncS S (nmV x.n)) (nmV (x.n + 1))) (nmV (x.n + 1)) p == 0) = false := by rw [beq_eq_false_iff_ne]; exact hc3
    have HD := hide D4
    clear hc3 D4 T4 ej
    generalize appendC (removeS (syncS S (nmV x.n)) (nmV (x.n + 1))) (nmV (x.n + 1)) p = c at *
    go_wp2
    go_ret
    rw [unhide ej2]
    exact ⟨rfl, unhide HT4, unhide HD⟩
  have ej2 := hide ((unhide ej).trans (if_neg hc3))
  rw [show appendC (removeS (syncS S (nmV x.n)) (nmV (x.n + 1))) (nmV (x.n + 1)) p = 0 by omega]
  have q0 := D4.ptr.1
  have hsy := D4.call (fun F dd => Sync_walk w4 D F _ (nameVS (x.n + 1)) (nameVS_len _) dd)
  rw [nameVS_list] at hsy
  clear ej hc3 T4
  go_wp2_with fail
  refine hsy.mono ?_
  rintro y w5 ⟨rfl, t5, d5⟩
  have fin := hide (And.intro ((unhide HT4).trans t5 (fun j hj => hj) : Turn H w w5) (d5.nf s4))
  clear hsy t5 d5
  go_wp2
  go_ret
  rw [unhide ej2]
  exact ⟨rfl, (unhide fin).1, (unhide fin).2⟩
end Go.Proofs.Ytodnnblnchjeiaa
