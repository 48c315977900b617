/- JournalPlays: Trim's step, where it is done. -/
import Derived.Test.YthikiahhochjmaaGreatDoorJStep
namespace Go.Proofs.YthikiahhochjmaaGreatDoor
open Go.RowKit Go.Maps
set_option linter.unusedVariables false
set_option linter.unusedSimpArgs false

set_option maxRecDepth 100000 in
set_option maxHeartbeats 4000000 in
theorem trim_ok (w : World) (T D J : Nat) (H M : Nat → Prop) (av : Value) (X : Jn) (S : Dk) (A : List (List Int)) (most first might safe : Nat) (more fell : Bool) (h : Tr w T D J H M av X S A most first might safe more false fell) (fit : Fit X) (N : Int) (bv kv : Value) (hA : A.length ≤ 1000) (m : Nat) (hm : IntKind.u64.wrap N = (m : Int)) (e : Int) (he : (trimJ X S m).1 = e) (hc : e = 0) (hgt : m ≤ A.length) (f : Nat) (hf : firstOf (trimJ X S m).2.1.segs = f) (hf1 : first ≤ f) (hf2 : f ≤ max first m) :
    Calls Tryz.prog 11 #[.pointer (some ⟨T, 0, none⟩), .agg #[.int .i64 2, .int .i64 N, bv, kv]] w fun e' w' => e' = .returned (.bool true) ∧
      Turn (fun j => j = T ∨ H j) w w' ∧ ∃ H', (∀ j, H' j → H j ∨ w.heap.size ≤ j) ∧ Tr w' T D J H' M av (trimJ X S m).2.1 (trimJ X S m).2.2 A most f f safe more false fell := by
  have ta := (Turn.refl (fun _ => False) w).alloc (.cells #[.int .i64 2, .int .i64 N, bv, kv] 36)
  have ko : (w.alloc (.cells #[.int .i64 2, .int .i64 N, bv, kv] 36)).heap[w.heap.size]? = some (.cells #[.int .i64 2, .int .i64 N, bv, kv] 36 (0, 0)) := heap_alloc_new w _
  have g := h.calm ta
  have hnH : ¬ H w.heap.size := fun q => by have := h.hH _ q; omega
  have hnT : w.heap.size ≠ T := fun q => by have := (Array.getElem?_eq_some_iff.1 h.obj).1; omega
  obtain ⟨aa, ac, hav⟩ := (h.all.my h.hM).slice
  subst hav
  have HSZ := hide ta.size
  clear h
  go_enter Tryz.func11, Tryz.ntmps11
  have q0 : (w.alloc (.cells #[.int .i64 2, .int .i64 N, bv, kv] 36)).cell? ⟨w.heap.size, 0, none⟩ = some (.int .i64 2) := cell_obj ko 0
  go_upto_region 11 with fail
  clear q0
  generalize w.alloc (.cells #[.int .i64 2, .int .i64 N, bv, kv] 36) = W at *
  generalize hbo : w.heap.size = bo at *
  have Hbo := hide hbo
  clear hbo
  have q1 : W.drew.cell? ⟨bo, 1, none⟩ = some (.int .i64 N) := cell_obj ko 1
  have c1 : W.drew.cell? ⟨T, 1, none⟩ = some (.pointer (some ⟨J, 0, none⟩)) := cell_obj g.obj 1
  have ht : Calls Tryz.prog 18 #[.pointer (some ⟨J, 0, none⟩), .int .u64 (IntKind.u64.wrap N)] W.drew fun e w' => e = .returned (.int .i64 (trimJ X S m).1) ∧ Turn H W.drew w' ∧ JAt w' (NF W.drew H) J D (trimJ X S m).2.1 (trimJ X S m).2.2 := by
    rw [hm]; exact trim_j W.drew H J D X S m (g.j.same ((Turn.refl (fun _ => False) W).drew)) fit
  rw [he] at ht
  have Hm := hide hm
  have Gg := hide g
  have nT := g.nH
  clear g hm
  go_region_held3 (fun u => u.cell? ⟨T, 1, none⟩ = some (.pointer (some ⟨J, 0, none⟩)) ∧ u.cell? ⟨bo, 1, none⟩ = some (.int .i64 N)) (first | exact ⟨c1, q1⟩ | exact ⟨b0, b1⟩ | go_keep)
    (first
    | (go_at_call 18; refine ht.mono ?_; rintro e2 w2 ⟨rfl, t2, j2⟩; have b0 := t2.cell c1 nT; have b1 := t2.cell q1 hnH))
  have g2 := ((unhide Gg).calm ((Turn.refl (fun _ => False) W).drew)).call t2 j2
  have HB : Hid (∀ j, (NF W.drew H j ∧ j < w2.heap.size) → H j ∨ w.heap.size ≤ j) := hide (fun j hj => by
    rcases hj.1 with q | q
    · exact .inl q
    · exact .inr (by rw [unhide Hbo]; exact Nat.le_trans (unhide HSZ) q))
  have T2 : Turn (fun j => j = T ∨ H j) w w2 := (ta.mono (fun _ q => q.elim)).then ((Turn.undrew t2).mono (fun j hj => .inr hj))
  have k2 := t2.same (show W.drew.heap[bo]? = _ from ko) hnH
  have c8 : w2.cell? ⟨T, 8, none⟩ = some (.bool false) := cell_obj g2.obj 8
  clear ht c1 q1 b0 b1 t2 j2 ko
  have q1 : w2.cell? ⟨bo, 1, none⟩ = some (.int .i64 N) := cell_obj k2 1
  have c3 : w2.cell? ⟨T, 3, none⟩ = some (.slice aa A.length ac) := cell_obj g2.obj 3
  have hcv : IntKind.u64.wrap ((A.length : Nat) : Int) = (A.length : Int) := by rw [IntKind.wrap_u64]; omega
  have hlt : ¬ (A.length : Int) < IntKind.u64.wrap N := by rw [unhide Hm]; omega
  clear hgt
  subst hc
  go_wp2_with fail
  go_region
  have g3 := g2.calm ((Turn.refl (fun _ => False) w2).drew)
  have T3 := T2.drew
  have k3 : w2.drew.heap[bo]? = _ := k2
  clear g2 T2 q1 c3 k2 c8
  go_upto_region 19 with fail
  generalize w2.drew = w3 at *
  have g4 := g3.calm ((Turn.refl (fun _ => False) w3).drew)
  have q1 : w3.drew.cell? ⟨bo, 1, none⟩ = some (.int .i64 N) := cell_obj k3 1
  have c1 : w3.drew.cell? ⟨T, 1, none⟩ = some (.pointer (some ⟨J, 0, none⟩)) := cell_obj g4.obj 1
  have c4 : w3.drew.cell? ⟨T, 4, none⟩ = some (.int .u64 (first : Int)) := cell_obj g4.obj 4
  have hF : Calls Tryz.prog 19 #[.pointer (some ⟨J, 0, none⟩)] w3.drew fun e w' => e = .returned (.int .u64 (f : Int)) ∧ w' = w3.drew := by
    rw [← hf]; exact first_jat _ _ J D _ _ g4.j
  obtain ⟨mx, hmx⟩ : ∃ mx, mx = max first m := ⟨_, rfl⟩
  have hmi2 : max (first : Int) (IntKind.u64.wrap N) = (mx : Int) := by rw [unhide Hm]; omega
  have hmi : (if (first : Int) < IntKind.u64.wrap N then IntKind.u64.wrap N else (first : Int)) = (mx : Int) := by rw [unhide Hm]; split <;> omega
  have nf1 : ¬ f < first := by omega
  have nf2 : ¬ mx < f := by omega
  have G3 := hide g3
  have Hf := hide hf
  clear g3 g4 hmx hf hf1 hf2 k3
  go_cut [137] from 108 to 137 (fun s137 wx => s137 = .bool false ∧ wx = w3.drew)
  case first =>
    go_region_held3 (fun u => u.cell? ⟨T, 1, none⟩ = some (.pointer (some ⟨J, 0, none⟩)) ∧ u.cell? ⟨T, 4, none⟩ = some (.int .u64 (first : Int)) ∧ u.cell? ⟨bo, 1, none⟩ = some (.int .i64 N)) (first | exact ⟨c1, c4, q1⟩ | go_keep)
      (first
      | (go_at_call 19; refine hF.mono ?_; rintro e5 w5 ⟨rfl, hw⟩; have hw := hw.symm; subst hw))
    all_goals (go_wp2_with fail)
    all_goals go_meet
    all_goals exact ⟨rfl, rfl⟩
  case rest =>
    obtain ⟨rfl, rfl⟩ := hcut
    clear hF c1 c4 q1
    go_upto_region 21 with fail
    have g4 := (unhide G3).calm ((Turn.refl (fun _ => False) w3).drew)
    have T4 := T3.drew
    generalize w3.drew = w4 at *
    have g5 := g4.calm ((Turn.refl (fun _ => False) w4).drew)
    have c1 : w4.drew.cell? ⟨T, 1, none⟩ = some (.pointer (some ⟨J, 0, none⟩)) := cell_obj g5.obj 1
    have c4 : w4.drew.cell? ⟨T, 4, none⟩ = some (.int .u64 (first : Int)) := cell_obj g5.obj 4
    have c5 : w4.drew.cell? ⟨T, 5, none⟩ = some (.int .u64 (might : Int)) := cell_obj g5.obj 5
    have z4 : w4.drew.frozen? ⟨T, 4, none⟩ = false := frozen_obj g5.obj 4
    have z5 : w4.drew.frozen? ⟨T, 5, none⟩ = false := frozen_obj g5.obj 5
    have hF : Calls Tryz.prog 19 #[.pointer (some ⟨J, 0, none⟩)] w4.drew fun e w' => e = .returned (.int .u64 (f : Int)) ∧ w' = w4.drew := by
      rw [← unhide Hf]; exact first_jat _ _ J D _ _ g5.j
    have o4 := heap_setCell_obj (j := 4) g4.obj (.int .u64 (f : Int))
    have o5 := heap_setCell_obj (j := 5) o4 (.int .u64 (f : Int))
    have e4 : (w4.setCell ⟨T, 4, none⟩ (.int .u64 (f : Int))).drew.cell? ⟨T, 1, none⟩ = some (.pointer (some ⟨J, 0, none⟩)) := cell_obj o4 1
    have e45 : (w4.setCell ⟨T, 4, none⟩ (.int .u64 (f : Int))).drew.cell? ⟨T, 5, none⟩ = some (.int .u64 (might : Int)) := cell_obj o4 5
    have z45 : (w4.setCell ⟨T, 4, none⟩ (.int .u64 (f : Int))).drew.frozen? ⟨T, 5, none⟩ = false := frozen_obj o4 5
    have e5 : ((w4.setCell ⟨T, 4, none⟩ (.int .u64 (f : Int))).setCell ⟨T, 5, none⟩ (.int .u64 (f : Int))).drew.cell? ⟨T, 1, none⟩ = some (.pointer (some ⟨J, 0, none⟩)) := cell_obj o5 1
    have t5 : Turn (fun j => j = T) w4 ((w4.setCell ⟨T, 4, none⟩ (.int .u64 (f : Int))).setCell ⟨T, 5, none⟩ (.int .u64 (f : Int))).drew := (((Turn.refl (fun j => j = T) w4).setCell (p := ⟨T, 4, none⟩) (.inl rfl) _).setCell (p := ⟨T, 5, none⟩) (.inl rfl) _).drew
    have g8 := g4.put (w' := ((w4.setCell ⟨T, 4, none⟩ (.int .u64 (f : Int))).setCell ⟨T, 5, none⟩ (.int .u64 (f : Int))).drew) (first' := f) (might' := f) (safe' := safe) (more' := more) (dn' := false) (fell' := fell) t5 o5
    have T8 := T4.then (t5.mono (fun j e => .inl e))
    clear g4 g5 o4 o5 t5 T3 T4 G3 hmi hmi2
    go_region_held3 (fun u => u.cell? ⟨T, 1, none⟩ = some (.pointer (some ⟨J, 0, none⟩))) (first | exact c1 | exact e4 | exact e5 | go_keep)
      (first
      | (go_at_call 19; refine hF.mono ?_; rintro e5 w5 ⟨rfl, hw⟩; have hw := hw.symm; subst hw))
    all_goals (go_wp2_with fail)
    all_goals go_ret
    all_goals exact ⟨rfl, T8, _, unhide HB, g8⟩
end Go.Proofs.YthikiahhochjmaaGreatDoor
