/- JournalPlays: Trim's step. -/
import Derived.Test.YthikiahhochjmaaGreatDoorJStep
namespace Go.Proofs.YthikiahhochjmaaGreatDoor
open Go.RowKit Go.Maps
set_option linter.unusedVariables false
set_option linter.unusedSimpArgs false

set_option maxRecDepth 100000 in
set_option maxHeartbeats 4000000 in
theorem trim_dn (w : World) (T D J : Nat) (H M : Nat → Prop) (av : Value) (X : Jn) (S : Dk) (A : List (List Int)) (most first might safe : Nat) (more fell : Bool) (h : Tr w T D J H M av X S A most first might safe more true fell) (fit : Fit X) (N : Int) (bv kv : Value) (hA : A.length ≤ 1000) (m : Nat) (hm : IntKind.u64.wrap N = (m : Int)) (e : Int) (he : (trimJ X S m).1 = e) (hc : e = 3 ∨ e = 1) :
    Calls Tryz.prog 11 #[.pointer (some ⟨T, 0, none⟩), .agg #[.int .i64 2, .int .i64 N, bv, kv]] w fun e' w' => e' = .returned (.bool true) ∧
      Turn (fun j => j = T ∨ H j) w w' ∧ ∃ H', (∀ j, H' j → H j ∨ w.heap.size ≤ j) ∧ Tr w' T D J H' M av (trimJ X S m).2.1 (trimJ X S m).2.2 A most first might safe more true fell := by
  have ta := (Turn.refl (fun _ => False) w).alloc (.cells #[.int .i64 2, .int .i64 N, bv, kv] 36)
  have ko : (w.alloc (.cells #[.int .i64 2, .int .i64 N, bv, kv] 36)).heap[w.heap.size]? = some (.cells #[.int .i64 2, .int .i64 N, bv, kv] 36 (0, 0)) := heap_alloc_new w _
  have g := h.calm ta
  have hnH : ¬ H w.heap.size := fun q => by have := h.hH _ q; omega
  have hnT : w.heap.size ≠ T := fun q => by have := (Array.getElem?_eq_some_iff.1 h.obj).1; omega
  obtain ⟨aa, ac, hav⟩ := (h.all.my h.hM).slice
  subst hav
  have HSZ := hide ta.size
  clear h
  go_enter Tryz.func11, Tryz.ntmps11
  have q0 : (w.alloc (.cells #[.int .i64 2, .int .i64 N, bv, kv] 36)).cell? ⟨w.heap.size, 0, none⟩ = some (.int .i64 2) := cell_obj ko 0
  go_upto_region 11 with fail
  clear q0
  generalize w.alloc (.cells #[.int .i64 2, .int .i64 N, bv, kv] 36) = W at *
  generalize hbo : w.heap.size = bo at *
  have Hbo := hide hbo
  clear hbo
  have q1 : W.drew.cell? ⟨bo, 1, none⟩ = some (.int .i64 N) := cell_obj ko 1
  have c1 : W.drew.cell? ⟨T, 1, none⟩ = some (.pointer (some ⟨J, 0, none⟩)) := cell_obj g.obj 1
  have ht : Calls Tryz.prog 18 #[.pointer (some ⟨J, 0, none⟩), .int .u64 (IntKind.u64.wrap N)] W.drew fun e w' => e = .returned (.int .i64 (trimJ X S m).1) ∧ Turn H W.drew w' ∧ JAt w' (NF W.drew H) J D (trimJ X S m).2.1 (trimJ X S m).2.2 := by
    rw [hm]; exact trim_j W.drew H J D X S m (g.j.same ((Turn.refl (fun _ => False) W).drew)) fit
  rw [he] at ht
  have Hm := hide hm
  have Gg := hide g
  have nT := g.nH
  clear g hm
  go_region_held3 (fun u => u.cell? ⟨T, 1, none⟩ = some (.pointer (some ⟨J, 0, none⟩)) ∧ u.cell? ⟨bo, 1, none⟩ = some (.int .i64 N)) (first | exact ⟨c1, q1⟩ | exact ⟨b0, b1⟩ | go_keep)
    (first
    | (go_at_call 18; refine ht.mono ?_; rintro e2 w2 ⟨rfl, t2, j2⟩; have b0 := t2.cell c1 nT; have b1 := t2.cell q1 hnH))
  have g2 := ((unhide Gg).calm ((Turn.refl (fun _ => False) W).drew)).call t2 j2
  have HB : Hid (∀ j, (NF W.drew H j ∧ j < w2.heap.size) → H j ∨ w.heap.size ≤ j) := hide (fun j hj => by
    rcases hj.1 with q | q
    · exact .inl q
    · exact .inr (by rw [unhide Hbo]; exact Nat.le_trans (unhide HSZ) q))
  have T2 : Turn (fun j => j = T ∨ H j) w w2 := (ta.mono (fun _ q => q.elim)).then ((Turn.undrew t2).mono (fun j hj => .inr hj))
  have k2 := t2.same (show W.drew.heap[bo]? = _ from ko) hnH
  have c8 : w2.cell? ⟨T, 8, none⟩ = some (.bool true) := cell_obj g2.obj 8
  clear ht c1 q1 b0 b1 t2 j2 ko
  rcases hc with rfl | rfl
  · go_wp2_with fail
    go_ret
    exact ⟨rfl, T2, _, unhide HB, g2⟩
  · go_wp2_with fail
    go_ret
    exact ⟨rfl, T2, _, unhide HB, g2⟩

set_option maxRecDepth 100000 in
set_option maxHeartbeats 4000000 in
theorem trim_arg (w : World) (T D J : Nat) (H M : Nat → Prop) (av : Value) (X : Jn) (S : Dk) (A : List (List Int)) (most first might safe : Nat) (more fell : Bool) (h : Tr w T D J H M av X S A most first might safe more false fell) (fit : Fit X) (N : Int) (bv kv : Value) (hA : A.length ≤ 1000) (m : Nat) (hm : IntKind.u64.wrap N = (m : Int)) (e : Int) (he : (trimJ X S m).1 = e) (hc : e = 1) (hgt : A.length < m) :
    Calls Tryz.prog 11 #[.pointer (some ⟨T, 0, none⟩), .agg #[.int .i64 2, .int .i64 N, bv, kv]] w fun e' w' => e' = .returned (.bool true) ∧
      Turn (fun j => j = T ∨ H j) w w' ∧ ∃ H', (∀ j, H' j → H j ∨ w.heap.size ≤ j) ∧ Tr w' T D J H' M av (trimJ X S m).2.1 (trimJ X S m).2.2 A most first might safe more false fell := by
  have ta := (Turn.refl (fun _ => False) w).alloc (.cells #[.int .i64 2, .int .i64 N, bv, kv] 36)
  have ko : (w.alloc (.cells #[.int .i64 2, .int .i64 N, bv, kv] 36)).heap[w.heap.size]? = some (.cells #[.int .i64 2, .int .i64 N, bv, kv] 36 (0, 0)) := heap_alloc_new w _
  have g := h.calm ta
  have hnH : ¬ H w.heap.size := fun q => by have := h.hH _ q; omega
  have hnT : w.heap.size ≠ T := fun q => by have := (Array.getElem?_eq_some_iff.1 h.obj).1; omega
  obtain ⟨aa, ac, hav⟩ := (h.all.my h.hM).slice
  subst hav
  have HSZ := hide ta.size
  clear h
  go_enter Tryz.func11, Tryz.ntmps11
  have q0 : (w.alloc (.cells #[.int .i64 2, .int .i64 N, bv, kv] 36)).cell? ⟨w.heap.size, 0, none⟩ = some (.int .i64 2) := cell_obj ko 0
  go_upto_region 11 with fail
  clear q0
  generalize w.alloc (.cells #[.int .i64 2, .int .i64 N, bv, kv] 36) = W at *
  generalize hbo : w.heap.size = bo at *
  have Hbo := hide hbo
  clear hbo
  have q1 : W.drew.cell? ⟨bo, 1, none⟩ = some (.int .i64 N) := cell_obj ko 1
  have c1 : W.drew.cell? ⟨T, 1, none⟩ = some (.pointer (some ⟨J, 0, none⟩)) := cell_obj g.obj 1
  have ht : Calls Tryz.prog 18 #[.pointer (some ⟨J, 0, none⟩), .int .u64 (IntKind.u64.wrap N)] W.drew fun e w' => e = .returned (.int .i64 (trimJ X S m).1) ∧ Turn H W.drew w' ∧ JAt w' (NF W.drew H) J D (trimJ X S m).2.1 (trimJ X S m).2.2 := by
    rw [hm]; exact trim_j W.drew H J D X S m (g.j.same ((Turn.refl (fun _ => False) W).drew)) fit
  rw [he] at ht
  have Hm := hide hm
  have Gg := hide g
  have nT := g.nH
  clear g hm
  go_region_held3 (fun u => u.cell? ⟨T, 1, none⟩ = some (.pointer (some ⟨J, 0, none⟩)) ∧ u.cell? ⟨bo, 1, none⟩ = some (.int .i64 N)) (first | exact ⟨c1, q1⟩ | exact ⟨b0, b1⟩ | go_keep)
    (first
    | (go_at_call 18; refine ht.mono ?_; rintro e2 w2 ⟨rfl, t2, j2⟩; have b0 := t2.cell c1 nT; have b1 := t2.cell q1 hnH))
  have g2 := ((unhide Gg).calm ((Turn.refl (fun _ => False) W).drew)).call t2 j2
  have HB : Hid (∀ j, (NF W.drew H j ∧ j < w2.heap.size) → H j ∨ w.heap.size ≤ j) := hide (fun j hj => by
    rcases hj.1 with q | q
    · exact .inl q
    · exact .inr (by rw [unhide Hbo]; exact Nat.le_trans (unhide HSZ) q))
  have T2 : Turn (fun j => j = T ∨ H j) w w2 := (ta.mono (fun _ q => q.elim)).then ((Turn.undrew t2).mono (fun j hj => .inr hj))
  have k2 := t2.same (show W.drew.heap[bo]? = _ from ko) hnH
  have c8 : w2.cell? ⟨T, 8, none⟩ = some (.bool false) := cell_obj g2.obj 8
  clear ht c1 q1 b0 b1 t2 j2 ko
  have q1 : w2.cell? ⟨bo, 1, none⟩ = some (.int .i64 N) := cell_obj k2 1
  have c3 : w2.cell? ⟨T, 3, none⟩ = some (.slice aa A.length ac) := cell_obj g2.obj 3
  have hcv : IntKind.u64.wrap ((A.length : Nat) : Int) = (A.length : Int) := by rw [IntKind.wrap_u64]; omega
  have hlt : (A.length : Int) < IntKind.u64.wrap N := by rw [unhide Hm]; omega
  clear hgt
  subst hc
  go_wp2_with fail
  go_region
  have g3 := g2.calm ((Turn.refl (fun _ => False) w2).drew)
  have T3 := T2.drew
  clear g2 T2 q1 c3
  go_wp2_with fail
  go_ret
  exact ⟨rfl, T3, _, unhide HB, g3⟩

set_option maxRecDepth 100000 in
set_option maxHeartbeats 4000000 in
theorem trim_hit (w : World) (T D J : Nat) (H M : Nat → Prop) (av : Value) (X : Jn) (S : Dk) (A : List (List Int)) (most first might safe : Nat) (more fell : Bool) (h : Tr w T D J H M av X S A most first might safe more false fell) (fit : Fit X) (N : Int) (bv kv : Value) (hA : A.length ≤ 1000) (m : Nat) (hm : IntKind.u64.wrap N = (m : Int)) (e : Int) (he : (trimJ X S m).1 = e) (hc : e = 3) (hgt : m ≤ A.length) (hdn : (trimJ X S m).2.2.down = true) :
    Calls Tryz.prog 11 #[.pointer (some ⟨T, 0, none⟩), .agg #[.int .i64 2, .int .i64 N, bv, kv]] w fun e' w' => e' = .returned (.bool true) ∧
      Turn (fun j => j = T ∨ H j) w w' ∧ ∃ H', (∀ j, H' j → H j ∨ w.heap.size ≤ j) ∧ Tr w' T D J H' M av (trimJ X S m).2.1 (trimJ X S m).2.2 A most first (max first m) safe more true fell := by
  have ta := (Turn.refl (fun _ => False) w).alloc (.cells #[.int .i64 2, .int .i64 N, bv, kv] 36)
  have ko : (w.alloc (.cells #[.int .i64 2, .int .i64 N, bv, kv] 36)).heap[w.heap.size]? = some (.cells #[.int .i64 2, .int .i64 N, bv, kv] 36 (0, 0)) := heap_alloc_new w _
  have g := h.calm ta
  have hnH : ¬ H w.heap.size := fun q => by have := h.hH _ q; omega
  have hnT : w.heap.size ≠ T := fun q => by have := (Array.getElem?_eq_some_iff.1 h.obj).1; omega
  obtain ⟨aa, ac, hav⟩ := (h.all.my h.hM).slice
  subst hav
  have HSZ := hide ta.size
  clear h
  go_enter Tryz.func11, Tryz.ntmps11
  have q0 : (w.alloc (.cells #[.int .i64 2, .int .i64 N, bv, kv] 36)).cell? ⟨w.heap.size, 0, none⟩ = some (.int .i64 2) := cell_obj ko 0
  go_upto_region 11 with fail
  clear q0
  generalize w.alloc (.cells #[.int .i64 2, .int .i64 N, bv, kv] 36) = W at *
  generalize hbo : w.heap.size = bo at *
  have Hbo := hide hbo
  clear hbo
  have q1 : W.drew.cell? ⟨bo, 1, none⟩ = some (.int .i64 N) := cell_obj ko 1
  have c1 : W.drew.cell? ⟨T, 1, none⟩ = some (.pointer (some ⟨J, 0, none⟩)) := cell_obj g.obj 1
  have ht : Calls Tryz.prog 18 #[.pointer (some ⟨J, 0, none⟩), .int .u64 (IntKind.u64.wrap N)] W.drew fun e w' => e = .returned (.int .i64 (trimJ X S m).1) ∧ Turn H W.drew w' ∧ JAt w' (NF W.drew H) J D (trimJ X S m).2.1 (trimJ X S m).2.2 := by
    rw [hm]; exact trim_j W.drew H J D X S m (g.j.same ((Turn.refl (fun _ => False) W).drew)) fit
  rw [he] at ht
  have Hm := hide hm
  have Gg := hide g
  have nT := g.nH
  clear g hm
  go_region_held3 (fun u => u.cell? ⟨T, 1, none⟩ = some (.pointer (some ⟨J, 0, none⟩)) ∧ u.cell? ⟨bo, 1, none⟩ = some (.int .i64 N)) (first | exact ⟨c1, q1⟩ | exact ⟨b0, b1⟩ | go_keep)
    (first
    | (go_at_call 18; refine ht.mono ?_; rintro e2 w2 ⟨rfl, t2, j2⟩; have b0 := t2.cell c1 nT; have b1 := t2.cell q1 hnH))
  have g2 := ((unhide Gg).calm ((Turn.refl (fun _ => False) W).drew)).call t2 j2
  have HB : Hid (∀ j, (NF W.drew H j ∧ j < w2.heap.size) → H j ∨ w.heap.size ≤ j) := hide (fun j hj => by
    rcases hj.1 with q | q
    · exact .inl q
    · exact .inr (by rw [unhide Hbo]; exact Nat.le_trans (unhide HSZ) q))
  have T2 : Turn (fun j => j = T ∨ H j) w w2 := (ta.mono (fun _ q => q.elim)).then ((Turn.undrew t2).mono (fun j hj => .inr hj))
  have k2 := t2.same (show W.drew.heap[bo]? = _ from ko) hnH
  have c8 : w2.cell? ⟨T, 8, none⟩ = some (.bool false) := cell_obj g2.obj 8
  clear ht c1 q1 b0 b1 t2 j2 ko
  have q1 : w2.cell? ⟨bo, 1, none⟩ = some (.int .i64 N) := cell_obj k2 1
  have c3 : w2.cell? ⟨T, 3, none⟩ = some (.slice aa A.length ac) := cell_obj g2.obj 3
  have hcv : IntKind.u64.wrap ((A.length : Nat) : Int) = (A.length : Int) := by rw [IntKind.wrap_u64]; omega
  have hlt : ¬ (A.length : Int) < IntKind.u64.wrap N := by rw [unhide Hm]; omega
  clear hgt
  subst hc
  go_wp2_with fail
  go_region
  have g3 := g2.calm ((Turn.refl (fun _ => False) w2).drew)
  have T3 := T2.drew
  have q1' : w2.drew.cell? ⟨bo, 1, none⟩ = some (.int .i64 N) := q1
  have k3 : w2.drew.heap[bo]? = _ := k2
  clear g2 T2 q1 c3 q1' k2 c8
  generalize w2.drew = w3 at *
  have q1 : w3.cell? ⟨bo, 1, none⟩ = some (.int .i64 N) := cell_obj k3 1
  have c4 : w3.cell? ⟨T, 4, none⟩ = some (.int .u64 (first : Int)) := cell_obj g3.obj 4
  have c5 : w3.cell? ⟨T, 5, none⟩ = some (.int .u64 (might : Int)) := cell_obj g3.obj 5
  have c8 : w3.cell? ⟨T, 8, none⟩ = some (.bool false) := cell_obj g3.obj 8
  have z5 := frozen_obj g3.obj 5
  have z8 := frozen_obj g3.obj 8
  obtain ⟨mx, hmx⟩ : ∃ mx, mx = max first m := ⟨_, rfl⟩
  have hmi : (if (first : Int) < IntKind.u64.wrap N then IntKind.u64.wrap N else (first : Int)) = (mx : Int) := by rw [unhide Hm]; split <;> omega
  have hmi2 : max (first : Int) (IntKind.u64.wrap N) = (mx : Int) := by rw [unhide Hm]; omega
  have o5 := heap_setCell_obj (j := 5) g3.obj (.int .u64 (mx : Int))
  have o8 := heap_setCell_obj (j := 8) o5 (.bool true)
  have t8 : Turn (fun j => j = T) w3 ((w3.setCell ⟨T, 5, none⟩ (.int .u64 (mx : Int))).setCell ⟨T, 8, none⟩ (.bool true)).drew := (((Turn.refl (fun j => j = T) w3).setCell (p := ⟨T, 5, none⟩) (.inl rfl) _).setCell (p := ⟨T, 8, none⟩) (.inl rfl) _).drew
  have g8 := g3.put (w' := ((w3.setCell ⟨T, 5, none⟩ (.int .u64 (mx : Int))).setCell ⟨T, 8, none⟩ (.bool true)).drew) (first' := first) (might' := mx) (safe' := safe) (more' := more) (dn' := true) (fell' := fell) t8 o8
  have T8 := T3.then (t8.mono (fun j e => .inl e))
  have Hmx := hide hmx
  clear g3 o5 o8 t8 T3 hmx
  go_wp2_with fail
  go_region
  obtain ⟨F, d, _⟩ := disk_of g8.j
  have c0 : ((w3.setCell ⟨T, 5, none⟩ (.int .u64 (mx : Int))).setCell ⟨T, 8, none⟩ (.bool true)).drew.cell? ⟨T, 0, none⟩ = some (.pointer (some ⟨D, 0, none⟩)) := cell_obj g8.obj 0
  have hw := Down_walk _ D F _ d
  rw [hdn] at hw
  clear d c4 c5 c8 z5 z8 q1
  generalize ((w3.setCell ⟨T, 5, none⟩ (.int .u64 (mx : Int))).setCell ⟨T, 8, none⟩ (.bool true)).drew = w8 at *
  go_wp2_with (go_at_call 10; refine hw.mono ?_; rintro e w5 ⟨rfl, rfl⟩)
  go_ret
  exact ⟨rfl, T8, _, unhide HB, by rw [← unhide Hmx]; exact g8⟩
end Go.Proofs.YthikiahhochjmaaGreatDoor
