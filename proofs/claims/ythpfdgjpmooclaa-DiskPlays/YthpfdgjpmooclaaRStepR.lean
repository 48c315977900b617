/- .. Read, Names, Arm, Start. -/
import Derived.Test.YthpfdgjpmooclaaRStep
import Derived.Deep.RegionWith
namespace Go.Proofs.Ythpfdgjpmooclaa
open Go.RowKit Go.Maps
set_option linter.unusedVariables false
set_option linter.unusedSimpArgs false

set_option maxRecDepth 100000 in
set_option maxHeartbeats 2000000 in
theorem step_read {A : Nat → Prop} {w : World} {B R : Nat} {S : Dk} (h : Two A w B R S S) (n : Int) (s : ByteArray) (bv kv : Value) (hs : s.size ≤ maxLen) :
    Calls Try.prog 13 #[.pointer (some ⟨B, 0, none⟩), .pointer (some ⟨R, 0, none⟩), .agg #[.int .i64 2, .int .i64 n, .string s, bv, kv]] w fun e w' => e = .returned (.bool true) ∧ Turn A w w' ∧ ∃ S', Two A w' B R S' S' := by
  obtain ⟨W, hW, A', h1, hA, hnA, tW, kW⟩ := box_facts h 2 n s bv kv 35
  have q0 : W.cell? ⟨w.heap.size, 0, none⟩ = some (.int .i64 2) := cell_obj kW 0
  have q1 : W.cell? ⟨w.heap.size, 1, none⟩ = some (.int .i64 n) := cell_obj kW 1
  have q2 : W.cell? ⟨w.heap.size, 2, none⟩ = some (.string s) := cell_obj kW 2
  have q3 : W.cell? ⟨w.heap.size, 3, none⟩ = some bv := cell_obj kW 3
  have q4 : W.cell? ⟨w.heap.size, 4, none⟩ = some kv := cell_obj kW 4
  have sW := tW.size
  clear h kW q1 q3 q4
  subst hW
  go_enter Try.func13, Try.ntmps13
  go_wp2_with fail
  generalize w.alloc (.cells #[.int .i64 2, .int .i64 n, .string s, bv, kv] 35) = W at *
  refine (dRead2 h1 s hs).mono ?_
  rintro x w1 ⟨v1, rfl, o1, l1, t1⟩
  have q5 := t1.cell q2 id
  have h2 := h1.turn t1 (fun _ _ _ => id)
  obtain ⟨p1, c1, hv1⟩ := o1.form
  go_wp2_with fail
  refine (rRead2 h2 s hs).mono ?_
  rintro x w2 ⟨v2, rfl, o2, l2, t2⟩
  have h3 := h2.shield t2
  have o1' := o1.turn t2 (fun _ _ => id)
  have r1 := row_of_sl o1'
  have r2 := row_of_sl o2
  have h9 := bytes_walk _ _ v1 v2 _ w2 r1 r2
  have s1 := t1.size
  have s2 := t2.size
  have T2 : Turn (fun _ => False) w w2 := (tW.then t1).then t2
  have h4 : Two A w2 B R S S := (h2.turn t2 (fun _ _ _ => id)).mono hA
  have hl1 : ∀ j, v1.ownBlock = some j → w.heap.size ≤ j := fun j hj => by have := l1 j hj; omega
  -- what was read is none of theirs
  have h5 : Two (shield A W.heap.size w1.heap.size) w1 B R S S := (h1.mono hA).shield t1
  have h6 := h5.turn t2 (fun _ _ _ => id)
  have f1 := free_of_sl o1'
  have f1 : Row .u8 (fun b => (v1.ownBlock = some b ∧ b < w1.heap.size) ∧ Free w2 b) w2 v1 (readD S s.data.toList) := f1.mono (fun b hb => ⟨⟨hb.1, by obtain ⟨cur, hc⟩ := o1.lt b hb.1; exact (Array.getElem?_eq_some_iff.1 hc).1⟩, hb.2⟩)
  have h10 := spoil_any _ v1 _ w2 f1
  obtain ⟨p2, c2, hv2⟩ := o2.form
  generalize readC S s.data.toList = rc at *
  clear h1 h2 h3 h5 o1 o1' o2 r1 r2 f1 t1 t2 tW hA
  subst hv1 hv2
  go_wp2_with (first | (go_at_call 24; refine h9.mono ?_; rintro x w0 ⟨rfl, hw0⟩; have hw0 := hw0.symm; subst hw0))
  refine h10.mono ?_
  rintro x w3 ⟨⟨v, rfl⟩, t3⟩
  have h7 := h6.turn t3 (fun j hj hl q => by have h0 := l1 j q.1; have h9 := q.2; exact not_shield _ _ _ h0 h9 hj)
  have tt : Turn A w w3 := (T2.mono (fun _ h => h.elim)).trans t3 (fun j hj => .inr (hl1 j hj.1))
  have fin := h7.mono (fun j hj => hj.1)
  clear h4 h6 h7 h9 h10 t3
  go_wp2
  go_ret
  exact ⟨rfl, tt, _, fin⟩

set_option maxRecDepth 100000 in
set_option maxHeartbeats 2000000 in
theorem step_names {A : Nat → Prop} {w : World} {B R : Nat} {S : Dk} (h : Two A w B R S S) (n : Int) (s : ByteArray) (bv kv : Value) (hs : s.size ≤ maxLen) :
    Calls Try.prog 13 #[.pointer (some ⟨B, 0, none⟩), .pointer (some ⟨R, 0, none⟩), .agg #[.int .i64 5, .int .i64 n, .string s, bv, kv]] w fun e w' => e = .returned (.bool true) ∧ Turn A w w' ∧ ∃ S', Two A w' B R S' S' := by
  obtain ⟨W, hW, A', h1, hA, hnA, tW, kW⟩ := box_facts h 5 n s bv kv 35
  have q0 : W.cell? ⟨w.heap.size, 0, none⟩ = some (.int .i64 5) := cell_obj kW 0
  have q1 : W.cell? ⟨w.heap.size, 1, none⟩ = some (.int .i64 n) := cell_obj kW 1
  have q2 : W.cell? ⟨w.heap.size, 2, none⟩ = some (.string s) := cell_obj kW 2
  have q3 : W.cell? ⟨w.heap.size, 3, none⟩ = some bv := cell_obj kW 3
  have q4 : W.cell? ⟨w.heap.size, 4, none⟩ = some kv := cell_obj kW 4
  have sW := tW.size
  clear h kW q1 q3 q4
  subst hW
  go_enter Try.func13, Try.ntmps13
  go_wp2_with fail
  generalize w.alloc (.cells #[.int .i64 5, .int .i64 n, .string s, bv, kv] 35) = W at *
  refine (dNames2 h1).mono ?_
  rintro x w1 ⟨v1, rfl, o1, t1⟩
  have h2 := h1.turn t1 (fun _ _ _ => id)
  obtain ⟨p1, c1, hv1⟩ := o1.form
  go_wp2_with fail
  refine (rNames2 h2).mono ?_
  rintro x w2 ⟨v2, rfl, o2, t2⟩
  have h3 := (h2.turn t2 (fun _ _ _ => id)).mono hA
  have hlen : (namesL S).length ≤ 1000 := by have := h3.wells.1.files; unfold namesL; split <;> simp <;> omega
  have h9 := plain_str v1 v2 _ w2 hlen (o1.turn t2 (fun _ _ => id)) o2
  have T2 : Turn (fun _ => False) w w2 := (tW.then t1).then t2
  obtain ⟨p2, c2, hv2⟩ := o2.form
  generalize namesC S = rc at *
  generalize namesL S = L at *
  clear h1 h2 o1 o2 t1 t2 tW hA
  subst hv1 hv2
  go_wp2_with (first | (go_at_call 21; refine h9.mono ?_; rintro x w3 ⟨rfl, m, rfl⟩))
  go_ret
  exact ⟨rfl, (T2.drewN m).mono (fun _ h => h.elim), S, h3.drewN m⟩

set_option maxRecDepth 100000 in
set_option maxHeartbeats 2000000 in
theorem step_arm {A : Nat → Prop} {w : World} {B R : Nat} {S : Dk} (h : Two A w B R S S) (n : Int) (s : ByteArray) (bv kv : Value) (hs : s.size ≤ maxLen) (hn : n ≤ 9223372036854775807) :
    Calls Try.prog 13 #[.pointer (some ⟨B, 0, none⟩), .pointer (some ⟨R, 0, none⟩), .agg #[.int .i64 6, .int .i64 n, .string s, bv, kv]] w fun e w' => e = .returned (.bool true) ∧ Turn A w w' ∧ ∃ S', Two A w' B R S' S' := by
  obtain ⟨W, hW, A', h1, hA, hnA, tW, kW⟩ := box_facts h 6 n s bv kv 35
  have q0 : W.cell? ⟨w.heap.size, 0, none⟩ = some (.int .i64 6) := cell_obj kW 0
  have q1 : W.cell? ⟨w.heap.size, 1, none⟩ = some (.int .i64 n) := cell_obj kW 1
  have q2 : W.cell? ⟨w.heap.size, 2, none⟩ = some (.string s) := cell_obj kW 2
  have q3 : W.cell? ⟨w.heap.size, 3, none⟩ = some bv := cell_obj kW 3
  have q4 : W.cell? ⟨w.heap.size, 4, none⟩ = some kv := cell_obj kW 4
  have sW := tW.size
  obtain ⟨a1, a2, h2, t2⟩ := rArm2 h1 n hn
  have q5 := t2.cell q1 hnA
  have hmx : ∀ u : World, (Builtin.max_ #[3, 3] 3 #[.int .i64 0, .int .i64 n]).run Try.prog u = .ok (.int .i64 (n.toNat : Int)) u := fun u => by
    rw [max_any]; congr 2; split <;> omega
  have h9 := dArm2 h2 n hn
  have T2 : Turn A w (W.setCell ⟨R, 2, none⟩ (.int .i64 (n.toNat : Int))) := (tW.mono (fun _ h => h.elim)).then (t2.mono hA)
  generalize hz : n.toNat = z at *
  have Hz := hide hz
  have HA := hide hA
  clear h kW q2 q3 q4 hz hA h1 h2 t2 tW
  subst hW
  go_enter Try.func13, Try.ntmps13
  go_wp2_with (first | (go_at_call 27; refine h9.mono ?_; rintro x w1 ⟨rfl, h3, t3⟩))
  go_ret
  exact ⟨rfl, T2.then (t3.mono (unhide HA)), _, h3.mono (unhide HA)⟩

set_option maxRecDepth 100000 in
set_option maxHeartbeats 2000000 in
theorem step_start {A : Nat → Prop} {w : World} {B R : Nat} {S : Dk} (h : Two A w B R S S) (n : Int) (s : ByteArray) (bv kv : Value) (hs : s.size ≤ maxLen) :
    Calls Try.prog 13 #[.pointer (some ⟨B, 0, none⟩), .pointer (some ⟨R, 0, none⟩), .agg #[.int .i64 8, .int .i64 n, .string s, bv, kv]] w fun e w' => e = .returned (.bool true) ∧ Turn A w w' ∧ ∃ S', Two A w' B R S' S' := by
  obtain ⟨W, hW, A', h1, hA, hnA, tW, kW⟩ := box_facts h 8 n s bv kv 35
  have q0 : W.cell? ⟨w.heap.size, 0, none⟩ = some (.int .i64 8) := cell_obj kW 0
  have q1 : W.cell? ⟨w.heap.size, 1, none⟩ = some (.int .i64 n) := cell_obj kW 1
  have q2 : W.cell? ⟨w.heap.size, 2, none⟩ = some (.string s) := cell_obj kW 2
  have q3 : W.cell? ⟨w.heap.size, 3, none⟩ = some bv := cell_obj kW 3
  have q4 : W.cell? ⟨w.heap.size, 4, none⟩ = some kv := cell_obj kW 4
  have sW := tW.size
  clear h kW q1 q2 q3 q4
  subst hW
  go_enter Try.func13, Try.ntmps13
  go_wp2_with fail
  generalize w.alloc (.cells #[.int .i64 8, .int .i64 n, .string s, bv, kv] 35) = W at *
  refine (rStart2 h1).mono ?_
  rintro x w1 ⟨⟨v, rfl⟩, h2, t2⟩
  have h9 := dStart2 h2
  have HA := hide hA
  clear hA h1
  go_wp2_with (first | (go_at_call 17; refine h9.mono ?_; rintro x w2 ⟨rfl, h3, t3⟩))
  go_ret
  exact ⟨rfl, ((tW.mono (fun _ h => h.elim)).then (t2.mono (unhide HA))).then (t3.mono (unhide HA)), _, h3.mono (unhide HA)⟩

end Go.Proofs.Ythpfdgjpmooclaa
