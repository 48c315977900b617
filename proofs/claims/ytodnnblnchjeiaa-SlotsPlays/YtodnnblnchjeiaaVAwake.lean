/- Slots on a nil disk, and nil ones; opened where all is safe; awake. -/
import Derived.Test.YtodnnblnchjeiaaVSave
import Derived.Test.YtodnnblnchjeiaaDCalls
namespace Go.Proofs.Ytodnnblnchjeiaa
open Go.RowKit Go.Maps
set_option linter.unusedVariables false
set_option linter.unusedSimpArgs false

set_option maxHeartbeats 1000000 in
theorem find_nil (w : World) (s : ByteArray) :
    Calls Try.prog 46 #[.pointer none, .string s] w fun e w' => e = .returned (.tuple #[.agg #[.slice none 0 0, .int .i64 0], .int .i64 2]) ∧ Turn (fun _ => False) w w' := by
  go_enter Try.func46, Try.ntmps46
  go_wp2
  exact bodyPost_ret (v := .tuple #[.agg #[.slice none 0 0, .int .i64 0], .int .i64 2]) (by simp [results, Try.results46, go_sem]) rfl ⟨rfl, (Turn.refl _ _).alloc _⟩
set_option maxHeartbeats 1000000 in
theorem read_nil (w : World) (s : ByteArray) : Calls Try.prog 32 #[.pointer none, .string s] w fun e w' => e = .returned (.tuple #[.slice none 0 0, .int .i64 2]) ∧ Turn (fun _ => False) w w' := by
  go_enter Try.func32, Try.ntmps32
  go_wp2_with (go_at_call 46; refine (find_nil _ _).mono ?_; rintro e w1 ⟨rfl, t1⟩)
  go_ret2
  exact ⟨rfl, t1.alloc _⟩
set_option maxRecDepth 100000 in
set_option maxHeartbeats 2000000 in
theorem readV_nil (w : World) : Calls Try.prog 20 #[.pointer none, .int .u64 0] w fun e w' => e = .returned (.tuple #[.agg #[.int .u64 0, .slice none 0 0], .int .i64 2]) ∧ Turn (fun _ => False) w w' := by
  have tA : Turn (fun _ => False) w (w.alloc (.cells #[.int .u64 0, .slice none 0 0] 54)) := (Turn.refl _ w).alloc _
  have kA := heap_alloc_new w (.cells #[.int .u64 0, .slice none 0 0] 54)
  have hnm := nameV_w 0 (w.alloc (.cells #[.int .u64 0, .slice none 0 0] 54))
  go_enter Try.func20, Try.ntmps20
  go_wp2_with fail
  refine hnm.mono ?_
  rintro y w1 ⟨rfl, t1⟩
  go_wp2_with fail
  refine (read_nil w1 _).mono ?_
  rintro y w2 ⟨rfl, t2⟩
  have k2 := (t1.then t2).same kA id
  have q0 := cell_obj k2 0
  have q1 := cell_obj k2 1
  have f0 := frozen_obj k2 0
  have f1 := frozen_obj k2 1
  obtain ⟨g1, g2⟩ := save_set k2 (.int .u64 0) (.slice none 0 0)
  have z0 := cell_obj g1 0
  have z1 := cell_obj g1 1
  have HT := hide (fresh_turn g2 (tA.then (t1.then t2)) (Nat.le_refl _))
  clear g1 g2 kA k2 tA t1 t2 hnm
  go_wp2
  exact bodyPost_ret (v := .tuple #[.agg #[.int .u64 0, .slice none 0 0], .int .i64 2]) (by simp [results, Try.results20, z0, z1, go_sem]) rfl ⟨rfl, unhide HT⟩
set_option maxRecDepth 100000 in
set_option maxHeartbeats 2000000 in
theorem openV_nil (w : World) : Calls Try.prog 5 #[.pointer none] w fun e w' => e = .returned (.tuple #[.pointer none, .int .i64 2]) ∧ Turn (fun _ => False) w w' := by
  have tA : Turn (fun _ => False) w (w.alloc (.cells #[.pointer none, .int .u64 0, .slice none 0 0, .bool false] 56)) := (Turn.refl _ w).alloc _
  have hrd := readV_nil (w.alloc (.cells #[.pointer none, .int .u64 0, .slice none 0 0, .bool false] 56))
  go_enter Try.func5, Try.ntmps5
  go_wp2_with fail
  refine wp_loop_rounds 1 ?_
  rw [rounds_succ]
  go_wp2_with fail
  refine hrd.mono ?_
  rintro y w1 ⟨rfl, t1⟩
  have HT := hide (tA.then t1)
  clear hrd t1 tA
  go_wp2
  go_ret2
  exact ⟨rfl, (unhide HT).alloc _⟩
set_option maxHeartbeats 1000000 in
theorem saveV_nil (w : World) (v : Value) : Calls Try.prog 14 #[.pointer none, v] w fun e w' => e = .returned (.int .i64 2) ∧ w' = w := by
  go_enter Try.func14, Try.ntmps14
  go_wp2
  go_ret
  exact ⟨rfl, rfl⟩
set_option maxHeartbeats 1000000 in
theorem lastV_nil (w : World) : Calls Try.prog 9 #[.pointer none] w fun e w' => e = .returned (.tuple #[.slice none 0 0, .int .u64 0, .bool false]) ∧ w' = w := by
  go_enter Try.func9, Try.ntmps9
  go_wp2
  go_ret3
  exact ⟨rfl, rfl⟩

/-- opened where all is safe -/
theorem open_fine (w : World) (F : Nat → Prop) (D : Nat) (S : Dk) (n : Nat) (L : List Int) (d : DAt w D F S) (h : Quiet S n L) (hd : S.down = false) (hL : Few n L) :
    Calls Try.prog 5 #[.pointer (some ⟨D, 0, none⟩)] w fun e w' => ∃ X, e = .returned (.tuple #[.pointer (some ⟨X, 0, none⟩), .int .i64 0]) ∧ Turn (fun _ => False) w w' ∧ w.heap.size ≤ X ∧ VAt w' (NF w F) X D ⟨n, L, false⟩ S := by
  have ho := open_quiet h hd hL
  refine (openV_w w F D S d h.bytes).mono ?_
  rintro e w' ⟨p, rfl, t, hh⟩
  rw [ho]
  rw [ho] at hh
  rcases hh with ⟨_, X, rfl, hX, v⟩ | ⟨h0, _⟩
  · exact ⟨X, rfl, t, hX, v⟩
  · exact absurd rfl h0
theorem few_zero (n : Nat) (h : n < 1000) : Few n [] := ⟨(fun x hx => by cases hx), by simp, h⟩
theorem few_a (n : Nat) (h : n < 1000) : Few n [97] := ⟨(by intro x hx; rw [List.mem_singleton] at hx; subst hx; decide), by decide, h⟩

set_option maxRecDepth 100000 in
set_option maxHeartbeats 2000000 in
theorem awakeV (w : World) : Calls Try.prog 6 #[] w fun e w' => e = .returned (.bool true) ∧ Turn (fun _ => False) w w' := by
  have kc := fun (w : World) (C : Array Value) (n c : Nat) => Lib.run_convert_bytes_const (P := Try.prog) w 32 5 C n c Try.underlying32 Try.underlying5
  have hnew := New_walk 1000 w (by decide) (by decide)
  obtain ⟨S1, e1, q1, d1, a1, z1, u1, _⟩ := save_fine (S := newS 1000) (k := 1) (B := [97]) (quiet_new 1000) rfl rfl (few_zero 0 (by decide)) (few_a 1 (by decide)) (by simp [newS, used]) (by simp) (by simp)
  go_enter Try.func6, Try.ntmps6
  go_wp2_with fail
  refine hnew.mono ?_
  rintro e w1 ⟨rfl, t1, dd⟩
  go_wp2_with fail
  refine (open_fine w1 _ _ _ 0 [] dd (quiet_new 1000) rfl (few_zero 0 (by decide))).mono ?_
  rintro e w2 ⟨X, rfl, t2, hX, v2⟩
  have tA : Turn (fun _ => False) w2 (w2.alloc (.cells #[.int .u8 97] 5 (1, 2))) := (Turn.refl _ w2).alloc _
  have s1 := t1.size
  have s2 := t2.size
  have hsv := saveV_w (w2.alloc (.cells #[.int .u8 97] 5 (1, 2))) _ (fun j => j = w2.heap.size) X w.heap.size ⟨0, [], false⟩ (newS 1000) (.slice (some ⟨w2.heap.size, 0, none⟩) 1 1) [97] (v2.tight tA) (by
      refine .inr ⟨w2.heap.size, 0, 1, rfl, by decide, by decide, rfl, fun i hi => ?_⟩
      rw [World.cell?_alloc_mark, Nat.zero_add]
      simp at hi
      subst hi; rfl) (fun j hj _ hh => by have := hh.2; omega) (few_a 1 (by decide)).1 (by decide) (by decide)
  rw [e1] at hsv
  simp only at hsv
  have HT := hide (And.intro (t1.then t2) tA)
  clear t1 t2 tA v2 dd hnew
  go_wp2_with (first | (go_at_call 14; refine hsv.mono ?_; rintro e w3 ⟨rfl, t3, v3⟩; have hls := lastV_w w3 _ X w.heap.size _ _ v3 (by decide) (fun h => by cases h)))
  clear hsv
  go_wp2_with fail
  refine hls.mono ?_
  rintro e w4 ⟨lv, rfl, o4, f4, t4⟩
  have hcv := conv_row (row_of_sl (ys := [97]) o4)
  rw [show strOfNums [97] = (⟨#[97]⟩ : ByteArray) by decide +kernel] at hcv
  obtain ⟨ua, uc, rfl⟩ := o4.form
  rw [show ([97] : List Int).length = 1 from rfl] at *
  obtain ⟨T2, tA⟩ := unhide HT
  have T3 : Turn (fun j => w.heap.size ≤ j) w w3 := (T2.then tA |>.mono (fun _ h => h.elim)).trans t3 (fun j hj => by
    rcases hj.1 with h | h
    · exact .inl h
    · exact .inr (by omega))
  have HF := hide ((T3.then (t4.mono (fun _ h => h.elim))).fresh (Nat.le_refl _))
  clear o4 t4 t3 T2 tA T3 HT hls v3 f4
  go_wp2
  go_ret
  exact ⟨rfl, unhide HF⟩
end Go.Proofs.Ytodnnblnchjeiaa
