/- The smaller calls of disk: names, what is hit, a new disk. -/
import Derived.Test.YthikiahhochjmaaGreatDoorDBase
namespace Go.Proofs.YthikiahhochjmaaGreatDoor
open Go.RowKit Go.Maps
set_option linter.unusedVariables false

set_option maxHeartbeats 400000 in
theorem byte_walk (c : UInt8) (w : World) : Calls Tryz.prog 79 #[.int .u8 (c.toNat : Int)] w fun e w' => e = .returned (.bool (byteB c.toNat)) ∧ w' = w := by
  have hc : c.toNat < 256 := c.toNat_lt
  generalize c.toNat = n at *
  by_cases h1 : 97 ≤ n
  · by_cases h2 : n ≤ 122
    · go_enter Tryz.func79, Tryz.ntmps79
      go_wp2
      go_ret
      exact ⟨ret_bool (by simp [byteB, h1, h2]), rfl⟩
    · have h3 : 48 ≤ n := by omega
      have h4 : ¬ n ≤ 57 := by omega
      have h5 : ¬ n = 46 := by omega
      go_enter Tryz.func79, Tryz.ntmps79
      go_wp2
      go_ret
      exact ⟨ret_bool (by simp [byteB, h2, h4, h5]; omega), rfl⟩
  · by_cases h2 : 48 ≤ n
    · by_cases h3 : n ≤ 57
      · go_enter Tryz.func79, Tryz.ntmps79
        go_wp2
        go_ret
        exact ⟨ret_bool (by simp [byteB, h2, h3]), rfl⟩
      · have h5 : ¬ n = 46 := by omega
        go_enter Tryz.func79, Tryz.ntmps79
        go_wp2
        go_ret
        exact ⟨ret_bool (by simp [byteB, h1, h3, h5]; omega), rfl⟩
    · by_cases h5 : n = 46
      · subst h5
        clear h1 h2 hc
        go_enter Tryz.func79, Tryz.ntmps79
        go_wp2
        go_ret
        exact ⟨ret_bool rfl, rfl⟩
      · go_enter Tryz.func79, Tryz.ntmps79
        go_wp2
        go_ret
        refine ⟨ret_bool (.trans (b := false) ?_ ?_), rfl⟩
        · show ((n : Int) == 46) = false
          rw [beq_eq_false_iff_ne]; omega
        · unfold byteB; rw [decide_eq_false h1, decide_eq_false h2, decide_eq_false h5]; rfl

theorem goodB_take {n : Nm} (h1 : 1 ≤ n.length) (h2 : n.length ≤ 16) : goodB n = n.all (fun c => byteB c.toNat) := by unfold goodB; rw [decide_eq_true h1, decide_eq_true h2]; rfl
theorem bget (s : ByteArray) (k : Nat) (h : k < s.size) : s.data.toList[k]'(by simpa using h) = s[k] := rfl

set_option maxHeartbeats 400000 in
theorem name_walk (s : ByteArray) (w : World) (hs : s.size ≤ maxLen) : Calls Tryz.prog 63 #[.string s] w fun e w' => e = .returned (.bool (goodB s.data.toList)) ∧ w' = w := by
  unfold maxLen at hs
  have hl : s.data.toList.length = s.size := Array.length_toList
  by_cases h1 : 1 ≤ s.size
  · by_cases h2 : s.size ≤ 16
    · have hg := goodB_take (n := s.data.toList) (by omega) (by omega)
      have Hg := hide hg
      have Hl := hide hl
      clear hg hl
      go_enter Tryz.func63, Tryz.ntmps63
      go_wp2
      go_loop [14] (fun i => ∃ k : Nat, k ≤ s.size ∧ i = .int .i64 k ∧ Hid (∀ j (h : j < s.size), j < k → byteB (s[j]).toNat = true)) (fun i => s.size - (intOf i).toNat)
      case atStart => exact ⟨0, Nat.zero_le _, rfl, hide (fun j h h' => by omega)⟩
      case round =>
        obtain ⟨k, hk, rfl, hall⟩ := hrel
        by_cases hlt : k < s.size
        · cases hb : byteB (s[k]).toNat
          · have Hn : Hid (goodB s.data.toList = false) := by
              refine hide ?_
              rw [unhide Hg, List.all_eq_false]
              exact ⟨s[k], by rw [← bget s k hlt]; exact List.getElem_mem _, by rw [hb]; simp⟩
            go_wp2_with (go_at_call 79; refine (byte_walk _ _).mono ?_; rintro e w' ⟨rfl, rfl⟩)
            go_ret
            exact ⟨ret_bool (unhide Hn).symm, rfl⟩
          · go_wp2_with (go_at_call 79; refine (byte_walk _ _).mono ?_; rintro e w' ⟨rfl, rfl⟩)
            go_round
            case rel =>
              refine ⟨k + 1, by omega, by go_num, hide (fun j h h' => ?_)⟩
              by_cases e : j = k
              · subst e; exact hb
              · exact unhide hall j h (by omega)
            case measure => simp [intOf]; omega
        · have Hn : Hid (goodB s.data.toList = true) := by
            refine hide ?_
            rw [unhide Hg, List.all_eq_true]
            intro x hx
            obtain ⟨j, hj, rfl⟩ := List.getElem_of_mem hx
            have hj' : j < s.size := by rw [← unhide Hl]; exact hj
            rw [bget s j hj']
            exact unhide hall j hj' (by omega)
          go_wp2
          go_ret
          exact ⟨ret_bool (unhide Hn).symm, rfl⟩
    · have Hn : Hid (goodB s.data.toList = false) := hide (by simp [goodB, hl, h2])
      clear hl
      go_enter Tryz.func63, Tryz.ntmps63
      go_wp2
      go_ret
      exact ⟨ret_bool (unhide Hn).symm, rfl⟩
  · have Hn : Hid (goodB s.data.toList = false) := hide (by simp only [goodB, hl, h1]; simp)
    clear hl
    go_enter Tryz.func63, Tryz.ntmps63
    go_wp2
    go_ret
    exact ⟨ret_bool (unhide Hn).symm, rfl⟩

def readyC (S : Dk) : Int := if S.down then 3 else 0
set_option maxHeartbeats 400000 in
theorem ready_walk (w : World) (B : Nat) (mv : Option Nat) (E : List Ent) (S : Dk) (h : DMem w B mv E S) :
    Calls Tryz.prog 41 #[.pointer (some ⟨B, 0, none⟩)] w fun e w' => e = .returned (.int .i64 (readyC S)) ∧ w' = w := by
  have c2 : w.cell? ⟨B, 2, none⟩ = some (.bool S.down) := cell_obj h.obj 2
  clear h
  unfold readyC
  cases hd : S.down
  all_goals
    rw [hd] at c2
    go_enter Tryz.func41, Tryz.ntmps41
    go_wp2
    go_ret
    exact ⟨rfl, rfl⟩

set_option maxHeartbeats 400000 in
theorem refusal_walk (w : World) (B : Nat) (mv : Option Nat) (E : List Ent) (S : Dk) (s : ByteArray) (hs : s.size ≤ maxLen) (h : DMem w B mv E S) :
    Calls Tryz.prog 47 #[.pointer (some ⟨B, 0, none⟩), .string s] w fun e w' => e = .returned (.int .i64 (refuse S s.data.toList)) ∧ w' = w := by
  unfold refuse
  have hr := ready_walk w B mv E S h
  unfold readyC at hr
  clear h
  cases hd : S.down
  · rw [hd] at hr
    cases hg : goodB s.data.toList
    all_goals
      have hn := name_walk s w hs
      rw [hg] at hn
      clear hg hd
      go_enter Tryz.func47, Tryz.ntmps47
      go_wp2_with (first | (go_at_call 41; refine hr.mono ?_; rintro e w' ⟨rfl, rfl⟩) | (go_at_call 63; refine hn.mono ?_; rintro e w' ⟨rfl, rfl⟩))
      go_ret
      exact ⟨rfl, rfl⟩
  · rw [hd] at hr
    clear hd
    go_enter Tryz.func47, Tryz.ntmps47
    go_wp2_with (go_at_call 41; refine hr.mono ?_; rintro e w' ⟨rfl, rfl⟩)
    go_ret
    exact ⟨rfl, rfl⟩

set_option maxHeartbeats 400000 in
theorem down_walk (w : World) (B : Nat) (mv : Option Nat) (E : List Ent) (S : Dk) (h : DMem w B mv E S) :
    Calls Tryz.prog 10 #[.pointer (some ⟨B, 0, none⟩)] w fun e w' => e = .returned (.bool S.down) ∧ w' = w := by
  have c2 : w.cell? ⟨B, 2, none⟩ = some (.bool S.down) := cell_obj h.obj 2
  clear h
  generalize S.down = x at *
  go_enter Tryz.func10, Tryz.ntmps10
  go_wp2
  go_ret
  exact ⟨rfl, rfl⟩

/-- a disk whose files are as they were, and its other cells new ones -/
theorem DMem.re {w w' : World} {B : Nat} {mv : Option Nat} {E : List Ent} {S S' : Dk} (h : DMem w B mv E S) (t : Turn (fun j => j = B) w w')
    (hB : w'.heap[B]? = some (.cells #[.int .i64 (S'.size : Int), .map mv, .bool S'.down, .int .u64 (S'.arm : Int)] 66 (0, 0))) (hf : S'.fs = S.fs) (hw : Well S') : DMem w' B mv E S' := by
  refine ⟨hB, ?_, fun e he => (h.own e he).turn t (fun j hj => (h.own e he).neObj h.obj (by decide) j hj), h.apart, hf.trans h.fs, hw⟩
  rcases h.map with h1 | ⟨b, h1, h2⟩
  · exact .inl h1
  · refine .inr ⟨b, h1, t.map h2 (fun e => h.neB (by rw [h1, e]))⟩

theorem well_hit {S : Dk} (h : Well S) : Well (hitS S) := by
  unfold hitS; split
  · exact h
  · exact ⟨h.rise, h.good, h.room, h.size, h.files, by have := h.arm; simp; omega⟩

set_option maxHeartbeats 1000000 in
theorem hit_walk (w : World) (B : Nat) (mv : Option Nat) (E : List Ent) (S : Dk) (hd : S.down = false) (h : DMem w B mv E S) :
    Calls Tryz.prog 46 #[.pointer (some ⟨B, 0, none⟩)] w fun e w' => e = .returned (.bool (hitB S)) ∧ Turn (fun j => j = B) w w' ∧ DMem w' B mv E (hitS S) := by
  have hB := h.obj
  have c3 : w.cell? ⟨B, 3, none⟩ = some (.int .u64 (S.arm : Int)) := cell_obj hB 3
  have f3 : w.frozen? ⟨B, 3, none⟩ = false := frozen_obj hB 3
  have ha := h.well.arm
  have hwh := well_hit h.well
  by_cases h0 : S.arm = 0
  · have e1 : hitS S = S := by unfold hitS; rw [if_pos h0]
    have e2 : hitB S = false := by simp [hitB, h0]
    rw [e1, e2]
    rw [h0] at c3
    clear hB ha e1 e2 hwh f3 h0
    go_enter Tryz.func46, Tryz.ntmps46
    go_wp2
    go_ret
    exact ⟨rfl, Turn.refl _ _, h⟩
  · have c2 : w.cell? ⟨B, 2, none⟩ = some (.bool S.down) := cell_obj hB 2
    have f2 : w.frozen? ⟨B, 2, none⟩ = false := frozen_obj hB 2
    obtain ⟨k, hk⟩ : ∃ k, S.arm = k + 1 := ⟨S.arm - 1, by omega⟩
    have e1 : hitS S = { S with arm := k, down := decide (k = 0) } := by unfold hitS; rw [if_neg h0, hk]; simp
    have e2 : hitB S = decide (k = 0) := by simp [hitB, hk]
    rw [e1] at hwh ⊢
    rw [e2]
    rw [hk, show ((k + 1 : Nat) : Int) = (k : Int) + 1 by omega] at c3
    rw [hd] at c2
    have hk2 : (k : Int) ≤ 9223372036854775806 := by omega
    clear e1 e2 h0 ha
    have t1 : Turn (fun j => j = B) w (w.setCell ⟨B, 3, none⟩ (.int .u64 (k : Int))) := (Turn.refl (fun j => j = B) w).setCell (p := ⟨B, 3, none⟩) (.inl rfl) _
    have hB1 := heap_setCell_obj (j := 3) hB (.int .u64 (k : Int))
    have t2 : Turn (fun j => j = B) w ((w.setCell ⟨B, 3, none⟩ (.int .u64 (k : Int))).setCell ⟨B, 2, none⟩ (.bool (decide (k = 0)))) := t1.setCell (p := ⟨B, 2, none⟩) (.inl rfl) _
    have hB2 := heap_setCell_obj (j := 2) hB1 (.bool (decide (k = 0)))
    have m2 := h.re (S' := { S with arm := k, down := decide (k = 0) }) t2 (by rw [hB2]; rfl) rfl hwh
    clear hB1 hB2 hwh h hB t1 hk
    generalize hW : (w.setCell ⟨B, 3, none⟩ (.int .u64 (k : Int))).setCell ⟨B, 2, none⟩ (.bool (decide (k = 0))) = W at *
    have HW := hide hW
    clear hW
    have Hm := hide m2
    have Ht := hide t2
    clear m2 t2
    go_enter Tryz.func46, Tryz.ntmps46
    go_wp2
    go_ret
    have eb : ((k : Int) == 0) = decide (k = 0) := by rw [Bool.eq_iff_iff]; simp
    refine ⟨ret_bool eb, ?_⟩
    rw [eb, unhide HW]
    exact ⟨unhide Ht, unhide Hm⟩

/-- Arm -/
theorem well_arm {S : Dk} (h : Well S) (m : Int) (hm : m ≤ 9223372036854775807) : Well (armS S m) := ⟨h.rise, h.good, h.room, h.size, h.files, by simp [armS]; omega⟩
set_option maxHeartbeats 1000000 in
theorem arm_mem (w : World) (B : Nat) (mv : Option Nat) (E : List Ent) (S : Dk) (m : Int) (hm : m ≤ 9223372036854775807) (h : DMem w B mv E S) :
    Calls Tryz.prog 13 #[.pointer (some ⟨B, 0, none⟩), .int .i64 m] w fun e w' => e = .returned (.int .i64 0) ∧ Turn (fun j => j = B) w w' ∧ DMem w' B mv E (armS S m) := by
  have hB := h.obj
  have c3 : w.cell? ⟨B, 3, none⟩ = some (.int .u64 (S.arm : Int)) := cell_obj hB 3
  have f3 : w.frozen? ⟨B, 3, none⟩ = false := frozen_obj hB 3
  have t1 : Turn (fun j => j = B) w (w.setCell ⟨B, 3, none⟩ (.int .u64 (m.toNat : Int))) := (Turn.refl (fun j => j = B) w).setCell (p := ⟨B, 3, none⟩) (.inl rfl) _
  have hB1 := heap_setCell_obj (j := 3) hB (.int .u64 (m.toNat : Int))
  have m1 := h.re (S' := armS S m) t1 (by rw [hB1]; rfl) rfl (well_arm h.well m hm)
  have Hm := hide m1
  have Ht := hide t1
  clear m1 t1 hB1 hB h
  by_cases h0 : 0 ≤ m
  · have e : ((m.toNat : Nat) : Int) = m := by omega
    rw [e] at Hm Ht
    clear e
    go_enter Tryz.func13, Tryz.ntmps13
    go_wp2
    go_ret
    exact ⟨rfl, unhide Ht, unhide Hm⟩
  · have e : ((m.toNat : Nat) : Int) = 0 := by omega
    rw [e] at Hm Ht
    clear e
    go_enter Tryz.func13, Tryz.ntmps13
    go_wp2
    go_ret
    exact ⟨rfl, unhide Ht, unhide Hm⟩

def newS (n : Nat) : Dk := ⟨n, [], false, 0⟩
theorem well_new {n : Nat} (h : n ≤ 16777216) : Well (newS n) := ⟨List.Pairwise.nil, by simp [newS], Nat.zero_le _, h, Nat.zero_le _, Nat.zero_le _⟩
set_option maxHeartbeats 400000 in
theorem new_mem (n : Nat) (w : World) (h1 : 1 ≤ n) (h2 : n ≤ 16777216) :
    Calls Tryz.prog 26 #[.int .i64 (n : Int)] w fun e w' => e = .returned (.tuple #[.pointer (some ⟨w.heap.size, 0, none⟩), .int .i64 0]) ∧ Turn (fun _ => False) w w' ∧ DMem w' w.heap.size none [] (newS n) := by
  have t : Turn (fun _ => False) w (w.alloc (.cells #[.int .i64 (n : Int), .map none, .bool false, .int .u64 0] 66)) := (Turn.refl _ w).alloc _
  have m : DMem (w.alloc (.cells #[.int .i64 (n : Int), .map none, .bool false, .int .u64 0] 66)) w.heap.size none [] (newS n) :=
    ⟨heap_alloc_new w _, .inl ⟨rfl, rfl⟩, by simp, List.Pairwise.nil, rfl, well_new h2⟩
  have Hm := hide m
  have Ht := hide t
  clear m t
  go_enter Tryz.func26, Tryz.ntmps26
  go_wp2
  go_ret2
  exact ⟨rfl, unhide Ht, unhide Hm⟩
set_option maxHeartbeats 400000 in
theorem new_no (n : Int) (w : World) (h : n < 1 ∨ 16777216 < n) :
    Calls Tryz.prog 26 #[.int .i64 n] w fun e w' => e = .returned (.tuple #[.pointer none, .int .i64 1]) ∧ w' = w := by
  rcases h with h | h
  · go_enter Tryz.func26, Tryz.ntmps26
    go_wp2
    go_ret2
    exact ⟨rfl, rfl⟩
  · have h' : 1 ≤ n := by omega
    go_enter Tryz.func26, Tryz.ntmps26
    go_wp2
    go_ret2
    exact ⟨rfl, rfl⟩

set_option maxHeartbeats 400000 in
theorem sector_walk (n : Nat) (w : World) (h : n ≤ 16777216) : Calls Tryz.prog 70 #[.int .i64 (n : Int)] w fun e w' => e = .returned (.int .i64 (secEnd n : Nat)) ∧ w' = w := by
  by_cases h0 : n % 64 = 0
  · have e : secEnd n = n := by unfold secEnd; rw [if_pos h0]
    rw [e]
    have h0' : (n : Int) % 64 = 0 := by omega
    clear e h0
    go_enter Tryz.func70, Tryz.ntmps70
    go_wp2
    all_goals (try omega)
    go_ret
    exact ⟨rfl, rfl⟩
  · have e : ((secEnd n : Nat) : Int) = (n : Int) + 64 - (n : Int) % 64 := by unfold secEnd; rw [if_neg h0]; omega
    have h0' : ¬ (n : Int) % 64 = 0 := by omega
    have He := hide e
    clear e h0
    go_enter Tryz.func70, Tryz.ntmps70
    go_wp2
    all_goals (try omega)
    go_ret
    exact ⟨ret_int (unhide He).symm, rfl⟩
end Go.Proofs.YthikiahhochjmaaGreatDoor
