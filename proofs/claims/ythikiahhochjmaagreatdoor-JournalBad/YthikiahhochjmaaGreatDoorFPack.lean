/- A frame made: a number in four bytes, the sum of a length and of what is carried, Pack; the program is awake. -/
import Derived.Test.YthikiahhochjmaaGreatDoorFPure
import Derived.Test.YthikiahhochjmaaGreatDoorKAdd
import Derived.Test.YthikiahhochjmaaGreatDoorPack1
import Derived.Lib.SlBytesConst
namespace Go.Proofs.YthikiahhochjmaaGreatDoor
open Go.RowKit Go.Maps
set_option linter.unusedVariables false
set_option linter.unusedSimpArgs false

theorem num4_at (v j : Nat) (h : j < 4) : (num4 v)[j]? = some (((v / 2 ^ (8 * j) % 256 : Nat) : Int)) := by
  match j, h with
  | 0, _ => simp [num4]
  | 1, _ => simp [num4]
  | 2, _ => simp [num4]
  | 3, _ => simp [num4]
theorem cast_byte (v k : Nat) : (v : Int) / 2 ^ k % 256 = ((v / 2 ^ k % 256 : Nat) : Int) := by
  have e : (v : Int) / 2 ^ k = ((v / 2 ^ k : Nat) : Int) := by push_cast; rfl
  rw [e]; omega
theorem num4_of (v : Nat) (ys : List Value) (hl : ys.length = 4) (h : ∀ j, j < 4 → ys[j]? = some (.int .u8 ((v / 2 ^ (8 * j) % 256 : Nat) : Int))) : ys = (num4 v).map (Value.int .u8) := by
  apply List.ext_getElem?
  intro j
  by_cases hj : j < 4
  · rw [h j hj, List.getElem?_map, num4_at v j hj]; rfl
  · rw [List.getElem?_eq_none (by omega), List.getElem?_eq_none (by simp [num4]; omega)]

theorem make_bytes (M : Nat) (hM : M ≤ 1048600) (u : World) : (Instr.makeSlice 33 (.int .i64 (M : Int)) (.int .i64 (M : Int))).run Tryz.prog u = .ok (.slice (some ⟨u.heap.size, 0, none⟩) M M) (u.alloc (.cells (List.replicate M (Value.int .u8 0)).toArray 5)) := by
  obtain ⟨i0, hi, hz0, hz1, hz2⟩ := info_parts info_u8
  have := run_make (P := Tryz.prog) u 33 5 i0 _ Tryz.underlying33 hi hz0 .i64 .i64 (M : Int) (M : Int) (by omega) (by omega) (by rw [hz2]; omega) (by omega)
  rw [hz1] at this
  rw [show (Value.int .u8 0).cells = #[Value.int .u8 0] from rfl] at this
  rw [← toList_madeCells_one]
  simpa using this
set_option maxHeartbeats 1000000 in
theorem word_walk (v : Nat) (w : World) (hv : v < 4294967296) :
    Calls Tryz.prog 57 #[.int .u32 (v : Int)] w fun e w' => ∃ x, e = .returned x ∧ OwnSl w' 5 1 x (num4 v).length ((num4 v).map (Value.int .u8)) ∧ (∀ j, x.ownBlock = some j → w.heap.size ≤ j) ∧ Turn (fun _ => False) w w' := by
  have hmk : ∀ u : World, (Instr.makeSlice 33 (.int .i64 4) (.int .i64 4)).run Tryz.prog u = .ok (.slice (some ⟨u.heap.size, 0, none⟩) 4 4) (u.alloc (.cells (List.replicate 4 (Value.int .u8 0)).toArray 5)) := fun u => make_bytes 4 (by omega) u
  have tA : Turn (fun _ => False) w (w.alloc (.cells (List.replicate 4 (Value.int .u8 0)).toArray 5)) := (Turn.refl _ w).alloc _
  have hO : OwnSl (w.alloc (.cells (List.replicate 4 (Value.int .u8 0)).toArray 5)) 5 1 (.slice (some ⟨w.heap.size, 0, none⟩) 4 4) 4 (List.replicate 4 (Value.int .u8 0)) :=
    ⟨by simp, .inr ⟨w.heap.size, 0, 4, _, rfl, heap_alloc_new w _, by omega, by unfold maxLen; omega, by simp, by simp⟩⟩
  generalize (List.replicate 4 (Value.int .u8 0)) = Z at *
  go_enter Tryz.func57, Tryz.ntmps57
  go_wp2_with fail
  generalize (w.alloc (.cells Z.toArray 5)) = wA at *
  clear hmk
  go_loopw [8] (fun i wr => ∃ k : Nat, k ≤ 4 ∧ i = .int .i64 (k : Int) ∧ ∃ ys : List Value, OwnSl wr 5 1 (.slice (some ⟨w.heap.size, 0, none⟩) 4 4) 4 ys ∧ Turn (fun _ => False) w wr ∧ Hid (∀ j, j < k → ys[j]? = some (.int .u8 ((v / 2 ^ (8 * j) % 256 : Nat) : Int)))) (fun i _ => 4 - (intOf i).toNat)
  case atStart => exact ⟨0, by omega, rfl, _, hO, tA, hide (fun j hj => by omega)⟩
  case round =>
    obtain ⟨k, hk, rfl, ys, hown, hT, hys⟩ := hrel
    by_cases hlt : k < 4
    · have hyl : ys.length = 4 := by have := hown.1; omega
      have hcl : wr.cell? ⟨w.heap.size, k, none⟩ = some (ys[k]'(by omega)) := by have := hown.cells k (ys[k]'(by omega)) (by simp); rwa [Nat.zero_add] at this
      have hst := hown.set k (by omega) (.int .u8 ((v / 2 ^ (8 * k) % 256 : Nat) : Int))
      rw [Nat.zero_add] at hst
      obtain ⟨hst, hfr⟩ := hst
      have hnew : Hid (∀ j, j < k + 1 → (ys.set k (.int .u8 ((v / 2 ^ (8 * k) % 256 : Nat) : Int)))[j]? = some (.int .u8 ((v / 2 ^ (8 * j) % 256 : Nat) : Int))) := by
        refine hide fun j hj => ?_
        by_cases e : j = k
        · subst e; rw [List.getElem?_set_self (by omega)]
        · rw [List.getElem?_set_ne (by omega)]; exact unhide hys j (by omega)
      have hT2 := hT.setCell (p := ⟨w.heap.size, k, none⟩) (.inr (Nat.le_refl _)) (.int .u8 ((v / 2 ^ (8 * k) % 256 : Nat) : Int))
      have Hst := hide hst
      clear hst
      generalize ys[k]'(by omega) = old at *
      clear hys hown
      go_wp2
      rw [cast_byte v (8 * k)]
      exact ⟨⟨k + 1, by omega, by go_num, _, unhide Hst, hT2, hnew⟩, by simp [intOf]; omega⟩
    · have hk4 : k = 4 := by omega
      subst hk4
      have he := num4_of v ys (by have := hown.1; omega) (unhide hys)
      subst he
      go_wp2
      go_ret
      exact ⟨_, rfl, hown, fun j hj => by simp [Value.ownBlock] at hj; omega, hT⟩

set_option maxHeartbeats 400000 in
theorem sumOf_walk (B B' : Nat → Prop) (v v' : Value) (n4 zs : List Int) (w : World) (hn : Bytes n4) (hb : Bytes zs) (hr : Row .u8 B w v n4) (hr' : Row .u8 B' w v' zs) :
    Calls Tryz.prog 58 #[v, v'] w fun e w' => e = .returned (.int .u32 ((sum2 n4 zs : Nat) : Int)) ∧ w' = w := by
  have hlt : sumAdd 0 (nat n4) < 4294967296 := sumAdd_lt _ _
  go_enter Tryz.func58, Tryz.ntmps58
  go_wp2_with fail
  refine (sum_walk B v n4 _ hn hr).mono ?_
  rintro e w1 ⟨rfl, rfl⟩
  go_wp2_with fail
  refine (add_walk B' v' zs _ _ hlt hb hr').mono ?_
  rintro e w1 ⟨rfl, rfl⟩
  go_wp2
  go_ret
  exact ⟨rfl, rfl⟩

/-- more bytes behind a row of one's own that is new -/
theorem push {w0 w1 : World} {v x : Value} {xs zs : List Int} (T : Turn (fun _ => False) w0 w1) (ho : OwnSl w1 5 1 v xs.length (xs.map (Value.int .u8))) (hf : ∀ j, v.ownBlock = some j → w0.heap.size ≤ j) (hx : Src 1 w1 x zs.length (zs.map (Value.int .u8))) (hm : xs.length + zs.length ≤ 140737488355328) :
    ∃ v' w2, (Builtin.append_ #[33, 33] 33 #[v, x]).run Tryz.prog w1 = .ok v' w2 ∧ OwnSl w2 5 1 v' (xs ++ zs).length ((xs ++ zs).map (Value.int .u8)) ∧ (∀ j, v'.ownBlock = some j → w0.heap.size ≤ j) ∧ Turn (fun _ => False) w0 w2 := by
  obtain ⟨i0, hi, hz0, hz1, hz2⟩ := info_parts info_u8
  obtain ⟨v', w2, h1, h2, h3, h4⟩ := append_src (P := Tryz.prog) (ty := 33) Tryz.underlying33 hi hz0 hz1 hz2 rfl (by omega) ho hx (ints_oneCell _ _) (by unfold maxLen; omega) (by omega)
  refine ⟨v', w2, h1, by rw [List.length_append, List.map_append]; exact h2, fun j hj => ?_, T.trans h3 (fun j hj => .inr (hf j hj))⟩
  rcases h4 j hj with h | h
  · exact hf j h
  · exact Nat.le_trans T.size h
theorem src_one (w : World) (x : Int) : Src 1 (w.alloc (.cells #[.int .u8 x] 5)) (.slice (some ⟨w.heap.size, 0, none⟩) 1 1) [x].length ([x].map (Value.int .u8)) :=
  ⟨rfl, .inr ⟨_, _, rfl, by simp, one_new w 5 (.int .u8 x)⟩⟩
theorem make_room (M : Nat) (hM : M ≤ 1048600) (u : World) : (Instr.makeSlice 33 (.int .i64 0) (.int .i64 (M : Int))).run Tryz.prog u = .ok (.slice (some ⟨u.heap.size, 0, none⟩) 0 M) (u.alloc (.cells (List.replicate M (Value.int .u8 0)).toArray 5)) := by
  obtain ⟨i0, hi, hz0, hz1, hz2⟩ := info_parts info_u8
  have := run_make (P := Tryz.prog) u 33 5 i0 _ Tryz.underlying33 hi hz0 .i64 .i64 0 (M : Int) (by omega) (by omega) (by rw [hz2]; omega) (by omega)
  rw [hz1] at this
  rw [show (Value.int .u8 0).cells = #[Value.int .u8 0] from rfl] at this
  rw [← toList_madeCells_one]
  simpa using this
theorem own_room (M : Nat) (hM : M ≤ 1048600) (u : World) (cur : List Value) (hc : cur.length = M) : OwnSl (u.alloc (.cells cur.toArray 5)) 5 1 (.slice (some ⟨u.heap.size, 0, none⟩) 0 M) ([] : List Int).length (([] : List Int).map (Value.int .u8)) :=
  ⟨by simp, .inr ⟨u.heap.size, 0, M, _, rfl, heap_alloc_new u _, Nat.zero_le _, by unfold maxLen; omega, by simp [hc], by simp⟩⟩

set_option maxRecDepth 20000 in
set_option maxHeartbeats 2000000 in
theorem Pack_walk (B : Nat → Prop) (v : Value) (zs : List Int) (w : World) (hb : Bytes zs) (hr : Row .u8 B w v zs) :
    Calls Tryz.prog 37 #[v] w fun e w' => ∃ x, e = .returned (.tuple #[x, .int .i64 (packC zs)]) ∧ OwnSl w' 5 1 x (packD zs).length ((packD zs).map (Value.int .u8)) ∧ (∀ j, x.ownBlock = some j → w.heap.size ≤ j) ∧ Turn (fun _ => False) w w' := by
  have hm := hr.len
  unfold maxLen at hm
  obtain ⟨a, c, rfl⟩ := hr.slice
  by_cases hbig : 1048576 < zs.length
  · have hC : packC zs = 4 := by unfold packC; rw [if_pos hbig]
    have hD : packD zs = [] := by unfold packD; rw [if_pos hbig]
    rw [hC, hD]
    clear hC hD hr
    generalize zs.length = n at *
    go_enter Tryz.func37, Tryz.ntmps37
    go_wp2
    go_ret2
    exact ⟨_, rfl, ⟨rfl, .inl ⟨rfl, rfl⟩⟩, fun j hj => by simp [Value.ownBlock] at hj, Turn.refl _ _⟩
  · have hC : packC zs = 0 := by unfold packC; rw [if_neg hbig]
    have hD : packD zs = packB zs := by unfold packD; rw [if_neg hbig]
    rw [hC, hD]
    clear hC hD
    have HB := hide hb
    go_enter Tryz.func37, Tryz.ntmps37
    go_wp2_with fail
    refine (word_walk zs.length _ (by omega)).mono ?_
    rintro e w1 ⟨x1, rfl, ho1, hf1, T1⟩
    have hr1 := hr.turn T1 (fun _ _ h => h)
    have hrow1 := row_of_sl ho1
    obtain ⟨a1, c1, rfl⟩ := hrow1.slice
    have h4 := num4_bytes zs.length
    have hlt := sum2_lt (num4 zs.length) zs
    go_wp2_with fail
    refine (sumOf_walk _ _ _ _ (num4 zs.length) zs _ h4 hb hrow1 hr1).mono ?_
    rintro e w2 ⟨rfl, rfl⟩
    go_wp2_with fail
    refine (word_walk (sum2 (num4 zs.length) zs) _ hlt).mono ?_
    rintro e w3 ⟨x3, rfl, ho3, hf3, T3⟩
    have hr3 := hr1.turn T3 (fun _ _ h => h)
    have ho13 := ho1.turn T3 (fun _ _ h => h)
    have T13 := T1.then T3
    obtain ⟨a3, c3, rfl⟩ := (row_of_sl ho3).slice
    have hmk : ∀ u : World, (Instr.makeSlice 33 (.int .i64 0) (.int .i64 (10 + (zs.length : Int)))).run Tryz.prog u = .ok (.slice (some ⟨u.heap.size, 0, none⟩) 0 (zs.length + 10)) (u.alloc (.cells (List.replicate (zs.length + 10) (Value.int .u8 0)).toArray 5)) := fun u => by
      have := make_room (zs.length + 10) (by omega) u
      rwa [show ((zs.length + 10 : Nat) : Int) = 10 + (zs.length : Int) by omega] at this
    have hO4 := own_room (zs.length + 10) (by omega) w3 (List.replicate (zs.length + 10) (Value.int .u8 0)) (by simp)
    generalize (List.replicate (zs.length + 10) (Value.int .u8 0)) = Z at *
    have T4 : Turn (fun _ => False) w3 (w3.alloc (.cells Z.toArray 5)) := (Turn.refl _ w3).alloc _
    have T5 := T4.alloc (.cells #[.int .u8 165] 5)
    have hf4 : ∀ j, (Value.slice (some ⟨w3.heap.size, 0, none⟩) 0 (zs.length + 10)).ownBlock = some j → w3.heap.size ≤ j := fun j hj => by simp [Value.ownBlock] at hj; omega
    have hO5 := hO4.turn ((Turn.refl (fun _ => False) _).alloc (.cells #[.int .u8 165] 5)) (fun _ _ h => h)
    have hs5 := src_one (w3.alloc (.cells Z.toArray 5)) 165
    obtain ⟨v6, w6, hrun6, hO6, hf6, T6⟩ := push T5 hO5 hf4 hs5 (by simp)
    rw [World.size_alloc] at hrun6
    obtain ⟨v7, w7, hrun7, hO7, hf7, T7⟩ := push T6 hO6 hf6 ((src_row (row_of_sl ho13)).turn T6 (fun _ _ h => h)) (by simp [num4])
    obtain ⟨v8, w8, hrun8, hO8, hf8, T8⟩ := push T7 hO7 hf7 ((src_row (row_of_sl ho3)).turn T7 (fun _ _ h => h)) (by simp [num4])
    obtain ⟨v9, w9, hrun9, hO9, hf9, T9⟩ := push T8 hO8 hf8 ((src_row hr3).turn T8 (fun _ _ h => h)) (by simp [num4]; omega)
    have T10 := T9.alloc (.cells #[.int .u8 90] 5)
    have hO10 := hO9.turn ((Turn.refl (fun _ => False) _).alloc (.cells #[.int .u8 90] 5)) (fun _ _ h => h)
    obtain ⟨v11, w11, hrun11, hO11, hf11, T11⟩ := push T10 hO10 hf9 (src_one w9 90) (by simp [num4]; omega)
    have hpk : [] ++ [165] ++ num4 zs.length ++ num4 (sum2 (num4 zs.length) zs) ++ zs ++ [90] = packB zs := by simp [packB]
    rw [hpk] at hO11
    have Tend := T13.then T11
    have hfe : ∀ j, v11.ownBlock = some j → w.heap.size ≤ j := fun j hj => Nat.le_trans T13.size (hf11 j hj)
    have HO11 := hide hO11
    clear hO4 hO5 hO6 hO7 hO8 hO9 hO10 hO11 hf4 hf6 hf7 hf8 hf9 hf11 T4 T5 T6 T7 T8 T9 T10 T11 hs5 hpk ho13 ho1 ho3 hf1 hf3 T1 T3 T13 hr hr1 hr3 hb h4
    go_wp2_with (first | (at_builtin; refine list_append_run rfl (.tmp 22) (.tmp 23) 33 rfl _ _ _ _ rfl rfl hrun6 ?_) | (at_builtin; refine list_append_run rfl (.tmp 25) (.tmp 26) 33 rfl _ _ _ _ rfl rfl hrun7 ?_) | (at_builtin; refine list_append_run rfl (.tmp 28) (.tmp 29) 33 rfl _ _ _ _ rfl rfl hrun8 ?_) | (at_builtin; refine list_append_run rfl (.tmp 31) (.tmp 32) 33 rfl _ _ _ _ rfl rfl hrun9 ?_) | (at_builtin; refine list_append_run rfl (.tmp 34) (.tmp 35) 33 rfl _ _ _ _ rfl rfl hrun11 ?_))
    go_ret2
    exact ⟨v11, rfl, unhide HO11, hfe, Tend⟩

end Go.Proofs.YthikiahhochjmaaGreatDoor
