/- The reference's frames: Pack, Take. -/
import Derived.Test.YtkmeedefaceknaaFTake
import Derived.Test.YtkmeedefaceknaaKRef
namespace Go.Proofs.Ytkmeedefaceknaa
open Go.RowKit Go.Maps
set_option linter.unusedVariables false
set_option linter.unusedSimpArgs false

theorem cast8 (v : Nat) : (v : Int) / 256 % 256 = ((v / 256 % 256 : Nat) : Int) ∧ (v : Int) / 65536 % 256 = ((v / 65536 % 256 : Nat) : Int) ∧ (v : Int) / 16777216 % 256 = ((v / 16777216 % 256 : Nat) : Int) ∧ (v : Int) % 256 = ((v % 256 : Nat) : Int) := by omega
set_option maxHeartbeats 1000000 in
theorem rnumber_walk (v : Nat) (w : World) (hv : v < 4294967296) :
    Calls Try.prog 24 #[.int .u32 (v : Int)] w fun e w' => ∃ x, e = .returned x ∧ OwnSl w' 5 1 x (num4 v).length ((num4 v).map (Value.int .u8)) ∧ (∀ j, x.ownBlock = some j → w.heap.size ≤ j) ∧ Turn (fun _ => False) w w' := by
  go_enter Try.func24, Try.ntmps24
  go_wp2
  go_ret
  refine ⟨_, rfl, ⟨rfl, .inr ⟨w.heap.size, 0, 4, _, rfl, heap_alloc_new w _, Nat.le_refl _, by unfold maxLen; omega, by simp, ?_⟩⟩, fun j hj => ?_, (Turn.refl _ w).alloc _⟩
  · simp [num4]; omega
  · simp [Value.ownBlock] at hj; omega

set_option maxHeartbeats 1000000 in
theorem of_walk (B : Nat → Prop) (v : Value) (zs : List Int) (w : World) (hl : zs.length = 4) (hb : Bytes zs) (hr : Row .u8 B w v zs) :
    Calls Try.prog 32 #[v] w fun e w' => e = .returned (.int .u32 ((of4 zs : Nat) : Int)) ∧ ∃ n, w' = w.drewN n := by
  obtain ⟨b, off, c, rfl, hc, _, hcell⟩ := row_at hr (by omega)
  have o0 := of4_or zs hl hb 0 (by omega)
  have o1 := of4_or zs hl hb 1 (by omega)
  have o2 := of4_or zs hl hb 2 (by omega)
  have o3 := of4_or zs hl hb 3 (by omega)
  have p1 := of4_part zs hl hb 0 (by omega)
  have hx0 := getD_byte hb (show 0 < zs.length by omega)
  have hx1 := getD_byte hb (show 1 < zs.length by omega)
  have hx2 := getD_byte hb (show 2 < zs.length by omega)
  have hx3 := getD_byte hb (show 3 < zs.length by omega)
  have c0 := hcell 0 (by omega)
  have c1 := hcell 1 (by omega)
  have c2 := hcell 2 (by omega)
  have c3 := hcell 3 (by omega)
  rw [Nat.add_zero] at c0
  have e0 : ((of4 (zs.take 1) : Nat) : Int) = zs.getD 0 0 := by
    rw [p1.2.1, List.take_zero, Nat.mul_zero, Nat.pow_zero, Nat.mul_one, show of4 [] = 0 from rfl, Nat.zero_add]; omega
  rw [e0] at o1
  rw [List.take_of_length_le (i := 3 + 1) (by omega)] at o3
  rw [hl]
  clear hcell hr hb hc hl p1 o0 e0
  generalize zs.getD 0 0 = y0 at *
  generalize zs.getD 1 0 = y1 at *
  generalize zs.getD 2 0 = y2 at *
  generalize zs.getD 3 0 = y3 at *
  go_enter Try.func32, Try.ntmps32
  go_wp2
  go_quiet (fail)
  go_wp2
  go_ret
  refine ⟨ret_int ?_, _, rfl⟩
  rw [show y1 % 4294967296 * 2 ^ (8 * 1) % 4294967296 = y1 * 256 by omega] at o1
  rw [show y2 % 4294967296 * 2 ^ (8 * 2) % 4294967296 = y2 * 65536 by omega] at o2
  rw [show y3 % 4294967296 * 2 ^ (8 * 3) % 4294967296 = y3 * 16777216 by omega] at o3
  rw [o1, o2, o3]

set_option maxHeartbeats 2000000 in
theorem rPack_walk (B : Nat → Prop) (v : Value) (zs : List Int) (w : World) (hb : Bytes zs) (hr : Row .u8 B w v zs) :
    Calls Try.prog 11 #[v] w fun e w' => ∃ x, e = .returned (.tuple #[x, .int .i64 (packC zs)]) ∧ OwnSl w' 5 1 x (packD zs).length ((packD zs).map (Value.int .u8)) ∧ (∀ j, x.ownBlock = some j → w.heap.size ≤ j) ∧ Turn (fun _ => False) w w' := by
  have hm := hr.len
  unfold maxLen at hm
  obtain ⟨a, c, rfl⟩ := hr.slice
  by_cases hbig : 1048576 < zs.length
  · have hC : packC zs = 4 := by unfold packC; rw [if_pos hbig]
    have hD : packD zs = [] := by unfold packD; rw [if_pos hbig]
    rw [hC, hD]
    clear hC hD hr
    generalize zs.length = n at *
    go_enter Try.func11, Try.ntmps11
    go_wp2
    go_ret2
    exact ⟨_, rfl, ⟨rfl, .inl ⟨rfl, rfl⟩⟩, fun j hj => by simp [Value.ownBlock] at hj, Turn.refl _ _⟩
  · have hC : packC zs = 0 := by unfold packC; rw [if_neg hbig]
    have hD : packD zs = packB zs := by unfold packD; rw [if_neg hbig]
    rw [hC, hD]
    clear hC hD
    go_enter Try.func11, Try.ntmps11
    go_wp2_with fail
    refine (rnumber_walk zs.length _ (by omega)).mono ?_
    rintro e w1 ⟨x1, rfl, ho1, hf1, T1⟩
    have hr1 := hr.turn T1 (fun _ _ h => h)
    obtain ⟨a1, c1, rfl⟩ := (row_of_sl ho1).slice
    have h4 := num4_bytes zs.length
    have hlt := sum2_lt (num4 zs.length) zs
    have hlt0 : sumAdd 0 (nat (num4 zs.length)) < 4294967296 := sumAdd_lt _ _
    have T2 := (Turn.refl (fun _ => False) w1).alloc (.cells #[.int .u8 165] 5)
    have hO2 : OwnSl (w1.alloc (.cells #[.int .u8 165] 5)) 5 1 (.slice (some ⟨w1.heap.size, 0, none⟩) 1 1) [165].length ([165].map (Value.int .u8)) :=
      ⟨rfl, .inr ⟨w1.heap.size, 0, 1, _, rfl, heap_alloc_new w1 _, by simp, by unfold maxLen; omega, by simp, by simp⟩⟩
    have hf2 : ∀ j, (Value.slice (some ⟨w1.heap.size, 0, none⟩) 1 1).ownBlock = some j → w1.heap.size ≤ j := fun j hj => by simp [Value.ownBlock] at hj; omega
    obtain ⟨v3, w3, hrun3, hO3, hf3, T3⟩ := push T2 hO2 hf2 ((src_row (row_of_sl ho1)).turn T2 (fun _ _ h => h)) (by simp [num4])
    have hrow1 := row_of_sl (ho1.turn T3 (fun _ _ h => h))
    have hr3 := hr1.turn T3 (fun _ _ h => h)
    clear hO2 hf2 T2 ho1
    go_wp2_with (at_builtin; refine list_append_run rfl (.tmp 13) (.tmp 14) 22 rfl _ _ _ _ rfl rfl hrun3 ?_)
    refine (refsum_walk _ _ (num4 zs.length) _ h4 hrow1).mono ?_
    rintro e w4 ⟨rfl, rfl⟩
    go_wp2_with fail
    refine (refadd_walk _ _ zs _ _ hlt0 hb hr3).mono ?_
    rintro e w4 ⟨rfl, rfl⟩
    go_wp2_with fail
    refine (rnumber_walk (sum2 (num4 zs.length) zs) _ hlt).mono ?_
    rintro e w5 ⟨x5, rfl, ho5, hf5, T5⟩
    have T35 := T3.then T5
    have hr5 := hr3.turn T5 (fun _ _ h => h)
    obtain ⟨a5, c5, rfl⟩ := (row_of_sl ho5).slice
    obtain ⟨v6, w6, hrun6, hO6, hf6, T6⟩ := push T35 (hO3.turn T5 (fun _ _ h => h)) hf3 (src_row (row_of_sl ho5)) (by simp [num4])
    obtain ⟨v7, w7, hrun7, hO7, hf7, T7⟩ := push T6 hO6 hf6 ((src_row hr1).turn T6 (fun _ _ h => h)) (by simp [num4]; omega)
    have T8 := T7.alloc (.cells #[.int .u8 90] 5)
    have hO8 := hO7.turn ((Turn.refl (fun _ => False) _).alloc (.cells #[.int .u8 90] 5)) (fun _ _ h => h)
    obtain ⟨v9, w9, hrun9, hO9, hf9, T9⟩ := push T8 hO8 hf7 (src_one w7 90) (by simp [num4]; omega)
    have hpk : [165] ++ num4 zs.length ++ num4 (sum2 (num4 zs.length) zs) ++ zs ++ [90] = packB zs := by simp [packB]
    rw [hpk] at hO9
    have Tend := T1.then T9
    have hfe : ∀ j, v9.ownBlock = some j → w.heap.size ≤ j := fun j hj => Nat.le_trans T1.size (hf9 j hj)
    have HO9 := hide hO9
    clear hO3 hO6 hO7 hO8 hO9 hf3 hf6 hf7 hf9 T3 T5 T35 T6 T7 T8 T9 hpk ho5 hf1 hf5 T1 hr hr1 hr3 hr5 hb h4 hrow1 hrun3
    go_wp2_with (first | (at_builtin; refine list_append_run rfl (.tmp 16) (.tmp 21) 22 rfl _ _ _ _ rfl rfl hrun6 ?_) | (at_builtin; refine list_append_run rfl (.tmp 23) (.tmp 24) 22 rfl _ _ _ _ rfl rfl hrun7 ?_) | (at_builtin; refine list_append_run rfl (.tmp 25) (.tmp 26) 22 rfl _ _ _ _ rfl rfl hrun9 ?_))
    go_ret2
    exact ⟨v9, rfl, unhide HO9, hfe, Tend⟩

set_option maxHeartbeats 4000000 in
theorem rTake_walk (B : Nat → Prop) (v : Value) (zs : List Int) (w : World) (hb : Bytes zs) (hr : Row .u8 B w v zs) :
    Calls Try.prog 16 #[v] w fun e w' => ∃ x, e = .returned (.tuple #[x, .int .i64 (((takeT zs).2.1 : Nat) : Int), .int .i64 (takeT zs).2.2]) ∧ OwnSl w' 5 1 x (takeT zs).1.length ((takeT zs).1.map (Value.int .u8)) ∧ (∀ j, x.ownBlock = some j → w.heap.size ≤ j) ∧ Turn (fun _ => False) w w' := by
  have hm := hr.len
  unfold maxLen at hm
  have none_ok : ∀ (w : World), OwnSl w 5 1 (.slice none 0 0) ([] : List Int).length (([] : List Int).map (Value.int .u8)) := fun w => ⟨rfl, .inl ⟨rfl, rfl⟩⟩
  have none_new : ∀ j, (Value.slice none 0 0).ownBlock = some j → w.heap.size ≤ j := fun j hj => by simp [Value.ownBlock] at hj
  by_cases h0 : zs.length = 0
  · have hT : takeT zs = ([], 0, 6) := by unfold takeT; rw [if_pos h0]
    rw [hT]
    obtain ⟨a, c, rfl⟩ := hr.slice
    rw [h0]
    clear hT hr hm h0
    go_enter Try.func16, Try.ntmps16
    go_wp2
    go_ret3
    exact ⟨_, rfl, none_ok _, none_new, Turn.refl _ _⟩
  obtain ⟨b, off, c, rfl, hc, _, hcell⟩ := row_at hr (by omega)
  have c0 := hcell 0 (by omega)
  rw [Nat.add_zero] at c0
  by_cases h1 : zs.getD 0 0 ≠ 165 ∧ zs.getD 0 0 ≠ 0
  · have hT : takeT zs = ([], 0, 10) := by unfold takeT; rw [if_neg h0, if_pos h1]
    rw [hT]
    clear hT hr hcell
    generalize zs.getD 0 0 = x at *
    generalize zs.length = n at *
    have n1 : (x != 165) = true := by simpa using h1.1
    have n2 : (x != 0) = true := by simpa using h1.2
    clear h1
    go_enter Try.func16, Try.ntmps16
    go_wp2
    go_ret3
    exact ⟨_, rfl, none_ok _, none_new, Turn.refl _ _⟩
  by_cases h2 : zs.getD 0 0 = 0
  · have hT : takeT zs = ([], 0, 9) := by unfold takeT; rw [if_neg h0, if_neg h1, if_pos (.inl h2)]
    rw [hT]
    rw [h2] at c0
    clear hT hr hcell h1 h2
    generalize zs.length = n at *
    go_enter Try.func16, Try.ntmps16
    go_wp2
    go_ret3
    exact ⟨_, rfl, none_ok _, none_new, Turn.refl _ _⟩
  have h165 : zs.getD 0 0 = 165 := by omega
  rw [h165] at c0
  by_cases h3 : zs.length < 10
  · have hT : takeT zs = ([], 0, 9) := by unfold takeT; rw [if_neg h0, if_neg h1, if_pos (.inr h3)]
    rw [hT]
    clear hT hr hcell h1 h2 h165
    generalize zs.length = n at *
    go_enter Try.func16, Try.ntmps16
    go_wp2
    go_ret3
    exact ⟨_, rfl, none_ok _, none_new, Turn.refl _ _⟩
  have hT : takeT zs = if 1048576 < of4 (zs.drop 1) then ([], 0, 10) else if zs.length < 10 + of4 (zs.drop 1) ∨ zs.getD (9 + of4 (zs.drop 1)) 0 = 0 then ([], 0, 9) else
      if zs.getD (9 + of4 (zs.drop 1)) 0 ≠ 90 then ([], 0, 10) else
      if of4 (zs.drop 5) ≠ sum2 ((zs.drop 1).take 4) ((zs.drop 9).take (of4 (zs.drop 1))) then ([], 0, 11) else ((zs.drop 9).take (of4 (zs.drop 1)), 10 + of4 (zs.drop 1), 0) := by
    unfold takeT
    rw [if_neg h0, if_neg h1, if_neg (by omega)]
  obtain ⟨x1, hx1, hrow1⟩ := mid_u8 hr 1 4 (by omega)
  obtain ⟨x5, hx5, hrow5⟩ := mid_u8 hr 5 4 (by omega)
  have hx1' : ∀ u : World, (Instr.slice 22 (.slice (some ⟨b, off, none⟩) zs.length c) (some (.int .i64 1)) (some (.int .i64 5)) none).run Try.prog u = .ok x1 u := hx1
  have hx5' : ∀ u : World, (Instr.slice 22 (.slice (some ⟨b, off, none⟩) zs.length c) (some (.int .i64 5)) (some (.int .i64 9)) none).run Try.prog u = .ok x5 u := hx5
  have hL1 : ((zs.drop 1).take 4).length = 4 := by simp; omega
  have hL5 : ((zs.drop 5).take 4).length = 4 := by simp; omega
  have hB1 : Bytes ((zs.drop 1).take 4) := (hb.drop 1).take 4
  have hB5 : Bytes ((zs.drop 5).take 4) := (hb.drop 5).take 4
  have hn1 := of_walk B x1 _ w hL1 hB1 hrow1
  have hn5 : ∀ n : Nat, Calls Try.prog 32 #[x5] (w.drewN n) fun e w'' => e = .returned (.int .u32 ((of4 (zs.drop 5) : Nat) : Int)) ∧ ∃ m, w'' = (w.drewN n).drewN m := by
    intro n
    have := of_walk B x5 _ (w.drewN n) hL5 hB5 (hrow5.turn ((Turn.refl (fun _ => False) w).drewN n) (fun _ _ h => h))
    rwa [of4_take] at this
  rw [of4_take] at hn1
  rw [hT]
  have hlt := of4_lt _ (hb.drop 1)
  have Hcell := hide hcell
  clear hT hx1 hx5 hcell h1 h2 h165
  generalize hN : of4 (zs.drop 1) = N at *
  by_cases hbig : 1048576 < N
  · rw [if_pos hbig]
    clear hn5 hrow1 hrow5 hL1 hL5 hB1 hB5 hN hr
    generalize zs.length = n at *
    go_enter Try.func16, Try.ntmps16
    go_wp2_with fail
    refine hn1.mono ?_
    rintro e w1 ⟨rfl, m, hw1⟩
    have TN : Turn (fun _ => False) w w1 := by subst hw1; exact (Turn.refl (fun _ => False) w).drewN m
    clear hw1
    go_wp2
    go_ret3
    exact ⟨_, rfl, none_ok _, none_new, TN⟩
  · rw [if_neg hbig]
    by_cases h4 : zs.length < 10 + N
    · rw [if_pos (.inl h4)]
      clear hn5 hrow1 hrow5 hL1 hL5 hB1 hB5 hN hr
      generalize zs.length = n at *
      go_enter Try.func16, Try.ntmps16
      go_wp2_with fail
      refine hn1.mono ?_
      rintro e w1 ⟨rfl, m, hw1⟩
      have TN : Turn (fun _ => False) w w1 := by subst hw1; exact (Turn.refl (fun _ => False) w).drewN m
      clear hw1
      go_wp2
      go_ret3
      exact ⟨_, rfl, none_ok _, none_new, TN⟩
    have cN := unhide Hcell (9 + N) (by omega)
    by_cases h5 : zs.getD (9 + N) 0 = 0
    · rw [if_pos (.inr h5)]
      rw [h5] at cN
      clear hn5 hrow1 hrow5 hL1 hL5 hB1 hB5 hN hr Hcell h5
      generalize zs.length = n at *
      go_enter Try.func16, Try.ntmps16
      go_wp2_with fail
      refine hn1.mono ?_
      rintro e w1 ⟨rfl, m, hw1⟩
      have TN : Turn (fun _ => False) w w1 := by subst hw1; exact (Turn.refl (fun _ => False) w).drewN m
      have cN1 := TN.cell cN (fun h => h)
      clear hw1 cN c0
      go_wp2
      go_ret3
      exact ⟨_, rfl, none_ok _, none_new, TN⟩
    rw [if_neg (by omega)]
    by_cases h6 : zs.getD (9 + N) 0 ≠ 90
    · rw [if_pos h6]
      clear hn5 hrow1 hrow5 hL1 hL5 hB1 hB5 hN hr Hcell
      generalize zs.getD (9 + N) 0 = x at *
      have n1 : (x != 90) = true := by simpa using h6
      have n2 : (x == 0) = false := by simpa using h5
      clear h5 h6
      generalize zs.length = n at *
      go_enter Try.func16, Try.ntmps16
      go_wp2_with fail
      refine hn1.mono ?_
      rintro e w1 ⟨rfl, m, hw1⟩
      have TN : Turn (fun _ => False) w w1 := by subst hw1; exact (Turn.refl (fun _ => False) w).drewN m
      have cN1 := TN.cell cN (fun h => h)
      clear hw1 cN c0
      go_wp2
      go_ret3
      exact ⟨_, rfl, none_ok _, none_new, TN⟩
    rw [if_neg h6]
    have h90 : zs.getD (9 + N) 0 = 90 := by omega
    rw [h90] at cN
    obtain ⟨x9, hx9, hrow9⟩ := mid_u8 hr 9 N (by omega)
    have hx9' : ∀ u : World, (Instr.slice 22 (.slice (some ⟨b, off, none⟩) zs.length c) (some (.int .i64 9)) (some (.int .i64 (9 + (N : Int)))) none).run Try.prog u = .ok x9 u := fun u => by have := hx9 u; rwa [show ((9 + N : Nat) : Int) = 9 + (N : Int) by omega] at this
    have hB9 : Bytes ((zs.drop 9).take N) := (hb.drop 9).take N
    have hS1 : ∀ n : Nat, Calls Try.prog 26 #[x1] (w.drewN n) fun e w'' => e = .returned (.int .u32 ((sumAdd 0 (nat ((zs.drop 1).take 4)) : Nat) : Int)) ∧ w'' = w.drewN n := fun n =>
      refsum_walk B x1 _ _ hB1 (hrow1.turn ((Turn.refl (fun _ => False) w).drewN n) (fun _ _ h => h))
    have hS2 : ∀ n : Nat, Calls Try.prog 25 #[.int .u32 ((sumAdd 0 (nat ((zs.drop 1).take 4)) : Nat) : Int), x9] (w.drewN n) fun e w'' => e = .returned (.int .u32 ((sum2 ((zs.drop 1).take 4) ((zs.drop 9).take N) : Nat) : Int)) ∧ w'' = w.drewN n := fun n =>
      refadd_walk B x9 _ _ _ (sumAdd_lt _ _) hB9 (hrow9.turn ((Turn.refl (fun _ => False) w).drewN n) (fun _ _ h => h))
    have hl9 : ((zs.drop 9).take N).length = N := by simp; omega
    clear hx9 hL1 hL5 hB1 hB5 hB9 hrow5 hrow1 hN h5 h6 h90 Hcell hr
    generalize (zs.drop 9).take N = Y at *
    generalize sumAdd 0 (nat ((zs.drop 1).take 4)) = s0 at *
    generalize sum2 ((zs.drop 1).take 4) Y = s2 at *
    generalize of4 (zs.drop 5) = s1 at *
    have HL := hide hl9
    clear hl9
    generalize zs.length = n at *
    by_cases hs : s1 = s2
    · subst hs
      rw [if_neg (by simp)]
      go_enter Try.func16, Try.ntmps16
      go_wp2_with fail
      refine hn1.mono ?_
      rintro e w1 ⟨rfl, m, hw1⟩
      have TN : Turn (fun _ => False) w w1 := by subst hw1; exact (Turn.refl (fun _ => False) w).drewN m
      have cN1 := TN.cell cN (fun h => h)
      have hrow91 := hrow9.turn TN (fun _ _ h => h)
      have k5 : ∀ k, Calls Try.prog 32 #[x5] (w1.drewN k) fun e w'' => e = .returned (.int .u32 (s1 : Int)) ∧ ∃ m, w'' = (w1.drewN k).drewN m := fun k => by subst hw1; have := hn5 (m + k); rwa [← World.drewN_drewN] at this
      have k1 : ∀ k, Calls Try.prog 26 #[x1] (w1.drewN k) fun e w'' => e = .returned (.int .u32 (s0 : Int)) ∧ w'' = w1.drewN k := fun k => by subst hw1; have := hS1 (m + k); rwa [← World.drewN_drewN] at this
      have k2 : ∀ k, Calls Try.prog 25 #[.int .u32 (s0 : Int), x9] (w1.drewN k) fun e w'' => e = .returned (.int .u32 (s1 : Int)) ∧ w'' = w1.drewN k := fun k => by subst hw1; have := hS2 (m + k); rwa [← World.drewN_drewN] at this
      clear hw1 cN c0 hn5 hS1 hS2
      go_wp2_with fail
      go_quiet ((first | (go_at_call 32; exact Calls.quiet_of (k5 _)) | (go_at_call 26; exact Calls.quiet_of_same (k1 _)) | (go_at_call 25; exact Calls.quiet_of_same (k2 _))))
      have TN2 := TN.drewN nq
      have hrow92 := hrow91.turn ((Turn.refl (fun _ => False) w1).drewN nq) (fun _ _ h => h)
      obtain ⟨x, w3, hrun, hO, hf, T3⟩ := push (xs := []) (Turn.refl (fun _ => False) (w1.drewN nq)) (none_ok _) (fun j hj => by simp [Value.ownBlock] at hj) (src_row hrow92) (by rw [unhide HL]; simp; omega)
      rw [List.nil_append] at hO
      have HO := hide hO
      clear hO hrow92 hrow91 hrow9 k5 k1 k2
      have hf' : ∀ j, x.ownBlock = some j → w.heap.size ≤ j := fun j hj => Nat.le_trans TN2.size (hf j hj)
      go_wp2_with (at_builtin; refine list_append_run rfl _ _ 22 rfl _ _ _ _ rfl rfl hrun ?_)
      go_ret3
      refine ⟨x, ?_, unhide HO, hf', TN2.then T3⟩
      rw [show ((10 + N : Nat) : Int) = 10 + (N : Int) by omega]; rfl
    · rw [if_pos hs]
      have hne : ((s1 : Int) != (s2 : Int)) = true := by rw [bne_iff_ne]; omega
      clear hs
      go_enter Try.func16, Try.ntmps16
      go_wp2_with fail
      refine hn1.mono ?_
      rintro e w1 ⟨rfl, m, hw1⟩
      have TN : Turn (fun _ => False) w w1 := by subst hw1; exact (Turn.refl (fun _ => False) w).drewN m
      have cN1 := TN.cell cN (fun h => h)
      have k5 : ∀ k, Calls Try.prog 32 #[x5] (w1.drewN k) fun e w'' => e = .returned (.int .u32 (s1 : Int)) ∧ ∃ m, w'' = (w1.drewN k).drewN m := fun k => by subst hw1; have := hn5 (m + k); rwa [← World.drewN_drewN] at this
      have k1 : ∀ k, Calls Try.prog 26 #[x1] (w1.drewN k) fun e w'' => e = .returned (.int .u32 (s0 : Int)) ∧ w'' = w1.drewN k := fun k => by subst hw1; have := hS1 (m + k); rwa [← World.drewN_drewN] at this
      have k2 : ∀ k, Calls Try.prog 25 #[.int .u32 (s0 : Int), x9] (w1.drewN k) fun e w'' => e = .returned (.int .u32 (s2 : Int)) ∧ w'' = w1.drewN k := fun k => by subst hw1; have := hS2 (m + k); rwa [← World.drewN_drewN] at this
      clear hw1 cN c0 hn5 hS1 hS2 hrow9
      go_wp2_with fail
      go_quiet ((first | (go_at_call 32; exact Calls.quiet_of (k5 _)) | (go_at_call 26; exact Calls.quiet_of_same (k1 _)) | (go_at_call 25; exact Calls.quiet_of_same (k2 _))))
      have TN2 := TN.drewN nq
      go_wp2
      go_ret3
      exact ⟨_, rfl, none_ok _, none_new, TN2⟩
end Go.Proofs.Ytkmeedefaceknaa
