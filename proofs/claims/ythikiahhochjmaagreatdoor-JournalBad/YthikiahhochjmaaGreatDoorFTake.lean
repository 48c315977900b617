/- What bytes are as a frame: Take. -/
import Derived.Test.YthikiahhochjmaaGreatDoorFPack
namespace Go.Proofs.YthikiahhochjmaaGreatDoor
open Go.RowKit Go.Maps
set_option linter.unusedVariables false
set_option linter.unusedSimpArgs false

theorem row_at {k : IntKind} {B : Nat → Prop} {w : World} {v : Value} {zs : List Int} (h : Row k B w v zs) (h0 : 0 < zs.length) : ∃ b off c, v = .slice (some ⟨b, off, none⟩) zs.length c ∧ zs.length ≤ c ∧ c ≤ maxLen ∧ ∀ i, i < zs.length → w.cell? ⟨b, off + i, none⟩ = some (.int k (zs.getD i 0)) := by
  rcases h with ⟨a, c, rfl, _, _, rfl⟩ | ⟨b, off, c, rfl, h1, h2, h3, h4⟩
  · simp at h0
  · exact ⟨b, off, c, rfl, h1, h2, h4⟩
def begC (zs : List Int) : Int := if zs.length = 0 then 6 else if zs.getD 0 0 ≠ 165 ∧ zs.getD 0 0 ≠ 0 then 10 else if zs.getD 0 0 = 0 ∨ zs.length < 10 then 9 else 0
def endC (zs : List Int) (n : Nat) : Int := if zs.length ≤ n ∨ zs.getD n 0 = 0 then 9 else if zs.getD n 0 ≠ 90 then 10 else 0

set_option maxHeartbeats 1000000 in
theorem begin_walk (B : Nat → Prop) (v : Value) (zs : List Int) (w : World) (hr : Row .u8 B w v zs) :
    Calls Tryz.prog 129 #[v] w fun e w' => e = .returned (.int .i64 (begC zs)) ∧ w' = w := by
  have hm := hr.len
  unfold maxLen at hm
  by_cases h0 : zs.length = 0
  · have e : begC zs = 6 := by unfold begC; rw [if_pos h0]
    rw [e]
    obtain ⟨a, c, rfl⟩ := hr.slice
    rw [h0]
    clear e hr hm h0
    go_enter Tryz.func129, Tryz.ntmps129
    go_wp2
    go_ret
    exact ⟨rfl, rfl⟩
  · obtain ⟨b, off, c, rfl, hc, _, hcell⟩ := row_at hr (by omega)
    have c0 := hcell 0 (by omega)
    rw [Nat.add_zero] at c0
    have e : begC zs = if zs.getD 0 0 ≠ 165 ∧ zs.getD 0 0 ≠ 0 then 10 else if zs.getD 0 0 = 0 ∨ zs.length < 10 then 9 else 0 := by unfold begC; rw [if_neg h0]
    rw [e]
    clear e hr hcell
    generalize zs.getD 0 0 = x at *
    generalize zs.length = n at *
    by_cases h1 : x = 165
    · subst h1
      by_cases h2 : n < 10
      · rw [if_neg (by simp), if_pos (.inr h2)]
        go_enter Tryz.func129, Tryz.ntmps129
        go_wp2
        go_ret
        exact ⟨rfl, rfl⟩
      · rw [if_neg (by simp), if_neg (by omega)]
        go_enter Tryz.func129, Tryz.ntmps129
        go_wp2
        go_ret
        exact ⟨rfl, rfl⟩
    · by_cases h2 : x = 0
      · subst h2
        rw [if_neg (by simp), if_pos (.inl rfl)]
        go_enter Tryz.func129, Tryz.ntmps129
        go_wp2
        go_ret
        exact ⟨rfl, rfl⟩
      · rw [if_pos ⟨h1, h2⟩]
        have n1 : (x != 165) = true := by simpa using h1
        have n2 : (x != 0) = true := by simpa using h2
        clear h1 h2
        go_enter Tryz.func129, Tryz.ntmps129
        go_wp2
        go_ret
        exact ⟨rfl, rfl⟩

set_option maxHeartbeats 1000000 in
theorem end_walk (B : Nat → Prop) (v : Value) (zs : List Int) (n : Nat) (w : World) (hr : Row .u8 B w v zs) :
    Calls Tryz.prog 131 #[v, .int .i64 (n : Int)] w fun e w' => e = .returned (.int .i64 (endC zs n)) ∧ w' = w := by
  have hm := hr.len
  unfold maxLen at hm
  by_cases h0 : zs.length ≤ n
  · have e : endC zs n = 9 := by unfold endC; rw [if_pos (.inl h0)]
    rw [e]
    obtain ⟨a, c, rfl⟩ := hr.slice
    clear e hr
    generalize zs.length = m at *
    go_enter Tryz.func131, Tryz.ntmps131
    go_wp2
    go_ret
    exact ⟨rfl, rfl⟩
  · obtain ⟨b, off, c, rfl, hc, _, hcell⟩ := row_at hr (by omega)
    have c0 := hcell n (by omega)
    have e : endC zs n = if zs.getD n 0 = 0 then 9 else if zs.getD n 0 ≠ 90 then 10 else 0 := by
      unfold endC
      by_cases h : zs.getD n 0 = 0
      · rw [if_pos (.inr h), if_pos h]
      · rw [if_neg (by omega), if_neg h]
    rw [e]
    clear e hr hcell
    generalize zs.getD n 0 = x at *
    generalize zs.length = m at *
    by_cases h1 : x = 0
    · subst h1
      rw [if_pos rfl]
      go_enter Tryz.func131, Tryz.ntmps131
      go_wp2
      go_ret
      exact ⟨rfl, rfl⟩
    · by_cases h2 : x = 90
      · subst h2
        rw [if_neg (by simp), if_neg (by simp)]
        go_enter Tryz.func131, Tryz.ntmps131
        go_wp2
        go_ret
        exact ⟨rfl, rfl⟩
      · rw [if_neg h1, if_pos h2]
        have n1 : (x == 0) = false := by simpa using h1
        have n2 : (x != 90) = true := by simpa using h2
        clear h1 h2
        go_enter Tryz.func131, Tryz.ntmps131
        go_wp2
        go_ret
        exact ⟨rfl, rfl⟩

theorem or_step (x y k : Nat) (hx : x < 2 ^ k) (hy : y * 2 ^ k + x < 4294967296) : bits .or .u32 (x : Int) ((y : Int) % 4294967296 * 2 ^ k % 4294967296) = ((x + y * 2 ^ k : Nat) : Int) := by
  have hy1 : y ≤ y * 2 ^ k := Nat.le_mul_of_pos_right _ (Nat.two_pow_pos k)
  have e : (y : Int) % 4294967296 * 2 ^ k % 4294967296 = ((y * 2 ^ k : Nat) : Int) := by
    have e1 : (y : Int) % 4294967296 = (y : Int) := by omega
    have e2 : (y : Int) * 2 ^ k = ((y * 2 ^ k : Nat) : Int) := by push_cast; rfl
    rw [e1, e2]; omega
  rw [e, u32_or_nat _ _ (by omega) (by omega), Nat.or_comm, Nat.mul_comm, ← Nat.two_pow_add_eq_or_of_lt hx, Nat.add_comm]
theorem of4_part (zs : List Int) (hl : zs.length = 4) (hb : Bytes zs) (k : Nat) (hk : k < 4) : of4 (zs.take k) < 2 ^ (8 * k) ∧ of4 (zs.take (k + 1)) = of4 (zs.take k) + (zs.getD k 0).toNat * 2 ^ (8 * k) ∧ of4 (zs.take (k + 1)) < 4294967296 := by
  obtain ⟨c0, c1, c2, c3, rfl⟩ : ∃ c0 c1 c2 c3, zs = [c0, c1, c2, c3] := by match zs, hl with | [c0, c1, c2, c3], _ => exact ⟨c0, c1, c2, c3, rfl⟩
  have h0 := hb c0 (by simp)
  have h1 := hb c1 (by simp)
  have h2 := hb c2 (by simp)
  have h3 := hb c3 (by simp)
  match k, hk with
  | 0, _ => simp [of4]; omega
  | 1, _ => simp [of4]; omega
  | 2, _ => simp [of4]; omega
  | 3, _ => simp [of4]; omega
theorem of4_or (zs : List Int) (hl : zs.length = 4) (hb : Bytes zs) (k : Nat) (hk : k < 4) : bits .or .u32 ((of4 (zs.take k) : Nat) : Int) (zs.getD k 0 % 4294967296 * 2 ^ (8 * k) % 4294967296) = ((of4 (zs.take (k + 1)) : Nat) : Int) := by
  obtain ⟨h1, h2, h3⟩ := of4_part zs hl hb k hk
  have hx := getD_byte hb (show k < zs.length by omega)
  obtain ⟨y, hy⟩ := Int.eq_ofNat_of_zero_le hx.1
  rw [hy] at h2 ⊢
  rw [Int.toNat_natCast] at h2
  rw [or_step _ y (8 * k) h1 (by omega), h2]

set_option maxHeartbeats 1000000 in
theorem number_walk (B : Nat → Prop) (v : Value) (zs : List Int) (w : World) (hl : zs.length = 4) (hb : Bytes zs) (hr : Row .u8 B w v zs) :
    Calls Tryz.prog 130 #[v] w fun e w' => e = .returned (.int .u32 ((of4 zs : Nat) : Int)) ∧ w' = w := by
  obtain ⟨b, off, c, rfl, hc, _, hcell⟩ := row_at hr (by omega)
  rw [hl]
  have Hcell := hide hcell
  have Hb := hide hb
  have Hl := hide hl
  clear hcell hr hb hc
  go_enter Tryz.func130, Tryz.ntmps130
  go_wp2_with fail
  go_loop [3, 8] (fun a i => ∃ k r : Nat, k ≤ 4 ∧ a = .int .u32 (r : Int) ∧ i = .int .i64 (k : Int) ∧ Hid (of4 (zs.take k) = r)) (fun _ i => 4 - (intOf i).toNat)
  case atStart => exact ⟨0, 0, by omega, rfl, rfl, hide (by simp [of4])⟩
  case round =>
    obtain ⟨k, r, hk, rfl, rfl, hq⟩ := hrel
    by_cases hlt : k < 4
    · have hcl := unhide Hcell k (by rw [unhide Hl]; exact hlt)
      have hor := of4_or zs (unhide Hl) (unhide Hb) k hlt
      rw [unhide hq] at hor
      generalize zs.getD k 0 = x at *
      obtain ⟨r2, hr2⟩ : ∃ r2, of4 (zs.take (k + 1)) = r2 := ⟨_, rfl⟩
      have Hr2 := hide hr2
      rw [hr2] at hor
      clear hr2 hl
      go_wp2
      exact ⟨⟨k + 1, r2, by omega, rfl, by go_num, Hr2⟩, by simp [intOf]; omega⟩
    · have hk4 : k = 4 := by omega
      subst hk4
      go_wp2
      go_ret
      refine ⟨ret_int ?_, rfl⟩
      rw [← unhide hq, List.take_of_length_le (by omega)]

/-! ### Take -/
theorem mid_u8 {w : World} {B : Nat → Prop} {x : Value} {zs : List Int} (h : Row .u8 B w x zs) (m n : Nat) (hn : m + n ≤ zs.length) :
    ∃ x', (∀ u : World, (Instr.slice 33 x (some (.int .i64 (m : Int))) (some (.int .i64 ((m + n : Nat) : Int))) none).run Tryz.prog u = .ok x' u) ∧ Row .u8 B w x' ((zs.drop m).take n) := by
  obtain ⟨i0, hi, hz0, hz1, hz2⟩ := info_parts info_u8
  exact cut_mid Tryz.underlying33 hi hz1 h m n hn
theorem of4_take (l : List Int) : of4 (l.take 4) = of4 l := by
  unfold of4
  simp [List.getD_eq_getElem?_getD, List.getElem?_take]
theorem of4_lt (l : List Int) (h : Bytes l) : of4 l < 4294967296 := by
  have key : ∀ i, 0 ≤ l.getD i 0 ∧ l.getD i 0 < 256 := fun i => by
    by_cases hi : i < l.length
    · exact getD_byte h hi
    · rw [List.getD_eq_getElem?_getD, List.getElem?_eq_none (by omega)]; simp
  have h0 := key 0
  have h1 := key 1
  have h2 := key 2
  have h3 := key 3
  unfold of4
  omega

set_option maxHeartbeats 2000000 in
theorem Take_walk (B : Nat → Prop) (v : Value) (zs : List Int) (w : World) (hb : Bytes zs) (hr : Row .u8 B w v zs) :
    Calls Tryz.prog 107 #[v] w fun e w' => ∃ x, e = .returned (.tuple #[x, .int .i64 (((takeT zs).2.1 : Nat) : Int), .int .i64 (takeT zs).2.2]) ∧ OwnSl w' 5 1 x (takeT zs).1.length ((takeT zs).1.map (Value.int .u8)) ∧ (∀ j, x.ownBlock = some j → w.heap.size ≤ j) ∧ Turn (fun _ => False) w w' := by
  have hm := hr.len
  unfold maxLen at hm
  have none_ok : ∀ (w : World), OwnSl w 5 1 (.slice none 0 0) ([] : List Int).length (([] : List Int).map (Value.int .u8)) := fun w => ⟨rfl, .inl ⟨rfl, rfl⟩⟩
  have none_new : ∀ j, (Value.slice none 0 0).ownBlock = some j → w.heap.size ≤ j := fun j hj => by simp [Value.ownBlock] at hj
  obtain ⟨a, c, rfl⟩ := hr.slice
  by_cases hbeg : begC zs = 0
  · have hlen : 10 ≤ zs.length ∧ zs.getD 0 0 = 165 := by
      unfold begC at hbeg
      repeat' split at hbeg
      all_goals first | omega | (simp at hbeg; done)
    have hT : takeT zs = if 1048576 < of4 (zs.drop 1) then ([], 0, 10) else if zs.length < 10 + of4 (zs.drop 1) ∨ zs.getD (9 + of4 (zs.drop 1)) 0 = 0 then ([], 0, 9) else
        if zs.getD (9 + of4 (zs.drop 1)) 0 ≠ 90 then ([], 0, 10) else
        if of4 (zs.drop 5) ≠ sum2 ((zs.drop 1).take 4) ((zs.drop 9).take (of4 (zs.drop 1))) then ([], 0, 11) else ((zs.drop 9).take (of4 (zs.drop 1)), 10 + of4 (zs.drop 1), 0) := by
      unfold takeT
      rw [if_neg (by omega), if_neg (by rw [hlen.2]; simp), if_neg (by omega)]
    obtain ⟨x1, hx1, hrow1⟩ := mid_u8 hr 1 4 (by omega)
    obtain ⟨x5, hx5, hrow5⟩ := mid_u8 hr 5 4 (by omega)
    have hx1' : ∀ u : World, (Instr.slice 33 (.slice a zs.length c) (some (.int .i64 1)) (some (.int .i64 5)) none).run Tryz.prog u = .ok x1 u := hx1
    have hx5' : ∀ u : World, (Instr.slice 33 (.slice a zs.length c) (some (.int .i64 5)) (some (.int .i64 9)) none).run Tryz.prog u = .ok x5 u := hx5
    have hL1 : ((zs.drop 1).take 4).length = 4 := by simp; omega
    have hL5 : ((zs.drop 5).take 4).length = 4 := by simp; omega
    have hB1 : Bytes ((zs.drop 1).take 4) := (hb.drop 1).take 4
    have hB5 : Bytes ((zs.drop 5).take 4) := (hb.drop 5).take 4
    have hn1 := number_walk B x1 _ w hL1 hB1 hrow1
    have hn5 : ∀ w' : World, (∃ n, w' = w.drewN n) → Calls Tryz.prog 130 #[x5] w' fun e w'' => e = .returned (.int .u32 ((of4 (zs.drop 5) : Nat) : Int)) ∧ w'' = w' := by
      rintro w' ⟨n, rfl⟩
      have := number_walk B x5 _ (w.drewN n) hL5 hB5 (hrow5.turn ((Turn.refl (fun _ => False) w).drewN n) (fun _ _ h => h))
      rwa [of4_take] at this
    rw [of4_take] at hn1
    rw [hT]
    clear hT hx1 hx5
    have hlt := of4_lt _ (hb.drop 1)
    have hbg := begin_walk B _ zs w hr
    rw [hbeg] at hbg
    generalize hN : of4 (zs.drop 1) = N at *
    by_cases hbig : 1048576 < N
    · rw [if_pos hbig]
      clear hn5 hrow1 hrow5 hL1 hL5 hB1 hB5 hN hlen
      go_enter Tryz.func107, Tryz.ntmps107
      go_wp2_with fail
      refine hbg.mono ?_
      rintro e w1 ⟨rfl, rfl⟩
      go_wp2_with fail
      refine hn1.mono ?_
      rintro e w1 ⟨rfl, rfl⟩
      go_wp2
      go_ret3
      exact ⟨_, rfl, none_ok _, none_new, Turn.refl _ _⟩
    · rw [if_neg hbig]
      have hen := end_walk B _ zs (9 + N) w hr
      by_cases hE : endC zs (9 + N) = 0
      · have hE' : 9 + N < zs.length ∧ zs.getD (9 + N) 0 = 90 := by
          unfold endC at hE
          repeat' split at hE
          all_goals first | omega | (simp at hE; done)
        rw [if_neg (by omega), if_neg (by omega)]
        rw [hE] at hen
        obtain ⟨x9, hx9, hrow9⟩ := mid_u8 hr 9 N (by omega)
        have hB9 : Bytes ((zs.drop 9).take N) := (hb.drop 9).take N
        have hsm : ∀ w' : World, (∃ n, w' = w.drewN n) → Calls Tryz.prog 58 #[x1, x9] w' fun e w'' => e = .returned (.int .u32 ((sum2 ((zs.drop 1).take 4) ((zs.drop 9).take N) : Nat) : Int)) ∧ w'' = w' := by
          rintro w' ⟨n, rfl⟩
          exact sumOf_walk B B x1 x9 _ _ _ hB1 hB9 (hrow1.turn ((Turn.refl (fun _ => False) w).drewN n) (fun _ _ h => h)) (hrow9.turn ((Turn.refl (fun _ => False) w).drewN n) (fun _ _ h => h))
        have hx9' : ∀ u : World, (Instr.slice 33 (.slice a zs.length c) (some (.int .i64 9)) (some (.int .i64 (9 + (N : Int)))) none).run Tryz.prog u = .ok x9 u := fun u => by have := hx9 u; rwa [show ((9 + N : Nat) : Int) = 9 + (N : Int) by omega] at this
        have hen' : Calls Tryz.prog 131 #[.slice a zs.length c, .int .i64 (9 + (N : Int))] w fun e w' => e = .returned (.int .i64 0) ∧ w' = w := by rwa [show ((9 + N : Nat) : Int) = 9 + (N : Int) by omega] at hen
        have hl9 : ((zs.drop 9).take N).length = N := by simp; omega
        clear hx9 hen hL1 hL5 hB1 hB5 hB9 hrow5 hrow1 hN hE hbeg
        generalize (zs.drop 9).take N = Y at *
        generalize sum2 ((zs.drop 1).take 4) Y = s2 at *
        generalize of4 (zs.drop 5) = s1 at *
        by_cases hs : s1 = s2
        · subst hs
          rw [if_neg (by simp)]
          have HL := hide hl9
          clear hl9
          go_enter Tryz.func107, Tryz.ntmps107
          go_wp2_with fail
          refine hbg.mono ?_
          rintro e w1 ⟨rfl, rfl⟩
          go_wp2_with fail
          refine hn1.mono ?_
          rintro e w1 ⟨rfl, rfl⟩
          go_wp2_with fail
          refine hen'.mono ?_
          rintro e w1 ⟨rfl, rfl⟩
          go_wp2_with fail
          go_quiet ((first | (go_at_call 58; exact Calls.quiet_of_same (hsm _ ⟨_, rfl⟩)) | (go_at_call 130; exact Calls.quiet_of_same (hn5 _ ⟨_, rfl⟩))))
          have TN := (Turn.refl (fun _ => False) w1).drewN nq
          have hrowN := hrow9.turn TN (fun _ _ h => h)
          go_wp2_with fail
          refine (clone_walk B x9 Y _ hrowN (by rw [unhide HL]; omega)).mono ?_
          rintro e w2 ⟨x, rfl, ho, hf, T⟩
          have hf' : ∀ j, x.ownBlock = some j → w1.heap.size ≤ j := fun j hj => Nat.le_trans TN.size (hf j hj)
          go_wp2
          go_ret3
          refine ⟨x, ?_, ho, hf', TN.then T⟩
          rw [show ((10 + N : Nat) : Int) = 9 + (N : Int) + 1 by omega]; rfl
        · rw [if_pos hs]
          have hne : ((s2 : Int) != (s1 : Int)) = true := by rw [bne_iff_ne]; omega
          clear hs
          go_enter Tryz.func107, Tryz.ntmps107
          go_wp2_with fail
          refine hbg.mono ?_
          rintro e w1 ⟨rfl, rfl⟩
          go_wp2_with fail
          refine hn1.mono ?_
          rintro e w1 ⟨rfl, rfl⟩
          go_wp2_with fail
          refine hen'.mono ?_
          rintro e w1 ⟨rfl, rfl⟩
          go_wp2_with fail
          go_quiet ((first | (go_at_call 58; exact Calls.quiet_of_same (hsm _ ⟨_, rfl⟩)) | (go_at_call 130; exact Calls.quiet_of_same (hn5 _ ⟨_, rfl⟩))))
          have TN := (Turn.refl (fun _ => False) w1).drewN nq
          go_wp2
          go_ret3
          exact ⟨_, rfl, none_ok _, none_new, TN⟩
      · have hT : (if zs.length < 10 + N ∨ zs.getD (9 + N) 0 = 0 then ([], 0, 9) else if zs.getD (9 + N) 0 ≠ 90 then ([], 0, 10) else if of4 (zs.drop 5) ≠ sum2 ((zs.drop 1).take 4) ((zs.drop 9).take N) then ([], 0, 11) else ((zs.drop 9).take N, 10 + N, 0) : List Int × Nat × Int) = ([], 0, endC zs (9 + N)) := by
          unfold endC at *
          by_cases h1 : zs.length ≤ 9 + N ∨ zs.getD (9 + N) 0 = 0
          · rw [if_pos (by omega), if_pos h1]
          · rw [if_neg (by omega), if_neg h1]
            by_cases h2 : zs.getD (9 + N) 0 ≠ 90
            · rw [if_pos h2, if_pos h2]
            · rw [if_neg h1, if_neg h2] at hE; exact absurd rfl hE
        rw [hT]
        have hen' : Calls Tryz.prog 131 #[.slice a zs.length c, .int .i64 (9 + (N : Int))] w fun e w' => e = .returned (.int .i64 (endC zs (9 + N))) ∧ w' = w := by rwa [show ((9 + N : Nat) : Int) = 9 + (N : Int) by omega] at hen
        have hne : (endC zs (9 + N) != 0) = true := by simpa using hE
        clear hT hE hen hn5 hrow1 hrow5 hL1 hL5 hB1 hB5 hN hlen hbeg
        generalize endC zs (9 + N) = x at *
        go_enter Tryz.func107, Tryz.ntmps107
        go_wp2_with fail
        refine hbg.mono ?_
        rintro e w1 ⟨rfl, rfl⟩
        go_wp2_with fail
        refine hn1.mono ?_
        rintro e w1 ⟨rfl, rfl⟩
        go_wp2_with fail
        refine hen'.mono ?_
        rintro e w1 ⟨rfl, rfl⟩
        go_wp2
        go_ret3
        exact ⟨_, rfl, none_ok _, none_new, Turn.refl _ _⟩
  · have hT : takeT zs = ([], 0, begC zs) := by
      unfold takeT begC at *
      repeat' split
      all_goals first | rfl | simp_all
    rw [hT]
    have hbg := begin_walk B _ zs w hr
    have hne : (begC zs != 0) = true := by simpa using hbeg
    clear hT hbeg
    generalize begC zs = x at *
    go_enter Tryz.func107, Tryz.ntmps107
    go_wp2_with fail
    refine hbg.mono ?_
    rintro e w1 ⟨rfl, rfl⟩
    go_wp2
    go_ret3
    exact ⟨_, rfl, none_ok _, none_new, Turn.refl _ _⟩
end Go.Proofs.YthikiahhochjmaaGreatDoor
