/- A frame of which some bits that lie within 32 neighbouring ones of what it carries, or of its sum, are turned, is refused. -/
import Derived.Test.YtkmeedefaceknaaFTurn
import Derived.Test.YtkmeedefaceknaaBWf
namespace Go.Proofs.Ytkmeedefaceknaa
open Go.RowKit Go.Maps
set_option linter.unusedVariables false
set_option linter.unusedSimpArgs false

theorem Turn.all {w w' : World} (h : Turn (fun _ => False) w w') : Below w.heap.size w w' := h.below (fun _ h => h.elim) (Nat.le_refl _)
/-- the frame, with bits of its middle turned -/
structure Mid (pre mid post zs : List Int) (K M P N : Nat) : Prop where
  whole : packB zs = pre ++ (mid ++ post)
  at_ : pre.length = P
  len : mid.length = N
  bytes : Bytes mid
  ends : ∀ mid' k, Turned mid mid' K (M % 2 ^ k) → takeT (pre ++ (mid' ++ post)) = ended zs (M % 2 ^ k)
theorem Mid.all {pre mid post zs mid' : List Int} {K M P N p : Nat} (h : Mid pre mid post zs K M P N) (hz : Bytes zs) (t : Turned mid mid' K p) : Bytes (pre ++ (mid' ++ post)) := by
  have hb := packB_bytes hz
  rw [h.whole] at hb
  intro x hx
  simp only [List.mem_append] at hx
  rcases hx with hx | hx | hx
  · exact hb x (by simp [hx])
  · exact t.1 x hx
  · exact hb x (by simp [hx])

def isPos (zs : List Int) : Prop := ((zs.length : Int) == 0) = false
def isNone (zs : List Int) : Prop := ((zs.length : Int) == 0) = true
def isAny (zs : List Int) : Prop := ((0 : Int) == 0) = true
set_option maxHeartbeats 4000000 in
theorem turned_carried (w : World) (b : Value) (zs : List Int) (hr : Row .u8 any w b zs) (hb : Bytes zs) (hl : zs.length ≤ 65536) (at_ : Int) (M : Nat) (hM0 : 0 < M) (hM : M < 4294967296) (s : Bool) (hs : s = false) (q0 : isPos zs) (hN : 0 < zs.length)
    (hmid : ∀ K, K < 8 * zs.length → ∃ pre mid post, Mid pre mid post zs K M 9 zs.length) :
    Calls Try.prog 7 #[b, .int .i64 at_, .int .u32 (M : Int), .bool s] w fun e w' => e = .returned (.bool true) ∧ Below w.heap.size w w' := by
  subst hs
  unfold isPos at q0
  obtain ⟨v1, v2, rfl⟩ := hr.slice
  obtain ⟨K, hK, hat⟩ := rem_at at_ (8 * zs.length) (by omega) (by omega)
  obtain ⟨pre, mid, post, hm⟩ := hmid K hK
  clear hmid
  have hC : packC zs = 0 := by unfold packC; rw [if_neg (by omega)]
  have hD : packD zs = packB zs := by unfold packD; rw [if_neg (by omega)]
  have q2 : ((M : Int) == 0) = false := by rw [beq_eq_false_iff_ne]; omega
  have q3 : decide (65536 < (zs.length : Int)) = false := by rw [decide_eq_false_iff_not]; omega
  have hpl := packB_len zs
  go_enter Try.func7, Try.ntmps7
  go_wp2_with fail
  refine (Pack_walk any _ zs _ hb hr).mono ?_
  rintro e w1 ⟨x, rfl, hox, hfx, T1⟩
  rw [hC]
  rw [hD] at hox
  go_wp2_with fail
  refine (awake_walk _).mono ?_
  rintro e w2 ⟨rfl, bel2⟩
  have T2 := T1.then (Turn.of_below bel2)
  have hox2 := hox.turn (Turn.of_below (F := fun _ => False) bel2) (fun _ _ h => h)
  have hxf : ∃ g off cap, x = .slice (some ⟨g, off, none⟩) (zs.length + 10) cap := by
    rcases hox.2 with ⟨_, h0⟩ | ⟨g, off, cap, cur, hv, _⟩
    · omega
    · exact ⟨g, off, cap, by rw [hv, hpl]⟩
  rw [hm.whole] at hox2
  have hpl2 : (pre ++ (mid ++ post)).length = zs.length + 10 := by rw [← hm.whole]; exact hpl
  rw [hpl2] at hox2
  obtain ⟨g, off, cap, rfl⟩ := hxf
  have hfx' : w.heap.size ≤ g := hfx g rfl
  have Hat : Hid (wrap64 ((IntKind.u64.wrap at_).tmod (8*zs.length : Int)) = (K : Int)) := by
    have e : ((8 * zs.length : Nat) : Int) = (8*zs.length : Int) := by omega
    rw [e] at hat
    exact hat
  have Hm := hide hm
  have HC := hide hC
  have hb' := hide hb
  have HN : mid.length = zs.length := hm.len
  have HP : pre.length = 9 := hm.at_
  have HA := hide HN
  have HB := hide HP
  clear hat hm hC hD hox hfx T1 bel2 hpl hpl2 hb HN HP
  go_wp2_with fail
  rw [unhide Hat]
  go_loopw [14, 15] (fun s i wr => ∃ (k : Nat) (mid' : List Int), k ≤ 32 ∧ i = .int .i64 (k : Int) ∧ s = .bool (decide (0 < M % 2 ^ k)) ∧ OwnSl wr 5 1 (.slice (some ⟨g, off, none⟩) (zs.length + 10) cap) (zs.length + 10) ((pre ++ (mid' ++ post)).map (Value.int .u8)) ∧ Turn (fun _ => False) w wr ∧ K + k ≤ 8 * zs.length ∧ Hid (Turned mid mid' K (M % 2 ^ k))) (fun _ i _ => 32 - (intOf i).toNat)
  case atStart =>
    exact ⟨0, mid, by omega, rfl, by simp [Nat.mod_one], hox2, T2, by omega, hide (by rw [Nat.pow_zero, Nat.mod_one]; exact turned_none (unhide Hm).bytes K)⟩
  case round =>
    obtain ⟨k, mid', hk, rfl, rfl, hown, hT, hKk, hcs⟩ := hrel
    clear hox2 T2
    by_cases hlt : k < 32 ∧ K + k < 8 * zs.length
    · obtain ⟨hlt, hlt2⟩ := hlt
      have hbit := mask_bit M k hM
      rcases Nat.mod_two_eq_zero_or_one (M / 2 ^ k) with ho | ho
      · have hbit0 : bits .and .u32 ((M : Int) / 2 ^ k) 1 = 0 := by rw [hbit, ho]; rfl
        have hcs2 : Hid (Turned mid mid' K (M % 2 ^ (k + 1))) := by
          refine hide ?_
          rw [bit_zero ho]
          exact unhide hcs
        have Hs : Hid (decide (0 < M % 2 ^ k) = decide (0 < M % 2 ^ (k + 1))) := hide (by rw [bit_zero ho])
        clear hbit ho hcs
        generalize decide (0 < M % 2 ^ k) = sb at *
        go_wp2
        exact ⟨⟨k + 1, mid', by omega, by go_num, by rw [unhide Hs], hown, hT, by omega, hcs2⟩, by simp [intOf]; omega⟩
      · have hbit0 : bits .and .u32 ((M : Int) / 2 ^ k) 1 = 1 := by rw [hbit, ho]; rfl
        have hml : mid'.length = zs.length := by rw [(unhide hcs).2.1]; exact unhide HA
        have hpl : (K + k) / 8 < mid'.length := by omega
        have hpi : (72 + K + k) / 8 = pre.length + (K + k) / 8 := by rw [unhide HB]; omega
        have hpm : (72 + K + k) % 8 = (K + k) % 8 := by omega
        have hcell : wr.cell? ⟨g, off + (72 + K + k) / 8, none⟩ = some (.int .u8 (mid'.getD ((K + k) / 8) 0)) := by
          refine hown.cells _ _ ?_
          rw [hpi, ← getD_mid pre mid' post _ hpl, List.getElem?_map]
          have hin : pre.length + (K + k) / 8 < (pre ++ (mid' ++ post)).length := by simp; omega
          generalize pre ++ (mid' ++ post) = L at *
          simp [hin]
        have hlen2 : (pre ++ (mid' ++ post)).length = zs.length + 10 := by have := hown.1; simpa using this
        have hidx : (72 + K + k) / 8 < zs.length + 10 := by rw [hpi, ← hlen2]; simp; omega
        have hcb := getD_byte (unhide hcs).1 hpl
        have hturn := byte_turn (mid'.getD ((K + k) / 8) 0) ((72 + K + k) % 8) hcb (by omega)
        have hcs2 := hide ((unhide hcs).bit (by rw [unhide HA]; omega) ho)
        have hNlt : (mid'.getD ((K + k) / 8) 0).toNat ^^^ 2 ^ ((K + k) % 8) < 256 := Nat.xor_lt_two_pow (n := 8) (by omega) (pow_byte _ (by omega))
        have hset := set_mid pre mid' post ((K + k) / 8) (((mid'.getD ((K + k) / 8) 0).toNat ^^^ 2 ^ ((K + k) % 8) : Nat) : Int) hpl
        rw [hpm] at hturn
        obtain ⟨hst, hfr⟩ := hown.set ((72 + K + k) / 8) (by omega) (.int .u8 (((mid'.getD ((K + k) / 8) 0).toNat ^^^ 2 ^ ((K + k) % 8) : Nat) : Int))
        rw [← List.map_set, hpi, hset, ← hpi] at hst
        rw [← hpm] at hturn hst hcs2 hNlt hset
        have Hst := hide hst
        have hT2 : Turn (fun _ => False) w (wr.setCell ⟨g, off + (72 + K + k) / 8, none⟩ (.int .u8 (((mid'.getD ((K + k) / 8) 0).toNat ^^^ 2 ^ ((72 + K + k) % 8) : Nat) : Int))) := hT.setCell (.inr hfx') _
        have Hs : Hid (decide (0 < M % 2 ^ (k + 1)) = true) := hide (by rw [decide_eq_true_iff]; exact bit_some ho)
        clear hbit ho hcs hown hT hset hml hpl hlen2 hpi hpm hst
        generalize mid'.set ((K + k) / 8) _ = mid2 at *
        generalize (mid'.getD ((K + k) / 8) 0).toNat ^^^ 2 ^ ((72 + K + k) % 8) = V at *
        generalize mid'.getD ((K + k) / 8) 0 = c at *
        go_wp2
        exact ⟨⟨k + 1, mid2, by omega, by go_num, by rw [unhide Hs], unhide Hst, hT2, by omega, hcs2⟩, by simp [intOf]; omega⟩
    · have hend := (unhide Hm).ends mid' k (unhide hcs)
      have hrow := row_of_sl (ys := pre ++ (mid' ++ post)) (by rw [show (pre ++ (mid' ++ post)).length = zs.length + 10 by have := hown.1; simpa using this]; exact hown)
      have hby := (unhide Hm).all (unhide hb') (unhide hcs)
      have hrB := hr.turn hT (fun _ _ h => h)
      clear hcs hown
      have hx : k = 32 ∨ (k < 32 ∧ K + k = 8 * zs.length) := by omega
      clear hlt
      generalize pre ++ (mid' ++ post) = Z at *
      by_cases h0 : M % 2 ^ k = 0
      · have hd : decide (0 < M % 2 ^ k) = false := by rw [h0]; rfl
        unfold ended at hend
        rw [if_pos h0] at hend
        rw [hd]
        clear hd h0
        rcases hx with rfl | ⟨hx1, hx2⟩
        all_goals
          go_wp2_with fail
          refine (Take_walk _ _ Z _ hby hrow).mono ?_
          rw [hend]
          rintro e w3 ⟨y, rfl, hoy, hfy, T3⟩
          have hry := row_of_sl hoy
          have hrB3 := hrB.turn T3 (fun _ _ h => h)
          have B3 := (hT.then T3).all
          obtain ⟨y1, y2, rfl⟩ := hry.slice
          clear hoy hfy T3 hrB hrow hby hend
          go_wp2_with fail
          refine (bytes_walk _ _ _ _ zs _ hry hrB3).mono ?_
          rintro e w4 ⟨rfl, rfl⟩
          go_wp2
          go_ret
          exact ⟨rfl, B3⟩
      · have hd : decide (0 < M % 2 ^ k) = true := by rw [decide_eq_true_iff]; omega
        unfold ended at hend
        rw [if_neg h0] at hend
        rw [hd]
        clear hd h0
        rcases hx with rfl | ⟨hx1, hx2⟩
        all_goals
          go_wp2_with fail
          refine (Take_walk _ _ Z _ hby hrow).mono ?_
          rw [hend]
          rintro e w3 ⟨y, rfl, hoy, hfy, T3⟩
          have B3 := (hT.then T3).all
          have hry := row_of_sl hoy
          change Row .u8 _ w3 y ([] : List Int) at hry
          obtain ⟨y1, y2, rfl⟩ := hry.slice
          clear hoy hfy T3 hrB hrow hby hend hry
          go_wp2
          go_ret
          exact ⟨rfl, B3⟩
set_option maxHeartbeats 4000000 in
theorem turned_sum (w : World) (b : Value) (zs : List Int) (hr : Row .u8 any w b zs) (hb : Bytes zs) (hl : zs.length ≤ 65536) (at_ : Int) (M : Nat) (hM0 : 0 < M) (hM : M < 4294967296) (s : Bool) (hs : s = true) (q0 : isAny zs) (hN : 0 < 4)
    (hmid : ∀ K, K < 8 * 4 → ∃ pre mid post, Mid pre mid post zs K M 5 4) :
    Calls Try.prog 7 #[b, .int .i64 at_, .int .u32 (M : Int), .bool s] w fun e w' => e = .returned (.bool true) ∧ Below w.heap.size w w' := by
  subst hs
  unfold isAny at q0
  obtain ⟨v1, v2, rfl⟩ := hr.slice
  obtain ⟨K, hK, hat⟩ := rem_at at_ (8 * 4) (by omega) (by omega)
  obtain ⟨pre, mid, post, hm⟩ := hmid K hK
  clear hmid
  have hC : packC zs = 0 := by unfold packC; rw [if_neg (by omega)]
  have hD : packD zs = packB zs := by unfold packD; rw [if_neg (by omega)]
  have q2 : ((M : Int) == 0) = false := by rw [beq_eq_false_iff_ne]; omega
  have q3 : decide (65536 < (zs.length : Int)) = false := by rw [decide_eq_false_iff_not]; omega
  have hpl := packB_len zs
  go_enter Try.func7, Try.ntmps7
  go_wp2_with fail
  refine (Pack_walk any _ zs _ hb hr).mono ?_
  rintro e w1 ⟨x, rfl, hox, hfx, T1⟩
  rw [hC]
  rw [hD] at hox
  go_wp2_with fail
  refine (awake_walk _).mono ?_
  rintro e w2 ⟨rfl, bel2⟩
  have T2 := T1.then (Turn.of_below bel2)
  have hox2 := hox.turn (Turn.of_below (F := fun _ => False) bel2) (fun _ _ h => h)
  have hxf : ∃ g off cap, x = .slice (some ⟨g, off, none⟩) (zs.length + 10) cap := by
    rcases hox.2 with ⟨_, h0⟩ | ⟨g, off, cap, cur, hv, _⟩
    · omega
    · exact ⟨g, off, cap, by rw [hv, hpl]⟩
  rw [hm.whole] at hox2
  have hpl2 : (pre ++ (mid ++ post)).length = zs.length + 10 := by rw [← hm.whole]; exact hpl
  rw [hpl2] at hox2
  obtain ⟨g, off, cap, rfl⟩ := hxf
  have hfx' : w.heap.size ≤ g := hfx g rfl
  have Hat : Hid (wrap64 ((IntKind.u64.wrap at_).tmod (32 : Int)) = (K : Int)) := by
    have e : ((8 * 4 : Nat) : Int) = (32 : Int) := by omega
    rw [e] at hat
    exact hat
  have Hm := hide hm
  have HC := hide hC
  have hb' := hide hb
  have HN : mid.length = 4 := hm.len
  have HP : pre.length = 5 := hm.at_
  have HA := hide HN
  have HB := hide HP
  clear hat hm hC hD hox hfx T1 bel2 hpl hpl2 hb HN HP
  go_wp2_with fail
  rw [unhide Hat]
  go_loopw [14, 15] (fun s i wr => ∃ (k : Nat) (mid' : List Int), k ≤ 32 ∧ i = .int .i64 (k : Int) ∧ s = .bool (decide (0 < M % 2 ^ k)) ∧ OwnSl wr 5 1 (.slice (some ⟨g, off, none⟩) (zs.length + 10) cap) (zs.length + 10) ((pre ++ (mid' ++ post)).map (Value.int .u8)) ∧ Turn (fun _ => False) w wr ∧ K + k ≤ 8 * 4 ∧ Hid (Turned mid mid' K (M % 2 ^ k))) (fun _ i _ => 32 - (intOf i).toNat)
  case atStart =>
    exact ⟨0, mid, by omega, rfl, by simp [Nat.mod_one], hox2, T2, by omega, hide (by rw [Nat.pow_zero, Nat.mod_one]; exact turned_none (unhide Hm).bytes K)⟩
  case round =>
    obtain ⟨k, mid', hk, rfl, rfl, hown, hT, hKk, hcs⟩ := hrel
    clear hox2 T2
    by_cases hlt : k < 32 ∧ K + k < 8 * 4
    · obtain ⟨hlt, hlt2⟩ := hlt
      have hbit := mask_bit M k hM
      rcases Nat.mod_two_eq_zero_or_one (M / 2 ^ k) with ho | ho
      · have hbit0 : bits .and .u32 ((M : Int) / 2 ^ k) 1 = 0 := by rw [hbit, ho]; rfl
        have hcs2 : Hid (Turned mid mid' K (M % 2 ^ (k + 1))) := by
          refine hide ?_
          rw [bit_zero ho]
          exact unhide hcs
        have Hs : Hid (decide (0 < M % 2 ^ k) = decide (0 < M % 2 ^ (k + 1))) := hide (by rw [bit_zero ho])
        clear hbit ho hcs
        generalize decide (0 < M % 2 ^ k) = sb at *
        go_wp2
        exact ⟨⟨k + 1, mid', by omega, by go_num, by rw [unhide Hs], hown, hT, by omega, hcs2⟩, by simp [intOf]; omega⟩
      · have hbit0 : bits .and .u32 ((M : Int) / 2 ^ k) 1 = 1 := by rw [hbit, ho]; rfl
        have hml : mid'.length = 4 := by rw [(unhide hcs).2.1]; exact unhide HA
        have hpl : (K + k) / 8 < mid'.length := by omega
        have hpi : (40 + K + k) / 8 = pre.length + (K + k) / 8 := by rw [unhide HB]; omega
        have hpm : (40 + K + k) % 8 = (K + k) % 8 := by omega
        have hcell : wr.cell? ⟨g, off + (40 + K + k) / 8, none⟩ = some (.int .u8 (mid'.getD ((K + k) / 8) 0)) := by
          refine hown.cells _ _ ?_
          rw [hpi, ← getD_mid pre mid' post _ hpl, List.getElem?_map]
          have hin : pre.length + (K + k) / 8 < (pre ++ (mid' ++ post)).length := by simp; omega
          generalize pre ++ (mid' ++ post) = L at *
          simp [hin]
        have hlen2 : (pre ++ (mid' ++ post)).length = zs.length + 10 := by have := hown.1; simpa using this
        have hidx : (40 + K + k) / 8 < zs.length + 10 := by rw [hpi, ← hlen2]; simp; omega
        have hcb := getD_byte (unhide hcs).1 hpl
        have hturn := byte_turn (mid'.getD ((K + k) / 8) 0) ((40 + K + k) % 8) hcb (by omega)
        have hcs2 := hide ((unhide hcs).bit (by rw [unhide HA]; omega) ho)
        have hNlt : (mid'.getD ((K + k) / 8) 0).toNat ^^^ 2 ^ ((K + k) % 8) < 256 := Nat.xor_lt_two_pow (n := 8) (by omega) (pow_byte _ (by omega))
        have hset := set_mid pre mid' post ((K + k) / 8) (((mid'.getD ((K + k) / 8) 0).toNat ^^^ 2 ^ ((K + k) % 8) : Nat) : Int) hpl
        rw [hpm] at hturn
        obtain ⟨hst, hfr⟩ := hown.set ((40 + K + k) / 8) (by omega) (.int .u8 (((mid'.getD ((K + k) / 8) 0).toNat ^^^ 2 ^ ((K + k) % 8) : Nat) : Int))
        rw [← List.map_set, hpi, hset, ← hpi] at hst
        rw [← hpm] at hturn hst hcs2 hNlt hset
        have Hst := hide hst
        have hT2 : Turn (fun _ => False) w (wr.setCell ⟨g, off + (40 + K + k) / 8, none⟩ (.int .u8 (((mid'.getD ((K + k) / 8) 0).toNat ^^^ 2 ^ ((40 + K + k) % 8) : Nat) : Int))) := hT.setCell (.inr hfx') _
        have Hs : Hid (decide (0 < M % 2 ^ (k + 1)) = true) := hide (by rw [decide_eq_true_iff]; exact bit_some ho)
        clear hbit ho hcs hown hT hset hml hpl hlen2 hpi hpm hst
        generalize mid'.set ((K + k) / 8) _ = mid2 at *
        generalize (mid'.getD ((K + k) / 8) 0).toNat ^^^ 2 ^ ((40 + K + k) % 8) = V at *
        generalize mid'.getD ((K + k) / 8) 0 = c at *
        go_wp2
        exact ⟨⟨k + 1, mid2, by omega, by go_num, by rw [unhide Hs], unhide Hst, hT2, by omega, hcs2⟩, by simp [intOf]; omega⟩
    · have hend := (unhide Hm).ends mid' k (unhide hcs)
      have hrow := row_of_sl (ys := pre ++ (mid' ++ post)) (by rw [show (pre ++ (mid' ++ post)).length = zs.length + 10 by have := hown.1; simpa using this]; exact hown)
      have hby := (unhide Hm).all (unhide hb') (unhide hcs)
      have hrB := hr.turn hT (fun _ _ h => h)
      clear hcs hown
      have hx : k = 32 ∨ (k < 32 ∧ K + k = 8 * 4) := by omega
      clear hlt
      generalize pre ++ (mid' ++ post) = Z at *
      by_cases h0 : M % 2 ^ k = 0
      · have hd : decide (0 < M % 2 ^ k) = false := by rw [h0]; rfl
        unfold ended at hend
        rw [if_pos h0] at hend
        rw [hd]
        clear hd h0
        rcases hx with rfl | ⟨hx1, hx2⟩
        all_goals
          go_wp2_with fail
          refine (Take_walk _ _ Z _ hby hrow).mono ?_
          rw [hend]
          rintro e w3 ⟨y, rfl, hoy, hfy, T3⟩
          have hry := row_of_sl hoy
          have hrB3 := hrB.turn T3 (fun _ _ h => h)
          have B3 := (hT.then T3).all
          obtain ⟨y1, y2, rfl⟩ := hry.slice
          clear hoy hfy T3 hrB hrow hby hend
          go_wp2_with fail
          refine (bytes_walk _ _ _ _ zs _ hry hrB3).mono ?_
          rintro e w4 ⟨rfl, rfl⟩
          go_wp2
          go_ret
          exact ⟨rfl, B3⟩
      · have hd : decide (0 < M % 2 ^ k) = true := by rw [decide_eq_true_iff]; omega
        unfold ended at hend
        rw [if_neg h0] at hend
        rw [hd]
        clear hd h0
        rcases hx with rfl | ⟨hx1, hx2⟩
        all_goals
          go_wp2_with fail
          refine (Take_walk _ _ Z _ hby hrow).mono ?_
          rw [hend]
          rintro e w3 ⟨y, rfl, hoy, hfy, T3⟩
          have B3 := (hT.then T3).all
          have hry := row_of_sl hoy
          change Row .u8 _ w3 y ([] : List Int) at hry
          obtain ⟨y1, y2, rfl⟩ := hry.slice
          clear hoy hfy T3 hrB hrow hby hend hry
          go_wp2
          go_ret
          exact ⟨rfl, B3⟩
set_option maxHeartbeats 4000000 in
theorem turned_zero (w : World) (b : Value) (zs : List Int) (hr : Row .u8 any w b zs) (hb : Bytes zs) (hl : zs.length ≤ 65536) (at_ : Int) (M : Nat) (hM0 : 0 < M) (hM : M < 4294967296) (s : Bool) (hs : s = false) (q0 : isNone zs) (hN : 0 < 4)
    (hmid : ∀ K, K < 8 * 4 → ∃ pre mid post, Mid pre mid post zs K M 5 4) :
    Calls Try.prog 7 #[b, .int .i64 at_, .int .u32 (M : Int), .bool s] w fun e w' => e = .returned (.bool true) ∧ Below w.heap.size w w' := by
  subst hs
  unfold isNone at q0
  obtain ⟨v1, v2, rfl⟩ := hr.slice
  obtain ⟨K, hK, hat⟩ := rem_at at_ (8 * 4) (by omega) (by omega)
  obtain ⟨pre, mid, post, hm⟩ := hmid K hK
  clear hmid
  have hC : packC zs = 0 := by unfold packC; rw [if_neg (by omega)]
  have hD : packD zs = packB zs := by unfold packD; rw [if_neg (by omega)]
  have q2 : ((M : Int) == 0) = false := by rw [beq_eq_false_iff_ne]; omega
  have q3 : decide (65536 < (zs.length : Int)) = false := by rw [decide_eq_false_iff_not]; omega
  have hpl := packB_len zs
  go_enter Try.func7, Try.ntmps7
  go_wp2_with fail
  refine (Pack_walk any _ zs _ hb hr).mono ?_
  rintro e w1 ⟨x, rfl, hox, hfx, T1⟩
  rw [hC]
  rw [hD] at hox
  go_wp2_with fail
  refine (awake_walk _).mono ?_
  rintro e w2 ⟨rfl, bel2⟩
  have T2 := T1.then (Turn.of_below bel2)
  have hox2 := hox.turn (Turn.of_below (F := fun _ => False) bel2) (fun _ _ h => h)
  have hxf : ∃ g off cap, x = .slice (some ⟨g, off, none⟩) (zs.length + 10) cap := by
    rcases hox.2 with ⟨_, h0⟩ | ⟨g, off, cap, cur, hv, _⟩
    · omega
    · exact ⟨g, off, cap, by rw [hv, hpl]⟩
  rw [hm.whole] at hox2
  have hpl2 : (pre ++ (mid ++ post)).length = zs.length + 10 := by rw [← hm.whole]; exact hpl
  rw [hpl2] at hox2
  obtain ⟨g, off, cap, rfl⟩ := hxf
  have hfx' : w.heap.size ≤ g := hfx g rfl
  have Hat : Hid (wrap64 ((IntKind.u64.wrap at_).tmod (32 : Int)) = (K : Int)) := by
    have e : ((8 * 4 : Nat) : Int) = (32 : Int) := by omega
    rw [e] at hat
    exact hat
  have Hm := hide hm
  have HC := hide hC
  have hb' := hide hb
  have HN : mid.length = 4 := hm.len
  have HP : pre.length = 5 := hm.at_
  have HA := hide HN
  have HB := hide HP
  clear hat hm hC hD hox hfx T1 bel2 hpl hpl2 hb HN HP
  go_wp2_with fail
  rw [unhide Hat]
  go_loopw [14, 15] (fun s i wr => ∃ (k : Nat) (mid' : List Int), k ≤ 32 ∧ i = .int .i64 (k : Int) ∧ s = .bool (decide (0 < M % 2 ^ k)) ∧ OwnSl wr 5 1 (.slice (some ⟨g, off, none⟩) (zs.length + 10) cap) (zs.length + 10) ((pre ++ (mid' ++ post)).map (Value.int .u8)) ∧ Turn (fun _ => False) w wr ∧ K + k ≤ 8 * 4 ∧ Hid (Turned mid mid' K (M % 2 ^ k))) (fun _ i _ => 32 - (intOf i).toNat)
  case atStart =>
    exact ⟨0, mid, by omega, rfl, by simp [Nat.mod_one], hox2, T2, by omega, hide (by rw [Nat.pow_zero, Nat.mod_one]; exact turned_none (unhide Hm).bytes K)⟩
  case round =>
    obtain ⟨k, mid', hk, rfl, rfl, hown, hT, hKk, hcs⟩ := hrel
    clear hox2 T2
    by_cases hlt : k < 32 ∧ K + k < 8 * 4
    · obtain ⟨hlt, hlt2⟩ := hlt
      have hbit := mask_bit M k hM
      rcases Nat.mod_two_eq_zero_or_one (M / 2 ^ k) with ho | ho
      · have hbit0 : bits .and .u32 ((M : Int) / 2 ^ k) 1 = 0 := by rw [hbit, ho]; rfl
        have hcs2 : Hid (Turned mid mid' K (M % 2 ^ (k + 1))) := by
          refine hide ?_
          rw [bit_zero ho]
          exact unhide hcs
        have Hs : Hid (decide (0 < M % 2 ^ k) = decide (0 < M % 2 ^ (k + 1))) := hide (by rw [bit_zero ho])
        clear hbit ho hcs
        generalize decide (0 < M % 2 ^ k) = sb at *
        go_wp2
        exact ⟨⟨k + 1, mid', by omega, by go_num, by rw [unhide Hs], hown, hT, by omega, hcs2⟩, by simp [intOf]; omega⟩
      · have hbit0 : bits .and .u32 ((M : Int) / 2 ^ k) 1 = 1 := by rw [hbit, ho]; rfl
        have hml : mid'.length = 4 := by rw [(unhide hcs).2.1]; exact unhide HA
        have hpl : (K + k) / 8 < mid'.length := by omega
        have hpi : (40 + K + k) / 8 = pre.length + (K + k) / 8 := by rw [unhide HB]; omega
        have hpm : (40 + K + k) % 8 = (K + k) % 8 := by omega
        have hcell : wr.cell? ⟨g, off + (40 + K + k) / 8, none⟩ = some (.int .u8 (mid'.getD ((K + k) / 8) 0)) := by
          refine hown.cells _ _ ?_
          rw [hpi, ← getD_mid pre mid' post _ hpl, List.getElem?_map]
          have hin : pre.length + (K + k) / 8 < (pre ++ (mid' ++ post)).length := by simp; omega
          generalize pre ++ (mid' ++ post) = L at *
          simp [hin]
        have hlen2 : (pre ++ (mid' ++ post)).length = zs.length + 10 := by have := hown.1; simpa using this
        have hidx : (40 + K + k) / 8 < zs.length + 10 := by rw [hpi, ← hlen2]; simp; omega
        have hcb := getD_byte (unhide hcs).1 hpl
        have hturn := byte_turn (mid'.getD ((K + k) / 8) 0) ((40 + K + k) % 8) hcb (by omega)
        have hcs2 := hide ((unhide hcs).bit (by rw [unhide HA]; omega) ho)
        have hNlt : (mid'.getD ((K + k) / 8) 0).toNat ^^^ 2 ^ ((K + k) % 8) < 256 := Nat.xor_lt_two_pow (n := 8) (by omega) (pow_byte _ (by omega))
        have hset := set_mid pre mid' post ((K + k) / 8) (((mid'.getD ((K + k) / 8) 0).toNat ^^^ 2 ^ ((K + k) % 8) : Nat) : Int) hpl
        rw [hpm] at hturn
        obtain ⟨hst, hfr⟩ := hown.set ((40 + K + k) / 8) (by omega) (.int .u8 (((mid'.getD ((K + k) / 8) 0).toNat ^^^ 2 ^ ((K + k) % 8) : Nat) : Int))
        rw [← List.map_set, hpi, hset, ← hpi] at hst
        rw [← hpm] at hturn hst hcs2 hNlt hset
        have Hst := hide hst
        have hT2 : Turn (fun _ => False) w (wr.setCell ⟨g, off + (40 + K + k) / 8, none⟩ (.int .u8 (((mid'.getD ((K + k) / 8) 0).toNat ^^^ 2 ^ ((40 + K + k) % 8) : Nat) : Int))) := hT.setCell (.inr hfx') _
        have Hs : Hid (decide (0 < M % 2 ^ (k + 1)) = true) := hide (by rw [decide_eq_true_iff]; exact bit_some ho)
        clear hbit ho hcs hown hT hset hml hpl hlen2 hpi hpm hst
        generalize mid'.set ((K + k) / 8) _ = mid2 at *
        generalize (mid'.getD ((K + k) / 8) 0).toNat ^^^ 2 ^ ((40 + K + k) % 8) = V at *
        generalize mid'.getD ((K + k) / 8) 0 = c at *
        go_wp2
        exact ⟨⟨k + 1, mid2, by omega, by go_num, by rw [unhide Hs], unhide Hst, hT2, by omega, hcs2⟩, by simp [intOf]; omega⟩
    · have hend := (unhide Hm).ends mid' k (unhide hcs)
      have hrow := row_of_sl (ys := pre ++ (mid' ++ post)) (by rw [show (pre ++ (mid' ++ post)).length = zs.length + 10 by have := hown.1; simpa using this]; exact hown)
      have hby := (unhide Hm).all (unhide hb') (unhide hcs)
      have hrB := hr.turn hT (fun _ _ h => h)
      clear hcs hown
      have hx : k = 32 ∨ (k < 32 ∧ K + k = 8 * 4) := by omega
      clear hlt
      generalize pre ++ (mid' ++ post) = Z at *
      by_cases h0 : M % 2 ^ k = 0
      · have hd : decide (0 < M % 2 ^ k) = false := by rw [h0]; rfl
        unfold ended at hend
        rw [if_pos h0] at hend
        rw [hd]
        clear hd h0
        rcases hx with rfl | ⟨hx1, hx2⟩
        all_goals
          go_wp2_with fail
          refine (Take_walk _ _ Z _ hby hrow).mono ?_
          rw [hend]
          rintro e w3 ⟨y, rfl, hoy, hfy, T3⟩
          have hry := row_of_sl hoy
          have hrB3 := hrB.turn T3 (fun _ _ h => h)
          have B3 := (hT.then T3).all
          obtain ⟨y1, y2, rfl⟩ := hry.slice
          clear hoy hfy T3 hrB hrow hby hend
          go_wp2_with fail
          refine (bytes_walk _ _ _ _ zs _ hry hrB3).mono ?_
          rintro e w4 ⟨rfl, rfl⟩
          go_wp2
          go_ret
          exact ⟨rfl, B3⟩
      · have hd : decide (0 < M % 2 ^ k) = true := by rw [decide_eq_true_iff]; omega
        unfold ended at hend
        rw [if_neg h0] at hend
        rw [hd]
        clear hd h0
        rcases hx with rfl | ⟨hx1, hx2⟩
        all_goals
          go_wp2_with fail
          refine (Take_walk _ _ Z _ hby hrow).mono ?_
          rw [hend]
          rintro e w3 ⟨y, rfl, hoy, hfy, T3⟩
          have B3 := (hT.then T3).all
          have hry := row_of_sl hoy
          change Row .u8 _ w3 y ([] : List Int) at hry
          obtain ⟨y1, y2, rfl⟩ := hry.slice
          clear hoy hfy T3 hrB hrow hby hend hry
          go_wp2
          go_ret
          exact ⟨rfl, B3⟩
theorem mid_carried {zs : List Int} (hb : Bytes zs) (hl : zs.length ≤ 65536) {M : Nat} (hM : M < 4294967296) (K : Nat) (hK : K < 8 * zs.length) : ∃ pre mid post, Mid pre mid post zs K M 9 zs.length :=
  ⟨_, _, _, pack_pre9 zs, rfl, rfl, hb, fun mid' k h => end_carried hb hl (by omega) (Nat.lt_of_le_of_lt (Nat.mod_le _ _) hM) h⟩
theorem mid_sum {zs : List Int} (hl : zs.length ≤ 65536) (M K : Nat) : ∃ pre mid post, Mid pre mid post zs K M 5 4 :=
  ⟨_, _, _, pack_pre zs, rfl, rfl, num4_bytes _, fun mid' k h => end_sum hl h⟩

set_option maxHeartbeats 2000000 in
theorem turned_not (w : World) (b : Value) (zs : List Int) (hr : Row .u8 any w b zs) (hb : Bytes zs) (at_ : Int) (M : Nat) (s : Bool) (hno : M = 0 ∨ 65536 < zs.length) :
    Calls Try.prog 7 #[b, .int .i64 at_, .int .u32 (M : Int), .bool s] w fun e w' => e = .returned (.bool true) ∧ Below w.heap.size w w' := by
  obtain ⟨v1, v2, rfl⟩ := hr.slice
  have hq : (packC zs != 0) = true ∨ ((packC zs != 0) = false ∧ ((M : Int) == 0) = true) ∨ ((packC zs != 0) = false ∧ ((M : Int) == 0) = false ∧ decide (65536 < (zs.length : Int)) = true) := by
    by_cases e1 : (packC zs != 0) = true
    · exact .inl e1
    · have e1' : (packC zs != 0) = false := by simpa using e1
      by_cases e2 : M = 0
      · exact .inr (.inl ⟨e1', by simp [e2]⟩)
      · exact .inr (.inr ⟨e1', by rw [beq_eq_false_iff_ne]; omega, by rw [decide_eq_true_iff]; omega⟩)
  clear hno
  rcases hq with q1 | ⟨q1, q2⟩ | ⟨q1, q2, q3⟩
  all_goals
    go_enter Try.func7, Try.ntmps7
    go_wp2_with fail
    refine (Pack_walk any _ zs _ hb hr).mono ?_
    rintro e w1 ⟨x, rfl, hox, hfx, T1⟩
    have B1 := T1.all
    clear hox hfx T1
    generalize packC zs = C at *
    go_wp2_with fail
    refine (awake_walk _).mono ?_
    rintro e w2 ⟨rfl, bel2⟩
    go_wp2_with fail
    refine (awake_walk _).mono ?_
    rintro e w3 ⟨rfl, bel3⟩
    go_wp2
    go_ret
    exact ⟨rfl, below_then (below_then B1 bel2) bel3⟩

theorem FrameTurned_law (w : World) (b : Value) (zs : List Int) (hr : Row .u8 any w b zs) (hwf : ∀ n ∈ zs, (Lit.int .u8 n).wf = true) (hz : zs.length * 1 ≤ 140737488351232) (at_ : Int) (hat : (Lit.int .i64 at_).wf = true) (m : Int) (hm : (Lit.int .u32 m).wf = true) (s : Bool) :
    Calls Try.prog 7 #[b, .int .i64 at_, .int .u32 m, .bool s] w fun e w' => e = .returned (.bool true) ∧ Below w.heap.size w w' := by
  have hb := bytes_wf hwf
  have m1 := wf_u32' hm
  obtain ⟨M, rfl⟩ := Int.eq_ofNat_of_zero_le m1.1
  have hM : M < 4294967296 := by omega
  by_cases hno : M = 0 ∨ 65536 < zs.length
  · exact turned_not w b zs hr hb at_ M s hno
  have hl : zs.length ≤ 65536 := by omega
  cases s with
  | true => exact turned_sum w b zs hr hb hl at_ M (by omega) hM true rfl rfl (by omega) (fun K _ => mid_sum hl M K)
  | false =>
    by_cases h0 : zs.length = 0
    · exact turned_zero w b zs hr hb hl at_ M (by omega) hM false rfl (by unfold isNone; simp [h0]) (by omega) (fun K _ => mid_sum hl M K)
    · exact turned_carried w b zs hr hb hl at_ M (by omega) hM false rfl (by unfold isPos; rw [beq_eq_false_iff_ne]; omega) (by omega) (mid_carried hb hl hM)
end Go.Proofs.Ytkmeedefaceknaa
