/- Plain facts: bits of a frame that are turned. -/
import Derived.Test.YtkmeedefaceknaaFTake
namespace Go.Proofs.Ytkmeedefaceknaa
open Go.RowKit Go.Maps
set_option linter.unusedVariables false
set_option linter.unusedSimpArgs false

theorem bit_zero {m k : Nat} (h : m / 2 ^ k % 2 = 0) : m % 2 ^ (k + 1) = m % 2 ^ k := by
  rw [Nat.pow_succ, Nat.mod_mul, h]; simp
theorem bit_one {m k : Nat} (h : m / 2 ^ k % 2 = 1) : m % 2 ^ (k + 1) = m % 2 ^ k ^^^ 2 ^ k := by
  rw [Nat.pow_succ, Nat.mod_mul, h, Nat.mul_one]
  have hlt : m % 2 ^ k < 2 ^ k := Nat.mod_lt _ (Nat.pow_pos (by decide))
  have h1 := Nat.two_pow_add_eq_or_of_lt hlt 1
  have h2 : 2 ^ k ^^^ m % 2 ^ k = 2 ^ k ||| m % 2 ^ k := by
    apply Nat.eq_of_testBit_eq
    intro i
    rw [Nat.testBit_xor, Nat.testBit_or, Nat.testBit_two_pow]
    by_cases e : k = i
    · subst e
      rw [Nat.testBit_lt_two_pow hlt]; simp
    · simp [e]
  rw [Nat.mul_one] at h1
  rw [Nat.add_comm, h1, ← h2, Nat.xor_comm]
theorem bit_some {m k : Nat} (h : m / 2 ^ k % 2 = 1) : 0 < m % 2 ^ (k + 1) := by
  rw [Nat.pow_succ, Nat.mod_mul, h]
  have := Nat.pow_pos (n := k) (show 0 < 2 by decide)
  omega
theorem nats_set (cs : List Int) (i : Nat) (v : Int) : nats (cs.set i v) = (nats cs).set i v.toNat := by simp [nats, List.map_set]
/-- one bit of a text turned -/
theorem turn_num (cs : List Int) (p : Nat) (hp : p / 8 < cs.length) : num (nats (cs.set (p / 8) (((cs.getD (p / 8) 0).toNat ^^^ 2 ^ (p % 8) : Nat) : Int))) = num (nats cs) ^^^ 2 ^ p := by
  have hl : p / 8 < (nats cs).length := by simpa [nats] using hp
  have e : (cs.getD (p / 8) 0).toNat = (nats cs)[p / 8] := by simp [nats, hp]
  rw [nats_set, Int.toNat_natCast, e, num_set (nats cs) (p / 8) (2 ^ (p % 8)) hl, ← Nat.pow_add, show 8 * (p / 8) + p % 8 = p by omega]
theorem set_bytes {cs : List Int} (h : Bytes cs) (i : Nat) (v : Int) (h0 : 0 ≤ v) (h1 : v < 256) : Bytes (cs.set i v) := by
  intro x hx
  rcases List.mem_or_eq_of_mem_set hx with h' | h'
  · exact h x h'
  · omega
theorem pow_byte (r : Nat) (h : r < 8) : 2 ^ r < 256 := by
  have : 2 ^ r ≤ 2 ^ 7 := Nat.pow_le_pow_right (by decide) (by omega)
  omega
theorem rem_at (a : Int) (n : Nat) (h0 : 0 < n) (h1 : n ≤ 1099511627776) : ∃ f : Nat, f < n ∧ wrap64 ((IntKind.u64.wrap a).tmod (n : Int)) = (f : Int) := by
  refine ⟨(a % 18446744073709551616 % (n : Int)).toNat, ?_, ?_⟩
  · have := Int.emod_lt_of_pos (a % 18446744073709551616) (show (0 : Int) < n by omega)
    omega
  · have e : (IntKind.u64.wrap a).tmod (n : Int) = a % 18446744073709551616 % (n : Int) := by
      rw [IntKind.wrap_u64, Int.tmod_eq_emod_of_nonneg (by omega)]
    have h2 := Int.emod_lt_of_pos (a % 18446744073709551616) (show (0 : Int) < n by omega)
    have h3 := Int.emod_nonneg (a % 18446744073709551616) (show (n : Int) ≠ 0 by omega)
    rw [e]
    unfold wrap64
    omega
theorem mask_bit (M k : Nat) (h : M < 4294967296) : bits .and .u32 ((M : Int) / 2 ^ k) 1 = ((M / 2 ^ k % 2 : Nat) : Int) := by
  have e : (M : Int) / 2 ^ k = ((M / 2 ^ k : Nat) : Int) := by push_cast; rfl
  rw [e, and_one _ (Nat.lt_of_le_of_lt (Nat.div_le_self _ _) h)]
theorem byte_turn (c : Int) (r : Nat) (h0 : 0 ≤ c ∧ c < 256) (hr : r < 8) : bits .xor .u8 c (2 ^ r % 256) = ((c.toNat ^^^ 2 ^ r : Nat) : Int) := by
  obtain ⟨n, rfl⟩ := Int.eq_ofNat_of_zero_le h0.1
  have e : (2 : Int) ^ r = ((2 ^ r : Nat) : Int) := by push_cast; rfl
  have hp := pow_byte r hr
  have e2 : ∀ q : Nat, q < 256 → (q : Int) % 256 = (q : Int) := fun q hq => by omega
  rw [e, e2 _ hp, u8_xor_nat _ _ (by omega) (pow_byte r hr)]; rfl
theorem set_mid (pre mid post : List Int) (j : Nat) (v : Int) (hj : j < mid.length) : (pre ++ (mid ++ post)).set (pre.length + j) v = pre ++ (mid.set j v ++ post) := by
  rw [List.set_append_right _ _ (by omega), Nat.add_sub_cancel_left, List.set_append_left _ _ hj]
theorem getD_mid (pre mid post : List Int) (j : Nat) (hj : j < mid.length) : (pre ++ (mid ++ post)).getD (pre.length + j) 0 = mid.getD j 0 := by
  simp only [List.getD_eq_getElem?_getD]
  rw [List.getElem?_append_right (by omega), Nat.add_sub_cancel_left, List.getElem?_append_left hj]

/-- what stands between, by what is turned of it -/
def Turned (mid mid' : List Int) (K p : Nat) : Prop := Bytes mid' ∧ mid'.length = mid.length ∧ num (nats mid') = num (nats mid) ^^^ 2 ^ K * p ∧ (p = 0 → mid' = mid)
theorem turned_none {mid : List Int} (h : Bytes mid) (K : Nat) : Turned mid mid K 0 := ⟨h, rfl, by simp, fun _ => rfl⟩
theorem Turned.bit {mid mid' : List Int} {K M k : Nat} (h : Turned mid mid' K (M % 2 ^ k)) (hp : (K + k) / 8 < mid.length) (ho : M / 2 ^ k % 2 = 1) :
    Turned mid (mid'.set ((K + k) / 8) (((mid'.getD ((K + k) / 8) 0).toNat ^^^ 2 ^ ((K + k) % 8) : Nat) : Int)) K (M % 2 ^ (k + 1)) := by
  obtain ⟨h1, h2, h3, h4⟩ := h
  have hcb := getD_byte h1 (show (K + k) / 8 < mid'.length by omega)
  have hNlt : (mid'.getD ((K + k) / 8) 0).toNat ^^^ 2 ^ ((K + k) % 8) < 256 := Nat.xor_lt_two_pow (n := 8) (by omega) (pow_byte _ (by omega))
  refine ⟨set_bytes h1 _ _ (by omega) (by omega), by rw [List.length_set]; exact h2, ?_, fun h => ?_⟩
  · rw [turn_num mid' (K + k) (by omega), h3, bit_one ho, mul_xor, ← Nat.pow_add, Nat.xor_assoc]
  · have := bit_some ho; omega
def ended (zs : List Int) (p : Nat) : List Int × Nat × Int := if p = 0 then (zs, zs.length + 10, 0) else ([], 0, 11)
theorem pack_pre (zs : List Int) : packB zs = (165 :: num4 zs.length) ++ (num4 (sum2 (num4 zs.length) zs) ++ (zs ++ [90])) := by simp [packB]
theorem pack_pre9 (zs : List Int) : packB zs = (165 :: (num4 zs.length ++ num4 (sum2 (num4 zs.length) zs))) ++ (zs ++ [90]) := by simp [packB]
theorem end_sum {zs mid' : List Int} {K p : Nat} (hl : zs.length ≤ 65536) (h : Turned (num4 (sum2 (num4 zs.length) zs)) mid' K p) : takeT ((165 :: num4 zs.length) ++ (mid' ++ (zs ++ [90]))) = ended zs p := by
  obtain ⟨h1, h2, h3, h4⟩ := h
  have e := take_form (num4 zs.length) mid' zs [] rfl h2 (by omega)
  have o0 : of4 (num4 (sum2 (num4 zs.length) zs)) = sum2 (num4 zs.length) zs := by
    have := of4_num4 (sum2 (num4 zs.length) zs) (sum2_lt _ _) []
    rwa [List.append_nil] at this
  have o1 := of4_num mid' h2 h1
  have o2 := of4_num _ (num4_len (sum2 (num4 zs.length) zs)) (num4_bytes _)
  show takeT (165 :: (num4 zs.length ++ (mid' ++ (zs ++ [90])))) = _
  rw [e]
  unfold ended
  by_cases hp : p = 0
  · rw [if_pos hp, if_pos (by rw [h4 hp, o0])]
  · rw [if_neg hp, if_neg]
    intro hc
    rw [o1, h3, ← o2, o0] at hc
    have : (2 ^ K * p) = 0 := by
      have h5 : sum2 (num4 zs.length) zs ^^^ (sum2 (num4 zs.length) zs ^^^ 2 ^ K * p) = sum2 (num4 zs.length) zs ^^^ sum2 (num4 zs.length) zs := by rw [hc]
      rw [← Nat.xor_assoc, Nat.xor_self, Nat.zero_xor] at h5
      exact h5
    have := Nat.pow_pos (n := K) (show 0 < 2 by decide)
    rcases Nat.mul_eq_zero.1 ‹2 ^ K * p = 0› with h | h <;> omega
theorem end_carried {zs mid' : List Int} {K p : Nat} (hb : Bytes zs) (hl : zs.length ≤ 65536) (hK : K ≤ 8 * zs.length) (hp : p < 4294967296) (h : Turned zs mid' K p) : takeT ((165 :: (num4 zs.length ++ num4 (sum2 (num4 zs.length) zs))) ++ (mid' ++ [90])) = ended zs p := by
  obtain ⟨h1, h2, h3, h4⟩ := h
  have e := take_form (num4 zs.length) (num4 (sum2 (num4 zs.length) zs)) mid' [] (by rw [h2]) (num4_len _) (by omega)
  have o0 : of4 (num4 (sum2 (num4 zs.length) zs)) = sum2 (num4 zs.length) zs := by
    have := of4_num4 (sum2 (num4 zs.length) zs) (sum2_lt _ _) []
    rwa [List.append_nil] at this
  have key := sum2_turned (num4 zs.length) zs mid' (num4_bytes _) hb h1 h2 K p hK hp h3
  have e0 : (165 :: (num4 zs.length ++ num4 (sum2 (num4 zs.length) zs))) ++ (mid' ++ [90]) = 165 :: (num4 zs.length ++ (num4 (sum2 (num4 zs.length) zs) ++ (mid' ++ 90 :: []))) := by simp
  rw [e0, e, o0]
  unfold ended
  by_cases h0 : p = 0
  · rw [if_pos h0, if_pos (key.2 h0).symm, h4 h0]
  · rw [if_neg h0, if_neg (fun hc => h0 (key.1 hc.symm))]
end Go.Proofs.Ytkmeedefaceknaa
