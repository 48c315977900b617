/- Bytes of which some that lie within 32 neighbouring bits are turned have another sum. -/
import Derived.Test.YtdeennmiemocfaaLawSums4
namespace Go.Proofs.Ytdeennmiemocfaa
open Go.RowKit
set_option linter.unusedVariables false

theorem bit_zero {m k : Nat} (h : m / 2 ^ k % 2 = 0) : m % 2 ^ (k + 1) = m % 2 ^ k := by
  rw [Nat.pow_succ, Nat.mod_mul, h]; simp
theorem bit_one {m k : Nat} (h : m / 2 ^ k % 2 = 1) : m % 2 ^ (k + 1) = m % 2 ^ k ^^^ 2 ^ k := by
  rw [Nat.pow_succ, Nat.mod_mul, h, Nat.mul_one]
  have hlt : m % 2 ^ k < 2 ^ k := Nat.mod_lt _ (Nat.pow_pos (by decide))
  have h1 := Nat.two_pow_add_eq_or_of_lt hlt 1
  have h2 : 2 ^ k ^^^ m % 2 ^ k = 2 ^ k ||| m % 2 ^ k := by
    apply Nat.eq_of_testBit_eq
    intro i
    rw [Nat.testBit_xor, Nat.testBit_or, Nat.testBit_two_pow]
    by_cases e : k = i
    · subst e
      rw [Nat.testBit_lt_two_pow hlt]; simp
    · simp [e]
  rw [Nat.mul_one] at h1
  rw [Nat.add_comm, h1, ← h2, Nat.xor_comm]
theorem nat_set (cs : List Int) (i : Nat) (v : Int) : nat (cs.set i v) = (nat cs).set i v.toNat := by simp [nat, List.map_set]
/-- one bit of a text turned -/
theorem turn_num (cs : List Int) (p : Nat) (hp : p / 8 < cs.length) : num (nat (cs.set (p / 8) (((cs.getD (p / 8) 0).toNat ^^^ 2 ^ (p % 8) : Nat) : Int))) = num (nat cs) ^^^ 2 ^ p := by
  have hl : p / 8 < (nat cs).length := by simpa [nat] using hp
  have e : (cs.getD (p / 8) 0).toNat = (nat cs)[p / 8] := by simp [nat, hp]
  rw [nat_set, Int.toNat_natCast, e, num_set (nat cs) (p / 8) (2 ^ (p % 8)) hl, ← Nat.pow_add, show 8 * (p / 8) + p % 8 = p by omega]
theorem set_bytes {cs : List Int} (h : Bytes cs) (i : Nat) (v : Int) (h0 : 0 ≤ v) (h1 : v < 256) : Bytes (cs.set i v) := by
  intro x hx
  rcases List.mem_or_eq_of_mem_set hx with h' | h'
  · exact h x h'
  · omega
theorem pow_byte (r : Nat) (h : r < 8) : 2 ^ r < 256 := by
  have : 2 ^ r ≤ 2 ^ 7 := Nat.pow_le_pow_right (by decide) (by omega)
  omega
theorem first_at (a : Int) (n : Nat) (h0 : 0 < n) (h1 : n ≤ 1048576) : ∃ f : Nat, f < 8 * n ∧ wrap64 ((IntKind.u64.wrap a).tmod (8 * (n : Int))) = (f : Int) := by
  refine ⟨(a % 18446744073709551616 % (8 * (n : Int))).toNat, ?_, ?_⟩
  · have := Int.emod_lt_of_pos (a % 18446744073709551616) (show (0 : Int) < 8 * n by omega)
    omega
  · have e : (IntKind.u64.wrap a).tmod (8 * (n : Int)) = a % 18446744073709551616 % (8 * (n : Int)) := by
      rw [IntKind.wrap_u64, Int.tmod_eq_emod_of_nonneg (by omega)]
    have h2 := Int.emod_lt_of_pos (a % 18446744073709551616) (show (0 : Int) < 8 * n by omega)
    have h3 := Int.emod_nonneg (a % 18446744073709551616) (show (8 * (n : Int)) ≠ 0 by omega)
    rw [e]
    unfold wrap64
    omega
theorem owns_le {w : World} {base base' size n : Nat} {e : TypeId} {v : Value} {xs : List Value} (h : w.ownsRow base e size v n xs) (hb : base' ≤ base) : w.ownsRow base' e size v n xs :=
  ⟨h.1, h.2.elim Or.inl (fun ⟨g, cap, cur, hv, hg, r⟩ => Or.inr ⟨g, cap, cur, hv, Nat.le_trans hb hg, r⟩)⟩
theorem mask_bit (M k : Nat) (h : M < 4294967296) : bits .and .u32 ((M : Int) / 2 ^ k) 1 = ((M / 2 ^ k % 2 : Nat) : Int) := by
  have e : (M : Int) / 2 ^ k = ((M / 2 ^ k : Nat) : Int) := by push_cast; rfl
  rw [e, and_one _ (Nat.lt_of_le_of_lt (Nat.div_le_self _ _) h)]
theorem byte_turn (c : Int) (r : Nat) (h0 : 0 ≤ c ∧ c < 256) (hr : r < 8) : bits .xor .u8 c (2 ^ r % 256) = ((c.toNat ^^^ 2 ^ r : Nat) : Int) := by
  obtain ⟨n, rfl⟩ := Int.eq_ofNat_of_zero_le h0.1
  have e : (2 : Int) ^ r = ((2 ^ r : Nat) : Int) := by push_cast; rfl
  have hp := pow_byte r hr
  have e2 : ∀ q : Nat, q < 256 → (q : Int) % 256 = (q : Int) := fun q hq => by omega
  rw [e, e2 _ hp, u8_xor_nat _ _ (by omega) (pow_byte r hr)]; rfl

theorem burst_end (M F k : Nat) (zs cs : List Int) (hb : Bytes zs) (hc : Bytes cs) (hl : cs.length = zs.length) (hF : F ≤ 8 * zs.length) (hM : M < 4294967296) (h : num (nat cs) = num (nat zs) ^^^ 2 ^ F * (M % 2 ^ k)) :
    (((sumAdd 0 (nat cs) : Nat) : Int) != ((sumAdd 0 (nat zs) : Nat) : Int)) = decide (0 < M % 2 ^ k) := by
  have hp : M % 2 ^ k < 4294967296 := Nat.lt_of_le_of_lt (Nat.mod_le _ _) hM
  have key := sum_burst (nat zs) (nat cs) (by simp [nat, hl]) (nat_byte hb) (nat_byte hc) F (M % 2 ^ k) (by simp [nat]; omega) hp h
  by_cases h0 : M % 2 ^ k = 0
  · rw [key.2 h0, h0]; simp
  · have : sumAdd 0 (nat cs) ≠ sumAdd 0 (nat zs) := fun e => h0 (key.1 e)
    rw [show decide (0 < M % 2 ^ k) = true by rw [decide_eq_true_iff]; omega, bne_iff_ne]
    omega

set_option maxHeartbeats 2000000 in
theorem CrcBurst_law (w : World) (b : Value) (zs : List Int) (hr : Row .u8 any w b zs) (hwf : ∀ n ∈ zs, (Lit.int .u8 n).wf = true) (hz : zs.length * 1 ≤ 140737488351232) (at_ : Int) (hat : (Lit.int .i64 at_).wf = true) (m : Int) (hm : (Lit.int .u32 m).wf = true) :
    Calls Try.prog 5 #[b, .int .i64 at_, .int .u32 m] w fun e w' => e = .returned (.bool true) ∧ Below w.heap.size w w' := by
  have hb := bytes_wf hwf
  obtain ⟨v1, v2, rfl⟩ := hr.slice
  have m1 := wf_u32' hm
  obtain ⟨M, rfl⟩ := Int.eq_ofNat_of_zero_le m1.1
  have hM : M < 4294967296 := by omega
  clear m1 hm hwf hat
  by_cases hno : zs.length = 0 ∨ M = 0 ∨ 1048576 < zs.length
  · have hq : (((zs.length : Int) == 0) = true) ∨ (((zs.length : Int) == 0) = false ∧ ((M : Int) == 0) = true) ∨ (((zs.length : Int) == 0) = false ∧ ((M : Int) == 0) = false ∧ decide (1048576 < (zs.length : Int)) = true) := by
      by_cases e1 : zs.length = 0
      · exact .inl (by simp [e1])
      by_cases e2 : M = 0
      · exact .inr (.inl ⟨by rw [beq_eq_false_iff_ne]; omega, by simp [e2]⟩)
      · exact .inr (.inr ⟨by rw [beq_eq_false_iff_ne]; omega, by rw [beq_eq_false_iff_ne]; omega, by rw [decide_eq_true_iff]; omega⟩)
    clear hno
    have done : ∀ w1, Below w.heap.size w w1 → ∀ w2, Below w1.heap.size w1 w2 → Below w.heap.size w w2 := fun w1 h1 w2 h2 => below_then h1 h2
    rcases hq with q1 | ⟨q1, q2⟩ | ⟨q1, q2, q3⟩
    all_goals
      go_enter Try.func5, Try.ntmps5
      go_wp2_with fail
      refine (awake_walk _).mono ?_
      rintro e w1 ⟨rfl, bel1⟩
      go_wp2_with fail
      refine (awake_walk _).mono ?_
      rintro e w2 ⟨rfl, bel2⟩
      go_wp2
      go_ret
      exact ⟨rfl, done _ bel1 _ bel2⟩
  · have h0 : 0 < zs.length := by omega
    have hM0 : 0 < M := by omega
    have hl : zs.length ≤ 1048576 := by omega
    have q1 : ((zs.length : Int) == 0) = false := by rw [beq_eq_false_iff_ne]; omega
    have q2 : ((M : Int) == 0) = false := by rw [beq_eq_false_iff_ne]; omega
    have q3 : decide (1048576 < (zs.length : Int)) = false := by rw [decide_eq_false_iff_not]; omega
    clear hno
    obtain ⟨F, hF, hfirst⟩ := first_at at_ zs.length h0 hl
    go_enter Try.func5, Try.ntmps5
    go_wp2_with fail
    refine (awake_walk _).mono ?_
    rintro e w1 ⟨rfl, bel1⟩
    have hr1 := hr.below bel1
    go_wp2_with fail
    refine (copy_walk any _ zs _ hr1 (by omega)).mono ?_
    rintro e w2 ⟨x, rfl, ho2, k2⟩
    have bel2 := below_then bel1 k2
    have hr2 := hr1.below k2
    have Hfirst := hide hfirst
    clear q1 q2 q3 hfirst
    go_wp2_with fail
    rw [unhide Hfirst]
    go_loopw [9, 10] (fun s i wr => ∃ (k : Nat) (cs : List Int), k ≤ 32 ∧ i = .int .i64 (k : Int) ∧ s = .bool (decide (0 < M % 2 ^ k)) ∧ cs.length = zs.length ∧ wr.ownsRow w.heap.size 5 1 x zs.length (cs.map (Value.int .u8)) ∧ Below w.heap.size w wr ∧ F + k ≤ 8 * zs.length ∧ Hid (Bytes cs ∧ num (nat cs) = num (nat zs) ^^^ 2 ^ F * (M % 2 ^ k))) (fun _ i _ => 32 - (intOf i).toNat)
    case atStart =>
      exact ⟨0, zs, by omega, rfl, by simp [Nat.mod_one], rfl, owns_le ho2 bel1.size, bel2, by omega, hide ⟨hb, by simp [Nat.mod_one]⟩⟩
    case round =>
      obtain ⟨k, cs, hk, rfl, rfl, hcl, hown, hbel, hFk, hcs⟩ := hrel
      by_cases hlt : k < 32
      · by_cases hlt2 : F + k < 8 * zs.length
        · have hbit := mask_bit M k hM
          rcases Nat.mod_two_eq_zero_or_one (M / 2 ^ k) with ho | ho
          · have hbit0 : bits .and .u32 ((M : Int) / 2 ^ k) 1 = 0 := by rw [hbit, ho]; rfl
            have hcs2 : Hid (Bytes cs ∧ num (nat cs) = num (nat zs) ^^^ 2 ^ F * (M % 2 ^ (k + 1))) := by
              refine hide ?_
              rw [bit_zero ho]
              exact unhide hcs
            have Hs : Hid (decide (0 < M % 2 ^ k) = decide (0 < M % 2 ^ (k + 1))) := hide (by rw [bit_zero ho])
            clear hbit ho hcs
            generalize decide (0 < M % 2 ^ k) = sb at *
            go_wp2
            exact ⟨⟨k + 1, cs, by omega, by go_num, by rw [unhide Hs], hcl, hown, hbel, by omega, hcs2⟩, by simp [intOf]; omega⟩
          · have hbit0 : bits .and .u32 ((M : Int) / 2 ^ k) 1 = 1 := by rw [hbit, ho]; rfl
            have hxf : ∃ g cap, x = .slice (some ⟨g, 0, none⟩) zs.length cap := by
              rcases hown.2 with ⟨_, h0⟩ | ⟨g, cap, cur, hv, _⟩
              · omega
              · exact ⟨g, cap, hv⟩
            obtain ⟨g, cap, rfl⟩ := hxf
            have hpl : (F + k) / 8 < cs.length := by omega
            have hcell : wr.cell? ⟨g, (F + k) / 8, none⟩ = some (.int .u8 (cs.getD ((F + k) / 8) 0)) := by
              rw [hown.cellAt _ (by omega)]; simp [hpl]
            have hfr := hown.frozenAt ((F + k) / 8)
            have hcb := getD_byte (unhide hcs).1 hpl
            have hturn := byte_turn (cs.getD ((F + k) / 8) 0) ((F + k) % 8) hcb (by omega)
            have hnum := turn_num cs (F + k) hpl
            have hNlt : (cs.getD ((F + k) / 8) 0).toNat ^^^ 2 ^ ((F + k) % 8) < 256 := Nat.xor_lt_two_pow (n := 8) (by omega) (pow_byte _ (by omega))
            generalize (cs.getD ((F + k) / 8) 0).toNat ^^^ 2 ^ ((F + k) % 8) = N at *
            generalize cs.getD ((F + k) / 8) 0 = c at *
            obtain ⟨hst, hgr⟩ := hown.stored ((F + k) / 8) (.int .u8 (N : Int))
            have hst2 : (wr.setCell ⟨g, (F + k) / 8, none⟩ (.int .u8 (N : Int))).ownsRow w.heap.size 5 1 (.slice (some ⟨g, 0, none⟩) zs.length cap) zs.length ((cs.set ((F + k) / 8) (N : Int)).map (Value.int .u8)) := by
              rw [List.map_set]; exact hst
            have hbel2 : Below w.heap.size w (wr.setCell ⟨g, (F + k) / 8, none⟩ (.int .u8 (N : Int))) := by
              refine hbel.setCell ?_ _
              rcases hown.2 with ⟨h, _⟩ | ⟨g', cap', cur, h, hb, _⟩
              · simp at h
              · simp at h; show w.heap.size ≤ g; omega
            have hcs2 : Hid (Bytes (cs.set ((F + k) / 8) (N : Int)) ∧ num (nat (cs.set ((F + k) / 8) (N : Int))) = num (nat zs) ^^^ 2 ^ F * (M % 2 ^ (k + 1))) := by
              refine hide ⟨set_bytes (unhide hcs).1 _ _ (by omega) (by omega), ?_⟩
              rw [hnum, (unhide hcs).2, bit_one ho, mul_xor, ← Nat.pow_add, Nat.xor_assoc]
            have hlen2 : (cs.set ((F + k) / 8) (N : Int)).length = zs.length := by rw [List.length_set]; exact hcl
            have Hs : Hid (decide (0 < M % 2 ^ (k + 1)) = true) := by
              refine hide ?_
              rw [decide_eq_true_iff, Nat.pow_succ, Nat.mod_mul, ho]
              have := Nat.pow_pos (n := k) (show 0 < 2 by decide)
              omega
            clear hbit ho hcs hst hgr hown hbel hnum
            generalize cs.set ((F + k) / 8) (N : Int) = cs' at *
            go_wp2
            exact ⟨⟨k + 1, cs', by omega, by go_num, by rw [unhide Hs], hlen2, hst2, hbel2, by omega, hcs2⟩, by simp [intOf]; omega⟩
        · have hd : decide ((F : Int) + (k : Int) < 8 * (zs.length : Int)) = false := by rw [decide_eq_false_iff_not]; omega
          have hburst := burst_end M F k zs cs hb (unhide hcs).1 hcl (by omega) hM (unhide hcs).2
          have hrX := (row_of_owns (ys := cs) hown).mono (B' := any) (fun _ _ => trivial)
          have hrB := hr.below hbel
          have hbc := (unhide hcs).1
          clear hcs hown
          generalize decide (0 < M % 2 ^ k) = sb at *
          go_wp2_with fail
          refine (sum_walk any x cs _ hbc hrX).mono ?_
          rintro e w4 ⟨rfl, rfl⟩
          go_wp2_with fail
          refine (sum_walk any _ zs _ hb hrB).mono ?_
          rintro e w4 ⟨rfl, rfl⟩
          go_wp2
          go_ret
          exact ⟨rfl, hbel⟩
      · have hburst := burst_end M F k zs cs hb (unhide hcs).1 hcl (by omega) hM (unhide hcs).2
        have hrX := (row_of_owns (ys := cs) hown).mono (B' := any) (fun _ _ => trivial)
        have hrB := hr.below hbel
        have hbc := (unhide hcs).1
        clear hcs hown
        generalize decide (0 < M % 2 ^ k) = sb at *
        go_wp2_with fail
        refine (sum_walk any x cs _ hbc hrX).mono ?_
        rintro e w4 ⟨rfl, rfl⟩
        go_wp2_with fail
        refine (sum_walk any _ zs _ hb hrB).mono ?_
        rintro e w4 ⟨rfl, rfl⟩
        go_wp2
        go_ret
        exact ⟨rfl, hbel⟩
end Go.Proofs.Ytdeennmiemocfaa
