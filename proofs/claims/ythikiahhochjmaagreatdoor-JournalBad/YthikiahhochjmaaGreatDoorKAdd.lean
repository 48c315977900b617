/- What the program's sums are. -/
import Derived.Test.YthikiahhochjmaaGreatDoorPack1
namespace Go.Proofs.YthikiahhochjmaaGreatDoor
open Go.RowKit
set_option linter.unusedVariables false

theorem and_one (s : Nat) (h : s < 4294967296) : bits .and .u32 (s : Int) 1 = ((s % 2 : Nat) : Int) := by
  rw [show (1 : Int) = ((1 : Nat) : Int) from rfl, u32_and_nat _ _ h (by omega), Nat.and_one_is_mod]
theorem and_all (o : Nat) (h : o < 2) : bits .and .u32 3988292384 (-(o : Int) % 4294967296) = ((o * 3988292384 : Nat) : Int) := by
  match o, h with
  | 0, _ => decide +kernel
  | 1, _ => decide +kernel
theorem step_bits (r : Nat) (h : r < 4294967296) : bits .xor .u32 ((r : Int) / 2) (bits .and .u32 3988292384 (-((r : Int) % 2) % 4294967296)) = ((st r : Nat) : Int) := by
  have e1 : (r : Int) % 2 = ((r % 2 : Nat) : Int) := by omega
  have e2 : (r : Int) / 2 = ((r / 2 : Nat) : Int) := by omega
  rw [e1, e2, and_all _ (by omega), u32_xor_nat _ _ (by omega) (by omega)]
  rfl

set_option maxHeartbeats 1000000 in
theorem shift_walk (s : Nat) (w : World) (h : s < 4294967296) :
    Calls Tryz.prog 86 #[.int .u32 (s : Int)] w fun e w' => e = .returned (.int .u32 ((it 8 s : Nat) : Int)) ∧ w' = w := by
  go_enter Tryz.func86, Tryz.ntmps86
  go_wp2_with fail
  go_loop [0, 4] (fun a i => ∃ k r : Nat, k ≤ 8 ∧ r < 4294967296 ∧ a = .int .u32 (r : Int) ∧ i = .int .i64 (k : Int) ∧ Hid (it 8 s = it (8 - k) r)) (fun _ i => 8 - (intOf i).toNat)
  case atStart => exact ⟨0, s, by omega, h, rfl, rfl, hide rfl⟩
  case round =>
    obtain ⟨k, r, hk, hr, rfl, rfl, hq⟩ := hrel
    by_cases hlt : k < 8
    · have h1 := and_one r hr
      have h2 := step_bits r hr
      have hq2 : Hid (it 8 s = it (8 - (k + 1)) (st r)) := by
        refine hide ?_
        rw [unhide hq, show 8 - k = 8 - (k + 1) + 1 by omega]; rfl
      have hst := st_lt hr
      go_wp2
      exact ⟨⟨k + 1, st r, by omega, hst, rfl, by go_num, hq2⟩, by simp [intOf]; omega⟩
    · have hk8 : k = 8 := by omega
      subst hk8
      go_wp2
      go_ret
      refine ⟨ret_int ?_, rfl⟩
      rw [unhide hq]; rfl

/-- bytes as plain numbers -/
def nat (zs : List Int) : List Nat := zs.map Int.toNat
theorem nat_byte {zs : List Int} (h : Bytes zs) : ∀ x ∈ nat zs, x < 256 := by
  intro x hx
  obtain ⟨z, hz, rfl⟩ := List.mem_map.1 hx
  have := h z hz
  omega

theorem turn_bits (s : Nat) (h : s < 4294967296) : bits .xor .u32 IntKind.u32.max (s : Int) = ((tn s : Nat) : Int) := by
  rw [show IntKind.u32.max = ((4294967295 : Nat) : Int) from rfl, u32_xor_nat _ _ (by omega) h, tn_xor h, Nat.xor_comm]
theorem mix_bits (s : Nat) (x : Int) (h : s < 4294967296) (h0 : 0 ≤ x) (h1 : x < 256) : bits .xor .u32 (s : Int) x = ((s ^^^ x.toNat : Nat) : Int) := by
  obtain ⟨n, rfl⟩ := Int.eq_ofNat_of_zero_le h0
  rw [u32_xor_nat _ _ h (by omega)]; rfl
theorem nat_drop (zs : List Int) (k : Nat) (h : k < zs.length) : nat (zs.drop k) = (zs.getD k 0).toNat :: nat (zs.drop (k + 1)) := by
  rw [drop_cons zs k h]; rfl

set_option maxHeartbeats 1000000 in
theorem add_some (b off c : Nat) (zs : List Int) (s : Nat) (w : World) (hs : s < 4294967296) (hb : Bytes zs) (hm : zs.length ≤ maxLen) (hc : Cells .u8 w b off zs) :
    Calls Tryz.prog 73 #[.int .u32 (s : Int), .slice (some ⟨b, off, none⟩) zs.length c] w fun e w' => e = .returned (.int .u32 ((sumAdd s (nat zs) : Nat) : Int)) ∧ w' = w := by
  unfold maxLen at hm
  have ht := turn_bits s hs
  go_enter Tryz.func73, Tryz.ntmps73
  go_wp2_with (fail)
  go_loop [5, 12] (fun a i => ∃ k r : Nat, k ≤ zs.length ∧ r < 4294967296 ∧ a = .int .u32 (r : Int) ∧ i = .int .i64 (k : Int) ∧ Hid (run (tn s) (nat zs) = run r (nat (zs.drop k)))) (fun _ i => zs.length - (intOf i).toNat)
  case atStart => exact ⟨0, tn s, by omega, tn_lt s, rfl, rfl, hide rfl⟩
  case round =>
    obtain ⟨k, r, hk, hr, rfl, rfl, hq⟩ := hrel
    by_cases hlt : k < zs.length
    · have hx := getD_byte hb hlt
      have hcell := hc k hlt
      have hq1 : Hid (run (tn s) (nat zs) = run (it 8 (r ^^^ (zs.getD k 0).toNat)) (nat (zs.drop (k + 1)))) := by
        refine hide ?_
        rw [unhide hq, nat_drop zs k hlt]; rfl
      generalize zs.getD k 0 = x at *
      have h1 := mix_bits r x hr hx.1 hx.2
      have hlt2 : r ^^^ x.toNat < 4294967296 := xor_lt hr (by omega)
      generalize r ^^^ x.toNat = r2 at *
      have hit := it_lt 8 hlt2
      go_wp2_with (fail)
      refine (shift_walk r2 _ hlt2).mono ?_
      rintro e w1 ⟨rfl, rfl⟩
      go_wp2
      exact ⟨⟨k + 1, it 8 r2, by omega, hit, rfl, by go_num, hq1⟩, by simp [intOf]; omega⟩
    · have hk8 : k = zs.length := by omega
      subst hk8
      have h1 := turn_bits r hr
      go_wp2
      go_ret
      refine ⟨ret_int ?_, rfl⟩
      unfold sumAdd
      rw [unhide hq]; simp [nat, run]

set_option maxHeartbeats 400000 in
theorem add_none (a : Option Addr) (c : Nat) (s : Nat) (w : World) (hs : s < 4294967296) :
    Calls Tryz.prog 73 #[.int .u32 (s : Int), .slice a 0 c] w fun e w' => e = .returned (.int .u32 ((sumAdd s (nat []) : Nat) : Int)) ∧ w' = w := by
  have ht := turn_bits s hs
  have ht2 := turn_bits (tn s) (tn_lt s)
  go_enter Tryz.func73, Tryz.ntmps73
  go_wp2_with (fail)
  refine wp_loop_rounds 1 ?_; rw [rounds_succ]
  go_wp2
  go_ret
  exact ⟨rfl, rfl⟩
theorem add_walk (B : Nat → Prop) (v : Value) (zs : List Int) (s : Nat) (w : World) (hs : s < 4294967296) (hb : Bytes zs) (hr : Row .u8 B w v zs) :
    Calls Tryz.prog 73 #[.int .u32 (s : Int), v] w fun e w' => e = .returned (.int .u32 ((sumAdd s (nat zs) : Nat) : Int)) ∧ w' = w := by
  rcases hr with ⟨a, c, rfl, _, _, rfl⟩ | ⟨b, off, c, rfl, h1, h2, _, h4⟩
  · exact add_none a c s w hs
  · exact add_some b off c zs s w hs hb (by omega) h4
set_option maxHeartbeats 400000 in
theorem sum_walk (B : Nat → Prop) (v : Value) (zs : List Int) (w : World) (hb : Bytes zs) (hr : Row .u8 B w v zs) :
    Calls Tryz.prog 74 #[v] w fun e w' => e = .returned (.int .u32 ((sumAdd 0 (nat zs) : Nat) : Int)) ∧ w' = w := by
  go_enter Tryz.func74, Tryz.ntmps74
  go_wp2_with (fail)
  refine (add_walk B v zs 0 _ (by omega) hb hr).mono ?_
  rintro e w1 ⟨rfl, rfl⟩
  go_wp2
  go_ret
  exact ⟨rfl, rfl⟩

theorem row_marked (w : World) (zs : List Int) (e : TypeId) (fr : Nat × Nat) (hm : zs.length ≤ maxLen) : Row .u8 any (w.alloc (.cells ((zs.map (Value.int .u8)).toArray) e fr)) (.slice (some ⟨w.heap.size, 0, none⟩) zs.length zs.length) zs := by
  refine .inr ⟨w.heap.size, 0, zs.length, rfl, Nat.le_refl _, hm, trivial, fun i hi => ?_⟩
  rw [World.cell?_alloc_mark, Nat.zero_add]
  simp [hi]

end Go.Proofs.YthikiahhochjmaaGreatDoor
