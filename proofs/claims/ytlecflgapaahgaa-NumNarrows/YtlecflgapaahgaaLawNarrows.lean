import Derived.Test.YtlecflgapaahgaaAwakeW
import Derived.Test.YtlecflgapaahgaaRefBitsW
import Derived.Test.YtlecflgapaahgaaKeyW
namespace Go.Proofs.Ytlecflgapaahgaa
open Go.RowKit
set_option linter.unusedVariables false

theorem wf_u64 {a : Int} (h : (Lit.int .u64 a).wf = true) : 0 ≤ a ∧ a < 18446744073709551616 := by
  simp [Lit.wf, IntKind.min, IntKind.max, IntKind.signed, IntKind.bits] at h
  omega
theorem wf_i64 {a : Int} (h : (Lit.int .i64 a).wf = true) : -9223372036854775808 ≤ a ∧ a < 9223372036854775808 := by
  simp [Lit.wf, IntKind.min, IntKind.max, IntKind.signed, IntKind.bits] at h
  omega

set_option maxHeartbeats 1000000 in
theorem narrows_walk (w : World) (v b : Int) (x : Nat) (p q : Int) (hv0 : -9223372036854775808 ≤ v) (hv1 : v < 9223372036854775808) (hx : x < 18446744073709551616) :
    Calls Try.prog 6 #[.int .i64 v, .int .i64 b, .int .u64 x, .int .i64 p, .int .i64 q] w fun e w' => e = .returned (.bool true) ∧ Below w.heap.size w w' := by
  go_enter Try.func6, Try.ntmps6
  go_wp2_with fail
  refine (narrow_any v b _).mono ?_
  rintro e w1 ⟨rfl, hw1⟩
  subst hw1
  go_wp2_with fail
  refine (refnarrow_any v b _ hv0 hv1).mono ?_
  rintro e w1 ⟨rfl, hw1⟩
  subst hw1
  generalize (narrowOut v b).1 = r at *
  generalize (narrowOut v b).2 = ok at *
  go_wp2_with fail
  refine (key_walk p q _).mono ?_
  rintro e w2 ⟨rfl, hb2⟩
  obtain ⟨c, d, hkv⟩ : ∃ c d : Int, keyV p q = .agg #[.int .i32 c, .int .i32 d] := by
    unfold keyV; split
    · exact ⟨_, _, rfl⟩
    · exact ⟨_, _, rfl⟩
  obtain ⟨kb, hkb⟩ : ∃ kb, keyB p q = kb := ⟨_, rfl⟩
  rw [hkv, hkb]
  have Hkv := hide hkv
  have Hkb := hide hkb
  clear hkv hkb
  go_wp2_with fail
  refine (refkey_walk p q _).mono ?_
  rintro e w3 ⟨rfl, hb3⟩
  rw [unhide Hkv, unhide Hkb]
  have c1 : w3.cell? ⟨w2.heap.size, 0, none⟩ = some (.int .i32 c) := by rw [hb3.cell (p := ⟨w2.heap.size, 0, none⟩) (by simp)]; simp
  have c2 : w3.cell? ⟨w2.heap.size, 1, none⟩ = some (.int .i32 d) := by rw [hb3.cell (p := ⟨w2.heap.size, 1, none⟩) (by simp)]; simp
  have z3 : w2.heap.size < w3.heap.size := by have := hb3.size; simp at this; omega
  go_wp2_with fail
  refine (awake_walk _).mono ?_
  rintro e w4 ⟨rfl, hb4⟩
  have d1 : w4.cell? ⟨w2.heap.size, 0, none⟩ = some (.int .i32 c) := by rw [hb4.cell (p := ⟨w2.heap.size, 0, none⟩) (by simp; omega), World.cell?_alloc_lt _ _ _ z3]; exact c1
  have d2 : w4.cell? ⟨w2.heap.size, 1, none⟩ = some (.int .i32 d) := by rw [hb4.cell (p := ⟨w2.heap.size, 1, none⟩) (by simp; omega), World.cell?_alloc_lt _ _ _ z3]; exact c2
  have d3 : w4.cell? ⟨w3.heap.size, 0, none⟩ = some (.int .i32 c) := by rw [hb4.cell (p := ⟨w3.heap.size, 0, none⟩) (by simp)]; simp
  have d4 : w4.cell? ⟨w3.heap.size, 1, none⟩ = some (.int .i32 d) := by rw [hb4.cell (p := ⟨w3.heap.size, 1, none⟩) (by simp)]; simp
  have hbel : Below w1.heap.size w1 w4 := by
    have h3 := (hb2.alloc hb2.size (.cells #[.int .i32 c, .int .i32 d] 43)).trans (hb3.mono (by have := hb2.size; simp; omega))
    exact (h3.alloc h3.size _).trans (hb4.mono (by have := h3.size; simp; omega))
  clear hb2 hb3 hb4 c1 c2
  go_wp2_with fail
  refine (ones_nat x _ hx).mono ?_
  rintro e w5 ⟨rfl, hw5⟩
  subst hw5
  go_wp2_with fail
  refine (refones_nat x _ hx).mono ?_
  rintro e w5 ⟨rfl, hw5⟩
  subst hw5
  generalize popS 64 x = pc at *
  go_wp2_with fail
  refine (log_walk x _ (by omega) (by omega)).mono ?_
  rintro e w5 ⟨rfl, hw5⟩
  subst hw5
  rw [Int.toNat_natCast]
  go_wp2_with fail
  refine (reflog_nat x _ hx).mono ?_
  rintro e w5 ⟨rfl, hw5⟩
  subst hw5
  generalize Lib.bitLen x = lg at *
  go_wp2
  go_ret
  exact ⟨rfl, hbel⟩

theorem NumNarrows_law (w : World) (v : Int) (hv : (Lit.int .i64 v).wf = true) (b : Int) (hb : (Lit.int .i64 b).wf = true) (x : Int) (hx : (Lit.int .u64 x).wf = true) (p : Int) (hp : (Lit.int .i64 p).wf = true) (q : Int) (hq : (Lit.int .i64 q).wf = true) :
    Calls Try.prog 6 #[.int .i64 v, .int .i64 b, .int .u64 x, .int .i64 p, .int .i64 q] w fun e w' => e = .returned (.bool true) ∧ Below w.heap.size w w' := by
  have h1 := wf_i64 hv
  have h2 := wf_u64 hx
  obtain ⟨n, rfl⟩ := Int.eq_ofNat_of_zero_le h2.1
  exact narrows_walk w v b n p q h1.1 h1.2 (by omega)
end Go.Proofs.Ytlecflgapaahgaa
