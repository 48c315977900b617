import Derived.Test.YtlecflgapaahgaaAwakeW
import Derived.Test.YtlecflgapaahgaaOwnW
import Derived.Test.YtlecflgapaahgaaKeptW
import Derived.Test.YtlecflgapaahgaaRefUnW
namespace Go.Proofs.Ytlecflgapaahgaa
open Go.RowKit
set_option linter.unusedVariables false

theorem wf_u64 {a : Int} (h : (Lit.int .u64 a).wf = true) : 0 ≤ a ∧ a < 18446744073709551616 := by
  simp [Lit.wf, IntKind.min, IntKind.max, IntKind.signed, IntKind.bits] at h
  omega

theorem Cells.below {k : IntKind} {w w' : World} {b off : Nat} {zs : List Int} (h : Cells k w b off zs) (hb : Below w.heap.size w w') : Cells k w' b off zs := by
  intro i hi
  have h1 := h i hi
  rw [hb.cell (p := ⟨b, off + i, none⟩) (World.block_lt_of_cell? _ _ h1)]
  exact h1

set_option maxHeartbeats 1000000 in
theorem unpacks_walk (w : World) (W : Nat) (hW : W < 18446744073709551616) (a : Option Addr) (c : Nat) (zs : List Int) (rz : Row .i64 w (.slice a zs.length c) zs) (zz : zs.length * 8 ≤ 140737488351232) :
    Calls Try.prog 5 #[.int .u64 W, .slice a zs.length c] w fun e w' => e = .returned (.bool true) ∧ Below w.heap.size w w' := by
  go_enter Try.func5, Try.ntmps5
  go_wp2_with fail
  refine (own_any_i64 _ zs 71 w zz rz).mono ?_
  rintro e w1 ⟨rfl, c1, b1⟩
  have q1 : Row .i64 w1 (.slice (some ⟨w.heap.size, 0, none⟩) zs.length (zs.length + 3)) zs := row_of_cells c1 rfl (by omega) (by unfold maxLen; omega)
  go_wp2_with fail
  refine (unpack_any _ zs W w1 zz q1 (by omega) (by omega)).mono ?_
  rintro e w2 ⟨u, rfl, ru, b2⟩
  have b12 : Below w.heap.size w w2 := b1.trans (b2.mono b1.size)
  go_wp2_with fail
  refine (refun_any _ zs W w2 (rz.below b12) hW).mono ?_
  rintro e w3 ⟨u', rfl, ru', b3⟩
  have b13 : Below w.heap.size w w3 := b12.trans (b3.mono b12.size)
  have ru3 := ru.below b3
  clear ru
  obtain ⟨ys, hys⟩ : ∃ ys, (unpackS W zs).1 = ys := ⟨_, rfl⟩
  rw [hys] at ru3 ru'
  clear hys
  generalize (unpackS W zs).2 = q at *
  go_wp2_with fail
  refine (awake_walk _).mono ?_
  rintro e w4 ⟨rfl, b4⟩
  have b14 : Below w.heap.size w w4 := b13.trans (b4.mono b13.size)
  go_wp2_with fail
  refine (plain_any_u64 _ _ ys ys w4 (ru3.below b4) (ru'.below b4)).mono ?_
  rintro e w5 ⟨rfl, m, hw5⟩
  rw [show decide (ys = ys) = true by simp]
  have b5 : Below w4.heap.size w4 w5 := by rw [hw5]; exact drewN_below _ _
  have b15 : Below w.heap.size w w5 := b14.trans (b5.mono b14.size)
  clear hw5
  go_wp2_with fail
  refine (kept_any_i64 _ _ zs 71 w5 zz ((((c1.below b2).below b3).below b4).below b5) (rz.below b15)).mono ?_
  rintro e w6 ⟨rfl, m', hw6⟩
  have b6 : Below w5.heap.size w5 w6 := by rw [hw6]; exact drewN_below _ _
  have b16 : Below w.heap.size w w6 := b15.trans (b6.mono b15.size)
  clear hw6
  go_wp2
  go_ret
  exact ⟨rfl, b16⟩

theorem NumUnpacks_law (w : World) (W : Int) (wW : (Lit.int .u64 W).wf = true) (v : Value) (zs : List Int) (rz : Row .i64 w v zs) (wz : ∀ n ∈ zs, (Lit.int .i64 n).wf = true) (zz : zs.length * 8 ≤ 140737488351232) :
    Calls Try.prog 5 #[.int .u64 W, v] w fun e w' => e = .returned (.bool true) ∧ Below w.heap.size w w' := by
  have h := wf_u64 wW
  obtain ⟨n, rfl⟩ := Int.eq_ofNat_of_zero_le h.1
  obtain ⟨a, c, rfl⟩ := rz.slice
  exact unpacks_walk w n (by omega) a c zs rz zz
end Go.Proofs.Ytlecflgapaahgaa
