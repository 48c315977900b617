import Derived.Test.YtlecflgapaahgaaAwakeW
import Derived.Test.YtlecflgapaahgaaOwnW
import Derived.Test.YtlecflgapaahgaaKeptW
import Derived.Test.YtlecflgapaahgaaRefPackW
namespace Go.Proofs.Ytlecflgapaahgaa
open Go.RowKit
set_option linter.unusedVariables false

theorem wf_u64 {a : Int} (h : (Lit.int .u64 a).wf = true) : 0 ≤ a ∧ a < 18446744073709551616 := by
  simp [Lit.wf, IntKind.min, IntKind.max, IntKind.signed, IntKind.bits] at h
  omega

theorem Cells.below {k : IntKind} {w w' : World} {b off : Nat} {zs : List Int} (h : Cells k w b off zs) (hb : Below w.heap.size w w') : Cells k w' b off zs := by
  intro i hi
  have h1 := h i hi
  rw [hb.cell (p := ⟨b, off + i, none⟩) (World.block_lt_of_cell? _ _ h1)]
  exact h1

set_option maxHeartbeats 1000000 in
theorem NumPacks_law (w : World) (v : Value) (xs : List Int) (rx : Row .u64 w v xs) (wx : ∀ n ∈ xs, (Lit.int .u64 n).wf = true) (zx : xs.length * 8 ≤ 140737488351232)
    (v' : Value) (zs : List Int) (rz : Row .i64 w v' zs) (wz : ∀ n ∈ zs, (Lit.int .i64 n).wf = true) (zz : zs.length * 8 ≤ 140737488351232) :
    Calls Try.prog 4 #[v, v'] w fun e w' => e = .returned (.bool true) ∧ Below w.heap.size w w' := by
  have hx : Words xs := fun n hn => wf_u64 (wx n hn)
  obtain ⟨a, c, rfl⟩ := rx.slice
  obtain ⟨a', c', rfl⟩ := rz.slice
  go_enter Try.func4, Try.ntmps4
  go_wp2_with fail
  refine (own_any_u64 _ xs 71 w zx rx).mono ?_
  rintro e w1 ⟨rfl, c1, b1⟩
  have rz1 := rz.below b1
  go_wp2_with fail
  refine (own_any_i64 _ zs 71 w1 zz rz1).mono ?_
  rintro e w2 ⟨rfl, c2, b2⟩
  have b12 : Below w.heap.size w w2 := b1.trans (b2.mono b1.size)
  have d1 := c1.below b2
  have q1 : Row .u64 w2 (.slice (some ⟨w.heap.size, 0, none⟩) xs.length (xs.length + 3)) xs := row_of_cells d1 rfl (by omega) (by unfold maxLen; omega)
  have q2 : Row .i64 w2 (.slice (some ⟨w1.heap.size, 0, none⟩) zs.length (zs.length + 3)) zs := row_of_cells c2 rfl (by omega) (by unfold maxLen; omega)
  go_wp2_with fail
  refine (pack_any _ _ xs zs _ q1 q2 hx).mono ?_
  rintro e w3 ⟨rfl, hw3⟩
  subst hw3
  go_wp2_with fail
  refine (refpack_any _ _ xs zs _ (rx.below b12) (rz.below b12) hx).mono ?_
  rintro e w3 ⟨rfl, hw3⟩
  subst hw3
  generalize (packS xs zs).1 = p at *
  generalize (packS xs zs).2 = q at *
  go_wp2_with fail
  refine (awake_walk _).mono ?_
  rintro e w4 ⟨rfl, b4⟩
  have b14 : Below w.heap.size w w4 := b12.trans (b4.mono b12.size)
  go_wp2_with fail
  refine (kept_any_u64 _ _ xs 71 w4 zx (d1.below b4) (rx.below b14)).mono ?_
  rintro e w5 ⟨rfl, m, hw5⟩
  have b5 : Below w4.heap.size w4 w5 := by rw [hw5]; exact drewN_below _ _
  have b15 : Below w.heap.size w w5 := b14.trans (b5.mono b14.size)
  clear hw5
  go_wp2_with fail
  refine (kept_any_i64 _ _ zs 71 w5 zz ((c2.below b4).below b5) (rz.below b15)).mono ?_
  rintro e w6 ⟨rfl, m', hw6⟩
  have b6 : Below w5.heap.size w5 w6 := by rw [hw6]; exact drewN_below _ _
  have b16 : Below w.heap.size w w6 := b15.trans (b6.mono b15.size)
  clear hw6
  go_wp2
  go_ret
  exact ⟨rfl, b16⟩
end Go.Proofs.Ytlecflgapaahgaa
