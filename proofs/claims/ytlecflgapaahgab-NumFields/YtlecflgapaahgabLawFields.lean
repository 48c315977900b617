import Derived.Test.YtlecflgapaahgabAwakeW
import Derived.Test.YtlecflgapaahgabBitsP
namespace Go.Proofs.Ytlecflgapaahgab
open Go.RowKit
set_option linter.unusedVariables false

theorem wf_u64 {a : Int} (h : (Lit.int .u64 a).wf = true) : 0 ≤ a ∧ a < 18446744073709551616 := by
  simp [Lit.wf, IntKind.min, IntKind.max, IntKind.signed, IntKind.bits] at h
  omega

theorem cells_two (w : World) (k : IntKind) (T : TypeId) (x y : Int) : Cells k (w.alloc (.cells #[.int k x, .int k y] T)) w.heap.size 0 [x, y] := by
  intro i hi
  rcases i with _ | _ | i
  · simp
  · simp
  · simp at hi; omega
theorem row_two (w : World) (k : IntKind) (T : TypeId) (x y : Int) : Row k (w.alloc (.cells #[.int k x, .int k y] T)) (.slice (some ⟨w.heap.size, 0, none⟩) 2 2) [x, y] :=
  .inr ⟨_, _, _, rfl, by simp, by unfold maxLen; omega, cells_two w k T x y⟩
theorem row_at (w : World) (g : Nat) (hg : g = w.heap.size) (k : IntKind) (T : TypeId) (x y : Int) : Row k (w.alloc (.cells #[.int k x, .int k y] T)) (.slice (some ⟨g, 0, none⟩) 2 2) [x, y] := by
  subst hg; exact row_two w k T x y
theorem Row.alloc {k : IntKind} {w : World} {v : Value} {zs : List Int} (h : Row k w v zs) (o : Obj) : Row k (w.alloc o) v zs :=
  h.below ((Below.refl _ _).alloc (Nat.le_refl _) _)
theorem words_two {x y : Int} (h : 0 ≤ x ∧ x < 18446744073709551616) (h' : 0 ≤ y ∧ y < 18446744073709551616) : Words [x, y] := by
  intro z hz
  simp at hz
  rcases hz with rfl | rfl
  · exact h
  · exact h'
theorem mod_bd (a : Int) (m : Nat) (hm : m ≤ 31) : 0 ≤ a % 2 ^ m ∧ a % 2 ^ m < 2 ^ m ∧ a % 2 ^ m < 18446744073709551616 := by
  have hp := pow_pos' m
  have h1 := Int.emod_nonneg a (show (2 : Int) ^ m ≠ 0 by omega)
  have h2 := Int.emod_lt_of_pos a hp
  have h3 := pow_le64 m (by omega)
  exact ⟨h1, h2, by omega⟩

set_option maxHeartbeats 1000000 in
theorem fields_walk (w : World) (a b c d wa wb : Int) (m n : Nat) (A B C D : Int) (hm1 : 1 ≤ m) (hm2 : m ≤ 31) (hn1 : 1 ≤ n) (hn2 : n ≤ 31)
    (ema : wrap64 (1 + wrap64 ((IntKind.u64.wrap wa).tmod 31)) = (m : Int)) (enb : wrap64 (1 + wrap64 ((IntKind.u64.wrap wb).tmod 31)) = (n : Int))
    (eA : bits .and .u64 a (IntKind.u64.wrap (IntKind.u64.wrap (2 ^ m) - 1)) = A) (eB : bits .and .u64 b (IntKind.u64.wrap (IntKind.u64.wrap (2 ^ n) - 1)) = B)
    (eC : bits .and .u64 c (IntKind.u64.wrap (IntKind.u64.wrap (2 ^ m) - 1)) = C) (eD : bits .and .u64 d (IntKind.u64.wrap (IntKind.u64.wrap (2 ^ n) - 1)) = D)
    (hA : 0 ≤ A ∧ A < 2 ^ m ∧ A < 18446744073709551616) (hB : 0 ≤ B ∧ B < 2 ^ n ∧ B < 18446744073709551616) (hC : 0 ≤ C ∧ C < 2 ^ m ∧ C < 18446744073709551616) (hD : 0 ≤ D ∧ D < 2 ^ n ∧ D < 18446744073709551616) :
    Calls Try.prog 4 #[.int .u64 a, .int .u64 b, .int .u64 c, .int .u64 d, .int .i64 wa, .int .i64 wb] w fun e w' => e = .returned (.bool true) ∧ Below w.heap.size w w' := by
  have x1 := hide (xor_low A B C m n hA.1 hA.2.1 hC.1 hC.2.1 hB.1 hB.2.1 (by omega))
  have x2 := hide (xor_high B C D m n hC.1 hC.2.1 hB.1 hB.2.1 hD.1 hD.2.1 (by omega) hn1)
  go_enter Try.func4, Try.ntmps4
  go_wp2_with fail
  have q1 := (row_two w .i64 3 (m : Int) (n : Int)).alloc (.cells #[.int .u64 A, .int .u64 B] 22)
  have q2 := row_at (w.alloc (.cells #[.int .i64 (m : Int), .int .i64 (n : Int)] 3)) (w.heap.size + 1) (by simp) .u64 22 A B
  refine (pack_any _ _ _ _ _ q2 q1 (words_two ⟨hA.1, hA.2.2⟩ ⟨hB.1, hB.2.2⟩)).mono ?_
  rintro e w1 ⟨rfl, hw1⟩
  rw [pack_two A B m n hA.2.1 hB.2.1 hA.1 hB.1 hm1 hn1 (by omega)]
  have b1 : Below w.heap.size w w1 := by rw [hw1]; exact ((Below.refl _ _).alloc (Nat.le_refl _) _).alloc (by simp) _
  have r1 : Row .i64 w1 (.slice (some ⟨w.heap.size, 0, none⟩) 2 2) [(m : Int), (n : Int)] := by rw [hw1]; exact q1
  clear hw1 q1 q2
  go_wp2_with fail
  refine (pack_any _ _ [C, B] [(m : Int), (n : Int)] _ (row_two w1 .u64 _ C B) (r1.alloc _) (words_two ⟨hC.1, hC.2.2⟩ ⟨hB.1, hB.2.2⟩)).mono ?_
  rintro e w2 ⟨rfl, hw2⟩
  rw [pack_two C B m n hC.2.1 hB.2.1 hC.1 hB.1 hm1 hn1 (by omega)]
  have b2 : Below w.heap.size w w2 := by rw [hw2]; exact b1.alloc b1.size _
  have r2 : Row .i64 w2 (.slice (some ⟨w.heap.size, 0, none⟩) 2 2) [(m : Int), (n : Int)] := by rw [hw2]; exact r1.alloc _
  clear hw2 r1
  go_wp2_with fail
  refine (pack_any _ _ [C, D] [(m : Int), (n : Int)] _ (row_two w2 .u64 _ C D) (r2.alloc _) (words_two ⟨hC.1, hC.2.2⟩ ⟨hD.1, hD.2.2⟩)).mono ?_
  rintro e w3 ⟨rfl, hw3⟩
  rw [pack_two C D m n hC.2.1 hD.2.1 hC.1 hD.1 hm1 hn1 (by omega)]
  have b3 : Below w.heap.size w w3 := by rw [hw3]; exact b2.alloc b2.size _
  clear hw3 r2
  go_wp2_with fail
  refine (awake_walk w3).mono ?_
  rintro e w4 ⟨rfl, hw4⟩
  have b4 : Below w.heap.size w w4 := b3.trans (hw4.mono b3.size)
  have x1' := unhide x1
  have x2' := unhide x2
  have g1 := fun h : B < D => grow_word B C D m h
  have g2 := fun h : D < B => grow_word D C B m h
  generalize A + B * 2 ^ m = X at *
  generalize C + B * 2 ^ m = Y at *
  generalize C + D * 2 ^ m = Z at *
  clear x1 x2 eA eB eC eD
  by_cases h1 : B < D
  · have g := g1 h1
    clear g1 g2
    go_wp2
    go_ret
    exact ⟨rfl, b4⟩
  · by_cases h2 : D < B
    · have g := g2 h2
      clear g1 g2
      go_wp2
      go_ret
      exact ⟨rfl, b4⟩
    · clear g1 g2
      go_wp2
      go_ret
      exact ⟨rfl, b4⟩

theorem NumFields_law (w : World) (a : Int) (ha : (Lit.int .u64 a).wf = true) (b : Int) (hb : (Lit.int .u64 b).wf = true) (c : Int) (hc : (Lit.int .u64 c).wf = true) (d : Int) (hd : (Lit.int .u64 d).wf = true)
    (wa : Int) (hwa : (Lit.int .i64 wa).wf = true) (wb : Int) (hwb : (Lit.int .i64 wb).wf = true) :
    Calls Try.prog 4 #[.int .u64 a, .int .u64 b, .int .u64 c, .int .u64 d, .int .i64 wa, .int .i64 wb] w fun e w' => e = .returned (.bool true) ∧ Below w.heap.size w w' := by
  obtain ⟨m, hm1, hm2, ema⟩ := width_of wa
  obtain ⟨n, hn1, hn2, enb⟩ := width_of wb
  have a1 := wf_u64 ha
  have b1 := wf_u64 hb
  have c1 := wf_u64 hc
  have d1 := wf_u64 hd
  exact fields_walk w a b c d wa wb m n _ _ _ _ hm1 hm2 hn1 hn2 ema enb (and_mask a m a1.1 a1.2 (by omega)) (and_mask b n b1.1 b1.2 (by omega)) (and_mask c m c1.1 c1.2 (by omega)) (and_mask d n d1.1 d1.2 (by omega))
    (mod_bd a m hm2) (mod_bd b n hn2) (mod_bd c m hm2) (mod_bd d n hn2)
end Go.Proofs.Ytlecflgapaahgab
