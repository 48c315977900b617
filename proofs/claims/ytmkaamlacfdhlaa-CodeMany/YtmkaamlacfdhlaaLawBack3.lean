/- What is written, one behind the other, is read; nothing is left. -/
import Derived.Test.YtmkaamlacfdhlaaLawWrites
namespace Go.Proofs.Ytmkaamlacfdhlaa
open Go.RowKit
set_option linter.unusedVariables false

theorem small_of_num (v : Nat) (r : List Int) (m : Nat) (hv : v < 18446744073709551616) (hm : v ≤ m) : smallT m (numB v ++ r) 0 = (v, r, 0) := by
  rw [smallT_k (dec_zero v r hv) hm, List.drop_left]
theorem text_of_text (zs : List Int) (h : zs.length ≤ 1048576) : textT 1048576 (textB zs) 0 = (zs, [], 0) := by
  unfold textB
  rw [textT_k (small_of_num zs.length zs 1048576 (by omega) h) (Nat.le_refl _), List.take_length, List.drop_length]
theorem textB_len (zs : List Int) (h : zs.length < 18446744073709551616) : (textB zs).length ≤ zs.length + 10 := by
  have := numB_ten zs.length h
  unfold textB; rw [List.length_append]; omega

theorem own_below {w w' : World} {base : Nat} {e : TypeId} {s : Nat} {v : Value} {n : Nat} {xs : List Value} (h : w.ownsRow base e s v n xs) (hb : Below w.heap.size w w') : w'.ownsRow base e s v n xs := by
  refine ⟨h.1, ?_⟩
  rcases h.2 with hn | ⟨g, cap, cur, hv, h1, hg, h2⟩
  · exact .inl hn
  · exact .inr ⟨g, cap, cur, hv, h1, (hb.block g (Array.getElem?_eq_some_iff.1 hg).1).trans hg, h2⟩

set_option maxHeartbeats 2000000 in
theorem CodeBack_law (w : World) (v : Int) (hv : (Lit.int .u64 v).wf = true) (i : Int) (hi : (Lit.int .i64 i).wf = true) (b : Value) (zs : List Int) (hr : Row .u8 any w b zs) (hwf : ∀ n ∈ zs, (Lit.int .u8 n).wf = true) (hz : zs.length * 1 ≤ 140737488351232) :
    Calls Try.prog 5 #[.int .u64 v, .int .i64 i, b] w fun e w' => e = .returned (.bool true) ∧ Below w.heap.size w w' := by
  obtain ⟨i0, hi0, hz0, hz1, hz2⟩ := info_parts info_u8
  have v1 := wf_u64 hv
  have i1 := wf_i64 hi
  obtain ⟨V, rfl⟩ := Int.eq_ofNat_of_zero_le v1.1
  have hV : V < 18446744073709551616 := by omega
  have hb := bytes_wf hwf
  have hl : zs.length ≤ 140737488351232 := by omega
  have hz64 := zig_lt i1.1 i1.2
  have l1 := numB_ten V hV
  have l2 := numB_ten (zig i) hz64
  have l3 := textB_len zs (by omega)
  have l4 : (numB V ++ numB (zig i) ++ textB zs).length ≤ zs.length + 30 := by rw [List.length_append, List.length_append]; omega
  have hall : Bytes (numB V ++ numB (zig i) ++ textB zs) := ((numB_bytes V).append (numB_bytes _)).append (textB_bytes hb)
  have S1 := small_of_num V (numB (zig i) ++ textB zs) wide hV (ge_wide hV)
  have S2 := small_of_num (zig i) (textB zs) wide hz64 (ge_wide hz64)
  obtain ⟨ba, bc, rfl⟩ := hr.slice
  go_enter Try.func5, Try.ntmps5
  go_wp2_with fail
  refine (num_walk V _ hV).mono ?_
  rintro e w1 ⟨x1, rfl, h1, k1⟩
  go_wp2_with fail
  refine (int_walk i _ i1.1 i1.2).mono ?_
  rintro e w2 ⟨x2, rfl, h2, k2⟩
  have o1 : w2.ownsRow w.heap.size 5 1 x1 (numB V).length ((numB V).map (Value.int .u8)) := own_below h1 k2
  obtain ⟨x3, w3, hrun3, h3, k3⟩ := append_row (P := Try.prog) (ty := 23) Try.underlying23 hi0 hz0 hz1 hz2 rfl o1 (row_of_owns h2) (by unfold maxLen; omega) (by omega) (Nat.le_trans k1.size k2.size)
  have b3 : Below w.heap.size w w3 := (below_then k1 k2).trans k3
  clear o1 h1 h2 k1 k2 k3
  go_wp2_with (at_builtin; refine list_append_run rfl _ _ 23 rfl _ _ _ _ rfl rfl hrun3 ?_)
  refine (text_walk any _ zs _ (hr.below b3) hl).mono ?_
  rintro e w4 ⟨x4, rfl, h4, k4⟩
  have o3 : w4.ownsRow w.heap.size 5 1 x3 (numB V ++ numB (zig i)).length ((numB V ++ numB (zig i)).map (Value.int .u8)) := own_below h3 k4
  have b4 := below_then b3 k4
  obtain ⟨x5, w5, hrun5, h5, k5⟩ := append_row (P := Try.prog) (ty := 23) Try.underlying23 hi0 hz0 hz1 hz2 rfl o3 (row_of_owns h4) (by unfold maxLen; rw [List.length_append]; omega) (by rw [List.length_append]; omega) b4.size
  have b5 : Below w.heap.size w w5 := b4.trans k5
  clear o3 h3 h4 k4 k5 b3 b4 hrun3
  go_wp2_with (at_builtin; refine list_append_run rfl _ _ 23 rfl _ _ _ _ rfl rfl hrun5 ?_)
  refine (new_walk _ x5 _ _ (row_of_owns h5) (by omega)).mono ?_
  rintro e w6 ⟨p, rfl, hp, hp1, hrd, k6⟩
  have b6 := below_then b5 k6
  have hp0 : w.heap.size ≤ p := Nat.le_trans b5.size hp
  clear h5 hrun5
  go_wp2_with fail
  refine (awake_walk _).mono ?_
  rintro e w7 ⟨rfl, k7⟩
  have b7 := below_then b6 k7
  have hrd7 := hrd.turn (F := fun _ => False) (Turn.of_below k7) (fun h => h) (fun _ _ h => h)
  have hplt : p < w7.heap.size := Nat.lt_of_lt_of_le hp1 k7.size
  clear hrd k7 k6 b6 b5
  by_cases hbig : 1048576 < zs.length
  · go_wp2_with fail
    refine (awake_walk _).mono ?_
    rintro e w8 ⟨rfl, k8⟩
    have b8 := below_then b7 k8
    go_wp2
    go_ret
    exact ⟨rfl, b8⟩
  · have hz20 : zs.length ≤ 1048576 := by omega
    have S3 := text_of_text zs hz20
    clear hbig
    go_wp2_with fail
    refine (rnum_walk _ p _ 0 _ hrd7 hall).mono ?_
    rw [List.append_assoc, S1]
    rintro e w8 ⟨rfl, hrd8, t8⟩
    have b8 : Below w.heap.size w w8 := b7.trans (t8.below (fun k h => by cases h; exact hp0) b7.size)
    have hs8 := t8.size
    clear t8 hrd7 b7
    go_wp2_with fail
    refine (rint_walk _ p _ 0 _ hrd8 ((numB_bytes _).append (textB_bytes hb))).mono ?_
    rw [S2, unzig_zig]
    rintro e w9 ⟨rfl, hrd9, t9⟩
    have b9 : Below w.heap.size w w9 := b8.trans (t9.below (fun k h => by cases h; exact hp0) b8.size)
    have hs9 := t9.size
    clear t9 hrd8 b8
    go_wp2_with fail
    refine (rtext_walk _ p _ 0 1048576 _ hrd9 (textB_bytes hb) (by omega) (by omega) (by omega) (fun b hb => by omega)).mono ?_
    rw [show (1048576 : Int).toNat = 1048576 from rfl, S3]
    rintro e w10 ⟨x10, rfl, hx10, hrd10, t10⟩
    have b10 : Below w.heap.size w w10 := b9.trans (t10.below (fun k h => by cases h; exact hp0) b9.size)
    clear t10 hrd9 b9
    go_wp2_with fail
    refine (bytes_same _ _ _ _ _ _ hx10 (hr.below b10) hb).mono ?_
    rintro e w11 ⟨rfl, hw⟩
    subst hw
    go_wp2_with fail
    refine (rend_walk _ p _ 0 _ hrd10).mono ?_
    rintro e w12 ⟨rfl, hw⟩
    subst hw
    rw [show endT [] 0 = 0 by decide]
    go_wp2_with fail
    refine (rleft_walk _ p _ 0 _ hrd10).mono ?_
    rintro e w13 ⟨rfl, hw⟩
    subst hw
    go_wp2
    go_ret
    exact ⟨rfl, b10⟩
end Go.Proofs.Ytmkaamlacfdhlaa
