/- What the reference's Num and Int answer, and both Texts. -/
import Derived.Test.YtmkaamlacfdhlaaCNum
namespace Go.Proofs.Ytmkaamlacfdhlaa
open Go.RowKit
set_option linter.unusedVariables false

theorem byte_sum (u : Nat) : (u : Int) % 128 + 128 = ((u % 128 + 128 : Nat) : Int) := by omega
set_option maxRecDepth 100000 in
set_option maxHeartbeats 1000000 in
theorem refnum_walk (v : Nat) (w : World) (hv : v < 18446744073709551616) :
    Calls Try.prog 14 #[.int .u64 (v : Int)] w fun e w' => ∃ x, e = .returned x ∧ w'.ownsRow w.heap.size 5 1 x (numB v).length ((numB v).map (Value.int .u8)) ∧ Below w.heap.size w w' := by
  obtain ⟨i0, hi, hz0, hz1, hz2⟩ := info_parts info_u8
  have H10 := hide (numB_ten v hv)
  go_enter Try.func14, Try.ntmps14
  go_wp2_with fail
  go_loopw [0, 3] (fun a s wr => ∃ (u : Nat) (ys : List Int), a = .int .u64 (u : Int) ∧ u < 18446744073709551616 ∧ wr.ownsRow w.heap.size 5 1 s ys.length (ys.map (Value.int .u8)) ∧ Below w.heap.size w wr ∧ Hid (numB v = ys ++ numB u)) (fun a _ _ => (intOf a).toNat)
  case atStart => exact ⟨v, [], rfl, hv, World.ownsRow_nil _ _ _ _, Below.refl _ _, hide (by simp)⟩
  case round =>
    obtain ⟨u, ys, rfl, hu, hown, hbel, hq⟩ := hrel
    have hyl : ys.length + 1 ≤ 10 := by
      have h1 := unhide H10
      rw [unhide hq, List.length_append] at h1
      have := numB_pos u
      omega
    by_cases h128 : 128 ≤ u
    · have hbyte := byte_high u h128
      have hq2 : Hid (numB v = (ys ++ [((u % 128 + 128 : Nat) : Int)]) ++ numB (u / 128)) := by
        refine hide ?_
        rw [unhide hq, numB_high h128]; simp
      rw [← byte_sum u] at hq2
      have hone := one_new wr 5 (.int .u8 ((u : Int) % 128 + 128))
      go_wp2_with (at_builtin; refine wpList_append_own _ rfl _ _ 23 rfl w.heap.size 5 i0 (.int .u8 0) 1 1 Try.underlying23 hi hz0 hz1 hz2 rfl (by decide) _ _ _ rfl (hown.alloc _) ⟨wr.heap.size, 0, none⟩ 1 1 [.int .u8 ((u : Int) % 128 + 128)] rfl rfl hone (fun u hu => by simp at hu; subst hu; rfl) (by unfold maxLen; omega) (by omega) (by have := hbel.size; simp; omega) ?_)
      intro s' w2 hown2 hgrow2 _
      have hbel2 : Below w.heap.size w w2 := (hbel.alloc hbel.size _).grown hgrow2 (by have := hbel.size; simp; omega) (own_base hown)
      have hown3 : w2.ownsRow w.heap.size 5 1 s' (ys ++ [((u : Int) % 128 + 128)]).length ((ys ++ [((u : Int) % 128 + 128)]).map (Value.int .u8)) := by rw [List.map_append, List.length_append]; exact hown2
      clear hown2 hgrow2 hown hone hq
      go_wp2
      exact ⟨⟨u / 128, ys ++ [((u : Int) % 128 + 128)], by go_num, by omega, hown3, hbel2, hq2⟩, by simp [intOf]; omega⟩
    · have hbyte := byte_low u (by omega)
      have hq2 : Hid (numB v = ys ++ [(u : Int)]) := by
        refine hide ?_
        rw [unhide hq, numB_low (by omega)]
      have hone := one_new wr 5 (.int .u8 (u : Int))
      go_wp2_with (at_builtin; refine wpList_append_own _ rfl _ _ 23 rfl w.heap.size 5 i0 (.int .u8 0) 1 1 Try.underlying23 hi hz0 hz1 hz2 rfl (by decide) _ _ _ rfl (hown.alloc _) ⟨wr.heap.size, 0, none⟩ 1 1 [.int .u8 (u : Int)] rfl rfl hone (fun u hu => by simp at hu; subst hu; rfl) (by unfold maxLen; omega) (by omega) (by have := hbel.size; simp; omega) ?_)
      intro s' w2 hown2 hgrow2 _
      have hbel2 : Below w.heap.size w w2 := (hbel.alloc hbel.size _).grown hgrow2 (by have := hbel.size; simp; omega) (own_base hown)
      have hown3 : w2.ownsRow w.heap.size 5 1 s' (numB v).length ((numB v).map (Value.int .u8)) := by rw [unhide hq2, List.map_append, List.length_append]; exact hown2
      clear hown2 hgrow2 hown hone hq hq2
      go_wp2
      go_ret
      exact ⟨s', rfl, hown3, hbel2⟩

set_option maxHeartbeats 1000000 in
theorem refint_walk (v : Int) (w : World) (h0 : -9223372036854775808 ≤ v) (h1 : v ≤ 9223372036854775807) :
    Calls Try.prog 16 #[.int .i64 v] w fun e w' => ∃ x, e = .returned x ∧ w'.ownsRow w.heap.size 5 1 x (numB (zig v)).length ((numB (zig v)).map (Value.int .u8)) ∧ Below w.heap.size w w' := by
  have hz := zig_lt h0 h1
  by_cases hn : v < 0
  · go_enter Try.func16, Try.ntmps16
    go_wp2_with fail
    have e : -(v + 1) * 2 + 1 = ((zig v : Nat) : Int) := by unfold zig; rw [if_pos hn]; omega
    rw [e]
    refine (refnum_walk (zig v) _ hz).mono ?_
    rintro e w' ⟨x, rfl, hx, hb⟩
    go_wp2
    go_ret
    exact ⟨x, rfl, hx, hb⟩
  · go_enter Try.func16, Try.ntmps16
    go_wp2_with fail
    have e : v * 2 = ((zig v : Nat) : Int) := by unfold zig; rw [if_neg (by omega)]; omega
    rw [e]
    refine (refnum_walk (zig v) _ hz).mono ?_
    rintro e w' ⟨x, rfl, hx, hb⟩
    go_wp2
    go_ret
    exact ⟨x, rfl, hx, hb⟩

/-- the bytes of a text -/
def textB (zs : List Int) : List Int := numB zs.length ++ zs

set_option maxHeartbeats 1000000 in
theorem text_walk (B : Nat → Prop) (v : Value) (zs : List Int) (w : World) (hr : Row .u8 B w v zs) (hl : zs.length ≤ 140737488351232) :
    Calls Try.prog 10 #[v] w fun e w' => ∃ x, e = .returned x ∧ w'.ownsRow w.heap.size 5 1 x (textB zs).length ((textB zs).map (Value.int .u8)) ∧ Below w.heap.size w w' := by
  obtain ⟨i0, hi, hz0, hz1, hz2⟩ := info_parts info_u8
  obtain ⟨a, c, rfl⟩ := hr.slice
  go_enter Try.func10, Try.ntmps10
  go_wp2_with fail
  refine (num_walk zs.length _ (by omega)).mono ?_
  rintro e w1 ⟨x, rfl, hx, hb⟩
  have h10 := numB_ten zs.length (by omega)
  obtain ⟨x2, w2, hrun, hx2, hb2⟩ := append_row (P := Try.prog) (ty := 23) Try.underlying23 hi hz0 hz1 hz2 rfl hx (hr.below hb) (by unfold maxLen; omega) (by omega) hb.size
  clear h10
  go_wp2_with (at_builtin; refine list_append_run rfl _ _ 23 rfl _ _ _ _ rfl rfl hrun ?_)
  go_ret
  exact ⟨x2, rfl, hx2, hb.trans hb2⟩
set_option maxHeartbeats 1000000 in
theorem reftext_walk (B : Nat → Prop) (v : Value) (zs : List Int) (w : World) (hr : Row .u8 B w v zs) (hl : zs.length ≤ 140737488351232) :
    Calls Try.prog 17 #[v] w fun e w' => ∃ x, e = .returned x ∧ w'.ownsRow w.heap.size 5 1 x (textB zs).length ((textB zs).map (Value.int .u8)) ∧ Below w.heap.size w w' := by
  obtain ⟨i0, hi, hz0, hz1, hz2⟩ := info_parts info_u8
  obtain ⟨a, c, rfl⟩ := hr.slice
  go_enter Try.func17, Try.ntmps17
  go_wp2_with fail
  refine (refnum_walk zs.length _ (by omega)).mono ?_
  rintro e w1 ⟨x, rfl, hx, hb⟩
  have h10 := numB_ten zs.length (by omega)
  obtain ⟨x2, w2, hrun, hx2, hb2⟩ := append_row (P := Try.prog) (ty := 23) Try.underlying23 hi hz0 hz1 hz2 rfl hx (hr.below hb) (by unfold maxLen; omega) (by omega) hb.size
  clear h10
  go_wp2_with (at_builtin; refine list_append_run rfl _ _ 23 rfl _ _ _ _ rfl rfl hrun ?_)
  go_ret
  exact ⟨x2, rfl, hx2, hb.trans hb2⟩

end Go.Proofs.Ytmkaamlacfdhlaa
