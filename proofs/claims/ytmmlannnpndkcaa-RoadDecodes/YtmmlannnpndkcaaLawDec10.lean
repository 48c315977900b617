/- RoadDecodes: which network any bytes are, or why they are none; what is handed in stays. -/
import Derived.Test.YtmmlannnpndkcaaGRDec
import Derived.Test.YtmmlannnpndkcaaBOwn
import Derived.Test.YtmmlannnpndkcaaBWf
namespace Go.Proofs.Ytmmlannnpndkcaa
open Go.RowKit Go.Maps
set_option linter.unusedVariables false
set_option linter.unusedSimpArgs false
set_option maxRecDepth 100000

set_option maxHeartbeats 8000000 in
theorem decodes_walk (w : World) (v : Value) (zs : List Int) (hr : Row .u8 any w v zs) (hb : Bytes zs) :
    Calls Try.prog 3 #[v] w fun e w' => e = .returned (.bool true) ∧ Turn (fun _ => False) w w' := by
  obtain ⟨i0, hi, hz0, hz1, hz2⟩ := info_parts info_u8
  have hlen := hr.len
  unfold maxLen at hlen
  by_cases h4 : 4000 < zs.length
  · obtain ⟨x, hx, hrx⟩ := cut_to (P := Try.prog) (ki := .i64) Try.underlying22 hi hz1 hr 4000 (by omega)
    obtain ⟨a, c, rfl⟩ := hr.slice
    have hx2 : ∀ u : World, (Instr.slice 22 (.slice a zs.length c) none (some (.int .i64 4000)) none).run Try.prog u = .ok x u := hx
    have hbZ : Bytes (zs.take 4000) := hb.take 4000
    have hZ : (zs.take 4000).length ≤ 4000 := by rw [List.length_take]; omega
    generalize zs.take 4000 = Z at *
    have h4i : (4000 : Int) < (zs.length : Int) := by omega
    clear hr hx hb
    go_enter Try.func3, Try.ntmps3
    go_wp2_with fail
    refine (own_any_u8 x Z 71 _ (by omega) hrx).mono ?_
    rintro e w1 ⟨rfl, C1, b1, fr1⟩
    have t1 : Turn (fun _ => False) w w1 := Turn.of_below b1
    obtain ⟨p1, hp1⟩ : ∃ p1, p1 = w.heap.size := ⟨_, rfl⟩
    rw [← hp1] at C1 ⊢
    have HC1 := hide C1
    have hr1 : Row .u8 any w1 (.slice (some ⟨p1, 0, none⟩) Z.length (Z.length + 3)) Z := row_of_cells C1 rfl (by omega) (by unfold maxLen; omega)
    have hx1 := hrx.turn t1 (fun _ _ h => h)
    clear b1 fr1 hp1 C1 hrx
    go_wp2_with fail
    refine (decode_walk any w1 _ Z hr1 hbZ (by omega)).mono ?_
    rintro e w2 ⟨n, y, k, rfl, ⟨l, A2, hd2⟩, t2⟩
    obtain ⟨ya, yc, rfl⟩ := A2.slice
    have tX := (Turn.refl (fun _ => False) w2).alloc (.cells #[.int .i64 n, .slice ya l.length yc] 26)
    have nb3 := heap_alloc_new w2 (.cells #[.int .i64 n, .slice ya l.length yc] 26)
    have A3 := A2.quiet tX
    have x3 := (hx1.turn t2 (fun _ _ h => h)).turn tX (fun _ _ h => h)
    have T3 := (t1.then t2).then tX
    have t13 := t2.then tX
    clear hr1 A2 t1 t2 tX hx1
    go_wp2_with fail
    generalize w2.alloc (.cells #[.int .i64 n, .slice ya l.length yc] 26) = W3 at *
    generalize w2.heap.size = nb at *
    refine (rdecode_walk any W3 _ Z x3 hbZ (by omega)).mono ?_
    rintro e w4 ⟨n', y', k', rfl, ⟨l', A4, hd4⟩, t4⟩
    rw [hd2] at hd4
    simp only [Prod.mk.injEq] at hd4
    obtain ⟨rfl, rfl, rfl⟩ := hd4
    obtain ⟨za, zc, rfl⟩ := A4.slice
    have tX := (Turn.refl (fun _ => False) w4).alloc (.cells #[.int .i64 n, .slice za l.length zc] 26)
    have mb5 := heap_alloc_new w4 (.cells #[.int .i64 n, .slice za l.length zc] 26)
    have A5 := A4.quiet tX
    have t45 := t4.then tX
    have nb5 := t45.same nb3 (fun h => h)
    have B5 := A3.quiet t45
    have x5 := x3.turn t45 (fun _ _ h => h)
    have T5 := T3.then t45
    have t15 := t13.then t45
    clear A4 t4 tX nb3 A3 x3 T3 t13 t45 hd2
    go_wp2_with fail
    generalize w4.alloc (.cells #[.int .i64 n, .slice za l.length zc] 26) = W5 at *
    generalize w4.heap.size = mb at *
    refine (awake_walk _).mono ?_
    rintro e w6 ⟨rfl, t6⟩
    have nb6 := t6.same nb5 (fun h => h)
    have mb6 := t6.same mb5 (fun h => h)
    have n0 : w6.cell? ⟨nb, 0, none⟩ = some (.int .i64 n) := cell_obj nb6 0
    have n1 : w6.cell? ⟨nb, 1, none⟩ = some (.slice ya l.length yc) := cell_obj nb6 1
    have m0 : w6.cell? ⟨mb, 0, none⟩ = some (.int .i64 n) := cell_obj mb6 0
    have m1 : w6.cell? ⟨mb, 1, none⟩ = some (.slice za l.length zc) := cell_obj mb6 1
    have Hn := net_same w6 n n _ _ l l (B5.quiet t6) (A5.quiet t6)
    rw [show decide (n = n ∧ l = l) = true by simp] at Hn
    have x6 := x5.turn t6 (fun _ _ h => h)
    have T6 := T5.then t6
    have t16 := t15.then t6
    clear nb5 mb5 B5 A5 x5 T5 t15 t6
    go_wp2_with fail
    refine Hn.mono ?_
    rintro e w7 ⟨rfl, t7⟩
    have t17 := t16.then t7
    have C7 : Cells .u8 w7 p1 0 (Z ++ [71, 71, 71]) := (unhide HC1).turn t17 (fun h => h)
    have Hk := kept_any_u8 p1 x Z 71 w7 (by omega) C7 (x6.turn t7 (fun _ _ h => h))
    have T7 := T6.then t7
    clear Hn n0 n1 m0 m1 nb6 mb6 x6 T6 t16 t7
    go_wp2_with fail
    refine Hk.mono ?_
    rintro e w8 ⟨rfl, nn, rfl⟩
    go_wp2
    go_ret
    exact ⟨rfl, T7.drewN nn⟩
  · have hrx := hr
    have hbZ := hb
    have hZ : zs.length ≤ 4000 := by omega
    have h4i : ¬ (4000 : Int) < (zs.length : Int) := by omega
    obtain ⟨a, c, rfl⟩ := hr.slice
    clear hr hb
    go_enter Try.func3, Try.ntmps3
    go_wp2_with fail
    refine (own_any_u8 _ zs 71 _ (by omega) hrx).mono ?_
    rintro e w1 ⟨rfl, C1, b1, fr1⟩
    have t1 : Turn (fun _ => False) w w1 := Turn.of_below b1
    obtain ⟨p1, hp1⟩ : ∃ p1, p1 = w.heap.size := ⟨_, rfl⟩
    rw [← hp1] at C1 ⊢
    have HC1 := hide C1
    have hr1 : Row .u8 any w1 (.slice (some ⟨p1, 0, none⟩) zs.length (zs.length + 3)) zs := row_of_cells C1 rfl (by omega) (by unfold maxLen; omega)
    have hx1 := hrx.turn t1 (fun _ _ h => h)
    clear b1 fr1 hp1 C1 hrx
    go_wp2_with fail
    refine (decode_walk any w1 _ zs hr1 hbZ (by omega)).mono ?_
    rintro e w2 ⟨n, y, k, rfl, ⟨l, A2, hd2⟩, t2⟩
    obtain ⟨ya, yc, rfl⟩ := A2.slice
    have tX := (Turn.refl (fun _ => False) w2).alloc (.cells #[.int .i64 n, .slice ya l.length yc] 26)
    have nb3 := heap_alloc_new w2 (.cells #[.int .i64 n, .slice ya l.length yc] 26)
    have A3 := A2.quiet tX
    have x3 := (hx1.turn t2 (fun _ _ h => h)).turn tX (fun _ _ h => h)
    have T3 := (t1.then t2).then tX
    have t13 := t2.then tX
    clear hr1 A2 t1 t2 tX hx1
    go_wp2_with fail
    generalize w2.alloc (.cells #[.int .i64 n, .slice ya l.length yc] 26) = W3 at *
    generalize w2.heap.size = nb at *
    refine (rdecode_walk any W3 _ zs x3 hbZ (by omega)).mono ?_
    rintro e w4 ⟨n', y', k', rfl, ⟨l', A4, hd4⟩, t4⟩
    rw [hd2] at hd4
    simp only [Prod.mk.injEq] at hd4
    obtain ⟨rfl, rfl, rfl⟩ := hd4
    obtain ⟨za, zc, rfl⟩ := A4.slice
    have tX := (Turn.refl (fun _ => False) w4).alloc (.cells #[.int .i64 n, .slice za l.length zc] 26)
    have mb5 := heap_alloc_new w4 (.cells #[.int .i64 n, .slice za l.length zc] 26)
    have A5 := A4.quiet tX
    have t45 := t4.then tX
    have nb5 := t45.same nb3 (fun h => h)
    have B5 := A3.quiet t45
    have x5 := x3.turn t45 (fun _ _ h => h)
    have T5 := T3.then t45
    have t15 := t13.then t45
    clear A4 t4 tX nb3 A3 x3 T3 t13 t45 hd2
    go_wp2_with fail
    generalize w4.alloc (.cells #[.int .i64 n, .slice za l.length zc] 26) = W5 at *
    generalize w4.heap.size = mb at *
    refine (awake_walk _).mono ?_
    rintro e w6 ⟨rfl, t6⟩
    have nb6 := t6.same nb5 (fun h => h)
    have mb6 := t6.same mb5 (fun h => h)
    have n0 : w6.cell? ⟨nb, 0, none⟩ = some (.int .i64 n) := cell_obj nb6 0
    have n1 : w6.cell? ⟨nb, 1, none⟩ = some (.slice ya l.length yc) := cell_obj nb6 1
    have m0 : w6.cell? ⟨mb, 0, none⟩ = some (.int .i64 n) := cell_obj mb6 0
    have m1 : w6.cell? ⟨mb, 1, none⟩ = some (.slice za l.length zc) := cell_obj mb6 1
    have Hn := net_same w6 n n _ _ l l (B5.quiet t6) (A5.quiet t6)
    rw [show decide (n = n ∧ l = l) = true by simp] at Hn
    have x6 := x5.turn t6 (fun _ _ h => h)
    have T6 := T5.then t6
    have t16 := t15.then t6
    clear nb5 mb5 B5 A5 x5 T5 t15 t6
    go_wp2_with fail
    refine Hn.mono ?_
    rintro e w7 ⟨rfl, t7⟩
    have t17 := t16.then t7
    have C7 : Cells .u8 w7 p1 0 (zs ++ [71, 71, 71]) := (unhide HC1).turn t17 (fun h => h)
    have Hk := kept_any_u8 p1 _ zs 71 w7 (by omega) C7 (x6.turn t7 (fun _ _ h => h))
    have T7 := T6.then t7
    clear Hn n0 n1 m0 m1 nb6 mb6 x6 T6 t16 t7
    go_wp2_with fail
    refine Hk.mono ?_
    rintro e w8 ⟨rfl, nn, rfl⟩
    go_wp2
    go_ret
    exact ⟨rfl, T7.drewN nn⟩
theorem RoadDecodes_law (w : World) (v : Value) (zs : List Int) (hr : Row .u8 any w v zs) (hwf : ∀ n ∈ zs, (Lit.int .u8 n).wf = true) (hreach : zs.length * 1 ≤ 140737488351232) :
    Calls Try.prog 3 #[v] w fun e w' => e = .returned (.bool true) ∧ Below w.heap.size w w' :=
  (decodes_walk w v zs hr (bytes_wf hwf)).mono (fun e w' h => ⟨h.1, h.2.blw⟩)
end Go.Proofs.Ytmmlannnpndkcaa
