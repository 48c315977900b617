/- What was packed is taken, with whatever is behind it. -/
import Derived.Test.YtkmeedefaceknaaFTake
import Derived.Test.YtkmeedefaceknaaBWf
import Derived.Deep.DeepAppendWide
namespace Go.Proofs.Ytkmeedefaceknaa
open Go.RowKit
set_option linter.unusedVariables false

theorem Turn.all {w w' : World} (h : Turn (fun _ => False) w w') : Below w.heap.size w w' := h.below (fun _ h => h.elim) (Nat.le_refl _)

/-- append of a row onto a row of one's own, up to where memory ends -/
theorem append_row_wide {P : Program} {w : World} {base : Nat} {t ty e : TypeId} {i : TypeInfo} {z : Value} {k : IntKind} {bytes : Nat} {B : Nat → Prop} (ht : P.underlying t = some (.slice e)) (hi : P.info? e = some i) (hz : i.zero = some z) (hsize : i.size = 1) (hby : i.bytes = bytes) (hzs : z.cells.size = 1)
    {v x : Value} {xs zs : List Int} (hown : w.ownsRow base e 1 v xs.length (xs.map (Value.int k))) (hx : Row k B w x zs) (hm : xs.length + zs.length ≤ maxLen) (hb : ((xs.length + zs.length) + (xs.length + zs.length) / 4 + 192) * bytes ≤ 281474976710656) (hbase : base ≤ w.heap.size) :
    ∃ v' w', (Builtin.append_ #[t, t] ty #[v, x]).run P w = .ok v' w' ∧ w'.ownsRow base e 1 v' (xs ++ zs).length ((xs ++ zs).map (Value.int k)) ∧ Below base w w' := by
  have key : ∀ (a : Addr) (c : Nat), (∀ j u, (zs.map (Value.int k))[j]? = some u → w.cell? (a.add j) = some u) → ∃ v' w', (Builtin.append_ #[t, t] ty #[v, .slice (some a) zs.length c]).run P w = .ok v' w' ∧ w'.ownsRow base e 1 v' (xs ++ zs).length ((xs ++ zs).map (Value.int k)) ∧ Below base w w' := by
    intro a c hc
    obtain ⟨v', w', hr, r1, r2, _⟩ := run_append_own_wide (P := P) w base t ty e i z 1 bytes ht hi hz hsize hby hzs (by omega) v xs.length (xs.map (Value.int k)) hown a zs.length c (zs.map (Value.int k)) (by simp) hc (ints_oneCell _ _) hm hb hbase
    exact ⟨v', w', hr, by rw [List.length_append, List.map_append]; exact r1, below_grown r2 hbase (own_base hown)⟩
  rcases hx with ⟨a, c, rfl, hn, _, rfl⟩ | ⟨b, off, c, rfl, h1, h2, h3, h4⟩
  · cases a with
    | none =>
      obtain rfl := hn rfl
      exact ⟨v, w, run_append_owned_none (P := P) w base t ty e i 1 ht hi v _ _ hown, by simpa using hown, Below.refl _ _⟩
    | some a => exact key a c (fun j u hu => by simp at hu)
  · refine key _ c (fun j u hu => ?_)
    obtain ⟨hj, rfl⟩ := getD_map hu
    rw [Addr.add_lit]
    exact h4 j hj

set_option maxHeartbeats 1000000 in
theorem copy_owns (B : Nat → Prop) (v : Value) (zs : List Int) (w : World) (hr : Row .u8 B w v zs) (hl : zs.length ≤ 140737488355328) :
    Calls Try.prog 20 #[v] w fun e w' => ∃ x, e = .returned x ∧ w'.ownsRow w.heap.size 5 1 x zs.length (zs.map (Value.int .u8)) ∧ Below w.heap.size w w' := by
  obtain ⟨i0, hi, hz0, hz1, hz2⟩ := info_parts info_u8
  have hown0 : w.ownsRow w.heap.size 5 1 (.slice none 0 0) ([] : List Int).length (([] : List Int).map (Value.int .u8)) := ⟨rfl, .inl ⟨rfl, rfl⟩⟩
  obtain ⟨x2, w2, hrun, hx2, hb2⟩ := append_row (P := Try.prog) (ty := 22) Try.underlying22 hi hz0 hz1 hz2 rfl hown0 hr (by unfold maxLen; simp; omega) (by simp; omega) (Nat.le_refl _)
  go_enter Try.func20, Try.ntmps20
  go_wp2_with (at_builtin; refine list_append_run rfl _ _ 22 rfl _ _ _ _ rfl rfl hrun ?_)
  go_ret
  exact ⟨x2, rfl, hx2, hb2⟩

set_option maxHeartbeats 2000000 in
theorem FrameBack_law (w : World) (b : Value) (zs : List Int) (hr : Row .u8 any w b zs) (hwf : ∀ n ∈ zs, (Lit.int .u8 n).wf = true) (hz : zs.length * 1 ≤ 140737488351232)
    (m : Value) (ys : List Int) (hy : Row .u8 any w m ys) (hwy : ∀ n ∈ ys, (Lit.int .u8 n).wf = true) (hzy : ys.length * 1 ≤ 140737488351232) :
    Calls Try.prog 5 #[b, m] w fun e w' => e = .returned (.bool true) ∧ Below w.heap.size w w' := by
  have hb := bytes_wf hwf
  have hby := bytes_wf hwy
  obtain ⟨i0, hi, hz0, hz1, hz2⟩ := info_parts info_u8
  obtain ⟨ab, cb, rfl⟩ := hr.slice
  by_cases hbig : 1048576 < zs.length
  · have hC : packC zs = 4 := by unfold packC; rw [if_pos hbig]
    go_enter Try.func5, Try.ntmps5
    go_wp2_with fail
    refine (Pack_walk any _ zs _ hb hr).mono ?_
    rintro e w1 ⟨x1, rfl, ho1, hf1, T1⟩
    rw [hC]
    have b1 := T1.all
    clear ho1 hf1 T1 hr hy
    generalize zs.length = n at *
    go_wp2_with fail
    refine (awake_walk _).mono ?_
    rintro e w2 ⟨rfl, k2⟩
    have b2 := below_then b1 k2
    clear b1 k2
    go_wp2_with fail
    refine (awake_walk _).mono ?_
    rintro e w3 ⟨rfl, k3⟩
    have b3 := below_then b2 k3
    clear b2 k3
    go_wp2
    go_ret
    exact ⟨ret_bool (by simp; omega), b3⟩
  · have hC : packC zs = 0 := by unfold packC; rw [if_neg hbig]
    have hD : packD zs = packB zs := by unfold packD; rw [if_neg hbig]
    have hPl := hide (packB_len zs)
    have hPb : Bytes (packB zs) := packB_bytes hb
    have hT := take_pack zs ys (by omega)
    go_enter Try.func5, Try.ntmps5
    go_wp2_with fail
    refine (Pack_walk any _ zs _ hb hr).mono ?_
    rintro e w1 ⟨x1, rfl, ho1, hf1, T1⟩
    rw [hC]
    rw [hD] at ho1
    have hr1 := hr.turn T1 (fun _ _ h => h)
    have hy1 := hy.turn T1 (fun _ _ h => h)
    obtain ⟨a1, c1, rfl⟩ := (row_of_sl ho1).slice
    go_wp2_with fail
    refine (awake_walk _).mono ?_
    rintro e w2 ⟨rfl, k2⟩
    have T2 : Turn (fun _ => False) w1 w2 := Turn.of_below k2
    have hr2 := hr1.turn T2 (fun _ _ h => h)
    have hy2 := hy1.turn T2 (fun _ _ h => h)
    have hrow2 := row_of_sl (ho1.turn T2 (fun _ _ h => h))
    have b2 := (T1.then T2).all
    clear T1 T2 k2 hr hy hr1 hy1 ho1 hf1
    go_wp2_with fail
    refine (copy_owns _ _ (packB zs) _ hrow2 (by rw [unhide hPl]; omega)).mono ?_
    rintro e w3 ⟨x3, rfl, h3, k3⟩
    have hr3 := hr2.below k3
    have hy3 := hy2.below k3
    have hs3 := k3.size
    obtain ⟨x4, w4, hrun, h4, k4⟩ := append_row_wide (P := Try.prog) (ty := 22) Try.underlying22 hi hz0 hz1 hz2 rfl h3 hy3 (by rw [unhide hPl]; unfold maxLen; omega) (by rw [unhide hPl]; omega) hs3
    have k34 : Below w2.heap.size w2 w4 := k3.trans k4
    have hr4 := hr2.below k34
    have hrow4 := (row_of_owns h4).mono (B' := any) (fun _ _ => trivial)
    have b4 := below_then b2 k34
    clear h3 h4 k3 k4 hr2 hr3 hy2 hy3 hrow2 k34 hs3 b2
    go_wp2_with (first | (at_builtin; refine list_append_run rfl _ _ 22 rfl _ _ _ _ rfl rfl hrun ?_) | fail)
    refine (Take_walk any _ (packB zs ++ ys) _ (hPb.append hby) hrow4).mono ?_
    rw [hT]
    rintro e w5 ⟨x5, rfl, ho5, hf5, T5⟩
    have hr5 := hr4.turn T5 (fun _ _ h => h)
    have hrow5 := row_of_sl ho5
    have b5 := below_then b4 T5.all
    obtain ⟨a5, c5, rfl⟩ := hrow5.slice
    rw [unhide hPl]
    clear hrow4 hrun hr4 b4 T5 ho5 hf5 hT hD hC
    go_wp2_with fail
    refine (bytes_walk _ _ _ _ zs _ hrow5 hr5).mono ?_
    rintro e w6 ⟨rfl, rfl⟩
    go_wp2
    go_ret
    exact ⟨rfl, b5⟩
end Go.Proofs.Ytkmeedefaceknaa
