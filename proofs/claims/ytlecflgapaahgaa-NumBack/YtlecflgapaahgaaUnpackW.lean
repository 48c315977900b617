/- The numbers of a word: what package num's Unpack answers. -/
import Derived.Test.YtlecflgapaahgaaTotW
import Derived.Test.YtlecflgapaahgaaBitsP
namespace Go.Proofs.Ytlecflgapaahgaa
open Go.RowKit
set_option linter.unusedVariables false

theorem info_u : (Try.prog.info? 28).map (fun i => (i.zero, i.size, i.bytes)) = some (some (.int .u64 0), 1, 8) := by kernel_rfl

set_option maxHeartbeats 400000 in
theorem mask_walk (n : Nat) (w : World) (h : n ≤ 64) : Calls Try.prog 34 #[.int .u64 n] w fun e w' => e = .returned (.int .u64 (2 ^ n - 1)) ∧ w' = w := by
  have e := mask_val n h
  go_enter Try.func34, Try.ntmps34
  go_wp2
  go_ret
  exact ⟨rfl, rfl⟩

theorem row_of_owns {w : World} {base : Nat} {e : TypeId} {v : Value} {n : Nat} {k : IntKind} {ys : List Int} (h : w.ownsRow base e 1 v n (ys.map (Value.int k))) : Row k w v ys := by
  have hl : ys.length = n := by have := h.1; simpa using this
  rcases h.2 with ⟨rfl, h0⟩ | ⟨g, cap, cur, rfl, hb, hg, hn, hm, hs, ht⟩
  · have : ys = [] := List.eq_nil_of_length_eq_zero (by omega)
    exact .inl ⟨none, 0, rfl, fun _ => rfl, this⟩
  · subst hl
    refine .inr ⟨g, 0, cap, rfl, hn, hm, fun i hi => ?_⟩
    have := h.cellAt i (by omega)
    rw [Nat.zero_add, this]
    simp [hi]

theorem one_new (w : World) (T : TypeId) (x : Value) : ∀ (j : Nat) (u : Value), [x][j]? = some u → (w.alloc (.cells #[x] T)).cell? (Addr.add ⟨w.heap.size, 0, none⟩ j) = some u := by
  intro j u hu
  match j, hu with
  | 0, hu => simp at hu; subst hu; simp [Addr.add]
  | j + 1, hu => simp at hu

set_option maxHeartbeats 1000000 in
theorem unpack_some (b off c : Nat) (zs : List Int) (W : Int) (T : Nat) (w : World) (hz : zs.length * 8 ≤ 140737488351232) (hc : Cells .i64 w b off zs) (h0 : 0 ≤ W) (h1 : W < 18446744073709551616) (hT : totTo zs 0 = some (T : Int)) (hT2 : T ≤ 64) (hfit : W / 2 ^ T = 0) :
    Calls Try.prog 20 #[.int .u64 W, .slice (some ⟨b, off, none⟩) zs.length c] w fun e w' => ∃ v, e = .returned (.tuple #[v, .int .i64 0]) ∧ Row .u64 w' v (unTo zs W) ∧ Below w.heap.size w w' := by
  obtain ⟨i0, hi, hz0, hz1, hz2⟩ := info_parts info_u
  have HT := hide hT
  have hfit' : (W / 2 ^ T != 0) = false := by rw [hfit]; rfl
  clear hT hfit
  go_enter Try.func20, Try.ntmps20
  go_wp2_with fail
  refine (total_some b off c zs _ (by unfold maxLen; omega) hc).mono ?_
  rintro e w' ⟨rfl, hw'⟩
  rw [unhide HT]
  subst hw'
  go_wp2_with (at_make; refine wpList_make_own _ rfl _ _ 25 rfl w'.heap.size 28 i0 (.int .u64 0) 1 Try.underlying25 hi hz0 hz1 .i64 .i64 _ zs.length rfl rfl (by omega) (by rw [hz2]; omega) (by unfold maxLen; omega) (Nat.le_refl _) ?_; intro w1 hown1 hgrow1)
  have hb1 : Below w'.heap.size w' w1 := (Below.refl _ _).grown hgrow1 (Nat.le_refl _) (fun _ h => by cases h)
  clear hgrow1
  go_loopw [8, 9, 30] (fun s r i wr => ∃ k : Nat, k ≤ zs.length ∧ i = .int .i64 k ∧ ∃ (t : Nat) (R : Int) (ys : List Int), s = .slice (some ⟨w'.heap.size, 0, none⟩) k zs.length ∧ r = .int .u64 R ∧ 0 ≤ R ∧ R < 18446744073709551616 ∧ t ≤ 64 ∧
      wr.ownsRow w'.heap.size 28 1 (.slice (some ⟨w'.heap.size, 0, none⟩) k zs.length) k (ys.map (Value.int .u64)) ∧ Below w'.heap.size w' wr ∧ Hid (totTo (zs.drop k) t = some (T : Int)) ∧ Hid (unTo zs W = ys ++ unTo (zs.drop k) R)) (fun _ _ i _ => zs.length - (intOf i).toNat)
  case atStart => exact ⟨0, Nat.zero_le _, rfl, 0, W, [], rfl, rfl, h0, h1, by omega, hown1, hb1, hide (by simpa using unhide HT), hide (by simp)⟩
  case round =>
    obtain ⟨k, hk, rfl, t, R, ys, rfl, rfl, hR0, hR1, ht1, hown, hbel, hi1, hi2⟩ := hrel
    by_cases hlt : k < zs.length
    · have hcell : wr.cell? ⟨b, off + k, none⟩ = some (.int .i64 (zs.getD k 0)) := by
        have := hc k hlt
        rw [hbel.cell (p := ⟨b, off + k, none⟩) (World.block_lt_of_cell? _ _ this)]; exact this
      have hdz := drop_cons zs k hlt
      rw [hdz] at hi1 hi2
      clear hdz
      generalize zs.getD k 0 = z at *
      have hi1' := unhide hi1
      unfold totTo at hi1'
      split at hi1'
      · cases hi1'
      rename_i hz'
      obtain ⟨n, rfl⟩ := Int.eq_ofNat_of_zero_le (show 0 ≤ z by omega)
      have Hi1 := hide hi1'
      clear hi1' hi1
      have hn1 : 1 ≤ n := by omega
      have hn2 : n ≤ 64 - t := by omega
      clear hz'
      have hand := and_low R n hR0 hR1 (by omega)
      go_wp2_with fail
      refine (mask_walk n _ (by omega)).mono ?_
      rintro e w2 ⟨rfl, hw2⟩
      subst hw2
      have hone := one_new w2 28 (.int .u64 (R % 2 ^ n))
      have hys : ys.length = k := by have := hown.1; simpa using this
      have hq0 : 0 ≤ R / 2 ^ n := Int.ediv_nonneg hR0 (Int.le_of_lt (pow_pos' n))
      have hq1 : R / 2 ^ n ≤ R := Int.ediv_le_self _ hR0
      go_wp2_with (at_builtin; refine wpList_append_fits _ rfl (.tmp 36) (.tmp 41) 25 rfl w'.heap.size 28 i0 1 Try.underlying25 hi hz1 w'.heap.size k zs.length (ys.map (Value.int .u64)) rfl (hown.alloc _) ⟨w2.heap.size, 0, none⟩ 1 1 [.int .u64 (R % 2 ^ n)] rfl rfl hone (fun u hu => by simp at hu; subst hu; rfl) (by omega) ?_; intro w3 hown3 hgrow3)
      have hbel3 : Below w'.heap.size w' w3 := (hbel.alloc hbel.size _).grown hgrow3 (by have := hbel.size; simp; omega) (fun j h => by cases h; exact Nat.le_refl _)
      have hown4 : w3.ownsRow w'.heap.size 28 1 (.slice (some ⟨w'.heap.size, 0, none⟩) (k + 1) zs.length) (k + 1) ((ys ++ [R % 2 ^ n]).map (Value.int .u64)) := by
        rw [List.map_append]; exact hown3
      refine ⟨⟨k + 1, by omega, by go_num, t + n, R / 2 ^ n, ys ++ [R % 2 ^ n], rfl, rfl, hq0, by omega, by omega, hown4, hbel3, hide ?_, hide ?_⟩, by simp [intOf]; omega⟩
      · rw [Int.natCast_add]; exact unhide Hi1
      · rw [unhide hi2]; simp [unTo]
    · have hk : k = zs.length := by omega
      subst hk
      have hfin : unTo zs W = ys := by rw [unhide hi2, List.drop_of_length_le (Nat.le_refl _)]; simp [unTo]
      have hrow : Row .u64 wr (.slice (some ⟨w'.heap.size, 0, none⟩) zs.length zs.length) (unTo zs W) := by rw [hfin]; exact row_of_owns hown
      clear hfin hown
      go_wp2
      go_ret2
      exact ⟨_, rfl, hrow, hbel⟩

theorem row_none (k : IntKind) (w : World) : Row k w (.slice none 0 0) [] := .inl ⟨none, 0, rfl, fun _ => rfl, rfl⟩

set_option maxHeartbeats 400000 in
theorem unpack_wrong (v : Value) (zs : List Int) (W : Int) (w : World) (hr : Row .i64 w v zs) (h : totTo zs 0 = none) :
    Calls Try.prog 20 #[.int .u64 W, v] w fun e w' => e = .returned (.tuple #[.slice none 0 0, .int .i64 1]) ∧ w' = w := by
  have H := hide h
  clear h
  go_enter Try.func20, Try.ntmps20
  go_wp2_with fail
  refine (total_any v zs _ hr).mono ?_
  rintro e w' ⟨rfl, hw'⟩
  subst hw'
  rw [unhide H]
  go_wp2
  go_ret2
  exact ⟨rfl, rfl⟩

set_option maxHeartbeats 400000 in
theorem unpack_form (v : Value) (zs : List Int) (W : Int) (T : Nat) (w : World) (hr : Row .i64 w v zs) (h : totTo zs 0 = some (T : Int)) (hT2 : T ≤ 64) (hW : ¬ W / 2 ^ T = 0) :
    Calls Try.prog 20 #[.int .u64 W, v] w fun e w' => e = .returned (.tuple #[.slice none 0 0, .int .i64 10]) ∧ w' = w := by
  have H := hide h
  have hne : (W / 2 ^ T != 0) = true := by rw [bne_iff_ne]; exact hW
  clear h hW
  go_enter Try.func20, Try.ntmps20
  go_wp2_with fail
  refine (total_any v zs _ hr).mono ?_
  rintro e w' ⟨rfl, hw'⟩
  subst hw'
  rw [unhide H]
  go_wp2
  go_ret2
  exact ⟨rfl, rfl⟩

set_option maxHeartbeats 400000 in
theorem unpack_nil (a : Option Addr) (c : Nat) (w : World) (hr : Row .i64 w (.slice a 0 c) []) :
    Calls Try.prog 20 #[.int .u64 0, .slice a 0 c] w fun e w' => ∃ v, e = .returned (.tuple #[v, .int .i64 0]) ∧ Row .u64 w' v [] ∧ Below w.heap.size w w' := by
  obtain ⟨i0, hi, hz0, hz1, hz2⟩ := info_parts info_u
  go_enter Try.func20, Try.ntmps20
  go_wp2_with fail
  refine (total_any _ [] _ hr).mono ?_
  rintro e w' ⟨rfl, hw'⟩
  subst hw'
  rw [show totTo [] 0 = some 0 from rfl]
  go_wp2_with (at_make; refine wpList_make_own _ rfl _ _ 25 rfl w'.heap.size 28 i0 (.int .u64 0) 1 Try.underlying25 hi hz0 hz1 .i64 .i64 _ 0 rfl rfl (by omega) (by rw [hz2]; omega) (by unfold maxLen; omega) (Nat.le_refl _) ?_; intro w1 hown1 hgrow1)
  have hb1 : Below w'.heap.size w' w1 := (Below.refl _ _).grown hgrow1 (Nat.le_refl _) (fun _ h => by cases h)
  clear hgrow1
  refine wp_loop_rounds 1 ?_; rw [rounds_succ]
  go_wp2
  go_ret2
  exact ⟨_, rfl, .inl ⟨_, _, rfl, fun _ => rfl, rfl⟩, hb1⟩

/-- Unpack, of any word and widths -/
theorem unpack_any (v : Value) (zs : List Int) (W : Int) (w : World) (hz : zs.length * 8 ≤ 140737488351232) (hr : Row .i64 w v zs) (h0 : 0 ≤ W) (h1 : W < 18446744073709551616) :
    Calls Try.prog 20 #[.int .u64 W, v] w fun e w' => ∃ u, e = .returned (.tuple #[u, .int .i64 (unpackS W zs).2]) ∧ Row .u64 w' u (unpackS W zs).1 ∧ Below w.heap.size w w' := by
  cases hT : totTo zs 0 with
  | none =>
    have e := unpackS_none W zs hT
    rw [e]
    exact (unpack_wrong v zs W w hr hT).mono fun e w' ⟨he, hw⟩ => ⟨_, he, row_none _ _, by rw [hw]; exact Below.refl _ _⟩
  | some T' =>
    have hb := totTo_some zs 0 T' (by omega) (by omega) hT
    obtain ⟨T, rfl⟩ := Int.eq_ofNat_of_zero_le (show 0 ≤ T' by omega)
    by_cases hW : W / 2 ^ T = 0
    · have e := unpackS_fit W zs T hT hW
      rw [e]
      rcases hr with ⟨a, c, rfl, hn, rfl⟩ | ⟨b, off, c, rfl, hl, hm, hc⟩
      · have hT0 : (T : Int) = 0 := by simpa [totTo] using hT.symm
        have hT1 : T = 0 := by omega
        subst hT1
        have hW0 : W = 0 := by simpa using hW
        subst hW0
        exact unpack_nil a c w (.inl ⟨a, c, rfl, hn, rfl⟩)
      · exact unpack_some b off c zs W T w hz hc h0 h1 hT (by omega) hW
    · have e := unpackS_form W zs T hT hW
      rw [e]
      exact (unpack_form v zs W T w hr hT (by omega) hW).mono fun e w' ⟨he, hw⟩ => ⟨_, he, row_none _ _, by rw [hw]; exact Below.refl _ _⟩
end Go.Proofs.Ytlecflgapaahgaa
