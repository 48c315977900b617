/- A number that is read, written again, is the same bytes; no number's bytes begin another one's. -/
import Derived.Test.YtmkaamlacfdhlaaLawWrites
import Derived.Deep.RegionWith
namespace Go.Proofs.Ytmkaamlacfdhlaa
open Go.RowKit
set_option linter.unusedVariables false

theorem numT_ok {zs : List Int} {x : Nat} {r : List Int} (hb : Bytes zs) (h : smallT wide zs 0 = (x, r, 0)) : x < 18446744073709551616 ∧ zs.length - (zs.length - r.length) = r.length ∧ zs.take (zs.length - r.length) = numB x ∧ r.length ≤ zs.length := by
  generalize hd : dec 0 0 zs = D at *
  obtain ⟨v, n, f⟩ := D
  by_cases hf : f = 0
  · subst hf
    obtain ⟨h1, h2, h3, h4, h5⟩ := dec_ok hb hd
    rw [smallT_k hd (ge_wide h2)] at h
    simp only [Prod.mk.injEq, and_true] at h
    obtain ⟨rfl, rfl⟩ := h
    rw [List.length_drop, show zs.length - (zs.length - n) = n by omega]
    exact ⟨h2, by omega, h1, by omega⟩
  · have hd2 := dec_fault0 (zs := zs) (by rw [hd]; exact hf)
    rw [hd] at hd2
    simp only [Prod.mk.injEq, and_true] at hd2
    obtain ⟨rfl, rfl⟩ := hd2
    rw [smallT_f hd hf] at h
    simp only [Prod.mk.injEq] at h
    exact absurd h.2.2 hf

theorem dec_kinds : ∀ (zs : List Int) (i a : Nat), (dec i a zs).2.2 = 0 ∨ (dec i a zs).2.2 = 9 ∨ (dec i a zs).2.2 = 10
  | [], i, a => .inr (.inl rfl)
  | x :: r, i, a => by
    unfold dec
    split
    · exact .inr (.inr rfl)
    · split
      · exact dec_kinds r _ _
      · split
        · exact .inr (.inr rfl)
        · exact .inl rfl
theorem small_kinds {m : Nat} {zs : List Int} {x : Nat} {r : List Int} {f : Int} (h : smallT m zs 0 = (x, r, f)) : f = 0 ∨ f = 9 ∨ f = 10 := by
  have hk := dec_kinds zs 0 0
  generalize hd : dec 0 0 zs = D at *
  obtain ⟨v, n, g⟩ := D
  by_cases hg : g = 0
  · subst hg
    by_cases hm : m < v
    · rw [smallT_m hd hm] at h
      simp only [Prod.mk.injEq] at h
      exact .inr (.inr h.2.2.symm)
    · rw [smallT_k hd (by omega)] at h
      simp only [Prod.mk.injEq] at h
      exact .inl h.2.2.symm
  · have hd2 := dec_fault0 (zs := zs) (by rw [hd]; exact hg)
    rw [hd] at hd2
    simp only [Prod.mk.injEq, and_true] at hd2
    obtain ⟨rfl, rfl⟩ := hd2
    rw [smallT_f hd hg] at h
    simp only [Prod.mk.injEq] at h
    obtain ⟨_, _, rfl⟩ := h
    exact hk

theorem cut_short (V : Nat) (hV : V < 18446744073709551616) : smallT wide ((numB V).take ((numB V).length - 1)) 0 = (0, (numB V).take ((numB V).length - 1), 9) := by
  rw [← List.dropLast_eq_take]
  exact smallT_f (dec_cut V 0 0 (by simpa using hV) (by omega)) (by omega)

set_option maxHeartbeats 2000000 in
theorem CodeOneForm_law (w : World) (b : Value) (zs : List Int) (hr : Row .u8 any w b zs) (hwf : ∀ n ∈ zs, (Lit.int .u8 n).wf = true) (hz : zs.length * 1 ≤ 140737488351232) (v : Int) (hv : (Lit.int .u64 v).wf = true) :
    Calls Try.prog 6 #[b, .int .u64 v] w fun e w' => e = .returned (.bool true) ∧ Below w.heap.size w w' := by
  obtain ⟨i0, hi, hz0, hz1, hz2⟩ := info_parts info_u8
  have v1 := wf_u64 hv
  obtain ⟨V, rfl⟩ := Int.eq_ofNat_of_zero_le v1.1
  have hV : V < 18446744073709551616 := by omega
  have hb := bytes_wf hwf
  have hl : zs.length ≤ 140737488351232 := by omega
  have hsn := cut_short V hV
  have hn10 := numB_ten V hV
  have hn1 := numB_pos V
  generalize hS : smallT wide zs 0 = S
  obtain ⟨x, r, f⟩ := S
  go_enter Try.func6, Try.ntmps6
  go_wp2_with fail
  refine (new_walk any b zs _ hr (by omega)).mono ?_
  rintro e w1 ⟨p, rfl, hp, hp1, hrd, b1⟩
  go_wp2_with fail
  refine (awake_walk _).mono ?_
  rintro e w2 ⟨rfl, k2⟩
  have hrd2 := hrd.turn (F := fun _ => False) (Turn.of_below k2) (fun h => h) (fun _ _ h => h)
  have b2 := below_then b1 k2
  clear hrd k2 b1
  go_wp2_with fail
  refine (rnum_walk _ p zs 0 _ hrd2 hb).mono ?_
  rw [hS]
  rintro e w3 ⟨rfl, hrd3, t3⟩
  have b3 : Below w.heap.size w w3 := b2.trans (t3.below (fun k h => by cases h; exact hp) b2.size)
  clear b2 hrd2 t3
  obtain ⟨ba, bc, rfl⟩ := hr.slice
  go_wp2_with fail
  refine (rleft_walk _ p r f _ hrd3).mono ?_
  rintro e w4 ⟨rfl, hw4⟩
  subst hw4
  have hrl : r.length ≤ zs.length := by have := smallT_less (m := wide) (r := zs) (e := 0); rw [hS] at this; exact this
  have hr4 := hr.below b3
  have hrd4 : RD (fun b => w.heap.size ≤ b ∧ b < p) w4.drew p r f := hrd3
  have b4 : Below w.heap.size w w4.drew := b3.drew
  by_cases hf : f = 0
  · subst hf
    obtain ⟨h1, h2, h3, h4⟩ := numT_ok hb hS
    obtain ⟨y, hcut, hy⟩ := cut_to (P := Try.prog) (ki := .i64) Try.underlying23 hi hz1 hr4 (zs.length - r.length) (by omega)
    rw [h3] at hy
    have hy4 : Row .u8 any w4.drew y (numB x) := hy
    have hsub : (zs.length : Int) - (r.length : Int) = ((zs.length - r.length : Nat) : Int) := by omega
    rw [← hsub] at hcut
    clear hy hr4 h3 h2 hS hsub hwf
    go_wp2_with fail
    go_region_with (first
      | (go_at_call 30; refine (rerr_walk _ p r 0 _ hrd4).mono ?_; rintro e w5 ⟨rfl, hw5⟩; subst hw5)
      | (go_at_call 13; refine (num_walk x _ h1).mono ?_; rintro e w6 ⟨x6, rfl, h6, k6⟩; have n6 := row_of_owns h6)
      | (go_at_call 12; refine (bytes_same _ _ _ _ _ _ n6 (hy4.below k6) (numB_bytes _)).mono ?_; rintro e w7 ⟨rfl, hw7⟩; subst hw7))
    all_goals
      have bT : Below w.heap.size w w7 := below_then b4 k6
      clear h6 n6 k6 hy4 hcut b4
      go_wp2_with fail
      refine (num_walk V _ hV).mono ?_
      rintro e w8 ⟨x8, rfl, h8, k8⟩
      have n8 := row_of_owns h8
      have b8 := below_then bT k8
      obtain ⟨y8, hcut8, hy8⟩ := cut_to (P := Try.prog) (ki := .i64) Try.underlying23 hi hz1 n8 ((numB V).length - 1) (by omega)
      obtain ⟨a8, c8, rfl⟩ := n8.slice
      rw [show (((numB V).length - 1 : Nat) : Int) = ((numB V).length : Int) - 1 by omega] at hcut8
      clear h8 n8 bT k8
      go_wp2_with fail
      refine (new_walk _ y8 _ _ hy8 (by rw [List.length_take]; omega)).mono ?_
      rintro e w9 ⟨q, rfl, hq, hq1, hrd9, k9⟩
      have b9 := below_then b8 k9
      have hq0 : w.heap.size ≤ q := Nat.le_trans b8.size hq
      clear hy8 k9 b8 hcut8
      go_wp2_with fail
      refine (rnum_walk _ q _ 0 _ hrd9 ((numB_bytes V).take _)).mono ?_
      rw [hsn]
      rintro e w10 ⟨rfl, hrd10, t10⟩
      have b10 : Below w.heap.size w w10 := b9.trans (t10.below (fun k h => by cases h; exact hq0) b9.size)
      clear hrd9 t10 b9
      go_wp2_with fail
      refine (rerr_walk _ q _ 9 _ hrd10).mono ?_
      rintro e w11 ⟨rfl, hw⟩
      subst hw
      go_wp2
      go_ret
      exact ⟨rfl, b10⟩
  · have hk := small_kinds hS
    clear hr4 hS hwf
    have hk2 : f = 9 ∨ f = 10 := by omega
    clear hk hf
    have hrdN : ∀ n, RD (fun b => w.heap.size ≤ b ∧ b < p) (w4.drewN n) p r f := fun n => hrd3.turn (F := fun _ => False) (Turn.of_below (drewN_below w4 n)) (fun h => h) (fun _ _ h => h)
    clear hrd3 hrd4 b4
    rcases hk2 with rfl | rfl
    all_goals
      go_wp2_with fail
      go_quiet ((go_at_call 30; exact Calls.quiet_of_same (rerr_walk _ p r _ _ (hrdN _))))
      have bT : Below w.heap.size w (w4.drewN nq) := below_then b3 (drewN_below w4 nq)
      clear b3 hrdN
      generalize w4.drewN nq = w7 at *
      go_wp2_with fail
      refine (num_walk V _ hV).mono ?_
      rintro e w8 ⟨x8, rfl, h8, k8⟩
      have n8 := row_of_owns h8
      have b8 := below_then bT k8
      obtain ⟨y8, hcut8, hy8⟩ := cut_to (P := Try.prog) (ki := .i64) Try.underlying23 hi hz1 n8 ((numB V).length - 1) (by omega)
      obtain ⟨a8, c8, rfl⟩ := n8.slice
      rw [show (((numB V).length - 1 : Nat) : Int) = ((numB V).length : Int) - 1 by omega] at hcut8
      clear h8 n8 bT k8
      go_wp2_with fail
      refine (new_walk _ y8 _ _ hy8 (by rw [List.length_take]; omega)).mono ?_
      rintro e w9 ⟨q, rfl, hq, hq1, hrd9, k9⟩
      have b9 := below_then b8 k9
      have hq0 : w.heap.size ≤ q := Nat.le_trans b8.size hq
      clear hy8 k9 b8 hcut8
      go_wp2_with fail
      refine (rnum_walk _ q _ 0 _ hrd9 ((numB_bytes V).take _)).mono ?_
      rw [hsn]
      rintro e w10 ⟨rfl, hrd10, t10⟩
      have b10 : Below w.heap.size w w10 := b9.trans (t10.below (fun k h => by cases h; exact hq0) b9.size)
      clear hrd9 t10 b9
      go_wp2_with fail
      refine (rerr_walk _ q _ 9 _ hrd10).mono ?_
      rintro e w11 ⟨rfl, hw⟩
      subst hw
      go_wp2
      go_ret
      exact ⟨rfl, b10⟩
end Go.Proofs.Ytmkaamlacfdhlaa
