/- The reference's numbers as bytes, and its reader. -/
import Derived.Test.YtmmlannnpndkcaaGCode
namespace Go.Proofs.Ytmmlannnpndkcaa
open Go.RowKit
set_option linter.unusedVariables false
set_option maxRecDepth 100000

theorem byte_sum (u : Nat) : (u : Int) % 128 + 128 = ((u % 128 + 128 : Nat) : Int) := by omega

set_option maxRecDepth 100000 in
set_option maxHeartbeats 1000000 in
theorem refnum_walk (v : Nat) (w : World) (hv : v < 18446744073709551616) :
    Calls Try.prog 44 #[.int .u64 (v : Int)] w fun e w' => ∃ x, e = .returned x ∧ w'.ownsRow w.heap.size 5 1 x (numB v).length ((numB v).map (Value.int .u8)) ∧ Below w.heap.size w w' := by
  obtain ⟨i0, hi, hz0, hz1, hz2⟩ := info_parts info_u8
  have H10 := hide (numB_ten v hv)
  go_enter Try.func44, Try.ntmps44
  go_wp2_with fail
  go_loopw [0, 3] (fun a s wr => ∃ (u : Nat) (ys : List Int), a = .int .u64 (u : Int) ∧ u < 18446744073709551616 ∧ wr.ownsRow w.heap.size 5 1 s ys.length (ys.map (Value.int .u8)) ∧ Below w.heap.size w wr ∧ Hid (numB v = ys ++ numB u)) (fun a _ _ => (intOf a).toNat)
  case atStart => exact ⟨v, [], rfl, hv, World.ownsRow_nil _ _ _ _, Below.refl _ _, hide (by simp)⟩
  case round =>
    obtain ⟨u, ys, rfl, hu, hown, hbel, hq⟩ := hrel
    have hyl : ys.length + 1 ≤ 10 := by
      have h1 := unhide H10
      rw [unhide hq, List.length_append] at h1
      have := numB_pos u
      omega
    by_cases h128 : 128 ≤ u
    · have hbyte := byte_high u h128
      have hq2 : Hid (numB v = (ys ++ [((u % 128 + 128 : Nat) : Int)]) ++ numB (u / 128)) := by
        refine hide ?_
        rw [unhide hq, numB_high h128]; simp
      rw [← byte_sum u] at hq2
      have hone := one_new wr 5 (.int .u8 ((u : Int) % 128 + 128))
      go_wp2_with (at_builtin; refine wpList_append_own _ rfl _ _ 22 rfl w.heap.size 5 i0 (.int .u8 0) 1 1 Try.underlying22 hi hz0 hz1 hz2 rfl (by decide) _ _ _ rfl (hown.alloc _) ⟨wr.heap.size, 0, none⟩ 1 1 [.int .u8 ((u : Int) % 128 + 128)] rfl rfl hone (fun u hu => by simp at hu; subst hu; rfl) (by unfold maxLen; omega) (by omega) (by have := hbel.size; simp; omega) ?_)
      intro s' w2 hown2 hgrow2 _
      have hbel2 : Below w.heap.size w w2 := (hbel.alloc hbel.size _).grown hgrow2 (by have := hbel.size; simp; omega) (own_base hown)
      have hown3 : w2.ownsRow w.heap.size 5 1 s' (ys ++ [((u : Int) % 128 + 128)]).length ((ys ++ [((u : Int) % 128 + 128)]).map (Value.int .u8)) := by rw [List.map_append, List.length_append]; exact hown2
      clear hown2 hgrow2 hown hone hq
      go_wp2
      exact ⟨⟨u / 128, ys ++ [((u : Int) % 128 + 128)], by go_num, by omega, hown3, hbel2, hq2⟩, by simp [intOf]; omega⟩
    · have hbyte := byte_low u (by omega)
      have hq2 : Hid (numB v = ys ++ [(u : Int)]) := by
        refine hide ?_
        rw [unhide hq, numB_low (by omega)]
      have hone := one_new wr 5 (.int .u8 (u : Int))
      go_wp2_with (at_builtin; refine wpList_append_own _ rfl _ _ 22 rfl w.heap.size 5 i0 (.int .u8 0) 1 1 Try.underlying22 hi hz0 hz1 hz2 rfl (by decide) _ _ _ rfl (hown.alloc _) ⟨wr.heap.size, 0, none⟩ 1 1 [.int .u8 (u : Int)] rfl rfl hone (fun u hu => by simp at hu; subst hu; rfl) (by unfold maxLen; omega) (by omega) (by have := hbel.size; simp; omega) ?_)
      intro s' w2 hown2 hgrow2 _
      have hbel2 : Below w.heap.size w w2 := (hbel.alloc hbel.size _).grown hgrow2 (by have := hbel.size; simp; omega) (own_base hown)
      have hown3 : w2.ownsRow w.heap.size 5 1 s' (numB v).length ((numB v).map (Value.int .u8)) := by rw [unhide hq2, List.map_append, List.length_append]; exact hown2
      clear hown2 hgrow2 hown hone hq hq2
      go_wp2
      go_ret
      exact ⟨s', rfl, hown3, hbel2⟩


theorem or_more2 (v : Nat) (x : Int) (k : Nat) (hk : k ≤ 9) (h0 : 0 ≤ x) (hv : v < 128 ^ k) (hd : x.toNat % 128 * 128 ^ k < 18446744073709551616) :
    bits .or .u64 (v : Int) (IntKind.u64.wrap (x % 128 * 2 ^ (7 * k))) = ((v + x.toNat % 128 * 128 ^ k : Nat) : Int) := by
  have h := or_more v (x.toNat % 128) k hk hv hd (Nat.mod_lt _ (by omega))
  rw [show IntKind.u64.wrap ((x.toNat % 128 : Nat) : Int) = x % 128 by rw [IntKind.wrap_u64]; omega] at h
  exact h


set_option maxRecDepth 100000 in
set_option maxHeartbeats 1000000 in
theorem take_some (b off c : Nat) (zs : List Int) (w : World) (hb : Bytes zs) (hm : zs.length ≤ maxLen) (hc : Cells .u8 w b off zs) :
    Calls Try.prog 65 #[.slice (some ⟨b, off, none⟩) zs.length c] w fun e w' => e = .returned (.tuple #[.int .u64 ((dec 0 0 zs).1 : Nat), .int .i64 ((dec 0 0 zs).2.1 : Nat), .int .i64 (dec 0 0 zs).2.2]) ∧ w' = w := by
  unfold maxLen at hm
  go_enter Try.func65, Try.ntmps65
  go_wp2_with fail
  go_loop [5, 6] (fun a i => ∃ (k v : Nat), a = .int .u64 (v : Int) ∧ i = .int .i64 (k : Int) ∧ k ≤ 9 ∧ k ≤ zs.length ∧ Hid (v < 128 ^ k ∧ dec 0 0 zs = dec k v (zs.drop k))) (fun _ i => 10 - (intOf i).toNat)
  case atStart => exact ⟨0, 0, rfl, rfl, by omega, by omega, hide ⟨by simp, by simp⟩⟩
  case round =>
    obtain ⟨k, v, rfl, rfl, hk9, hkl, hq⟩ := hrel
    by_cases hlt : k < zs.length
    · have hcell := hc k hlt
      have hx := getD_byte hb hlt
      have hdr := drop_cons zs k hlt
      have hq2 := unhide hq
      rw [hdr] at hq2
      have Hq := hide hq2
      clear hq hdr hq2
      generalize zs.getD k 0 = x at *
      obtain ⟨hx0, hx1⟩ := hx
      by_cases h9 : k = 9 ∧ 1 < x
      · have Hd : Hid (dec 0 0 zs = (0, 0, 10)) := hide ((unhide Hq).2.trans (dec_big k v x _ h9))
        obtain ⟨rfl, h9x⟩ := h9
        clear Hq
        go_wp2
        go_ret3
        rw [unhide Hd]
        exact ⟨rfl, rfl⟩
      · have ho := or_more2 v x k hk9 hx0 (unhide Hq).1 (digit_fits k x hk9 h9 hx0 hx1)
        have Hml := hide (more_lt v (x.toNat % 128) k (unhide Hq).1 (Nat.mod_lt _ (by omega)))
        have Hst : Hid (128 ≤ x → dec 0 0 zs = dec (k + 1) (v + x.toNat % 128 * 128 ^ k) (zs.drop (k + 1))) := hide (fun h => (unhide Hq).2.trans (dec_step k v x _ h9 h))
        have Hla : Hid (x < 128 → ¬ (x = 0 ∧ 0 < k) → dec 0 0 zs = (v + x.toNat % 128 * 128 ^ k, k + 1, 0)) := hide (fun h h' => (unhide Hq).2.trans (dec_last k v x _ h9 h h' hx0))
        have Htw : Hid (x = 0 → 0 < k → dec 0 0 zs = (0, 0, 10)) := hide (fun h h' => (unhide Hq).2.trans (dec_twice k v x _ h h'))
        have h99 : k = 9 → x ≤ 1 := by omega
        clear Hq h9
        generalize v + x.toNat % 128 * 128 ^ k = V at *
        have ho9 : k = 9 → bits .or .u64 (v : Int) (IntKind.u64.wrap (x % 128 * 9223372036854775808)) = (V : Int) := by
          rintro rfl; exact ho
        by_cases hk : k = 9
        · subst hk
          have hx2 := h99 rfl
          have ho9' := ho9 rfl
          clear h99 ho9 ho
          by_cases h0 : x = 0
          · have Hd := hide (unhide Htw h0 (by omega))
            clear Htw Hla Hst
            subst h0
            go_wp2
            go_ret3
            rw [unhide Hd]
            exact ⟨rfl, rfl⟩
          · have Hd := hide (unhide Hla (by omega) (by omega))
            clear Htw Hla Hst
            obtain rfl : x = 1 := by omega
            have ho1 : bits .or .u64 (v : Int) 9223372036854775808 = (V : Int) := by simpa [IntKind.wrap_u64] using ho9'
            go_wp2
            go_ret3
            rw [unhide Hd]
            exact ⟨ret3 rfl rfl rfl, rfl⟩
        · have hk8 : k < 9 := by omega
          clear h99 ho9
          by_cases h128 : 128 ≤ x
          · have Hd := hide (unhide Hst h128)
            clear Htw Hla Hst
            go_wp2
            exact ⟨⟨k + 1, V, rfl, by go_num, by omega, by omega, hide ⟨unhide Hml, unhide Hd⟩⟩, by simp [intOf]; omega⟩
          · by_cases h0 : x = 0
            · by_cases hk0 : 0 < k
              · have Hd := hide (unhide Htw h0 hk0)
                clear Htw Hla Hst
                subst h0
                go_wp2
                go_ret3
                rw [unhide Hd]
                exact ⟨rfl, rfl⟩
              · have Hd := hide (unhide Hla (by omega) (by omega))
                clear Htw Hla Hst
                obtain rfl : k = 0 := by omega
                subst h0
                rw [Nat.add_zero] at hcell
                simp only [Nat.mul_zero, Int.pow_zero, Int.mul_one] at ho
                have hne : zs ≠ [] := by rintro rfl; simp at hlt
                have ho0 : Hid (bits .or .u64 (v : Int) 0 = (V : Int)) := hide (by simpa [IntKind.wrap_u64] using ho)
                clear ho
                go_wp2
                go_ret3
                rw [unhide Hd]
                exact ⟨ret3 (unhide ho0) rfl rfl, rfl⟩
            · have Hd := hide (unhide Hla (by omega) (by omega))
              clear Htw Hla Hst
              go_wp2
              go_ret3
              rw [unhide Hd]
              exact ⟨ret3 rfl (show (k : Int) + 1 = ((k + 1 : Nat) : Int) by omega) rfl, rfl⟩
    · have Hd : Hid (dec 0 0 zs = (0, 0, 9)) := by
        refine hide ?_
        rw [(unhide hq).2, List.drop_of_length_le (by omega)]; rfl
      clear hq
      go_wp2
      all_goals
        go_ret3
        first
          | (rw [unhide Hd]; exact ⟨rfl, rfl⟩)
          | exact ⟨rfl, rfl⟩

set_option maxHeartbeats 400000 in
theorem take_none (a : Option Addr) (c : Nat) (w : World) :
    Calls Try.prog 65 #[.slice a 0 c] w fun e w' => e = .returned (.tuple #[.int .u64 ((dec 0 0 []).1 : Nat), .int .i64 ((dec 0 0 []).2.1 : Nat), .int .i64 (dec 0 0 []).2.2]) ∧ w' = w := by
  go_enter Try.func65, Try.ntmps65
  go_wp2_with fail
  refine wp_loop_rounds 1 ?_; rw [rounds_succ]
  go_wp2
  go_ret3
  exact ⟨rfl, rfl⟩


theorem take_any (B : Nat → Prop) (v : Value) (zs : List Int) (w : World) (hb : Bytes zs) (hr : Row .u8 B w v zs) :
    Calls Try.prog 65 #[v] w fun e w' => e = .returned (.tuple #[.int .u64 ((dec 0 0 zs).1 : Nat), .int .i64 ((dec 0 0 zs).2.1 : Nat), .int .i64 (dec 0 0 zs).2.2]) ∧ w' = w := by
  rcases hr with ⟨a, c, rfl, hn, _, rfl⟩ | ⟨b, off, c, rfl, h1, h2, h3, h4⟩
  · exact take_none a c w
  · exact take_some b off c zs w hb (by omega) h4

/-- the reference's reader in block q, over these bytes, in a row in a block of B; r is behind its place -/
def RR (B : Nat → Prop) (w : World) (q : Nat) (zs r : List Int) (e : Int) : Prop :=
  ∃ x at_, w.heap[q]? = some (.cells #[x, .int .i64 ((at_ : Nat) : Int), .int .i64 e] 68 (0, 0)) ∧ Row .u8 B w x zs ∧ ¬ B q ∧ at_ ≤ zs.length ∧ r = zs.drop at_

theorem RR.turn {B F : Nat → Prop} {w w' : World} {q : Nat} {zs r : List Int} {e : Int} (h : RR B w q zs r e) (ht : Turn F w w') (hp : ¬ F q) (hB : ∀ b, B b → ¬ F b) : RR B w' q zs r e := by
  obtain ⟨x, a, h1, h2, h3⟩ := h
  exact ⟨x, a, (ht.block q (Array.getElem?_eq_some_iff.1 h1).1 hp).trans h1, h2.turn ht hB, h3⟩

theorem drewN_below (w : World) (n : Nat) : Below w.heap.size w (w.drewN n) := by
  induction n with
  | zero => exact Below.refl _ _
  | succ n ih => exact ih.drew

theorem smallT_stay {m : Nat} {r : List Int} {e : Int} {v : Nat} {r' : List Int} {f : Int} (hs : smallT m r e = (v, r', f)) (h : f ≠ 0) : v = 0 ∧ r' = r := by
  unfold smallT at hs
  split at hs
  · simp at hs; exact ⟨hs.1.symm, hs.2.1.symm⟩
  split at hs
  · simp at hs; exact ⟨hs.1.symm, hs.2.1.symm⟩
  split at hs
  · simp at hs; exact ⟨hs.1.symm, hs.2.1.symm⟩
  simp at hs
  exact absurd hs.2.2.symm h
theorem numT_e {r : List Int} {e : Int} (h : e ≠ 0) : smallT wide r e = (0, r, e) := smallT_e h

theorem ge_wide {v : Nat} (h : v < 18446744073709551616) : v ≤ wide := by unfold wide; omega


set_option maxHeartbeats 1000000 in
theorem refrnum_walk (B : Nat → Prop) (q : Nat) (zs r : List Int) (e : Int) (w : World) (hr : RR B w q zs r e) (hb : Bytes zs) :
    Calls Try.prog 63 #[.pointer (some ⟨q, 0, none⟩)] w fun en w' => en = .returned (.int .u64 ((smallT wide r e).1 : Nat)) ∧ RR B w' q zs (smallT wide r e).2.1 (smallT wide r e).2.2 ∧ Turn (only q) w w' := by
  obtain ⟨i0, hi, hz0, hz1, hz2⟩ := info_parts info_u8
  obtain ⟨x, a, hx, hrow, hq, ha, rfl⟩ := hr
  have hlen := hrow.len
  unfold maxLen at hlen
  have hc0 : w.cell? ⟨q, 0, none⟩ = some x := cell_obj hx _
  have hc1 : w.cell? ⟨q, 1, none⟩ = some (.int .i64 (a : Int)) := cell_obj hx _
  have hc2 : w.cell? ⟨q, 2, none⟩ = some (.int .i64 e) := cell_obj hx _
  have hf1 := frozen_obj hx 1
  have hf2 := frozen_obj hx 2
  by_cases he : e = 0
  · subst he
    obtain ⟨x', hrun, hrow'⟩ := cut_from (P := Try.prog) (ki := .i64) Try.underlying22 hi hz1 hrow a ha
    have htk : ∀ n : Nat, Calls Try.prog 65 #[x'] (w.drewN n) fun e w' => e = .returned (.tuple #[.int .u64 ((dec 0 0 (zs.drop a)).1 : Nat), .int .i64 ((dec 0 0 (zs.drop a)).2.1 : Nat), .int .i64 (dec 0 0 (zs.drop a)).2.2]) ∧ w' = w.drewN n :=
      fun n => take_any B x' (zs.drop a) _ (hb.drop a) (hrow'.below (drewN_below w n))
    obtain ⟨xa, xc, rfl⟩ := hrow.slice
    have hout : ∃ v n f, dec 0 0 (zs.drop a) = (v, n, f) ∧ smallT wide (zs.drop a) 0 = (v, zs.drop (a + n), f) ∧ a + n ≤ zs.length ∧ v < 18446744073709551616 := by
      generalize hd : dec 0 0 (zs.drop a) = D
      obtain ⟨v, n, f⟩ := D
      by_cases hf : f = 0
      · subst hf
        obtain ⟨h1, h2, h3, h4, h5⟩ := dec_ok (hb.drop a) hd
        rw [List.length_drop] at h3
        exact ⟨v, n, 0, rfl, by rw [smallT_k hd (ge_wide h2), List.drop_drop], by omega, h2⟩
      · have hd2 := dec_fault0 (zs := zs.drop a) (by rw [hd]; exact hf)
        rw [hd] at hd2
        simp only [Prod.mk.injEq, and_true] at hd2
        obtain ⟨rfl, rfl⟩ := hd2
        exact ⟨0, 0, f, rfl, by rw [smallT_f hd hf]; rfl, by omega, by omega⟩
    obtain ⟨v, n, f, hd, hs, han, hv⟩ := hout
    rw [hd] at htk
    rw [hs]
    have Hd := hide hd
    clear hd hs
    go_enter Try.func63, Try.ntmps63
    go_wp2_with fail
    go_quiet ((go_at_call 65; exact Calls.quiet_of_same (htk _)))
    have hb1 := drewN_below w nq
    have t1 : Turn (only q) w (w.drewN nq) := Turn.of_below hb1
    generalize w.drewN nq = w1 at *
    have hx1 : w1.heap[q]? = some (.cells #[.slice xa zs.length xc, .int .i64 (a : Int), .int .i64 0] 68 (0, 0)) := (hb1.block q (Array.getElem?_eq_some_iff.1 hx).1).trans hx
    have hrow1 := hrow.below hb1
    clear hx hrow hc0 hc1 hc2 hf1 hf2 htk hrun hrow'
    have hd2 : w1.cell? ⟨q, 2, none⟩ = some (.int .i64 0) := cell_obj hx1 _
    have hf2 := frozen_obj hx1 2
    have hx2 := heap_setCell_obj (j := 2) hx1 (.int .i64 f)
    have hrow2 := hrow1.turn (turn_set w1 q 2 (.int .i64 f)) (fun b hb e => hq (by cases e; exact hb))
    have t2 := t1.then (turn_set w1 q 2 (.int .i64 f))
    have he1 : (w1.setCell ⟨q, 2, none⟩ (.int .i64 f)).cell? ⟨q, 1, none⟩ = some (.int .i64 (a : Int)) := cell_obj hx2 _
    have hg1 := frozen_obj hx2 1
    have hx3 := heap_setCell_obj (j := 1) hx2 (.int .i64 ((a : Int) + n))
    have hrow3 := hrow2.turn (turn_set _ q 1 (.int .i64 ((a : Int) + n))) (fun b hb e => hq (by cases e; exact hb))
    have t3 := t2.then (turn_set _ q 1 (.int .i64 ((a : Int) + n)))
    clear hx1 hx2 hrow1 hrow2 t1 t2
    go_wp2
    go_ret
    exact ⟨rfl, ⟨_, a + n, by rw [hx3]; rfl, hrow3, hq, han, rfl⟩, t3⟩
  · rw [smallT_e he]
    go_enter Try.func63, Try.ntmps63
    go_wp2
    go_ret
    exact ⟨rfl, ⟨x, a, hx, hrow, hq, ha, rfl⟩, Turn.refl _ _⟩

theorem wide_small {M : Nat} {r : List Int} {e : Int} {v : Nat} {r' : List Int} {f : Int} (hM : M ≤ wide) (hs : smallT wide r e = (v, r', f)) : (f ≠ 0 → smallT M r e = (0, r, f)) ∧ (f = 0 → M < v → smallT M r e = (0, r, 10)) ∧ (f = 0 → v ≤ M → smallT M r e = (v, r', 0)) := by
  by_cases he : e = 0
  · subst he
    generalize hd : dec 0 0 r = D at *
    obtain ⟨y, n, g⟩ := D
    by_cases hg : g = 0
    · subst hg
      by_cases hy : wide < y
      · rw [smallT_m hd hy] at hs
        simp only [Prod.mk.injEq] at hs
        obtain ⟨rfl, rfl, rfl⟩ := hs
        refine ⟨fun _ => ?_, fun h => by simp at h, fun h => by simp at h⟩
        exact smallT_m hd (by omega)
      · rw [smallT_k hd (by omega)] at hs
        simp only [Prod.mk.injEq] at hs
        obtain ⟨rfl, rfl, rfl⟩ := hs
        exact ⟨fun h => absurd rfl h, fun _ h => smallT_m hd h, fun _ h => smallT_k hd h⟩
    · have hd2 := dec_fault0 (zs := r) (by rw [hd]; exact hg)
      rw [hd] at hd2
      simp only [Prod.mk.injEq, and_true] at hd2
      obtain ⟨rfl, rfl⟩ := hd2
      rw [smallT_f hd hg] at hs
      simp only [Prod.mk.injEq] at hs
      obtain ⟨rfl, rfl, rfl⟩ := hs
      exact ⟨fun h => smallT_f hd h, fun h => absurd h hg, fun h => absurd h hg⟩
  · rw [smallT_e he] at hs
    simp only [Prod.mk.injEq] at hs
    obtain ⟨rfl, rfl, rfl⟩ := hs
    exact ⟨fun h => smallT_e h, fun h => absurd h he, fun h => absurd h he⟩


set_option maxHeartbeats 1000000 in
theorem refrsm_walk (B : Nat → Prop) (q : Nat) (zs r : List Int) (e m : Int) (w : World) (hr : RR B w q zs r e) (hb : Bytes zs) (h0 : -9223372036854775808 ≤ m) (h1 : m ≤ 9223372036854775807) :
    Calls Try.prog 56 #[.pointer (some ⟨q, 0, none⟩), .int .i64 m] w fun en w' => (∃ a : Nat, en = .returned (.tuple #[.int .i64 ((smallT m.toNat r e).1 : Nat), .int .i64 (a : Int)]) ∧ r = zs.drop a ∧ a ≤ zs.length) ∧ RR B w' q zs (smallT m.toNat r e).2.1 (smallT m.toNat r e).2.2 ∧ Turn (only q) w w' := by
  have hnum := refrnum_walk B q zs r e w hr hb
  have hmw : m.toNat ≤ wide := by unfold wide; omega
  have hmt : (m.toNat : Int) = max m 0 := by omega
  have hmi : m.toNat ≤ 9223372036854775807 := by omega
  have hwide := wide_small (M := m.toNat) (r := r) (e := e) hmw (v := (smallT wide r e).1) (r' := (smallT wide r e).2.1) (f := (smallT wide r e).2.2) rfl
  obtain ⟨x, a, hx, hrow, hq, ha, hra⟩ := hr
  have hlen := hrow.len
  unfold maxLen at hlen
  have hc1 : w.cell? ⟨q, 1, none⟩ = some (.int .i64 (a : Int)) := cell_obj hx _
  generalize hS : smallT wide r e = S at *
  obtain ⟨v, r', f⟩ := S
  simp only at hwide hnum
  have Hra := hide hra
  clear hra
  by_cases hf : f = 0
  · subst hf
    by_cases hv : m.toNat < v
    · rw [hwide.2.1 rfl hv]
      have hgt : decide (max m 0 < (v : Int)) = true := by rw [decide_eq_true_iff]; omega
      have hgt2 : max m 0 < (v : Int) := by omega
      clear hwide hmt hmw hmi
      go_enter Try.func56, Try.ntmps56
      go_wp2_with fail
      refine hnum.mono ?_
      rintro en w1 ⟨rfl, ⟨x1, a1, hx1, hrow1, _, ha1, hgo⟩, ht1⟩
      clear hnum hgo
      have hd2 : w1.cell? ⟨q, 2, none⟩ = some (.int .i64 0) := cell_obj hx1 _
      have hf2 := frozen_obj hx1 2
      have hx2 := heap_setCell_obj (j := 2) hx1 (.int .i64 10)
      have hd3 : (w1.setCell ⟨q, 2, none⟩ (.int .i64 10)).cell? ⟨q, 1, none⟩ = some (.int .i64 (a1 : Int)) := cell_obj hx2 _
      have hf3 := frozen_obj hx2 1
      have hx3 := heap_setCell_obj (j := 1) hx2 (.int .i64 (a : Int))
      have hrow2 := hrow1.turn (turn_set w1 q 2 (.int .i64 10)) (fun b hb e => hq (by cases e; exact hb))
      have hrow3 := hrow2.turn (turn_set _ q 1 (.int .i64 (a : Int))) (fun b hb e => hq (by cases e; exact hb))
      have t3 := (ht1.then (turn_set w1 q 2 (.int .i64 10))).then (turn_set _ q 1 (.int .i64 (a : Int)))
      clear hx1 hx2 hrow1 hrow2 ht1 hrow hx
      go_wp2
      all_goals
        go_ret2
        exact ⟨⟨a, rfl, unhide Hra, ha⟩, ⟨x1, a, by rw [hx3]; rfl, hrow3, hq, ha, unhide Hra⟩, t3⟩
    · rw [hwide.2.2 rfl (by omega)]
      have hle2 : (v : Int) ≤ max m 0 := by omega
      have hgt : decide (max m 0 < (v : Int)) = false := by rw [decide_eq_false_iff_not]; omega
      have hvi : v ≤ 9223372036854775807 := by omega
      clear hwide hmt hmw hmi
      go_enter Try.func56, Try.ntmps56
      go_wp2_with fail
      refine hnum.mono ?_
      rintro en w1 ⟨rfl, hr1, ht1⟩
      clear hnum
      have hr2 := hr1
      obtain ⟨x1, a1, hx1, hgo⟩ := hr2
      clear hgo
      have hd2 : w1.cell? ⟨q, 2, none⟩ = some (.int .i64 0) := cell_obj hx1 _
      clear hx1 hrow hx
      go_wp2
      all_goals
        go_ret2
        exact ⟨⟨a, rfl, unhide Hra, ha⟩, hr1, ht1⟩
  · obtain ⟨hv0, hr0⟩ := smallT_stay hS hf
    subst hv0 hr0
    rw [hwide.1 hf]
    clear hwide hmt hmw hmi
    go_enter Try.func56, Try.ntmps56
    go_wp2_with fail
    refine hnum.mono ?_
    rintro en w1 ⟨rfl, hr1, ht1⟩
    clear hnum
    have hr2 := hr1
    obtain ⟨x1, a1, hx1, hgo⟩ := hr2
    clear hgo
    have hd2 : w1.cell? ⟨q, 2, none⟩ = some (.int .i64 f) := cell_obj hx1 _
    clear hx1 hrow hx
    go_wp2
    go_ret2
    exact ⟨⟨a, rfl, unhide Hra, ha⟩, hr1, ht1⟩


set_option maxHeartbeats 1000000 in
theorem refrsmall_walk (B : Nat → Prop) (q : Nat) (zs r : List Int) (e m : Int) (w : World) (hr : RR B w q zs r e) (hb : Bytes zs) (h0 : -9223372036854775808 ≤ m) (h1 : m ≤ 9223372036854775807) :
    Calls Try.prog 40 #[.pointer (some ⟨q, 0, none⟩), .int .i64 m] w fun en w' => en = .returned (.int .i64 ((smallT m.toNat r e).1 : Nat)) ∧ RR B w' q zs (smallT m.toNat r e).2.1 (smallT m.toNat r e).2.2 ∧ Turn (only q) w w' := by
  go_enter Try.func40, Try.ntmps40
  go_wp2_with fail
  refine (refrsm_walk B q zs r e m _ hr hb h0 h1).mono ?_
  rintro en w1 ⟨⟨a, rfl, hgo⟩, hr1, ht1⟩
  clear hgo
  go_wp2
  go_ret
  exact ⟨rfl, hr1, ht1⟩


end Go.Proofs.Ytmmlannnpndkcaa
