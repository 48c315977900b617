/- The reference's numbers of a word, bit by bit. -/
import Derived.Test.YtlecflgapaahgaaUnpackW
import Derived.Test.YtlecflgapaahgaaRefPackW
namespace Go.Proofs.Ytlecflgapaahgaa
open Go.RowKit
set_option linter.unusedVariables false

/-- one bit more of a number -/
theorem bit_more (W t q n : Nat) (hW : W < 18446744073709551616) (hq : q < n) (hn : n ≤ 64) :
    bits .or .u64 ((W / 2 ^ t % 2 ^ q : Nat) : Int) (IntKind.u64.wrap (((W / 2 ^ (t + q) % 2 : Nat) : Int) * 2 ^ q)) = ((W / 2 ^ t % 2 ^ (q + 1) : Nat) : Int) := by
  have hp : ((2 : Int) ^ q) = ((2 ^ q : Nat) : Int) := by push_cast; rfl
  have hlt : W / 2 ^ t % 2 ^ q < 2 ^ q := Nat.mod_lt _ (Nat.two_pow_pos q)
  have e := mod_succ_bit (W / 2 ^ t) q
  rw [Nat.div_div_eq_div_mul, ← Nat.pow_add] at e
  have hb : W / 2 ^ (t + q) % 2 < 2 := Nat.mod_lt _ (by omega)
  obtain ⟨s1, _, _⟩ := or_step ((W / 2 ^ t % 2 ^ q : Nat) : Int) ((W / 2 ^ (t + q) % 2 : Nat) : Int) q 1 (by omega) (by rw [hp]; omega) (by omega) (by omega) (by omega)
  rw [s1, e, Int.natCast_add, Int.natCast_mul, ← hp, Int.mul_comm]

theorem own_base {w : World} {base : Nat} {e : TypeId} {size : Nat} {v : Value} {n : Nat} {xs : List Value} (h : w.ownsRow base e size v n xs) : ∀ g, v.ownBlock = some g → base ≤ g := by
  intro g hg
  rcases h.2 with ⟨rfl, _⟩ | ⟨g', cap, cur, rfl, hb, _⟩
  · simp [Value.ownBlock] at hg
  · simp [Value.ownBlock] at hg; omega

/-- no bit from a place on, up to the word's end: nothing is there -/
theorem none_above (W T : Nat) (h : W < 18446744073709551616) (e : W % 2 ^ 64 = W % 2 ^ T) : (W : Int) / 2 ^ T = 0 := by
  have h1 : W % 2 ^ 64 = W := Nat.mod_eq_of_lt h
  have h2 : W % 2 ^ T < 2 ^ T := Nat.mod_lt _ (Nat.two_pow_pos T)
  have hp : ((2 : Int) ^ T) = ((2 ^ T : Nat) : Int) := by push_cast; rfl
  exact (div_pow_zero (W : Int) T (by omega)).2 (by rw [hp]; omega)

set_option maxHeartbeats 2000000 in
theorem refun_some (b off c : Nat) (zs : List Int) (W : Nat) (T : Nat) (w : World) (hz : zs.length ≤ 64) (hc : Cells .i64 w b off zs) (h1 : W < 18446744073709551616) (hT : totTo zs 0 = some (T : Int)) (hT2 : T ≤ 64) (hr : Row .i64 w (.slice (some ⟨b, off, none⟩) zs.length c) zs) :
    Calls Try.prog 21 #[.int .u64 W, .slice (some ⟨b, off, none⟩) zs.length c] w fun e w' => ∃ u, e = .returned (.tuple #[u, .int .i64 (unpackS W zs).2]) ∧ Row .u64 w' u (unpackS W zs).1 ∧ Below w.heap.size w w' := by
  obtain ⟨i0, hi, hz0, hz1, hz2⟩ := info_parts info_u
  have HT := hide hT
  have hs : (totTo zs 0).isSome = true := by rw [hT]; rfl
  clear hT
  go_enter Try.func21, Try.ntmps21
  go_wp2_with fail
  refine (right_any _ zs _ hr).mono ?_
  rintro e w' ⟨rfl, hw'⟩
  subst hw'
  rw [hs]
  go_wp2_with fail
  go_loopw [6, 7, 8] (fun s a i wr => ∃ k : Nat, k ≤ zs.length ∧ i = .int .i64 k ∧ ∃ (t : Nat) (ys : List Int), a = .int .i64 t ∧ t ≤ 64 ∧
      wr.ownsRow w'.heap.size 28 1 s k (ys.map (Value.int .u64)) ∧ Below w'.heap.size w' wr ∧ Hid (totTo (zs.drop k) t = some (T : Int)) ∧ Hid (unTo zs W = ys ++ unTo (zs.drop k) ((W / 2 ^ t : Nat) : Int))) (fun _ _ i _ => zs.length - (intOf i).toNat)
  case atStart => exact ⟨0, Nat.zero_le _, rfl, 0, [], rfl, by omega, World.ownsRow_nil _ _ _ _, Below.refl _ _, hide (by simpa using unhide HT), hide (by simp)⟩
  case round =>
    obtain ⟨k, hk, rfl, t, ys, rfl, ht1, hown, hbel, hi1, hi2⟩ := hrel
    by_cases hlt : k < zs.length
    · have hcell : wr.cell? ⟨b, off + k, none⟩ = some (.int .i64 (zs.getD k 0)) := by
        have := hc k hlt
        rw [hbel.cell (p := ⟨b, off + k, none⟩) (World.block_lt_of_cell? _ _ this)]; exact this
      have hdz := drop_cons zs k hlt
      rw [hdz] at hi1 hi2
      clear hdz
      generalize zs.getD k 0 = z at *
      have hi1' := unhide hi1
      unfold totTo at hi1'
      split at hi1'
      · cases hi1'
      rename_i hz'
      obtain ⟨n, rfl⟩ := Int.eq_ofNat_of_zero_le (show 0 ≤ z by omega)
      have Hi1 := hide hi1'
      clear hi1' hi1
      have hn1 : 1 ≤ n := by omega
      have hn2 : n ≤ 64 - t := by omega
      clear hz'
      have hys : ys.length = k := by have := hown.1; simpa using this
      go_wp2_with fail
      go_loop [9, 10] (fun s j => ∃ q : Nat, q ≤ n ∧ j = .int .i64 q ∧ ∃ U : Nat, s = .int .u64 U ∧ Hid (U = W / 2 ^ t % 2 ^ q)) (fun _ j => n - (intOf j).toNat)
      case atStart => exact ⟨0, by omega, rfl, 0, rfl, hide (by simp [Nat.mod_one])⟩
      case round =>
        obtain ⟨q, hq, rfl, U, rfl, hU⟩ := hrel
        by_cases hqn : q < n
        · have hbit := bit_at W (t + q) h1
          have hmore := bit_more W t q n h1 hqn (by omega)
          rw [← unhide hU] at hmore
          generalize W / 2 ^ (t + q) % 2 = r at *
          generalize hV : W / 2 ^ t % 2 ^ (q + 1) = V at *
          have HV := hide hV
          clear hV
          go_wp2
          exact ⟨⟨q + 1, by omega, by go_num, V, rfl, hide (unhide HV).symm⟩, by simp [intOf]; omega⟩
        · have hqe : q = n := by omega
          subst hqe
          have Hun : Hid (unTo zs W = (ys ++ [(U : Int)]) ++ unTo (zs.drop (k + 1)) ((W / 2 ^ (t + q) : Nat) : Int)) := by
            refine hide ?_
            have hp : ((2 : Int) ^ q) = ((2 ^ q : Nat) : Int) := by push_cast; rfl
            have e1 : ((W / 2 ^ t : Nat) : Int) % 2 ^ q = (U : Int) := by rw [unhide hU, hp]; rfl
            have e2 : ((W / 2 ^ t : Nat) : Int) / 2 ^ q = ((W / 2 ^ (t + q) : Nat) : Int) := by rw [hp, ← Int.natCast_ediv, Nat.div_div_eq_div_mul, ← Nat.pow_add]
            rw [unhide hi2]
            show ys ++ (((W / 2 ^ t : Nat) : Int) % 2 ^ q :: unTo (zs.drop (k + 1)) (((W / 2 ^ t : Nat) : Int) / 2 ^ q)) = _
            rw [e1, e2]; simp
          have hone := one_new wr 28 (.int .u64 (U : Int))
          go_wp2_with (at_builtin; refine wpList_append_own _ rfl _ _ 25 rfl w'.heap.size 28 i0 (.int .u64 0) 1 8 Try.underlying25 hi hz0 hz1 hz2 rfl (by decide) _ _ _ rfl (hown.alloc _) ⟨wr.heap.size, 0, none⟩ 1 1 [.int .u64 (U : Int)] rfl rfl hone (fun u hu => by simp at hu; subst hu; rfl) (by unfold maxLen; omega) (by omega) (by have := hbel.size; simp; omega) ?_)
          intro s' w1 hown1 hgrow1 _
          have hbel1 : Below w'.heap.size w' w1 := (hbel.alloc hbel.size _).grown hgrow1 (by have := hbel.size; simp; omega) (own_base hown)
          have hown2 : w1.ownsRow w'.heap.size 28 1 s' (k + 1) ((ys ++ [(U : Int)]).map (Value.int .u64)) := by rw [List.map_append]; exact hown1
          have hcell1 : w1.cell? ⟨b, off + k, none⟩ = some (.int .i64 (q : Int)) := by
            have h3 := World.block_lt_of_cell? _ _ hcell
            rw [hbel1.cell (p := ⟨b, off + k, none⟩) (by
              have := hc k hlt
              exact World.block_lt_of_cell? _ _ this)]
            rw [← hbel.cell (p := ⟨b, off + k, none⟩) (by
              have := hc k hlt
              exact World.block_lt_of_cell? _ _ this)]
            exact hcell
          clear hown1 hgrow1 hown hbel hcell hone hi2 hU
          go_wp2
          refine ⟨⟨k + 1, by omega, by go_num, t + q, ys ++ [(U : Int)], by go_num, by omega, hown2, hbel1, hide ?_, hide (unhide Hun)⟩, by simp [intOf]; omega⟩
          rw [Int.natCast_add]; exact unhide Hi1
    · have hk' : k = zs.length := by omega
      subst hk'
      have htT : t = T := by
        have := unhide hi1
        rw [List.drop_of_length_le (Nat.le_refl _)] at this
        simp [totTo] at this
        omega
      subst htT
      have Hys : Hid (unTo zs W = ys) := by
        refine hide ?_
        rw [unhide hi2, List.drop_of_length_le (Nat.le_refl _)]; simp [unTo]
      clear hi1 hi2
      go_wp2_with fail
      go_loop [11] (fun j => ∃ q : Nat, t ≤ q ∧ q ≤ 64 ∧ j = .int .i64 q ∧ Hid (W % 2 ^ q = W % 2 ^ t)) (fun j => 64 - (intOf j).toNat)
      case atStart => exact ⟨t, Nat.le_refl _, ht1, rfl, hide rfl⟩
      case round =>
        obtain ⟨q, hq1, hq2, rfl, hq⟩ := hrel
        by_cases hlt2 : q < 64
        · have hbit := bit_at W q h1
          have hb2 : W / 2 ^ q % 2 < 2 := Nat.mod_lt _ (by omega)
          have B0 : Hid (W / 2 ^ q % 2 = 0 → W % 2 ^ (q + 1) = W % 2 ^ q) := hide (fun h => by rw [mod_succ_bit, h, Nat.mul_zero, Nat.add_zero])
          have B1 := hide (bit_high W q t hq1)
          generalize W / 2 ^ q % 2 = r at *
          by_cases hr0 : r = 0
          · subst hr0
            go_wp2
            exact ⟨⟨q + 1, by omega, by omega, by go_num, hide (by rw [unhide B0 rfl]; exact unhide hq)⟩, by simp [intOf]; omega⟩
          · have hr1 : r = 1 := by omega
            subst hr1
            have hu := unpackS_form W zs t (unhide HT) (unhide B1 rfl)
            have Hu := hide hu
            clear hu
            go_wp2
            go_ret2
            rw [unhide Hu]
            exact ⟨_, rfl, row_none _ _, hbel⟩
        · have hq64 : q = 64 := by omega
          subst hq64
          have hu := unpackS_fit W zs t (unhide HT) (none_above W t h1 (unhide hq))
          have hrow := row_of_owns hown
          have Hu := hide hu
          clear hu hown
          go_wp2
          go_ret2
          rw [unhide Hu]
          exact ⟨_, rfl, by rw [unhide Hys]; exact hrow, hbel⟩

set_option maxHeartbeats 400000 in
theorem refun_wrong (v : Value) (zs : List Int) (W : Int) (w : World) (hr : Row .i64 w v zs) (h : totTo zs 0 = none) :
    Calls Try.prog 21 #[.int .u64 W, v] w fun e w' => e = .returned (.tuple #[.slice none 0 0, .int .i64 1]) ∧ w' = w := by
  have hs : (totTo zs 0).isSome = false := by rw [h]; rfl
  clear h
  go_enter Try.func21, Try.ntmps21
  go_wp2_with fail
  refine (right_any v zs _ hr).mono ?_
  rintro e w' ⟨rfl, hw'⟩
  subst hw'
  rw [hs]
  go_wp2
  go_ret2
  exact ⟨rfl, rfl⟩

set_option maxHeartbeats 400000 in
theorem refun_nil (a : Option Addr) (c : Nat) (W : Nat) (w : World) (h1 : W < 18446744073709551616) (hr : Row .i64 w (.slice a 0 c) []) :
    Calls Try.prog 21 #[.int .u64 W, .slice a 0 c] w fun e w' => ∃ u, e = .returned (.tuple #[u, .int .i64 (unpackS W []).2]) ∧ Row .u64 w' u (unpackS W []).1 ∧ Below w.heap.size w w' := by
  go_enter Try.func21, Try.ntmps21
  go_wp2_with fail
  refine (right_any _ [] _ hr).mono ?_
  rintro e w' ⟨rfl, hw'⟩
  subst hw'
  rw [show (totTo [] 0).isSome = true from rfl]
  go_wp2_with fail
  refine wp_loop_rounds 1 ?_; rw [rounds_succ]
  go_wp2_with fail
  go_loop [11] (fun j => ∃ q : Nat, q ≤ 64 ∧ j = .int .i64 q ∧ Hid (W % 2 ^ q = W % 2 ^ 0)) (fun j => 64 - (intOf j).toNat)
  case atStart => exact ⟨0, by omega, rfl, hide rfl⟩
  case round =>
    obtain ⟨q, hq2, rfl, hq⟩ := hrel
    by_cases hlt2 : q < 64
    · have hbit := bit_at W q h1
      have hb2 : W / 2 ^ q % 2 < 2 := Nat.mod_lt _ (by omega)
      have B0 : Hid (W / 2 ^ q % 2 = 0 → W % 2 ^ (q + 1) = W % 2 ^ q) := hide (fun h => by rw [mod_succ_bit, h, Nat.mul_zero, Nat.add_zero])
      have B1 := hide (bit_high W q 0 (Nat.zero_le _))
      generalize W / 2 ^ q % 2 = r at *
      by_cases hr0 : r = 0
      · subst hr0
        go_wp2
        exact ⟨⟨q + 1, by omega, by go_num, hide (by rw [unhide B0 rfl]; exact unhide hq)⟩, by simp [intOf]; omega⟩
      · have hr1 : r = 1 := by omega
        subst hr1
        have Hu := hide (unpackS_form W [] 0 rfl (unhide B1 rfl))
        go_wp2
        go_ret2
        rw [unhide Hu]
        exact ⟨_, rfl, row_none _ _, Below.refl _ _⟩
    · have hq64 : q = 64 := by omega
      subst hq64
      have Hu := hide (unpackS_fit W [] 0 rfl (none_above W 0 h1 (unhide hq)))
      go_wp2
      go_ret2
      rw [unhide Hu]
      exact ⟨_, rfl, row_none _ _, Below.refl _ _⟩

/-- the reference's Unpack, of any word and widths -/
theorem refun_any (v : Value) (zs : List Int) (W : Nat) (w : World) (hr : Row .i64 w v zs) (h1 : W < 18446744073709551616) :
    Calls Try.prog 21 #[.int .u64 W, v] w fun e w' => ∃ u, e = .returned (.tuple #[u, .int .i64 (unpackS W zs).2]) ∧ Row .u64 w' u (unpackS W zs).1 ∧ Below w.heap.size w w' := by
  cases hT : totTo zs 0 with
  | none =>
    rw [unpackS_none W zs hT]
    exact (refun_wrong v zs W w hr hT).mono fun e w' ⟨he, hw⟩ => ⟨_, he, row_none _ _, by rw [hw]; exact Below.refl _ _⟩
  | some T' =>
    have hb := totTo_some zs 0 T' (by omega) (by omega) hT
    obtain ⟨T, rfl⟩ := Int.eq_ofNat_of_zero_le (show 0 ≤ T' by omega)
    have hr2 := hr
    rcases hr with ⟨a, c, rfl, hn, rfl⟩ | ⟨b, off, c, rfl, hl, hm, hc⟩
    · exact refun_nil a c W w h1 hr2
    · exact refun_some b off c zs W T w (by omega) hc h1 hT (by omega) hr2
end Go.Proofs.Ytlecflgapaahgaa
