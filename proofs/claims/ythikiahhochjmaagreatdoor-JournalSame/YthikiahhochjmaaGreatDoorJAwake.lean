/- The program is awake; a nil journal. -/
import Derived.Test.YthikiahhochjmaaGreatDoorJOpen
import Derived.Test.YthikiahhochjmaaGreatDoorJInv
namespace Go.Proofs.YthikiahhochjmaaGreatDoor
open Go.RowKit Go.Maps Go.Sort
set_option linter.unusedVariables false
set_option linter.unusedSimpArgs false

set_option maxHeartbeats 400000 in
theorem append_nil (w : World) (a : Option Addr) (n c : Nat) : Calls Tryz.prog 15 #[.pointer none, .slice a n c] w fun e w' => e = .returned (.int .i64 2) ∧ w' = w := by
  have hre : Calls Tryz.prog 36 #[.pointer none] w fun e w' => e = .returned (.int .i64 2) ∧ w' = w := by
    go_enter Tryz.func36, Tryz.ntmps36
    go_wp2
    go_ret
    exact ⟨rfl, rfl⟩
  go_enter Tryz.func15, Tryz.ntmps15
  go_wp2_with (go_at_call 36; refine hre.mono ?_; rintro e w' ⟨rfl, rfl⟩)
  go_ret
  exact ⟨rfl, rfl⟩
set_option maxHeartbeats 400000 in
theorem sync_nil (w : World) : Calls Tryz.prog 27 #[.pointer none] w fun e w' => e = .returned (.int .i64 2) ∧ w' = w := by
  have hre : Calls Tryz.prog 36 #[.pointer none] w fun e w' => e = .returned (.int .i64 2) ∧ w' = w := by
    go_enter Tryz.func36, Tryz.ntmps36
    go_wp2
    go_ret
    exact ⟨rfl, rfl⟩
  go_enter Tryz.func27, Tryz.ntmps27
  go_wp2_with (go_at_call 36; refine hre.mono ?_; rintro e w' ⟨rfl, rfl⟩)
  go_ret
  exact ⟨rfl, rfl⟩
set_option maxHeartbeats 400000 in
theorem trim_nil (w : World) (z : Int) : Calls Tryz.prog 18 #[.pointer none, .int .u64 z] w fun e w' => e = .returned (.int .i64 2) ∧ w' = w := by
  have hre : Calls Tryz.prog 36 #[.pointer none] w fun e w' => e = .returned (.int .i64 2) ∧ w' = w := by
    go_enter Tryz.func36, Tryz.ntmps36
    go_wp2
    go_ret
    exact ⟨rfl, rfl⟩
  go_enter Tryz.func18, Tryz.ntmps18
  go_wp2_with (go_at_call 36; refine hre.mono ?_; rintro e w' ⟨rfl, rfl⟩)
  go_ret
  exact ⟨rfl, rfl⟩
set_option maxHeartbeats 400000 in
theorem first_nil (w : World) : Calls Tryz.prog 19 #[.pointer none] w fun e w' => e = .returned (.int .u64 0) ∧ w' = w := by
  go_enter Tryz.func19, Tryz.ntmps19
  go_wp2
  go_ret
  exact ⟨rfl, rfl⟩
set_option maxHeartbeats 400000 in
theorem next_nil (w : World) : Calls Tryz.prog 25 #[.pointer none] w fun e w' => e = .returned (.int .u64 0) ∧ w' = w := by
  go_enter Tryz.func25, Tryz.ntmps25
  go_wp2
  go_ret
  exact ⟨rfl, rfl⟩
set_option maxHeartbeats 400000 in
theorem records_nil (w : World) : Calls Tryz.prog 20 #[.pointer none] w fun e w' => e = .returned (.slice none 0 0) ∧ w' = w := by
  go_enter Tryz.func20, Tryz.ntmps20
  go_wp2
  go_ret
  exact ⟨rfl, rfl⟩
set_option maxHeartbeats 400000 in
theorem segments_nil (w : World) : Calls Tryz.prog 17 #[.pointer none] w fun e w' => e = .returned (.int .i64 0) ∧ w' = w := by
  go_enter Tryz.func17, Tryz.ntmps17
  go_wp2
  go_ret
  exact ⟨rfl, rfl⟩

theorem numbers_nil (w : World) : Numbers w [] := fun n hn => by cases hn
theorem numbers_seg {w : World} {l : List Nm} (h : ∀ n ∈ l, ∃ f, f < 100 ∧ n = nameS f) : Numbers w l ∧ ∀ n ∈ l, markB n = true → ∀ v, numOf n = some v → v < 100 := by
  refine ⟨fun n hn u _ => ?_, fun n hn _ v hv => ?_⟩
  · obtain ⟨f, hf, rfl⟩ := h n hn
    exact number_ok f (by omega) u
  · obtain ⟨f, hf, rfl⟩ := h n hn
    rw [num_nameS f (by omega)] at hv
    cases hv; exact hf
/-- a new disk opened -/
theorem open_new (w : World) (F : Nat → Prop) (D most n : Nat) (d : DAt w D F (newS n)) (hn : n ≤ 1000000) (h1 : 1 ≤ most) (h2 : most ≤ 1000) :
    Calls Tryz.prog 24 #[.pointer (some ⟨D, 0, none⟩), .int .i64 (most : Int)] w fun e w' => ∃ J, e = .returned (.tuple #[.pointer (some ⟨J, 0, none⟩), .int .i64 0]) ∧ Turn F w w' ∧ w.heap.size ≤ J ∧ JAt w' (NF w F) J D (newX most []) (newS n) := by
  refine (open_j w F D most (newS n) d (by simp [newS]) hn (numbers_nil w) (by intro n hn; cases hn) h1 h2).mono ?_
  rintro e w' ⟨p, rfl, t, h⟩
  rcases h with ⟨_, J, rfl, hJ, h⟩ | ⟨hc, _⟩
  · exact ⟨J, rfl, t, hJ, h⟩
  · exact absurd rfl hc

def awX : Jn := ⟨2, [⟨0, [[97]]⟩], 0, false⟩
def awD (s : Nat) : Dk := ⟨10000, [⟨nameS 0, packB [97], s⟩], false, 0⟩
theorem aw_append : appendJ (newX 2 []) (newS 10000) [97] = (0, awX, awD 0) := by
  have hg := append_good (S := newS 10000) (f := 0) (b := packB [97]) rfl (by rw [packB_len]; simp [newS, used]) (.inr (by simp [newS]))
  rw [(hit_none (S := newS 10000) rfl).1] at hg
  have e2 : appendS (newS 10000) (nameS 0) (packB [97]) = awD 0 := hg.2
  have e1 : appendC (newS 10000) (nameS 0) (packB [97]) = 0 := hg.1
  have el : layJ (newX 2 []) (newS 10000) [97] = (0, awX, awD 0) := by
    show (appendC (newS 10000) (nameS 0) (packB [97]), (if appendC (newS 10000) (nameS 0) (packB [97]) = 0 then awX else newX 2 []), appendS (newS 10000) (nameS 0) (packB [97])) = _
    rw [e1, e2]; rfl
  show toldJ (layJ (newX 2 []) (newS 10000) [97]) = _
  rw [el]; rfl
theorem aw_sync : syncJ awX (awD 0) = (0, awX, awD 11) := by
  have e0 : refuse (awD 0) (nameS 0) = 0 := refuse_name rfl 0
  have eg : getK Fl.n (nameS 0) (awD 0).fs = some ⟨nameS 0, packB [97], 0⟩ := by simp [getK, awD]
  have e1 : syncC (awD 0) (nameS 0) = 0 := by unfold syncC; rw [e0, eg]; rfl
  have e2 : syncS (awD 0) (nameS 0) = awD 11 := by
    unfold syncS; rw [e0, eg]
    simp only [ne_eq, not_true_eq_false, if_false]
    rw [(hit_none (S := awD 0) rfl).1, (hit_none (S := awD 0) rfl).2]
    simp [awD, putK, delK, insK, packB_len]
  have es : settleJ awX (awD 0) = (0, awX, awD 11) := by
    have : settleF (awX.segs.drop awX.settled) (awD 0) = (0, awD 11) := by
      show settleF [⟨0, [[97]]⟩] (awD 0) = _
      simp only [settleF]
      rw [e1, e2]; rfl
    unfold settleJ
    rw [this]; rfl
  show toldJ (settleJ awX (awD 0)) = _
  rw [es]; rfl
theorem aw_fit : Fit (newX 2 []) ∧ Fit awX := ⟨⟨by simp [newX], by simp [newX], by simp [newX], by simp [newX]⟩, ⟨by simp [awX], by simp [awX], by simp [awX], by simp [awX]⟩⟩

set_option maxRecDepth 100000 in
set_option maxHeartbeats 4000000 in
theorem awake_j (w : World) :
    Calls Tryz.prog 9 #[] w fun e w' => e = .returned (.bool true) ∧ Turn (fun _ => False) w w' := by
  have kc := fun (w : World) (C : Array Value) (n c : Nat) => Lib.run_convert_bytes_const (P := Tryz.prog) w 33 5 C n c Tryz.underlying33 Tryz.underlying5
  have hnew := New_walk 10000 w (by decide) (by decide)
  go_enter Tryz.func9, Tryz.ntmps9
  go_wp2_with fail
  refine hnew.mono ?_
  rintro e w1 ⟨rfl, t1, d1⟩
  go_wp2_with fail
  refine (open_new w1 _ _ 2 10000 d1 (by decide) (by decide) (by decide)).mono ?_
  rintro e w2 ⟨J, rfl, t2, hJ, J2⟩
  have hb97 : Bytes [97] := by intro x hx; simp at hx; omega
  have tA : Turn (fun _ => False) w2 (w2.alloc (.cells #[.int .u8 97] 5 (1, 2))) := (Turn.refl _ w2).alloc _
  have hr1 := row_marked w2 [97] 5 (1, 2) (by decide)
  have ha := append_j _ _ _ J w.heap.size _ _ _ [97] (J2.turn tA (fun _ _ h => h)) aw_fit.1 hb97 hr1 (by decide)
  rw [aw_append] at ha
  have s1 := t1.size
  have s2 := t2.size
  have sA := tA.size
  clear hr1 d1 J2 hnew
  go_wp2_with fail
  refine ha.mono ?_
  rintro e w3 ⟨rfl, t3, J3⟩
  have s3 := t3.size
  have hs := sync_j w3 _ J w.heap.size _ _ J3 aw_fit.2
  rw [aw_sync] at hs
  clear ha
  go_wp2_with fail
  refine hs.mono ?_
  rintro e w4 ⟨rfl, t4, J4⟩
  have s4 := t4.size
  have hrc := records_j w4 _ J w.heap.size _ _ J4 aw_fit.2 (by simp [awX])
  clear hs
  go_wp2_with fail
  refine hrc.mono ?_
  rintro e w5 ⟨x, rfl, hL, t5⟩
  rw [show recsOf awX.segs = [[97]] from rfl] at hL
  have J5 := J4.turn t5 (fun _ _ h => h)
  have hnx := next_jat w5 _ J w.heap.size _ _ J5 aw_fit.2
  rw [show ((nextOf awX.segs : Nat) : Int) = 1 from rfl] at hnx
  obtain ⟨g, off, cap, u, rfl, hc, ho, hub⟩ := hL.at 0 (by decide)
  rw [Nat.add_zero] at hc
  have hcv := conv_row (row_of_sl (ys := [97]) ho)
  rw [show strOfNums [97] = (⟨#[97]⟩ : ByteArray) by decide +kernel] at hcv
  obtain ⟨ua, uc, rfl⟩ := ho.form
  rw [show ([[97]] : List (List Int)).length = 1 from rfl, show (([[97]] : List (List Int))[0]'(by decide)).length = 1 from rfl] at *
  have TT : Turn (fun j => w.heap.size ≤ j) w w5 := ((((((t1.then (Turn.refl _ _)).mono (fun _ h => h.elim)).then t2).then (tA.mono (fun _ h => h.elim))).trans t3 (fun j hj => by
    rcases hj with hj | hj
    · exact .inl hj
    · exact .inl (by omega))).trans t4 (fun j hj => by
    rcases hj with (hj | hj) | hj
    · exact .inl hj
    · exact .inl (by omega)
    · exact .inl (by omega))).then (t5.mono (fun _ h => h.elim))
  have HT := hide TT
  clear hrc J4 J5 hL ho hub TT t1 t2 t3 t4 t5 tA J3
  go_wp2_with (go_at_call 25; refine hnx.mono ?_; rintro e w6 ⟨rfl, t6⟩)
  go_ret
  exact ⟨rfl, ((unhide HT).fresh (Nat.le_refl _)).then t6⟩

set_option maxRecDepth 100000 in
set_option maxHeartbeats 4000000 in
theorem JournalNil_walk (w : World) (most : Int) (bv : Value) (zs : List Int) (z : Int) (hm : -9223372036854775808 ≤ most ∧ most ≤ 9223372036854775807) (hr : Row .u8 any w bv zs) :
    Calls Tryz.prog 6 #[.int .i64 most, bv, .int .u64 z] w fun e w' => e = .returned (.bool true) ∧ Turn (fun _ => False) w w' := by
  obtain ⟨ba, bc, rfl⟩ := hr.slice
  have hnew := New_walk 100 w (by decide) (by decide)
  clear hr
  generalize zs.length = zl at *
  by_cases hok : 1 ≤ most ∧ most ≤ 1000
  · obtain ⟨h1, h2⟩ := hok
    obtain ⟨m, rfl⟩ : ∃ m : Nat, most = (m : Int) := ⟨most.toNat, by omega⟩
    go_enter Tryz.func6, Tryz.ntmps6
    go_wp2_with fail
    refine (open_nil w _).mono ?_
    rintro e w0 ⟨rfl, hw0⟩
    have hw0 := hw0.symm
    subst hw0
    go_wp2_with fail
    refine hnew.mono ?_
    rintro e w1 ⟨rfl, t1, d1⟩
    go_wp2_with fail
    refine (open_new w1 _ _ m 100 d1 (by decide) (by omega) (by omega)).mono ?_
    rintro e w2 ⟨J, rfl, t2, hJ, J2⟩
    go_wp2_with (first
      | (go_at_call 9; refine (awake_j _).mono ?_; rintro e w3 ⟨rfl, t3⟩)
      | (go_at_call 15; refine (append_nil _ _ _ _).mono ?_; rintro e w' ⟨rfl, hw⟩; have hw := hw.symm; subst hw)
      | (go_at_call 27; refine (sync_nil _).mono ?_; rintro e w' ⟨rfl, hw⟩; have hw := hw.symm; subst hw)
      | (go_at_call 18; refine (trim_nil _ _).mono ?_; rintro e w' ⟨rfl, hw⟩; have hw := hw.symm; subst hw)
      | (go_at_call 19; refine (first_nil _).mono ?_; rintro e w' ⟨rfl, hw⟩; have hw := hw.symm; subst hw)
      | (go_at_call 25; refine (next_nil _).mono ?_; rintro e w' ⟨rfl, hw⟩; have hw := hw.symm; subst hw)
      | (go_at_call 20; refine (records_nil _).mono ?_; rintro e w' ⟨rfl, hw⟩; have hw := hw.symm; subst hw)
      | (go_at_call 17; refine (segments_nil _).mono ?_; rintro e w' ⟨rfl, hw⟩; have hw := hw.symm; subst hw))
    go_ret
    have TT : Turn (fun j => w.heap.size ≤ j) w w3 := ((t1.mono (fun _ h => h.elim)).then t2).then (t3.mono (fun _ h => h.elim))
    exact ⟨rfl, TT.fresh (Nat.le_refl _)⟩
  · have hbad : most < 1 ∨ 1000 < most := by omega
    have hop : ∀ u D, Calls Tryz.prog 24 #[.pointer (some ⟨D, 0, none⟩), .int .i64 most] u fun e w' => e = .returned (.tuple #[.pointer none, .int .i64 1]) ∧ w' = u := fun u D => open_arg u D most hbad
    have hx : most < 1 ∨ (1 ≤ most ∧ ¬ most ≤ 1000) := by omega
    clear hbad hok
    rcases hx with hbad | ⟨hb1, hbad⟩
    all_goals
      go_enter Tryz.func6, Tryz.ntmps6
      go_wp2_with fail
      refine (open_nil w _).mono ?_
      rintro e w0 ⟨rfl, hw0⟩
      have hw0 := hw0.symm
      subst hw0
      go_wp2_with fail
      refine hnew.mono ?_
      rintro e w1 ⟨rfl, t1, d1⟩
      go_wp2_with fail
      refine (hop w1 _).mono ?_
      rintro e w2 ⟨rfl, hw2⟩
      have hw2 := hw2.symm
      subst hw2
      go_wp2_with (first
        | (go_at_call 9; refine (awake_j _).mono ?_; rintro e w3 ⟨rfl, t3⟩)
        | (go_at_call 15; refine (append_nil _ _ _ _).mono ?_; rintro e w' ⟨rfl, hw⟩; have hw := hw.symm; subst hw)
        | (go_at_call 27; refine (sync_nil _).mono ?_; rintro e w' ⟨rfl, hw⟩; have hw := hw.symm; subst hw)
        | (go_at_call 18; refine (trim_nil _ _).mono ?_; rintro e w' ⟨rfl, hw⟩; have hw := hw.symm; subst hw)
        | (go_at_call 19; refine (first_nil _).mono ?_; rintro e w' ⟨rfl, hw⟩; have hw := hw.symm; subst hw)
        | (go_at_call 25; refine (next_nil _).mono ?_; rintro e w' ⟨rfl, hw⟩; have hw := hw.symm; subst hw)
        | (go_at_call 20; refine (records_nil _).mono ?_; rintro e w' ⟨rfl, hw⟩; have hw := hw.symm; subst hw)
        | (go_at_call 17; refine (segments_nil _).mono ?_; rintro e w' ⟨rfl, hw⟩; have hw := hw.symm; subst hw))
      go_ret
      first
        | exact ⟨rfl, t1.then t3⟩
        | exact ⟨congrArg (fun b => Ending.returned (.bool !b)) (decide_eq_false (p := most ≤ 1000) (by omega)), t1.then t3⟩
theorem JournalNil_law (w : World) (most : Int) (hm : (Lit.int .i64 most).wf = true) (bv : Value) (zs : List Int) (hr : Row .u8 any w bv zs) (hwf : ∀ n ∈ zs, (Lit.int .u8 n).wf = true) (hz : zs.length * 1 ≤ 140737488351232) (z : Int) (hzw : (Lit.int .u64 z).wf = true) :
    Calls Tryz.prog 6 #[.int .i64 most, bv, .int .u64 z] w fun e w' => e = .returned (.bool true) ∧ Below w.heap.size w w' :=
  (JournalNil_walk w most bv zs z (wf_i64 hm) hr).mono (fun e w' h => ⟨h.1, h.2.bel⟩)
end Go.Proofs.YthikiahhochjmaaGreatDoor
