/- DiskArms: the call that is hit, and all behind it, answer that the disk is down. -/
import Derived.Test.YthpfdgjpmooclaaDAwake
namespace Go.Proofs.Ythpfdgjpmooclaa
open Go.RowKit Go.Maps
set_option linter.unusedVariables false

/-- behind i calls of a disk that was armed with n -/
structure ArmSt (n : Int) (i : Nat) (S : Dk) : Prop where
  size : S.size = 10000
  fs : ∃ d s, S.fs = [⟨[97], d, s⟩] ∧ 1 ≤ d.length ∧ d.length ≤ 1 + i
  down : S.down = decide (0 < n ∧ n ≤ (i : Int))
  arm : ¬ (0 < n ∧ n ≤ (i : Int)) → (0 < n → (S.arm : Int) = n - i) ∧ (¬ 0 < n → S.arm = 0)
def wantC (n : Int) (i : Nat) : Int := if 0 < n ∧ n - i ≤ 1 then 3 else 0

theorem good_a : goodB [97] = true := by rfl
theorem arm_hit {n : Int} {i : Nat} {S : Dk} (h : ArmSt n i S) (hd : ¬ (0 < n ∧ n ≤ (i : Int))) : (if hitB S then (3 : Int) else 0) = wantC n i := by
  have ha := h.arm hd
  unfold wantC hitB
  by_cases hn : 0 < n
  · have := ha.1 hn
    by_cases h1 : S.arm = 1
    · rw [if_pos (by simpa using h1), if_pos ⟨hn, by omega⟩]
    · rw [if_neg (by simpa using h1), if_neg (by omega)]
  · have := ha.2 hn
    rw [if_neg (by simp [this]), if_neg (by omega)]
theorem arm_next {n : Int} {i : Nat} {S S' : Dk} (h : ArmSt n i S) (hd : ¬ (0 < n ∧ n ≤ (i : Int))) (hs : S'.size = S.size) (hf : ∃ d s, S'.fs = [⟨[97], d, s⟩] ∧ 1 ≤ d.length ∧ d.length ≤ 1 + (i + 1)) (ha' : S'.arm = (hitS S).arm) (hd' : S'.down = (hitS S).down) : ArmSt n (i + 1) S' := by
  have ha := h.arm hd
  have hdn := h.down
  refine ⟨hs.trans h.size, hf, ?_, fun hx => ?_⟩
  · rw [hd']
    unfold hitS
    split
    · rename_i h0
      rw [hdn]
      apply decide_eq_decide.2
      by_cases hn : 0 < n
      · have := ha.1 hn; omega
      · omega
    · rename_i h0
      simp only
      apply decide_eq_decide.2
      by_cases hn : 0 < n
      · have := ha.1 hn; omega
      · have := ha.2 hn; omega
  · rw [ha']
    unfold hitS
    split
    · rename_i h0
      exact ⟨fun hn => by have := ha.1 hn; omega, fun hn => ha.2 hn⟩
    · rename_i h0
      simp only
      exact ⟨fun hn => by have := ha.1 hn; omega, fun hn => by have := ha.2 hn; omega⟩
theorem arm_down {n : Int} {i : Nat} {S : Dk} (h : ArmSt n i S) (hd : 0 < n ∧ n ≤ (i : Int)) : refuse S [97] = 3 ∧ wantC n i = 3 ∧ ArmSt n (i + 1) S := by
  have hdn : S.down = true := by rw [h.down]; simpa using hd
  refine ⟨by unfold refuse; rw [hdn]; rfl, by unfold wantC; rw [if_pos (by omega)], ⟨h.size, ?_, ?_, fun hx => absurd ⟨hd.1, by omega⟩ hx⟩⟩
  · obtain ⟨d, s, h1, h2, h3⟩ := h.fs
    exact ⟨d, s, h1, h2, by omega⟩
  · rw [hdn]; symm; simp; omega
theorem arm_up {n : Int} {i : Nat} {S : Dk} (h : ArmSt n i S) (hd : ¬ (0 < n ∧ n ≤ (i : Int))) : refuse S [97] = 0 := by
  have hdn : S.down = false := by rw [h.down]; simpa using hd
  unfold refuse; rw [hdn, good_a]; rfl
theorem put_one (d d' : List Int) (s s' : Nat) : putK Fl.n ⟨[97], d', s'⟩ [⟨[97], d, s⟩] = [⟨[97], d', s'⟩] := rfl
theorem get_one (d : List Int) (s : Nat) : getK Fl.n [97] [⟨[97], d, s⟩] = some ⟨[97], d, s⟩ := rfl

theorem arm_append {n : Int} {i : Nat} {S : Dk} (hi : i ≤ 40) (h : ArmSt n i S) : appendC S [97] [50] = wantC n i ∧ ArmSt n (i + 1) (appendS S [97] [50]) := by
  by_cases hd : 0 < n ∧ n ≤ (i : Int)
  · obtain ⟨h1, h2, h3⟩ := arm_down h hd
    have e1 : appendC S [97] [50] = 3 := by unfold appendC; rw [h1]; rfl
    have e2 : appendS S [97] [50] = S := by unfold appendS; rw [h1]; rfl
    rw [e1, e2, h2]; exact ⟨rfl, h3⟩
  · have hr := arm_up h hd
    obtain ⟨d, s, h1, h2, h3⟩ := h.fs
    have hful : fullB S [97] [50] = false := by
      unfold fullB
      rw [h1, h.size, get_one]
      simp [used]; omega
    have e1 : appendC S [97] [50] = if hitB S then 3 else 0 := by unfold appendC; rw [hr, hful]; simp
    have e2 : appendS S [97] [50] = hitS (appS S [97] [50]) := by unfold appendS; rw [hr, hful]; simp
    have e3 : (appS S [97] [50]).fs = [⟨[97], d ++ [50], s⟩] := by rw [appS_old (f := ⟨[97], d, s⟩) (by rw [h1]; rfl)]; simp only; rw [h1]; rfl
    rw [e1, e2]
    refine ⟨arm_hit h hd, arm_next h hd (by rw [(hitS_fs _).2]; rfl) ⟨d ++ [50], s, by rw [(hitS_fs _).1, e3], by simp, by simp; omega⟩ ?_ ?_⟩
    · by_cases h0 : S.arm = 0 <;> simp [hitS, appS, h0]
    · by_cases h0 : S.arm = 0
      · simp [hitS, appS, h0]
      · unfold hitS; rw [if_neg h0, if_neg (show ¬ (appS S [97] [50]).arm = 0 from h0)]; rfl
theorem arm_sync {n : Int} {i : Nat} {S : Dk} (h : ArmSt n i S) : syncC S [97] = wantC n i ∧ ArmSt n (i + 1) (syncS S [97]) := by
  by_cases hd : 0 < n ∧ n ≤ (i : Int)
  · obtain ⟨h1, h2, h3⟩ := arm_down h hd
    have e1 : syncC S [97] = 3 := by unfold syncC; rw [h1]; rfl
    have e2 : syncS S [97] = S := by unfold syncS; rw [h1]; rfl
    rw [e1, e2, h2]; exact ⟨rfl, h3⟩
  · have hr := arm_up h hd
    obtain ⟨d, s, h1, h2, h3⟩ := h.fs
    have e1 : syncC S [97] = if hitB S then 3 else 0 := by unfold syncC; rw [hr, h1]; rfl
    have e2 : syncS S [97] = if hitB S then hitS S else { hitS S with fs := [⟨[97], d, d.length⟩] } := by unfold syncS; rw [hr, h1]; rfl
    rw [e1, e2]
    refine ⟨arm_hit h hd, ?_⟩
    split
    · exact arm_next h hd (hitS_fs S).2 ⟨d, s, by rw [(hitS_fs S).1, h1], h2, by omega⟩ rfl rfl
    · exact arm_next h hd (hitS_fs S).2 ⟨d, d.length, rfl, h2, by omega⟩ rfl rfl
theorem arm_cut {n : Int} {i : Nat} {S : Dk} (h : ArmSt n i S) : cutC S [97] 1 = wantC n i ∧ ArmSt n (i + 1) (cutS S [97] 1) := by
  by_cases hd : 0 < n ∧ n ≤ (i : Int)
  · obtain ⟨h1, h2, h3⟩ := arm_down h hd
    have e1 : cutC S [97] 1 = 3 := by unfold cutC; rw [h1]; rfl
    have e2 : cutS S [97] 1 = S := by unfold cutS; rw [h1]; rfl
    rw [e1, e2, h2]; exact ⟨rfl, h3⟩
  · have hr := arm_up h hd
    obtain ⟨d, s, h1, h2, h3⟩ := h.fs
    have hz : ¬ ((1 : Int) < 0 ∨ (d.length : Int) < 1) := by omega
    have e1 : cutC S [97] 1 = if hitB S then 3 else 0 := by unfold cutC; rw [hr, h1, get_one]; simp only; rw [if_neg (by simp), if_neg hz]
    have e2 : cutS S [97] 1 = if hitB S then hitS S else { hitS S with fs := [⟨[97], d.take 1, 1⟩] } := by unfold cutS; rw [hr, h1, get_one]; simp only; rw [if_neg (by simp), if_neg hz]; rfl
    rw [e1, e2]
    refine ⟨arm_hit h hd, ?_⟩
    split
    · exact arm_next h hd (hitS_fs S).2 ⟨d, s, by rw [(hitS_fs S).1, h1], h2, by omega⟩ rfl rfl
    · exact arm_next h hd (hitS_fs S).2 ⟨d.take 1, 1, rfl, by simp; omega, by simp; omega⟩ rfl rfl
def arS1 : Dk := ⟨10000, [⟨[97], [49], 0⟩], false, 0⟩
theorem ar1 : appendC (newS 10000) [97] [49] = 0 ∧ appendS (newS 10000) [97] [49] = arS1 := ⟨by rfl, by rfl⟩
theorem arm_start (n : Int) : ArmSt n 0 (armS arS1 n) := by
  refine ⟨rfl, ⟨[49], 0, rfl, by decide, by decide⟩, ?_, fun h => ?_⟩
  · show false = _
    symm
    rw [decide_eq_false_iff_not]
    omega
  · exact ⟨fun hn => by show ((n.toNat : Nat) : Int) = _; omega, fun hn => by show n.toNat = 0; omega⟩
theorem want_down {n : Int} {i : Nat} {S : Dk} (h : ArmSt n (i + 1) S) : S.down = decide (wantC n i = 3) := by
  rw [h.down]
  apply decide_eq_decide.2
  unfold wantC
  split <;> omega

set_option maxRecDepth 100000 in
set_option maxHeartbeats 4000000 in
theorem arms_walk (w : World) (n : Int) (hn1 : -9223372036854775808 ≤ n) (hn2 : n ≤ 9223372036854775807) (kv : Value) (ks : List Int) (hr : Row .i64 any w kv ks) (hw : ∀ x ∈ ks, (Lit.int .i64 x).wf = true) :
    Calls Try.prog 5 #[.int .i64 n, kv] w fun e w' => e = .returned (.bool true) ∧ Turn (fun _ => False) w w' := by
  have kc := fun (w : World) (C : Array Value) (n c : Nat) => Lib.run_convert_bytes_const (P := Try.prog) w 32 5 C n c Try.underlying32 Try.underlying5
  have hnew := New_walk 10000 w (by decide) (by decide)
  have hlen := hr.len
  unfold maxLen at hlen
  have hr := hr.lt
  obtain ⟨ka, kcap, hkv⟩ := hr.slice
  subst hkv
  go_enter Try.func5, Try.ntmps5
  go_wp2_with (first
    | (go_at_call 8; refine hnew.mono ?_; rintro e w1 ⟨rfl, t1, d1⟩)
    | (go_at_call 9; refine (awake_walk _).mono ?_; rintro e w2 ⟨rfl, t2⟩))
  have hr1 := row_marked w2 [49] 5 (1, 2) (by decide)
  have tA : Turn (fun _ => False) w2 (w2.alloc (.cells #[.int .u8 49] 5 (1, 2))) := (Turn.refl _ w2).alloc _
  have h1 := Append_walk _ w.heap.size _ _ _ ⟨#[97]⟩ _ _ nA_len ((d1.turn t2 (fun _ _ _ => id)).turn tA (fun _ _ _ => id)) hr1
  rw [show (⟨#[97]⟩ : ByteArray).data.toList = [97] from rfl, ar1.1, ar1.2] at h1
  refine h1.mono ?_
  rintro x w3 ⟨rfl, t3, d3⟩
  have s1 := t1.size
  have s2 := t2.size
  have sA := tA.size
  have s3 := t3.size
  have d3 := d3.base (by omega)
  have h2 := Arm_walk w3 w.heap.size _ _ n hn2 d3
  go_wp2_with (go_at_call 27; refine h2.mono ?_; rintro x w4 ⟨rfl, t4, d4⟩)
  have tt : Turn (fun j => w.heap.size ≤ j) w w4 := ((((t1.then t2).then tA).mono (fun _ h => h.elim)).then t3).then t4
  have s4 := t4.size
  clear h1 h2 hnew hr1 d3 d1 t1 t2 t3 t4 tA
  go_loopw [7, 8] (fun l i wr => ∃ (k : Nat) (z : Int) (S : Dk), k ≤ ks.length ∧ k ≤ 40 ∧ i = .int .i64 (k : Int) ∧ l = .int .i64 z ∧ -9223372036854775808 ≤ z ∧ z ≤ 9223372036854775807 ∧ Hid (0 < n → z = n - k) ∧ Hid (ArmSt n k S) ∧ DAt wr w.heap.size (fun j => w.heap.size ≤ j) S ∧ Turn (fun j => w.heap.size ≤ j) w wr) (fun _ i _ => 40 - (intOf i).toNat)
  case atStart => exact ⟨0, n, armS arS1 n, Nat.zero_le _, by omega, rfl, rfl, hn1, hn2, hide (fun _ => by simp), hide (arm_start n), d4, tt⟩
  case round =>
    obtain ⟨k, z, S, hk1, hk2, rfl, rfl, hz1, hz2, hz, hS, dk, tk⟩ := hrel
    by_cases hlt : k < ks.length ∧ k < 40
    · obtain ⟨hlt1, hlt2⟩ := hlt
      obtain ⟨b, off, ha, hc⟩ : ∃ b off, ka = some ⟨b, off, none⟩ ∧ (b < w.heap.size ∧ Cells .i64 w b off ks) := by
        rcases hr with ⟨_, _, _, _, _, h⟩ | ⟨b, off, c, e, _, _, h3, h4⟩
        · rw [h] at hlt1; simp at hlt1
        · simp at e; exact ⟨b, off, e.1, h3.2, h4⟩
      subst ha
      have hcell := tk.cell (hc.2 k hlt1) (by simp; exact hc.1)
      generalize ks.getD k 0 = x at hcell
      have hS' := unhide hS
      have hwant : Hid (wantC n k = if 0 < n ∧ z ≤ 1 then 3 else 0) := by
        refine hide ?_
        unfold wantC
        by_cases hn : 0 < n
        · rw [unhide hz hn]
        · rw [if_neg (by omega), if_neg (by omega)]
      have hznew : Hid (0 < n → z - 1 = n - (k + 1 : Nat)) := hide (fun hn => by have := unhide hz hn; omega)
      have hap := arm_append hk2 hS'
      have hsy := arm_sync hS'
      have hcu := arm_cut hS'
      by_cases hn : 0 < n
      · by_cases hz0 : z ≤ 1
        · have hw : wantC n k = 3 := by rw [unhide hwant]; rw [if_pos ⟨hn, hz0⟩]
          rw [hw] at hap hsy hcu
          have dn_hap := want_down hap.2
          rw [hw, show decide ((3 : Int) = 3) = true by decide] at dn_hap
          have dn_hsy := want_down hsy.2
          rw [hw, show decide ((3 : Int) = 3) = true by decide] at dn_hsy
          have dn_hcu := want_down hcu.2
          rw [hw, show decide ((3 : Int) = 3) = true by decide] at dn_hcu
          clear hwant hw
          by_cases h0 : x.tmod 3 = 0
          · have hb0 : (x.tmod 3 == 0) = true := by rw [h0]; rfl
            clear h0
            have hr1 := row_marked wr [50] 5 (1, 2) (by decide)
            have tB : Turn (fun _ => False) wr (wr.alloc (.cells #[.int .u8 50] 5 (1, 2))) := (Turn.refl _ wr).alloc _
            have hc1 := Append_walk _ w.heap.size _ _ _ ⟨#[97]⟩ _ _ nA_len (dk.turn tB (fun _ _ _ => id)) hr1
            rw [show (⟨#[97]⟩ : ByteArray).data.toList = [97] from rfl, hap.1] at hc1
            have Hst := hide hap.2
            have Hdn := hide dn_hap
            clear hap hsy hcu dn_hap dn_hsy dn_hcu hS
            go_wp2_with (first | (go_at_call 11; refine hc1.mono ?_; rintro y w5 ⟨rfl, t5, d5⟩; have sk := tk.size; have d5 := d5.base (by simp; omega); have hdw := Down_walk w5 w.heap.size _ _ d5; rw [unhide Hdn] at hdw) | (go_at_call 14; refine hdw.mono ?_; rintro y w6 ⟨rfl, hw6⟩; have hw6 := hw6.symm; subst hw6))
            all_goals
              go_roundw
              case rel => exact ⟨k + 1, _, _, by omega, by omega, by go_num, rfl, by first | omega | (unfold wrap64; omega), by first | omega | (unfold wrap64; omega), hide (fun hn' => by have q1 := unhide hz hn'; have q2 := unhide hznew hn'; first | omega | (unfold wrap64; omega)), Hst, d5, (tk.then (tB.mono (fun _ h => h.elim))).then t5⟩
              case measure => simp [intOf]; omega
          by_cases h1 : x.tmod 3 = 1
          · have hb1 : (x.tmod 3 == 1) = true := by rw [h1]; rfl
            have hb0 : (x.tmod 3 == 0) = false := by rw [h1]; rfl
            clear h0 h1
            have hc1 := Sync_walk wr w.heap.size _ _ ⟨#[97]⟩ nA_len dk
            rw [show (⟨#[97]⟩ : ByteArray).data.toList = [97] from rfl, hsy.1] at hc1
            have Hst := hide hsy.2
            have Hdn := hide dn_hsy
            clear hap hsy hcu dn_hap dn_hsy dn_hcu hS
            go_wp2_with (first | (go_at_call 25; refine hc1.mono ?_; rintro y w5 ⟨rfl, t5, d5⟩; have sk := tk.size; have d5 := d5.base (by omega); have hdw := Down_walk w5 w.heap.size _ _ d5; rw [unhide Hdn] at hdw) | (go_at_call 14; refine hdw.mono ?_; rintro y w6 ⟨rfl, hw6⟩; have hw6 := hw6.symm; subst hw6))
            all_goals
              go_roundw
              case rel => exact ⟨k + 1, _, _, by omega, by omega, by go_num, rfl, by first | omega | (unfold wrap64; omega), by first | omega | (unfold wrap64; omega), hide (fun hn' => by have q1 := unhide hz hn'; have q2 := unhide hznew hn'; first | omega | (unfold wrap64; omega)), Hst, d5, tk.then t5⟩
              case measure => simp [intOf]; omega
          have hb0 : (x.tmod 3 == 0) = false := by rw [beq_eq_false_iff_ne]; exact h0
          have hb1 : (x.tmod 3 == 1) = false := by rw [beq_eq_false_iff_ne]; exact h1
          clear h0 h1
          have hc1 := Cut_walk wr w.heap.size _ _ ⟨#[97]⟩ 1 nA_len dk
          rw [show (⟨#[97]⟩ : ByteArray).data.toList = [97] from rfl, hcu.1] at hc1
          have Hst := hide hcu.2
          have Hdn := hide dn_hcu
          clear hap hsy hcu dn_hap dn_hsy dn_hcu hS
          go_wp2_with (first | (go_at_call 28; refine hc1.mono ?_; rintro y w5 ⟨rfl, t5, d5⟩; have sk := tk.size; have d5 := d5.base (by omega); have hdw := Down_walk w5 w.heap.size _ _ d5; rw [unhide Hdn] at hdw) | (go_at_call 14; refine hdw.mono ?_; rintro y w6 ⟨rfl, hw6⟩; have hw6 := hw6.symm; subst hw6))
          all_goals
            go_roundw
            case rel => exact ⟨k + 1, _, _, by omega, by omega, by go_num, rfl, by first | omega | (unfold wrap64; omega), by first | omega | (unfold wrap64; omega), hide (fun hn' => by have q1 := unhide hz hn'; have q2 := unhide hznew hn'; first | omega | (unfold wrap64; omega)), Hst, d5, tk.then t5⟩
            case measure => simp [intOf]; omega
        · have hw : wantC n k = 0 := by rw [unhide hwant]; rw [if_neg (by omega)]
          rw [hw] at hap hsy hcu
          have dn_hap := want_down hap.2
          rw [hw, show decide ((0 : Int) = 3) = false by decide] at dn_hap
          have dn_hsy := want_down hsy.2
          rw [hw, show decide ((0 : Int) = 3) = false by decide] at dn_hsy
          have dn_hcu := want_down hcu.2
          rw [hw, show decide ((0 : Int) = 3) = false by decide] at dn_hcu
          clear hwant hw
          by_cases h0 : x.tmod 3 = 0
          · have hb0 : (x.tmod 3 == 0) = true := by rw [h0]; rfl
            clear h0
            have hr1 := row_marked wr [50] 5 (1, 2) (by decide)
            have tB : Turn (fun _ => False) wr (wr.alloc (.cells #[.int .u8 50] 5 (1, 2))) := (Turn.refl _ wr).alloc _
            have hc1 := Append_walk _ w.heap.size _ _ _ ⟨#[97]⟩ _ _ nA_len (dk.turn tB (fun _ _ _ => id)) hr1
            rw [show (⟨#[97]⟩ : ByteArray).data.toList = [97] from rfl, hap.1] at hc1
            have Hst := hide hap.2
            have Hdn := hide dn_hap
            clear hap hsy hcu dn_hap dn_hsy dn_hcu hS
            go_wp2_with (first | (go_at_call 11; refine hc1.mono ?_; rintro y w5 ⟨rfl, t5, d5⟩; have sk := tk.size; have d5 := d5.base (by simp; omega); have hdw := Down_walk w5 w.heap.size _ _ d5; rw [unhide Hdn] at hdw) | (go_at_call 14; refine hdw.mono ?_; rintro y w6 ⟨rfl, hw6⟩; have hw6 := hw6.symm; subst hw6))
            all_goals
              go_roundw
              case rel => exact ⟨k + 1, _, _, by omega, by omega, by go_num, rfl, by first | omega | (unfold wrap64; omega), by first | omega | (unfold wrap64; omega), hide (fun hn' => by have q1 := unhide hz hn'; have q2 := unhide hznew hn'; first | omega | (unfold wrap64; omega)), Hst, d5, (tk.then (tB.mono (fun _ h => h.elim))).then t5⟩
              case measure => simp [intOf]; omega
          by_cases h1 : x.tmod 3 = 1
          · have hb1 : (x.tmod 3 == 1) = true := by rw [h1]; rfl
            have hb0 : (x.tmod 3 == 0) = false := by rw [h1]; rfl
            clear h0 h1
            have hc1 := Sync_walk wr w.heap.size _ _ ⟨#[97]⟩ nA_len dk
            rw [show (⟨#[97]⟩ : ByteArray).data.toList = [97] from rfl, hsy.1] at hc1
            have Hst := hide hsy.2
            have Hdn := hide dn_hsy
            clear hap hsy hcu dn_hap dn_hsy dn_hcu hS
            go_wp2_with (first | (go_at_call 25; refine hc1.mono ?_; rintro y w5 ⟨rfl, t5, d5⟩; have sk := tk.size; have d5 := d5.base (by omega); have hdw := Down_walk w5 w.heap.size _ _ d5; rw [unhide Hdn] at hdw) | (go_at_call 14; refine hdw.mono ?_; rintro y w6 ⟨rfl, hw6⟩; have hw6 := hw6.symm; subst hw6))
            all_goals
              go_roundw
              case rel => exact ⟨k + 1, _, _, by omega, by omega, by go_num, rfl, by first | omega | (unfold wrap64; omega), by first | omega | (unfold wrap64; omega), hide (fun hn' => by have q1 := unhide hz hn'; have q2 := unhide hznew hn'; first | omega | (unfold wrap64; omega)), Hst, d5, tk.then t5⟩
              case measure => simp [intOf]; omega
          have hb0 : (x.tmod 3 == 0) = false := by rw [beq_eq_false_iff_ne]; exact h0
          have hb1 : (x.tmod 3 == 1) = false := by rw [beq_eq_false_iff_ne]; exact h1
          clear h0 h1
          have hc1 := Cut_walk wr w.heap.size _ _ ⟨#[97]⟩ 1 nA_len dk
          rw [show (⟨#[97]⟩ : ByteArray).data.toList = [97] from rfl, hcu.1] at hc1
          have Hst := hide hcu.2
          have Hdn := hide dn_hcu
          clear hap hsy hcu dn_hap dn_hsy dn_hcu hS
          go_wp2_with (first | (go_at_call 28; refine hc1.mono ?_; rintro y w5 ⟨rfl, t5, d5⟩; have sk := tk.size; have d5 := d5.base (by omega); have hdw := Down_walk w5 w.heap.size _ _ d5; rw [unhide Hdn] at hdw) | (go_at_call 14; refine hdw.mono ?_; rintro y w6 ⟨rfl, hw6⟩; have hw6 := hw6.symm; subst hw6))
          all_goals
            go_roundw
            case rel => exact ⟨k + 1, _, _, by omega, by omega, by go_num, rfl, by first | omega | (unfold wrap64; omega), by first | omega | (unfold wrap64; omega), hide (fun hn' => by have q1 := unhide hz hn'; have q2 := unhide hznew hn'; first | omega | (unfold wrap64; omega)), Hst, d5, tk.then t5⟩
            case measure => simp [intOf]; omega
      · have hw : wantC n k = 0 := by rw [unhide hwant]; rw [if_neg (by omega)]
        rw [hw] at hap hsy hcu
        have dn_hap := want_down hap.2
        rw [hw, show decide ((0 : Int) = 3) = false by decide] at dn_hap
        have dn_hsy := want_down hsy.2
        rw [hw, show decide ((0 : Int) = 3) = false by decide] at dn_hsy
        have dn_hcu := want_down hcu.2
        rw [hw, show decide ((0 : Int) = 3) = false by decide] at dn_hcu
        clear hwant hw
        by_cases h0 : x.tmod 3 = 0
        · have hb0 : (x.tmod 3 == 0) = true := by rw [h0]; rfl
          clear h0
          have hr1 := row_marked wr [50] 5 (1, 2) (by decide)
          have tB : Turn (fun _ => False) wr (wr.alloc (.cells #[.int .u8 50] 5 (1, 2))) := (Turn.refl _ wr).alloc _
          have hc1 := Append_walk _ w.heap.size _ _ _ ⟨#[97]⟩ _ _ nA_len (dk.turn tB (fun _ _ _ => id)) hr1
          rw [show (⟨#[97]⟩ : ByteArray).data.toList = [97] from rfl, hap.1] at hc1
          have Hst := hide hap.2
          have Hdn := hide dn_hap
          clear hap hsy hcu dn_hap dn_hsy dn_hcu hS
          go_wp2_with (first | (go_at_call 11; refine hc1.mono ?_; rintro y w5 ⟨rfl, t5, d5⟩; have sk := tk.size; have d5 := d5.base (by simp; omega); have hdw := Down_walk w5 w.heap.size _ _ d5; rw [unhide Hdn] at hdw) | (go_at_call 14; refine hdw.mono ?_; rintro y w6 ⟨rfl, hw6⟩; have hw6 := hw6.symm; subst hw6))
          all_goals
            go_roundw
            case rel => exact ⟨k + 1, _, _, by omega, by omega, by go_num, rfl, by first | omega | (unfold wrap64; omega), by first | omega | (unfold wrap64; omega), hide (fun hn' => by have q1 := unhide hz hn'; have q2 := unhide hznew hn'; first | omega | (unfold wrap64; omega)), Hst, d5, (tk.then (tB.mono (fun _ h => h.elim))).then t5⟩
            case measure => simp [intOf]; omega
        by_cases h1 : x.tmod 3 = 1
        · have hb1 : (x.tmod 3 == 1) = true := by rw [h1]; rfl
          have hb0 : (x.tmod 3 == 0) = false := by rw [h1]; rfl
          clear h0 h1
          have hc1 := Sync_walk wr w.heap.size _ _ ⟨#[97]⟩ nA_len dk
          rw [show (⟨#[97]⟩ : ByteArray).data.toList = [97] from rfl, hsy.1] at hc1
          have Hst := hide hsy.2
          have Hdn := hide dn_hsy
          clear hap hsy hcu dn_hap dn_hsy dn_hcu hS
          go_wp2_with (first | (go_at_call 25; refine hc1.mono ?_; rintro y w5 ⟨rfl, t5, d5⟩; have sk := tk.size; have d5 := d5.base (by omega); have hdw := Down_walk w5 w.heap.size _ _ d5; rw [unhide Hdn] at hdw) | (go_at_call 14; refine hdw.mono ?_; rintro y w6 ⟨rfl, hw6⟩; have hw6 := hw6.symm; subst hw6))
          all_goals
            go_roundw
            case rel => exact ⟨k + 1, _, _, by omega, by omega, by go_num, rfl, by first | omega | (unfold wrap64; omega), by first | omega | (unfold wrap64; omega), hide (fun hn' => by have q1 := unhide hz hn'; have q2 := unhide hznew hn'; first | omega | (unfold wrap64; omega)), Hst, d5, tk.then t5⟩
            case measure => simp [intOf]; omega
        have hb0 : (x.tmod 3 == 0) = false := by rw [beq_eq_false_iff_ne]; exact h0
        have hb1 : (x.tmod 3 == 1) = false := by rw [beq_eq_false_iff_ne]; exact h1
        clear h0 h1
        have hc1 := Cut_walk wr w.heap.size _ _ ⟨#[97]⟩ 1 nA_len dk
        rw [show (⟨#[97]⟩ : ByteArray).data.toList = [97] from rfl, hcu.1] at hc1
        have Hst := hide hcu.2
        have Hdn := hide dn_hcu
        clear hap hsy hcu dn_hap dn_hsy dn_hcu hS
        go_wp2_with (first | (go_at_call 28; refine hc1.mono ?_; rintro y w5 ⟨rfl, t5, d5⟩; have sk := tk.size; have d5 := d5.base (by omega); have hdw := Down_walk w5 w.heap.size _ _ d5; rw [unhide Hdn] at hdw) | (go_at_call 14; refine hdw.mono ?_; rintro y w6 ⟨rfl, hw6⟩; have hw6 := hw6.symm; subst hw6))
        all_goals
          go_roundw
          case rel => exact ⟨k + 1, _, _, by omega, by omega, by go_num, rfl, by first | omega | (unfold wrap64; omega), by first | omega | (unfold wrap64; omega), hide (fun hn' => by have q1 := unhide hz hn'; have q2 := unhide hznew hn'; first | omega | (unfold wrap64; omega)), Hst, d5, tk.then t5⟩
          case measure => simp [intOf]; omega
    · have hex : ¬ (k < ks.length ∧ k < 40) := hlt
      by_cases h1 : k < ks.length
      · have h2 : ¬ k < 40 := by omega
        go_wp2
        go_ret
        exact ⟨rfl, tk.fresh (Nat.le_refl _)⟩
      · go_wp2
        go_ret
        exact ⟨rfl, tk.fresh (Nat.le_refl _)⟩
theorem DiskArms_law (w : World) (n : Int) (hn : (Lit.int .i64 n).wf = true) (kv : Value) (ks : List Int) (hk : Row .i64 any w kv ks) (hkwf : ∀ n ∈ ks, (Lit.int .i64 n).wf = true) (hkz : ks.length * 8 ≤ 140737488351232) :
    Calls Try.prog 5 #[.int .i64 n, kv] w fun e w' => e = .returned (.bool true) ∧ Below w.heap.size w w' :=
  (arms_walk w n (wf_i64 hn).1 (wf_i64 hn).2 kv ks hk hkwf).mono (fun e w' h => ⟨h.1, h.2.bel⟩)
end Go.Proofs.Ythpfdgjpmooclaa
