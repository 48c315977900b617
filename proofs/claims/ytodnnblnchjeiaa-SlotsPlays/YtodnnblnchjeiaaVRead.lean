/- A slot read. -/
import Derived.Test.YtodnnblnchjeiaaVParse
namespace Go.Proofs.Ytodnnblnchjeiaa
open Go.RowKit Go.Maps
set_option linter.unusedVariables false
set_option linter.unusedSimpArgs false

theorem readV_bytes {S : Dk} (h : ∀ f ∈ S.fs, Bytes f.d) (n : Nm) : Bytes (readD S n) := by
  unfold readD
  split
  · intro x hx; cases hx
  · split
    · intro x hx; cases hx
    · rename_i f hf
      exact h f (getK_some hf).1
theorem take_data {b : List Int} (h : Bytes b) : Bytes (takeT b).1 ∧ ((takeT b).2.2 = 0 → (takeT b).1.length ≤ 1048576) := by
  refine ⟨?_, fun h0 => ?_⟩
  · unfold takeT
    repeat' split
    all_goals first
      | (intro x hx; cases hx; done)
      | exact fun x hx => h x (List.mem_of_mem_drop (List.mem_of_mem_take hx))
  · have := take_bounds (b := b) (x := (takeT b).1) (n := (takeT b).2.1) (by rw [← h0])
    rw [this.2.2.1, List.length_take]; omega

set_option maxRecDepth 100000 in
set_option maxHeartbeats 2000000 in
theorem readV_w (w : World) (F : Nat → Prop) (D : Nat) (S : Dk) (r : Nat) (d : DAt w D F S) (hby : ∀ f ∈ S.fs, Bytes f.d) (hr2 : r < 2) :
    Calls Try.prog 20 #[.pointer (some ⟨D, 0, none⟩), .int .u64 (r : Int)] w fun e w' => ∃ dv, e = .returned (.tuple #[.agg #[.int .u64 ((readV S r).2.1 : Nat), dv], .int .i64 (readV S r).1]) ∧
      OwnSl w' 5 1 dv (readV S r).2.2.length ((readV S r).2.2.map (Value.int .u8)) ∧ (∀ j, dv.ownBlock = some j → w.heap.size ≤ j) ∧ Turn (fun _ => False) w w' := by
  have tA : Turn (fun _ => False) w (w.alloc (.cells #[.int .u64 0, .slice none 0 0] 54)) := (Turn.refl _ w).alloc _
  have kA := heap_alloc_new w (.cells #[.int .u64 0, .slice none 0 0] 54)
  have dA := d.turn tA (fun _ _ _ h => h)
  have hB := readV_bytes hby (nmV r)
  have hRV : readV S r = if readC S (nmV r) = 6 then (0, 0, []) else if readC S (nmV r) ≠ 0 then (readC S (nmV r), 0, []) else bytesV (readD S (nmV r)) r := rfl
  have HRV := hide hRV
  clear d hRV
  go_enter Try.func20, Try.ntmps20
  go_wp2_with fail
  refine (nameV_w r _).mono ?_
  rintro y w1 ⟨rfl, t1⟩
  have hrd := Read_walk w1 D F S (nameVS r) (nameVS_len r) (dA.turn t1 (fun _ _ _ h => h))
  rw [nameVS_list] at hrd
  go_wp2_with fail
  refine hrd.mono ?_
  rintro y w2 ⟨v, rfl, ho, hv0, t2⟩
  obtain ⟨va, vc, rfl⟩ := ho.form
  have t12 := t1.then t2
  have k2 := t12.same kA id
  have T2 := tA.then t12
  have q0 := cell_obj k2 0
  have q1 := cell_obj k2 1
  have f0 := frozen_obj k2 0
  have f1 := frozen_obj k2 1
  obtain ⟨g1, g2⟩ := save_set k2 (.int .u64 0) (.slice none 0 0)
  have z0 := cell_obj g1 0
  have z1 := cell_obj g1 1
  have HT := hide (fresh_turn g2 T2 (Nat.le_refl _))
  clear t1 t2 hrd dA kA tA hv0 g1 g2
  by_cases h6 : readC S (nmV r) = 6
  · have Hq : Hid (readV S r = (0, 0, [])) := hide ((unhide HRV).trans (if_pos h6))
    rw [h6]
    clear h6 HRV ho hB
    generalize (readD S (nmV r)).length = rl at *
    go_wp2
    refine bodyPost_ret (v := .tuple #[.agg #[.int .u64 0, .slice none 0 0], .int .i64 0]) (by simp [results, Try.results20, z0, z1, go_sem]) rfl ?_
    rw [unhide Hq]
    exact ⟨_, rfl, ⟨rfl, .inl ⟨rfl, rfl⟩⟩, fun j hj => by simp [Value.ownBlock] at hj, unhide HT⟩
  by_cases h0 : readC S (nmV r) = 0
  · have hq1 : readV S r = bytesV (readD S (nmV r)) r := (unhide HRV).trans ((if_neg h6).trans (if_neg (by rw [h0]; simp)))
    have hrow := row_of_sl ho
    have htk := Take_walk _ _ _ w2 hB hrow
    obtain ⟨hTB, hTL⟩ := take_data hB
    have hq2 : bytesV (readD S (nmV r)) r = if (takeT (readD S (nmV r))).2.2 = 0 then parseV (takeT (readD S (nmV r))).1 r else if (takeT (readD S (nmV r))).2.2 = 6 ∨ (takeT (readD S (nmV r))).2.2 = 9 then (0, 0, []) else (12, 0, []) := rfl
    have HQ := hide (hq1.trans hq2)
    rw [h0]
    clear h0 h6 HRV hq1 hq2 ho hrow hB
    generalize (takeT (readD S (nmV r))).1 = tc at *
    generalize (takeT (readD S (nmV r))).2.1 = tn at *
    generalize (takeT (readD S (nmV r))).2.2 = te at *
    generalize (readD S (nmV r)).length = rl at *
    go_wp2_with fail
    refine htk.mono ?_
    rintro y w3 ⟨x, rfl, hox, hfx, t3⟩
    obtain ⟨xa, xc, rfl⟩ := hox.form
    have k3 := t3.same k2 (fun h => h)
    have T3 := T2.then t3
    have q0 := cell_obj k3 0
    have q1 := cell_obj k3 1
    have f0 := frozen_obj k3 0
    have f1 := frozen_obj k3 1
    obtain ⟨g1, g2⟩ := save_set k3 (.int .u64 0) (.slice none 0 0)
    have z0 := cell_obj g1 0
    have z1 := cell_obj g1 1
    have HT3 := hide (fresh_turn g2 T3 (Nat.le_refl _))
    clear g1 g2 htk HT
    by_cases hc0 : te = 0
    · have Hq : Hid (readV S r = parseV tc r) := hide ((unhide HQ).trans (if_pos hc0))
      subst hc0
      have hpw := parseV_w _ _ tc r w3 hTB (row_of_sl hox) (hTL rfl) hr2
      have HT4 := hide (And.intro T3 k3)
      have s3 := T3.size
      clear T3 T2 t3 t12 k3 k2 z0 z1 HT3 hox hTL HQ hTB hfx
      generalize tc.length = tl at *
      go_wp2_with fail
      refine hpw.mono ?_
      rintro y w4 ⟨dv, rfl, ho4, hf4, t4⟩
      obtain ⟨T3, k3⟩ := unhide HT4
      have k4 := t4.same k3 (fun h => h)
      obtain ⟨da, dc, rfl⟩ := ho4.form
      have q0 := cell_obj k4 0
      have q1 := cell_obj k4 1
      have f0 := frozen_obj k4 0
      have f1 := frozen_obj k4 1
      rw [← unhide Hq] at hf4 ho4 ⊢
      obtain ⟨g1, g2⟩ := save_set k4 (.int .u64 (((readV S r).2.1 : Nat) : Int)) (.slice da (readV S r).2.2.length dc)
      have z0 := cell_obj g1 0
      have z1 := cell_obj g1 1
      have HT := hide (And.intro (fresh_turn g2 (T3.then t4) (Nat.le_refl _)) (And.intro (fun j hj => Nat.le_trans s3 (hf4 j hj) : ∀ j, (Value.slice da (readV S r).2.2.length dc).ownBlock = some j → w.heap.size ≤ j) (ho4.turn g2 (fun j hj => ho4.neObj k4 (by decide) j hj))))
      clear g1 g2 T3 t4 k4 k3 ho4 hf4 hpw HT4 Hq
      obtain ⟨n, hn⟩ : ∃ n, (readV S r).2.2.length = n := ⟨_, rfl⟩
      rw [hn] at z0 z1 HT ⊢
      have Hn := hide hn
      clear hn
      go_wp2
      refine bodyPost_ret (v := .tuple #[.agg #[.int .u64 (((readV S r).2.1 : Nat) : Int), .slice da n dc], .int .i64 (readV S r).1]) (by simp [results, Try.results20, z0, z1, go_sem]) rfl ?_
      exact ⟨_, rfl, by rw [show (readV S r).2.2.length = n from unhide Hn]; exact (unhide HT).2.2, (unhide HT).2.1, (unhide HT).1⟩
    · by_cases hc6 : te = 6 ∨ te = 9
      · have Hq : Hid (readV S r = (0, 0, [])) := hide ((unhide HQ).trans ((if_neg hc0).trans (if_pos hc6)))
        clear HQ hTL
        generalize tc.length = tl at *
        rcases hc6 with rfl | rfl
        all_goals
          go_wp2
          refine bodyPost_ret (v := .tuple #[.agg #[.int .u64 0, .slice none 0 0], .int .i64 0]) (by simp [results, Try.results20, z0, z1, go_sem]) rfl ?_
          rw [unhide Hq]
          exact ⟨_, rfl, ⟨rfl, .inl ⟨rfl, rfl⟩⟩, fun j hj => by simp [Value.ownBlock] at hj, unhide HT3⟩
      · have Hq : Hid (readV S r = (12, 0, [])) := hide ((unhide HQ).trans ((if_neg hc0).trans (if_neg hc6)))
        have e0 : (te == 0) = false := by rw [beq_eq_false_iff_ne]; exact hc0
        have e6 : (te == 6) = false := by rw [beq_eq_false_iff_ne]; omega
        have e9 : (te == 9) = false := by rw [beq_eq_false_iff_ne]; omega
        clear HQ hTL hc6 hc0
        generalize tc.length = tl at *
        go_wp2
        refine bodyPost_ret (v := .tuple #[.agg #[.int .u64 0, .slice none 0 0], .int .i64 12]) (by simp [results, Try.results20, z0, z1, go_sem]) rfl ?_
        rw [unhide Hq]
        exact ⟨_, rfl, ⟨rfl, .inl ⟨rfl, rfl⟩⟩, fun j hj => by simp [Value.ownBlock] at hj, unhide HT3⟩
  · have Hq : Hid (readV S r = (readC S (nmV r), 0, [])) := hide ((unhide HRV).trans ((if_neg h6).trans (if_pos h0)))
    have e0 : (readC S (nmV r) == 0) = false := by rw [beq_eq_false_iff_ne]; exact h0
    have e6 : (readC S (nmV r) == 6) = false := by rw [beq_eq_false_iff_ne]; exact h6
    clear h0 h6 HRV ho hB
    generalize readC S (nmV r) = rc at *
    generalize (readD S (nmV r)).length = rl at *
    go_wp2
    refine bodyPost_ret (v := .tuple #[.agg #[.int .u64 0, .slice none 0 0], .int .i64 rc]) (by simp [results, Try.results20, z0, z1, go_sem]) rfl ?_
    rw [unhide Hq]
    exact ⟨_, rfl, ⟨rfl, .inl ⟨rfl, rfl⟩⟩, fun j hj => by simp [Value.ownBlock] at hj, unhide HT⟩
end Go.Proofs.Ytodnnblnchjeiaa
