/- The reference's Scan; lists of byte lists held against each other. -/
import Derived.Test.YtkmeedefaceknaaFScan
import Derived.Test.YtkmeedefaceknaaFRef
import Derived.Test.YtkmeedefaceknaaBOwn
namespace Go.Proofs.Ytkmeedefaceknaa
open Go.RowKit Go.Maps
set_option linter.unusedVariables false
set_option linter.unusedSimpArgs false

set_option maxHeartbeats 2000000 in
theorem rScan_walk (B : Nat → Prop) (v : Value) (zs : List Int) (w : World) (hb : Bytes zs) (hz : zs.length ≤ 1099511627776) (hr : Row .u8 B w v zs) :
    Calls Try.prog 18 #[v] w fun e w' => ∃ x, e = .returned (.tuple #[x, .int .i64 (((scanT zs).2.1 : Nat) : Int), .int .i64 (scanT zs).2.2]) ∧ Lists w' w.heap.size x (scanT zs).1 ∧ Turn (fun _ => False) w w' := by
  obtain ⟨a, c, rfl⟩ := hr.slice
  have Hb := hide hb
  clear hb
  go_enter Try.func18, Try.ntmps18
  go_wp2_with fail
  go_loopw [5, 6] (fun s i wr => ∃ (n : Nat) (D : List (List Int)), i = .int .i64 (n : Int) ∧ Lists wr w.heap.size s D ∧ Turn (fun _ => False) w wr ∧ Hid (SoFar zs D n) ∧ n ≤ zs.length) (fun _ i _ => zs.length - (intOf i).toNat)
  case atStart => exact ⟨0, [], rfl, lists_none _ _, Turn.refl _ _, hide (soFar_none zs), Nat.zero_le _⟩
  case round =>
    obtain ⟨n, D, rfl, hL, hT, hS, hn⟩ := hrel
    obtain ⟨x', hx', hrow⟩ := from_u8 (hr.turn hT (fun _ _ h => h)) n hn
    obtain ⟨ad, cd, rfl⟩ := hL.slice
    go_wp2_with fail
    refine (rTake_walk B x' (zs.drop n) _ ((unhide Hb).drop n) hrow).mono ?_
    rintro e w1 ⟨x, rfl, ho, hf, T1⟩
    have hL1 := hL.turn T1 (fun _ _ h => h)
    have hT1 := hT.then T1
    have hf1 : ∀ j, x.ownBlock = some j → w.heap.size ≤ j := fun j hj => Nat.le_trans hT.size (hf j hj)
    obtain ⟨ax, cx, rfl⟩ := ho.form
    by_cases h0 : (takeT (zs.drop n)).2.2 = 0
    · obtain ⟨hS2, h10⟩ := (unhide hS).more h0
      have hDl : D.length ≤ 1099511627776 := by have := (unhide hS).2.1; omega
      rw [h0]
      obtain ⟨v2, w2, hrun, hL2, hT2⟩ := Lists.push hT1 rfl hL1 ho hf1 hDl
      have hn2 := hS2.1
      have HS2 := hide hS2
      clear hS hS2 h0 ho hf hf1 hL hL1 hT hT1 T1 hx' hrow
      generalize (takeT (zs.drop n)).1 = Y at *
      generalize (takeT (zs.drop n)).2.1 = M at *
      go_wp2_with (at_builtin; refine list_append_run rfl _ _ 33 rfl _ _ _ _ rfl rfl hrun ?_)
      exact ⟨⟨n + M, D ++ [Y], by go_num, hL2, hT2, HS2, hn2⟩, by simp [intOf]; omega⟩
    · have hst := (unhide hS).stop h0
      clear ho hf hf1 hL hS hx' hrow
      generalize (takeT (zs.drop n)).2.2 = E at *
      by_cases h6 : E = 6 ∨ E = 9
      · rw [if_pos h6] at hst
        have Hst := hide hst
        clear hst h0
        rcases h6 with rfl | rfl
        all_goals go_wp2
        all_goals go_ret3
        all_goals rw [unhide Hst]
        all_goals exact ⟨_, rfl, hL1, hT1⟩
      · rw [if_neg h6] at hst
        have Hst := hide hst
        have n6 : (E == 6) = false := by simp; omega
        have n9 : (E == 9) = false := by simp; omega
        have n0 : (E != 0) = true := by simpa using h0
        clear hst h0 h6
        go_wp2
        go_ret3
        rw [unhide Hst]
        exact ⟨_, rfl, hL1, hT1⟩

set_option maxHeartbeats 400000 in
theorem sames_none (a a' : Option Addr) (c c' : Nat) (w : World) :
    Calls Try.prog 19 #[.slice a 0 c, .slice a' 0 c', .func (.func 13) #[] #[]] w fun e w' => e = .returned (.bool true) ∧ ∃ n, w' = w.drewN n := by
  go_enter Try.func19, Try.ntmps19
  go_wp2
  refine wp_loop_rounds 1 ?_; rw [rounds_succ]
  go_wp2
  go_ret
  exact ⟨rfl, 0, rfl⟩
set_option maxHeartbeats 1000000 in
theorem sames_walk (w : World) (b b' : Nat) (v v' : Value) (zss : List (List Int)) (h : Lists w b v zss) (h' : Lists w b' v' zss) (hm : zss.length ≤ 1099511627776) :
    Calls Try.prog 19 #[v, v', .func (.func 13) #[] #[]] w fun e w' => e = .returned (.bool true) ∧ ∃ n, w' = w.drewN n := by
  by_cases h0 : zss.length = 0
  · obtain ⟨a, c, rfl⟩ := h.slice
    obtain ⟨a', c', rfl⟩ := h'.slice
    rw [h0]
    exact sames_none a a' c c' w
  · obtain ⟨g, off, cap, _, rfl, q1⟩ := h.at 0 (by omega)
    obtain ⟨g', off', cap', _, rfl, q2⟩ := h'.at 0 (by omega)
    have H : Hid (∀ k, k < zss.length → ∃ u u' z, w.cell? ⟨g, off + k, none⟩ = some u ∧ w.cell? ⟨g', off' + k, none⟩ = some u' ∧ Row .u8 any w u z ∧ Row .u8 any w u' z) := by
      refine hide fun k hk => ?_
      obtain ⟨g1, o1, c1, u, e1, hc1, ho1, _⟩ := h.at k hk
      obtain ⟨g2, o2, c2, u', e2, hc2, ho2, _⟩ := h'.at k hk
      simp at e1 e2
      obtain ⟨⟨rfl, rfl⟩, _⟩ := e1
      obtain ⟨⟨rfl, rfl⟩, _⟩ := e2
      exact ⟨u, u', _, hc1, hc2, (row_of_sl ho1).mono (fun _ _ => trivial), (row_of_sl ho2).mono (fun _ _ => trivial)⟩
    clear h h' q1 q2
    generalize zss.length = N at *
    go_enter Try.func19, Try.ntmps19
    go_wp2
    go_loopw [7] (fun i wr => ∃ k : Nat, k ≤ N ∧ i = .int .i64 k ∧ Hid (∃ m, wr = w.drewN m)) (fun i _ => N - (intOf i).toNat)
    case atStart => exact ⟨0, Nat.zero_le _, rfl, hide ⟨0, rfl⟩⟩
    case round =>
      obtain ⟨k, hk, rfl, hwr⟩ := hrel
      by_cases hlt : k < N
      · obtain ⟨u, u', z, q1, q2, q3, q4⟩ := unhide H k hlt
        have T : Turn (fun _ => False) w wr := by obtain ⟨m, rfl⟩ := unhide hwr; exact (Turn.refl _ w).drewN m
        have r1 := T.cell q1 (fun h => h)
        have r2 := T.cell q2 (fun h => h)
        have r3 := fun m => q3.turn (T.drewN m) (fun _ _ h => h)
        have r4 := fun m => q4.turn (T.drewN m) (fun _ _ h => h)
        obtain ⟨a1, c1, rfl⟩ := q3.slice
        obtain ⟨a2, c2, rfl⟩ := q4.slice
        clear q1 q2 q3 q4 T
        go_wp2
        go_quiet ((go_at_call 13; exact Calls.quiet_of_same (bytes_walk any any _ _ z _ (r3 _) (r4 _))))
        go_wp2
        refine ⟨⟨k + 1, by omega, by go_num, hide ?_⟩, by simp [intOf]; omega⟩
        obtain ⟨m, rfl⟩ := unhide hwr
        exact ⟨m + nq, drewN_more w m nq⟩
      · go_wp2
        go_ret
        exact ⟨rfl, unhide hwr⟩
end Go.Proofs.Ytkmeedefaceknaa
