/- Lists held against each other: what hansomhelp's Same, Plain and Kept answer. -/
import Derived.Test.YtlecflgapaahgaaBase
import Derived.Deep.QuietTactic
import Derived.BigQuiet
namespace Go.Proofs.Ytlecflgapaahgaa
open Go.RowKit
set_option linter.unusedVariables false

theorem eq_of_getD (xs zs : List Int) (hl : xs.length = zs.length) (h : ∀ j, j < xs.length → xs.getD j 0 = zs.getD j 0) : xs = zs := by
  apply List.ext_getElem hl
  intro i h1 h2
  have := h i h1
  rw [List.getD_eq_getElem?_getD, List.getD_eq_getElem?_getD, List.getElem?_eq_getElem h1, List.getElem?_eq_getElem h2] at this
  exact this
theorem drewN_more (w : World) (m n : Nat) : (w.drewN m).drewN n = w.drewN (m + n) := World.drewN_drewN ..
theorem drewN_below (w : World) (n : Nat) : Below w.heap.size w (w.drewN n) := by
  induction n with
  | zero => exact Below.refl _ _
  | succ n ih => exact ih.drew

set_option maxHeartbeats 400000 in
theorem one_u64 (x y : Int) (w : World) : Calls Try.prog 36 #[.int .u64 x, .int .u64 y] w fun e w' => e = .returned (.bool (x == y)) ∧ w' = w := by
  go_enter Try.func36, Try.ntmps36
  go_wp2
  go_ret
  exact ⟨rfl, rfl⟩

set_option maxHeartbeats 400000 in
theorem same_u64 (b off c b' off' c' : Nat) (xs zs : List Int) (w : World) (hm : xs.length ≤ maxLen) (hm' : zs.length ≤ maxLen) (hcx : Cells .u64 w b off xs) (hc : Cells .u64 w b' off' zs) (hl : xs.length = zs.length) :
    Calls Try.prog 35 #[.slice (some ⟨b, off, none⟩) xs.length c, .slice (some ⟨b', off', none⟩) zs.length c', .func (.func 36) #[] #[]] w fun e w' => e = .returned (.bool (decide (xs = zs))) ∧ ∃ n, w' = w.drewN n := by
  unfold maxLen at hm hm'
  have Hl := hide hl
  have hne : ((xs.length : Int) != (zs.length : Int)) = false := by rw [unhide Hl]; simp
  clear hl
  go_enter Try.func35, Try.ntmps35
  go_wp2
  go_loopw [7] (fun i wr => ∃ k : Nat, k ≤ xs.length ∧ i = .int .i64 k ∧ Hid (∃ m, wr = w.drewN m) ∧ Hid (∀ j, j < k → xs.getD j 0 = zs.getD j 0)) (fun i _ => xs.length - (intOf i).toNat)
  case atStart => exact ⟨0, Nat.zero_le _, rfl, hide ⟨0, rfl⟩, hide (fun j hj => by omega)⟩
  case round =>
    obtain ⟨k, hk, rfl, hwr, hsm⟩ := hrel
    by_cases hlt : k < xs.length
    · have hlt' : k < zs.length := by rw [← unhide Hl]; exact hlt
      have hcellx : wr.cell? ⟨b, off + k, none⟩ = some (.int .u64 (xs.getD k 0)) := by obtain ⟨m, rfl⟩ := unhide hwr; exact hcx k hlt
      have hcellz : wr.cell? ⟨b', off' + k, none⟩ = some (.int .u64 (zs.getD k 0)) := by obtain ⟨m, rfl⟩ := unhide hwr; exact hc k hlt'
      generalize hx : xs.getD k 0 = x at *
      generalize hz : zs.getD k 0 = z at *
      have Hx := hide hx
      have Hz := hide hz
      clear hx hz
      by_cases hxz : x = z
      · subst hxz
        go_wp2
        go_quiet ((go_at_call 36; exact Calls.quiet_of_same (one_u64 _ _ _)))
        go_wp2
        refine ⟨⟨k + 1, by omega, by go_num, hide ?_, hide ?_⟩, by simp [intOf]; omega⟩
        · obtain ⟨m, rfl⟩ := unhide hwr
          exact ⟨m + nq, drewN_more w m nq⟩
        · intro j hj
          by_cases e : j = k
          · subst e; rw [unhide Hx, unhide Hz]
          · exact unhide hsm j (by omega)
      · have hb : (x == z) = false := by simp [hxz]
        have Hne : Hid (decide (xs = zs) = false) := by
          refine hide ?_
          rw [decide_eq_false_iff_not]
          intro e
          apply hxz
          rw [← unhide Hx, ← unhide Hz, e]
        clear hxz
        go_wp2
        go_quiet ((go_at_call 36; exact Calls.quiet_of_same (one_u64 _ _ _)))
        go_wp2
        go_ret
        refine ⟨ret_bool (unhide Hne).symm, ?_⟩
        obtain ⟨m, rfl⟩ := unhide hwr
        exact ⟨m + nq, drewN_more w m nq⟩
    · have heq : xs = zs := eq_of_getD xs zs (unhide Hl) (fun j hj => unhide hsm j (by omega))
      have Hd : Hid (decide (xs = zs) = true) := hide (by simp [heq])
      clear heq
      go_wp2
      go_ret
      exact ⟨ret_bool (unhide Hd).symm, unhide hwr⟩

set_option maxHeartbeats 400000 in
theorem same_none_u64 (a a' : Option Addr) (c c' : Nat) (w : World) :
    Calls Try.prog 35 #[.slice a 0 c, .slice a' 0 c', .func (.func 36) #[] #[]] w fun e w' => e = .returned (.bool true) ∧ ∃ n, w' = w.drewN n := by
  go_enter Try.func35, Try.ntmps35
  go_wp2
  refine wp_loop_rounds 1 ?_; rw [rounds_succ]
  go_wp2
  go_ret
  exact ⟨rfl, 0, rfl⟩

set_option maxHeartbeats 400000 in
theorem same_len_u64 (a a' : Option Addr) (n n' c c' : Nat) (w : World) (h : n ≠ n') :
    Calls Try.prog 35 #[.slice a n c, .slice a' n' c', .func (.func 36) #[] #[]] w fun e w' => e = .returned (.bool false) ∧ ∃ n, w' = w.drewN n := by
  have hne : ((n : Int) != (n' : Int)) = true := by rw [bne_iff_ne]; omega
  clear h
  go_enter Try.func35, Try.ntmps35
  go_wp2
  go_ret
  exact ⟨rfl, 0, rfl⟩

theorem same_any_u64 (v v' : Value) (xs zs : List Int) (w : World) (hr : Row .u64 w v xs) (hr' : Row .u64 w v' zs) :
    Calls Try.prog 35 #[v, v', .func (.func 36) #[] #[]] w fun e w' => e = .returned (.bool (decide (xs = zs))) ∧ ∃ n, w' = w.drewN n := by
  by_cases hl : xs.length = zs.length
  · by_cases h0 : xs.length = 0
    · have e1 := List.eq_nil_of_length_eq_zero h0
      have e2 := List.eq_nil_of_length_eq_zero (hl.symm.trans h0)
      subst e1 e2
      obtain ⟨a, c, rfl⟩ := hr.slice
      obtain ⟨a', c', rfl⟩ := hr'.slice
      exact same_none_u64 a a' c c' w
    · rcases hr with ⟨_, _, rfl, _, rfl⟩ | ⟨b, off, c, rfl, hlc, hm, hc⟩
      · exact absurd rfl h0
      rcases hr' with ⟨_, _, rfl, _, rfl⟩ | ⟨b', off', c', rfl, hlc', hm', hc'⟩
      · exact absurd hl h0
      exact same_u64 b off c b' off' c' xs zs w (by omega) (by omega) hc hc' hl
  · have hd : decide (xs = zs) = false := by
      rw [decide_eq_false_iff_not]; intro e; exact hl (by rw [e])
    rw [hd]
    obtain ⟨a, c, rfl⟩ := hr.slice
    obtain ⟨a', c', rfl⟩ := hr'.slice
    exact same_len_u64 a a' _ _ c c' w hl

set_option maxHeartbeats 400000 in
theorem plain_any_u64 (v v' : Value) (xs zs : List Int) (w : World) (hr : Row .u64 w v xs) (hr' : Row .u64 w v' zs) :
    Calls Try.prog 22 #[v, v'] w fun e w' => e = .returned (.bool (decide (xs = zs))) ∧ ∃ n, w' = w.drewN n := by
  go_enter Try.func22, Try.ntmps22
  go_wp2_with fail
  refine (same_any_u64 v v' xs zs _ hr hr').mono ?_
  rintro e w' ⟨rfl, n, hw'⟩
  subst hw'
  go_wp2
  go_ret
  exact ⟨rfl, n, rfl⟩
set_option maxHeartbeats 400000 in
theorem one_i64 (x y : Int) (w : World) : Calls Try.prog 41 #[.int .i64 x, .int .i64 y] w fun e w' => e = .returned (.bool (x == y)) ∧ w' = w := by
  go_enter Try.func41, Try.ntmps41
  go_wp2
  go_ret
  exact ⟨rfl, rfl⟩

set_option maxHeartbeats 400000 in
theorem same_i64 (b off c b' off' c' : Nat) (xs zs : List Int) (w : World) (hm : xs.length ≤ maxLen) (hm' : zs.length ≤ maxLen) (hcx : Cells .i64 w b off xs) (hc : Cells .i64 w b' off' zs) (hl : xs.length = zs.length) :
    Calls Try.prog 40 #[.slice (some ⟨b, off, none⟩) xs.length c, .slice (some ⟨b', off', none⟩) zs.length c', .func (.func 41) #[] #[]] w fun e w' => e = .returned (.bool (decide (xs = zs))) ∧ ∃ n, w' = w.drewN n := by
  unfold maxLen at hm hm'
  have Hl := hide hl
  have hne : ((xs.length : Int) != (zs.length : Int)) = false := by rw [unhide Hl]; simp
  clear hl
  go_enter Try.func40, Try.ntmps40
  go_wp2
  go_loopw [7] (fun i wr => ∃ k : Nat, k ≤ xs.length ∧ i = .int .i64 k ∧ Hid (∃ m, wr = w.drewN m) ∧ Hid (∀ j, j < k → xs.getD j 0 = zs.getD j 0)) (fun i _ => xs.length - (intOf i).toNat)
  case atStart => exact ⟨0, Nat.zero_le _, rfl, hide ⟨0, rfl⟩, hide (fun j hj => by omega)⟩
  case round =>
    obtain ⟨k, hk, rfl, hwr, hsm⟩ := hrel
    by_cases hlt : k < xs.length
    · have hlt' : k < zs.length := by rw [← unhide Hl]; exact hlt
      have hcellx : wr.cell? ⟨b, off + k, none⟩ = some (.int .i64 (xs.getD k 0)) := by obtain ⟨m, rfl⟩ := unhide hwr; exact hcx k hlt
      have hcellz : wr.cell? ⟨b', off' + k, none⟩ = some (.int .i64 (zs.getD k 0)) := by obtain ⟨m, rfl⟩ := unhide hwr; exact hc k hlt'
      generalize hx : xs.getD k 0 = x at *
      generalize hz : zs.getD k 0 = z at *
      have Hx := hide hx
      have Hz := hide hz
      clear hx hz
      by_cases hxz : x = z
      · subst hxz
        go_wp2
        go_quiet ((go_at_call 41; exact Calls.quiet_of_same (one_i64 _ _ _)))
        go_wp2
        refine ⟨⟨k + 1, by omega, by go_num, hide ?_, hide ?_⟩, by simp [intOf]; omega⟩
        · obtain ⟨m, rfl⟩ := unhide hwr
          exact ⟨m + nq, drewN_more w m nq⟩
        · intro j hj
          by_cases e : j = k
          · subst e; rw [unhide Hx, unhide Hz]
          · exact unhide hsm j (by omega)
      · have hb : (x == z) = false := by simp [hxz]
        have Hne : Hid (decide (xs = zs) = false) := by
          refine hide ?_
          rw [decide_eq_false_iff_not]
          intro e
          apply hxz
          rw [← unhide Hx, ← unhide Hz, e]
        clear hxz
        go_wp2
        go_quiet ((go_at_call 41; exact Calls.quiet_of_same (one_i64 _ _ _)))
        go_wp2
        go_ret
        refine ⟨ret_bool (unhide Hne).symm, ?_⟩
        obtain ⟨m, rfl⟩ := unhide hwr
        exact ⟨m + nq, drewN_more w m nq⟩
    · have heq : xs = zs := eq_of_getD xs zs (unhide Hl) (fun j hj => unhide hsm j (by omega))
      have Hd : Hid (decide (xs = zs) = true) := hide (by simp [heq])
      clear heq
      go_wp2
      go_ret
      exact ⟨ret_bool (unhide Hd).symm, unhide hwr⟩

set_option maxHeartbeats 400000 in
theorem same_none_i64 (a a' : Option Addr) (c c' : Nat) (w : World) :
    Calls Try.prog 40 #[.slice a 0 c, .slice a' 0 c', .func (.func 41) #[] #[]] w fun e w' => e = .returned (.bool true) ∧ ∃ n, w' = w.drewN n := by
  go_enter Try.func40, Try.ntmps40
  go_wp2
  refine wp_loop_rounds 1 ?_; rw [rounds_succ]
  go_wp2
  go_ret
  exact ⟨rfl, 0, rfl⟩

set_option maxHeartbeats 400000 in
theorem same_len_i64 (a a' : Option Addr) (n n' c c' : Nat) (w : World) (h : n ≠ n') :
    Calls Try.prog 40 #[.slice a n c, .slice a' n' c', .func (.func 41) #[] #[]] w fun e w' => e = .returned (.bool false) ∧ ∃ n, w' = w.drewN n := by
  have hne : ((n : Int) != (n' : Int)) = true := by rw [bne_iff_ne]; omega
  clear h
  go_enter Try.func40, Try.ntmps40
  go_wp2
  go_ret
  exact ⟨rfl, 0, rfl⟩

theorem same_any_i64 (v v' : Value) (xs zs : List Int) (w : World) (hr : Row .i64 w v xs) (hr' : Row .i64 w v' zs) :
    Calls Try.prog 40 #[v, v', .func (.func 41) #[] #[]] w fun e w' => e = .returned (.bool (decide (xs = zs))) ∧ ∃ n, w' = w.drewN n := by
  by_cases hl : xs.length = zs.length
  · by_cases h0 : xs.length = 0
    · have e1 := List.eq_nil_of_length_eq_zero h0
      have e2 := List.eq_nil_of_length_eq_zero (hl.symm.trans h0)
      subst e1 e2
      obtain ⟨a, c, rfl⟩ := hr.slice
      obtain ⟨a', c', rfl⟩ := hr'.slice
      exact same_none_i64 a a' c c' w
    · rcases hr with ⟨_, _, rfl, _, rfl⟩ | ⟨b, off, c, rfl, hlc, hm, hc⟩
      · exact absurd rfl h0
      rcases hr' with ⟨_, _, rfl, _, rfl⟩ | ⟨b', off', c', rfl, hlc', hm', hc'⟩
      · exact absurd hl h0
      exact same_i64 b off c b' off' c' xs zs w (by omega) (by omega) hc hc' hl
  · have hd : decide (xs = zs) = false := by
      rw [decide_eq_false_iff_not]; intro e; exact hl (by rw [e])
    rw [hd]
    obtain ⟨a, c, rfl⟩ := hr.slice
    obtain ⟨a', c', rfl⟩ := hr'.slice
    exact same_len_i64 a a' _ _ c c' w hl

set_option maxHeartbeats 400000 in
theorem plain_any_i64 (v v' : Value) (xs zs : List Int) (w : World) (hr : Row .i64 w v xs) (hr' : Row .i64 w v' zs) :
    Calls Try.prog 33 #[v, v'] w fun e w' => e = .returned (.bool (decide (xs = zs))) ∧ ∃ n, w' = w.drewN n := by
  go_enter Try.func33, Try.ntmps33
  go_wp2_with fail
  refine (same_any_i64 v v' xs zs _ hr hr').mono ?_
  rintro e w' ⟨rfl, n, hw'⟩
  subst hw'
  go_wp2
  go_ret
  exact ⟨rfl, n, rfl⟩
end Go.Proofs.Ytlecflgapaahgaa
