/- HeapPlays' own search for the first one. -/
import Derived.Test.YtcajomobmjapgaaHAwake
namespace Go.Proofs.Ytcajomobmjapgaa
open Go.RowKit Go.Maps
set_option linter.unusedVariables false
set_option linter.unusedSimpArgs false

/-- nothing is in up to a place, or j is the first one of those up to there -/
def LeastL (I : List Bool) (K : List Int) (n : Nat) (k : Int) : Prop :=
  (k = -1 ∧ ∀ i : Nat, i < n → I[i]? ≠ some true) ∨ ∃ (j : Nat) (r : Int), k = j ∧ j < n ∧ I[j]? = some true ∧ K[j]? = some r ∧ ∀ (i : Nat) (q : Int), i < n → I[i]? = some true → K[i]? = some q → ¬ bef (i, q) (j, r)
theorem least_none (I : List Bool) (K : List Int) : LeastL I K 0 (-1) := .inl ⟨rfl, fun i h => by omega⟩
theorem LeastL.skip {I : List Bool} {K : List Int} {n : Nat} {k : Int} (h : LeastL I K n k) (hi : I[n]? = some false) : LeastL I K (n + 1) k := by
  rcases h with ⟨h1, h2⟩ | ⟨j, r, h1, h2, h3, h4, h5⟩
  · refine .inl ⟨h1, fun i hin hit => ?_⟩
    by_cases e : i = n
    · subst e; rw [hi] at hit; simp at hit
    · exact h2 i (by omega) hit
  · refine .inr ⟨j, r, h1, by omega, h3, h4, fun i q hin hit hq => ?_⟩
    by_cases e : i = n
    · subst e; rw [hi] at hit; simp at hit
    · exact h5 i q (by omega) hit hq
theorem LeastL.stay {I : List Bool} {K : List Int} {n j : Nat} {r q : Int} (h : LeastL I K n (j : Int)) (hj : K[j]? = some r) (hq : K[n]? = some q) (hn : ¬ q < r) : LeastL I K (n + 1) (j : Int) := by
  rcases h with ⟨h1, h2⟩ | ⟨j', r', h1, h2, h3, h4, h5⟩
  · omega
  · obtain rfl : j = j' := by omega
    rw [hj] at h4; cases h4
    refine .inr ⟨j, r, rfl, by omega, h3, hj, fun i q' hin hit hq' => ?_⟩
    by_cases e : i = n
    · subst e; rw [hq] at hq'; cases hq'; unfold bef; simp only; omega
    · exact h5 i q' (by omega) hit hq'
theorem LeastL.first {I : List Bool} {K : List Int} {n : Nat} {q : Int} (h : LeastL I K n (-1)) (hi : I[n]? = some true) (hq : K[n]? = some q) : LeastL I K (n + 1) (n : Int) := by
  rcases h with ⟨h1, h2⟩ | ⟨j', r', h1, h2, h3, h4, h5⟩
  · refine .inr ⟨n, q, rfl, by omega, hi, hq, fun i q' hin hit hq' => ?_⟩
    by_cases e : i = n
    · subst e; rw [hq] at hq'; cases hq'; exact bef_irr _
    · exact absurd hit (h2 i (by omega))
  · omega
theorem LeastL.next {I : List Bool} {K : List Int} {n j : Nat} {r q : Int} (h : LeastL I K n (j : Int)) (hi : I[n]? = some true) (hj : K[j]? = some r) (hq : K[n]? = some q) (hn : q < r) : LeastL I K (n + 1) (n : Int) := by
  rcases h with ⟨h1, h2⟩ | ⟨j', r', h1, h2, h3, h4, h5⟩
  · omega
  · obtain rfl : j = j' := by omega
    rw [hj] at h4; cases h4
    refine .inr ⟨n, q, rfl, by omega, hi, hq, fun i q' hin hit hq' => ?_⟩
    by_cases e : i = n
    · subst e; rw [hq] at hq'; cases hq'; exact bef_irr _
    · have := h5 i q' (by omega) hit hq'
      unfold bef at *
      simp only at *
      omega
theorem LeastL.at {I : List Bool} {K : List Int} {n : Nat} {k : Int} (h : LeastL I K n k) : k = -1 ∨ ∃ (j : Nat) (r : Int), k = j ∧ j < n ∧ K[j]? = some r := by
  rcases h with ⟨h1, h2⟩ | ⟨j, r, h1, h2, h3, h4, h5⟩
  · exact .inl h1
  · exact .inr ⟨j, r, h1, h2, h4⟩

/-- the law's two lists -/
structure Lists2 (w : World) (iv rv : Value) (n : Nat) (I : List Bool) (K : List Int) : Prop where
  i : OwnSl w 4 1 iv n (I.map Value.bool)
  r : OwnSl w 2 1 rv n (K.map (Value.int .i64))
theorem Lists2.turn {F : Nat → Prop} {w w' : World} {iv rv : Value} {n : Nat} {I : List Bool} {K : List Int} (h : Lists2 w iv rv n I K) (t : Turn F w w') (h1 : ∀ j, iv.ownBlock = some j → ¬ F j) (h2 : ∀ j, rv.ownBlock = some j → ¬ F j) : Lists2 w' iv rv n I K := ⟨h.i.turn t h1, h.r.turn t h2⟩

set_option maxHeartbeats 4000000 in
theorem least_walk (w : World) (gi oi ci gr or_ cr n : Nat) (I : List Bool) (K : List Int) (h : Lists2 w (.slice (some ⟨gi, oi, none⟩) n ci) (.slice (some ⟨gr, or_, none⟩) n cr) n I K) (hn : n ≤ 1099511627776) :
    Calls Try.prog 10 #[.slice (some ⟨gi, oi, none⟩) n ci, .slice (some ⟨gr, or_, none⟩) n cr] w fun e w' => ∃ k, e = .returned (.int .i64 k) ∧ LeastL I K n k ∧ Turn (fun _ => False) w w' := by
  have hIl : I.length = n := by have := h.i.1; simpa using this
  have hKl : K.length = n := by have := h.r.1; simpa using this
  have ci' : ∀ u : World, Turn (fun _ => False) w u → ∀ (j : Nat) (x : Bool), I[j]? = some x → u.cell? ⟨gi, oi + j, none⟩ = some (.bool x) := fun u t j x hx => t.cell (h.i.cells j _ (by simp [hx])) (fun h => h)
  have cr' : ∀ u : World, Turn (fun _ => False) w u → ∀ (j : Nat) (x : Int), K[j]? = some x → u.cell? ⟨gr, or_ + j, none⟩ = some (.int .i64 x) := fun u t j x hx => t.cell (h.r.cells j _ (by simp [hx])) (fun h => h)
  have CI := hide ci'
  have CR := hide cr'
  have Hi := hide hIl
  have Hk := hide hKl
  clear ci' cr' hIl hKl h
  go_enter Try.func10, Try.ntmps10
  go_wp2_with fail
  go_loopw [5, 6] (fun k i wr => ∃ (m : Nat) (q : Int), k = .int .i64 q ∧ i = .int .i64 (m : Int) ∧ m ≤ n ∧ Hid (LeastL I K m q) ∧ Turn (fun _ => False) w wr) (fun _ i _ => n - (intOf i).toNat)
  case atStart => exact ⟨0, -1, rfl, rfl, Nat.zero_le _, hide (least_none I K), Turn.refl _ _⟩
  case round =>
    obtain ⟨m, q, rfl, rfl, hm, hL, t⟩ := hrel
    by_cases hmn : m < n
    · obtain ⟨x, hx⟩ : ∃ x, I[m]? = some x := ⟨I[m]'(by rw [unhide Hi]; exact hmn), by simp [unhide Hi, hmn]⟩
      obtain ⟨r, hr⟩ : ∃ r, K[m]? = some r := ⟨K[m]'(by rw [unhide Hk]; exact hmn), by simp [unhide Hk, hmn]⟩
      have c0 := unhide CI wr t m x hx
      have c1 := unhide CR wr t m r hr
      have Hx := hide hx
      have Hr := hide hr
      clear hx hr
      cases x with
      | false =>
        have L2 := hide ((unhide hL).skip (unhide Hx))
        go_wp2_with fail
        go_quiet (fail)
        have T2 := t.then ((Turn.refl (fun _ => False) wr).drewN nq)
        go_wp2_with fail
        exact ⟨⟨m + 1, q, rfl, by go_num, by omega, L2, T2⟩, by simp [intOf]; omega⟩
      | true =>
        rcases (unhide hL).at with rfl | ⟨j, s, rfl, hj, hs⟩
        · have L2 := hide ((unhide hL).first (unhide Hx) (unhide Hr))
          go_wp2_with fail
          go_quiet (fail)
          have T2 := t.then ((Turn.refl (fun _ => False) wr).drewN nq)
          go_wp2_with fail
          exact ⟨⟨m + 1, (m : Int), rfl, by go_num, by omega, L2, T2⟩, by simp [intOf]; omega⟩
        · have c2 := unhide CR wr t j s hs
          have hjn : j < n := by omega
          by_cases hlt : r < s
          · have L2 := hide ((unhide hL).next (unhide Hx) hs (unhide Hr) hlt)
            have hd : decide (r < s) = true := decide_eq_true hlt
            clear hs
            go_wp2_with fail
            go_quiet (fail)
            have T2 := t.then ((Turn.refl (fun _ => False) wr).drewN nq)
            go_wp2_with fail
            exact ⟨⟨m + 1, (m : Int), rfl, by go_num, by omega, L2, T2⟩, by simp [intOf]; omega⟩
          · have L2 := hide ((unhide hL).stay hs (unhide Hr) hlt)
            have hd : decide (r < s) = false := decide_eq_false hlt
            clear hs
            go_wp2_with fail
            go_quiet (fail)
            have T2 := t.then ((Turn.refl (fun _ => False) wr).drewN nq)
            go_wp2_with fail
            exact ⟨⟨m + 1, (j : Int), rfl, by go_num, by omega, L2, T2⟩, by simp [intOf]; omega⟩
    · obtain rfl : m = n := by omega
      go_wp2_with fail
      go_ret
      exact ⟨q, rfl, unhide hL, t⟩
end Go.Proofs.Ytcajomobmjapgaa
