/- Which files there are; what another wrote. -/
import Derived.Test.YtodnnblnchjeiaaVAwake
namespace Go.Proofs.Ytodnnblnchjeiaa
open Go.RowKit Go.Maps
set_option linter.unusedVariables false
set_option linter.unusedSimpArgs false

theorem names_of {l : List Fl} (hr : Rise Fl.n l) (hn : ∀ f ∈ l, f.n = [115, 48] ∨ f.n = [115, 49]) :
    l.map Fl.n = (if (getK Fl.n [115, 48] l).isSome then [[115, 48]] else []) ++ (if (getK Fl.n [115, 49] l).isSome then [[115, 49]] else []) := by
  match l, hr, hn with
  | [], _, _ => rfl
  | [a], _, hn =>
    rcases hn a (by simp) with h | h
    · simp [getK, h]
    · simp [getK, h]
  | [a, b], hr, hn =>
    unfold Rise at hr
    rw [List.pairwise_cons] at hr
    have h1 := hr.1 b (by simp)
    rcases hn a (by simp) with ha | ha <;> rcases hn b (by simp) with hb | hb
    · rw [ha, hb] at h1; exact absurd h1 (by decide)
    · simp [getK, ha, hb]
    · rw [ha, hb] at h1; exact absurd h1 (by decide)
    · rw [ha, hb] at h1; exact absurd h1 (by decide)
  | a :: b :: c :: r, hr, hn =>
    have := (two_files hr hn).1
    simp at this
/-- what stands between two saves of b -/
structure Grow8 (S : Dk) (i : Nat) (b : List Int) (L : List Int) : Prop where
  q : Quiet S i L
  down : S.down = false
  arm : S.arm = 0
  size : S.size = 100000
  room : used S.fs ≤ 4040
  few : Few i L
  low : L.length ≤ 2000
  oth : (getK Fl.n (nmV (i + 1)) S.fs).isSome = decide (1 < i)
theorem grow_new (b : List Int) : Grow8 (newS 100000) 0 b [] := ⟨quiet_new _, rfl, rfl, rfl, by simp [newS, used], few_zero 0 (by decide), by simp, rfl⟩
theorem grow_save {S : Dk} {i : Nat} {b L : List Int} (h : Grow8 S i b L) (hb : Bytes b) (hl : b.length ≤ 2000) (hi : i < 20) :
    ∃ S', saveV ⟨i, L, false⟩ S b = (0, ⟨i + 1, b, false⟩, S') ∧ Grow8 S' (i + 1) b b := by
  have fb : Few (i + 1) b := ⟨hb, hl, by omega⟩
  obtain ⟨S', e, q, d, a, z, u, g⟩ := save_fine (k := 2000) h.q h.down h.arm h.few fb (by have := h.room; have := h.size; omega) h.low hl
  refine ⟨S', e, q, d, a, z.trans h.size, u, fb, hl, ?_⟩
  rw [nmV_again, g]
  by_cases h0 : i = 0
  · rw [(h.q.none h0).2, h0]; rfl
  · rw [h.q.cur (by omega), decide_eq_true (by omega)]; rfl
theorem grow_names {S : Dk} {i : Nat} {b L : List Int} (h : Grow8 S i b L) : namesC S = 0 ∧ namesL S = if i = 0 then [] else if i = 1 then [[115, 49]] else [[115, 48], [115, 49]] := by
  refine ⟨by unfold namesC; rw [h.down]; rfl, ?_⟩
  unfold namesL
  rw [h.down]
  simp only [Bool.false_eq_true, if_false]
  rw [names_of h.q.rise h.q.names]
  have ho := h.oth
  have hc : (getK Fl.n (nmV i) S.fs).isSome = decide (0 < i) := by
    by_cases h0 : i = 0
    · rw [(h.q.none h0).2, h0]; rfl
    · rw [h.q.cur (by omega), decide_eq_true (by omega)]; rfl
  unfold nmV at ho hc
  by_cases hp : i % 2 = 0
  · rw [if_neg (by omega)] at ho
    rw [if_pos hp] at hc
    rw [ho, hc]
    by_cases h0 : i = 0
    · subst h0; rfl
    · rw [if_neg h0, if_neg (show ¬ i = 1 by omega), decide_eq_true (p := 1 < i) (by omega), decide_eq_true (p := 0 < i) (by omega)]; rfl
  · rw [if_pos (by omega)] at ho
    rw [if_neg hp] at hc
    rw [ho, hc]
    by_cases h1 : i = 1
    · subst h1; rfl
    · rw [if_neg (show ¬ i = 0 by omega), if_neg h1, decide_eq_true (p := 1 < i) (by omega), decide_eq_true (p := 0 < i) (by omega)]; rfl
/-- another one's bytes -/
def badS (b : List Int) : Dk := { newS 100000 with fs := [⟨[115, 48], b, 0⟩] }
theorem bad_append (b : List Int) (hl : b.length ≤ 2000) : appendC (newS 100000) [115, 48] b = 0 ∧ appendS (newS 100000) [115, 48] b = badS b := by
  have hf : fullB (newS 100000) [115, 48] b = false := by simp [fullB, newS, used]; omega
  have hr : refuse (newS 100000) [115, 48] = 0 := by decide
  unfold appendC appendS
  rw [hr, hf]
  exact ⟨rfl, rfl⟩
theorem bad_take (b : List Int) (h0 : 0 < b.length) (h1 : b.getD 0 0 ≠ 165) (h2 : b.getD 0 0 ≠ 0) : (takeT b).2.2 = 10 := by
  unfold takeT
  rw [if_neg (by omega), if_pos ⟨h1, h2⟩]
theorem bad_open (b : List Int) (h0 : 0 < b.length) (h1 : b.getD 0 0 ≠ 165) (h2 : b.getD 0 0 ≠ 0) : openV (badS b) = (12, 0, []) := by
  have ht := bad_take b h0 h1 h2
  have hd : readV (badS b) 0 = bytesV b 0 := read_some (S := badS b) (n := 0) (f := ⟨[115, 48], b, 0⟩) rfl rfl 0 rfl
  have e : readV (badS b) 0 = (12, 0, []) := by
    rw [hd]; unfold bytesV; rw [ht]; rfl
  unfold openV
  rw [e]; rfl
theorem bad_bytes {b : List Int} (hb : Bytes b) : ∀ f ∈ (badS b).fs, Bytes f.d := by
  intro f hf
  simp [badS] at hf
  subst hf; exact hb
theorem rem_mod (a : Int) (k : Nat) (h0 : 0 < k) (h1 : k ≤ 10000) : ∃ n : Nat, n < k ∧ wrap64 ((IntKind.u64.wrap a).tmod (k : Int)) = (n : Int) := by
  refine ⟨(a % 18446744073709551616 % (k : Int)).toNat, ?_, ?_⟩
  · have := Int.emod_lt_of_pos (a % 18446744073709551616) (show (0 : Int) < k by omega)
    omega
  · have e : (IntKind.u64.wrap a).tmod (k : Int) = a % 18446744073709551616 % (k : Int) := by
      rw [IntKind.wrap_u64, Int.tmod_eq_emod_of_nonneg (by omega)]
    have h2 := Int.emod_lt_of_pos (a % 18446744073709551616) (show (0 : Int) < k by omega)
    have h3 := Int.emod_nonneg (a % 18446744073709551616) (show (k : Int) ≠ 0 by omega)
    rw [e]
    unfold wrap64
    omega
end Go.Proofs.Ytodnnblnchjeiaa
