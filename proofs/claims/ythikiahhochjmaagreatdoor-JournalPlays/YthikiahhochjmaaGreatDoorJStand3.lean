/- JournalPlays: Append over what stands between two steps; and a step of every kind. -/
import Derived.Test.YthikiahhochjmaaGreatDoorJStand2
import Derived.Test.YthikiahhochjmaaGreatDoorJStepA
import Derived.Test.YthikiahhochjmaaGreatDoorJStepB
namespace Go.Proofs.YthikiahhochjmaaGreatDoor
open Go.RowKit Go.Maps Go.Sort
set_option linter.unusedVariables false
set_option linter.unusedSimpArgs false

theorem Stand.append {w : World} {T D b0 most n : Nat} (h : Stand w T D b0 most n) (hn : n + 1 < 100) (h1 : 1 ≤ most) (hm : most ≤ 1000) (hb : b0 ≤ w.heap.size)
    (kd N : Int) (bv kv : Value) (Z : List Int) (hZ : Bytes Z) (hrow : Row .u8 (fun b => b < b0) w bv Z) (hZl : Z.length ≤ 140737488351232) (n1 : (kd == 1) = false) (n2 : (kd == 2) = false) (n3 : (kd == 3) = false) (n4 : (kd == 4) = false) (n5 : (kd == 5) = false) :
    Calls Tryz.prog 11 #[.pointer (some ⟨T, 0, none⟩), .agg #[.int .i64 kd, .int .i64 N, bv, kv]] w fun e' w' => e' = .returned (.bool true) ∧
      Turn (fun j => b0 ≤ j) w w' ∧ Stand w' T D b0 most (n + 1) := by
  obtain ⟨J, H, M, av, X, S, A, first, might, safe, more, dn, fell, s⟩ := h
  have hA := s.len
  have hnx := s.nx
  have hrow' := hrow.mono (B' := fun b => b < w.heap.size ∧ ¬ H b ∧ b ≠ T) (fun b hb' => ⟨by omega, fun q => by have := s.hH b q; omega, fun q => by have := s.hT; omega⟩)
  have hZ3 : (Z.take 300).length ≤ 300 := by rw [List.length_take]; omega
  have tf : ∀ w', Turn (fun j => j = T ∨ H j ∨ M j) w w' → Turn (fun j => b0 ≤ j) w w' := fun w' t => t.mono (fun j hj => by
    rcases hj with q | q | q
    · rw [q]; exact s.hT
    · exact s.hH j q
    · exact s.hM j q)
  rcases s.is with ⟨rfl, rfl, k, hc⟩ | ⟨rfl, hs⟩
  · rcases app_calm (b := Z.take 300) hc (by rw [hc.mo]; exact h1) hZ3 (by omega) with ⟨e, k', hc'⟩ | ⟨e, k', hc'⟩ | ⟨e, hs'⟩
    · refine (app_ok w T D J H M av X S A most might might safe more fell s.tr s.fit (by omega) (by omega) kd N bv kv Z hZ hrow' hZl n1 n2 n3 n4 n5 0 e rfl).mono ?_
      rintro e' w' ⟨rfl, t, H', M', av', hH', hM', tr'⟩
      have hl : (A ++ [Z.take 300]).length ≤ n + 1 := by simp; omega
      exact ⟨rfl, tf w' t, J, H', M', av', _, _, _, might, might, safe, more, _, fell, ⟨tr', s.hT, fun j hj => (hH' j hj).elim (s.hH j) (fun q => by omega), fun j hj => (hM' j hj).elim (s.hM j) (fun q => by omega), hl, hc'.fit (by omega) hm, by rw [hc'.top]; exact hl, .inl ⟨rfl, rfl, k', hc'⟩⟩⟩
    · refine (app_full w T D J H M av X S A most might might safe more fell s.tr s.fit (by omega) (by omega) kd N bv kv Z hZ hrow' hZl n1 n2 n3 n4 n5 4 e rfl).mono ?_
      rintro e' w' ⟨rfl, t, H', hH', tr'⟩
      exact ⟨rfl, tf w' t, J, H', M, av, _, _, A, might, might, safe, more, _, fell, ⟨tr', s.hT, fun j hj => (hH' j hj).elim (s.hH j) (fun q => by omega), s.hM, by omega, hc'.fit (by omega) hm, by rw [hc'.top]; omega, .inl ⟨rfl, rfl, k', hc'⟩⟩⟩
    · have L := app_left hc (by omega) hm h1 hZ3 e
      refine (app_hit w T D J H M av X S A most might might safe more fell s.tr s.fit (by omega) (by omega) kd N bv kv Z hZ hrow' hZl n1 n2 n3 n4 n5 3 e rfl L.2.2).mono ?_
      rintro e' w' ⟨rfl, t, H', M', av', hH', hM', tr'⟩
      have hl : (A ++ [Z.take 300]).length ≤ n + 1 := by simp; omega
      exact ⟨rfl, tf w' t, J, H', M', av', _, _, _, might, might, safe, true, true, fell, ⟨tr', s.hT, fun j hj => (hH' j hj).elim (s.hH j) (fun q => by omega), fun j hj => (hM' j hj).elim (s.hM j) (fun q => by omega), hl, L.1, by have := L.2.1; omega, .inr ⟨rfl, hs'⟩⟩⟩
  · have e := struck_append (S := S) (Z.take 300) hs.xd
    refine (app_dn w T D J H M av X S A most first might safe more fell s.tr s.fit (by omega) (by omega) kd N bv kv Z hZ hrow' hZl n1 n2 n3 n4 n5 3 (by rw [e]) rfl).mono ?_
    rintro e' w' ⟨rfl, t, H', hH', tr'⟩
    rw [e] at tr'
    exact ⟨rfl, tf w' t, J, H', M, av, X, S, A, first, might, safe, more, true, fell, ⟨tr', s.hT, fun j hj => (hH' j hj).elim (s.hH j) (fun q => by omega), s.hM, by omega, s.fit, by omega, .inr ⟨rfl, hs⟩⟩⟩
theorem Stand.more {w : World} {T D b0 most n m : Nat} (h : Stand w T D b0 most n) (hnm : n ≤ m) : Stand w T D b0 most m := by
  obtain ⟨J, H, M, av, X, S, A, first, might, safe, more, dn, fell, s⟩ := h
  exact ⟨J, H, M, av, X, S, A, first, might, safe, more, dn, fell, ⟨s.tr, s.hT, s.hH, s.hM, Nat.le_trans s.len hnm, s.fit, Nat.le_trans s.nx hnm, s.is⟩⟩
/-- a step of any kind -/
theorem Stand.step {w : World} {T D b0 most n : Nat} (h : Stand w T D b0 most n) (hn : n + 1 < 100) (h1 : 1 ≤ most) (hm : most ≤ 1000) (hb : b0 ≤ w.heap.size)
    (kd N : Int) (hN : N ≤ 9223372036854775807) (bv kv : Value) (Z ks : List Int) (hZ : Bytes Z) (hrow : Row .u8 (fun b => b < b0) w bv Z) (hks : Row .i64 (fun b => b < b0) w kv ks) (hZl : Z.length ≤ 140737488351232) :
    Calls Tryz.prog 11 #[.pointer (some ⟨T, 0, none⟩), .agg #[.int .i64 kd, .int .i64 N, bv, kv]] w fun e' w' => e' = .returned (.bool true) ∧
      Turn (fun j => b0 ≤ j) w w' ∧ Stand w' T D b0 most (n + 1) := by
  by_cases e1 : kd = 1
  · subst e1; exact (h.sync (by omega) hm hb N bv kv).mono (fun e' w' q => ⟨q.1, q.2.1, q.2.2.more (Nat.le_succ n)⟩)
  by_cases e2 : kd = 2
  · subst e2; exact (h.trim (by omega) hm hb N bv kv).mono (fun e' w' q => ⟨q.1, q.2.1, q.2.2.more (Nat.le_succ n)⟩)
  by_cases e3 : kd = 3
  · subst e3; exact (h.arm hb N hN bv kv).mono (fun e' w' q => ⟨q.1, q.2.1, q.2.2.more (Nat.le_succ n)⟩)
  by_cases e4 : kd = 4
  · subst e4; exact (h.crash (by omega) h1 hm hb N bv kv ks hks).mono (fun e' w' q => ⟨q.1, q.2.1, q.2.2.more (Nat.le_succ n)⟩)
  by_cases e5 : kd = 5
  · subst e5; exact (h.open (by omega) h1 hm hb N bv kv).mono (fun e' w' q => ⟨q.1, q.2.1, q.2.2.more (Nat.le_succ n)⟩)
  exact h.append hn h1 hm hb kd N bv kv Z hZ hrow hZl (by simpa using e1) (by simpa using e2) (by simpa using e3) (by simpa using e4) (by simpa using e5)
end Go.Proofs.YthikiahhochjmaaGreatDoor
