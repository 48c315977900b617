/- JournalPlays: Arm, Trim, Open and the fall, over what stands between two steps. -/
import Derived.Test.YthikiahhochjmaaGreatDoorJStand
import Derived.Test.YthikiahhochjmaaGreatDoorJStepT
namespace Go.Proofs.YthikiahhochjmaaGreatDoor
open Go.RowKit Go.Maps Go.Sort
set_option linter.unusedVariables false
set_option linter.unusedSimpArgs false

theorem Stand.arm {w : World} {T D b0 most n : Nat} (h : Stand w T D b0 most n) (hb : b0 ≤ w.heap.size) (N : Int) (hN : N ≤ 9223372036854775807) (bv kv : Value) :
    Calls Tryz.prog 11 #[.pointer (some ⟨T, 0, none⟩), .agg #[.int .i64 3, .int .i64 N, bv, kv]] w fun e' w' => e' = .returned (.bool true) ∧
      Turn (fun j => b0 ≤ j) w w' ∧ Stand w' T D b0 most n := by
  obtain ⟨J, H, M, av, X, S, A, first, might, safe, more, dn, fell, s⟩ := h
  refine (arm_step w T D J H M av X S A most first might safe more dn fell s.tr N bv kv hN).mono ?_
  rintro e' w' ⟨rfl, t, H', hH', tr'⟩
  refine ⟨rfl, t.mono (fun j hj => hj.elim (fun q => by rw [q]; exact s.hT) (s.hH j)), J, H', M, av, X, _, A, first, might, safe, more, dn, fell, ⟨tr', s.hT, fun j hj => (hH' j hj).elim (s.hH j) (fun q => by omega), s.hM, s.len, s.fit, s.nx, ?_⟩⟩
  rcases s.is with ⟨rfl, rfl, k, hc⟩ | ⟨rfl, hs⟩
  · exact .inl ⟨rfl, rfl, k, ⟨hc.jv.fs rfl, hc.top, hc.safe, hc.sd, hc.xd, hc.st, hc.size, hc.mo⟩⟩
  · obtain ⟨segs, k', f, j, q⟩ := hs.jv
    exact .inr ⟨rfl, ⟨⟨segs, k', f, j.fs rfl, q⟩, hs.sd, hs.xd, hs.size⟩⟩

theorem Stand.trim {w : World} {T D b0 most n : Nat} (h : Stand w T D b0 most n) (hn : n < 100) (hm : most ≤ 1000) (hb : b0 ≤ w.heap.size) (N : Int) (bv kv : Value) :
    Calls Tryz.prog 11 #[.pointer (some ⟨T, 0, none⟩), .agg #[.int .i64 2, .int .i64 N, bv, kv]] w fun e' w' => e' = .returned (.bool true) ∧
      Turn (fun j => b0 ≤ j) w w' ∧ Stand w' T D b0 most n := by
  obtain ⟨J, H, M, av, X, S, A, first, might, safe, more, dn, fell, s⟩ := h
  have hA := s.len
  obtain ⟨m, hm0⟩ : ∃ m : Nat, IntKind.u64.wrap N = (m : Int) := ⟨(IntKind.u64.wrap N).toNat, by
    have : 0 ≤ IntKind.u64.wrap N := by rw [IntKind.wrap_u64]; omega
    omega⟩
  rcases s.is with ⟨rfl, rfl, k, hc⟩ | ⟨rfl, hs⟩
  · by_cases hgt : A.length < m
    · have e : trimJ X S m = (1, X, S) := by unfold trimJ; rw [hc.xd, if_neg (by decide), if_pos (by rw [hc.top]; exact hgt)]
      refine (trim_arg w T D J H M av X S A most might might safe more fell s.tr s.fit N bv kv (by omega) m hm0 1 (by rw [e]) rfl hgt).mono ?_
      rintro e' w' ⟨rfl, t, H', hH', tr'⟩
      rw [e] at tr'
      exact ⟨rfl, t.mono (fun j hj => hj.elim (fun q => by rw [q]; exact s.hT) (s.hH j)), J, H', M, av, X, S, A, might, might, _, more, _, fell, ⟨tr', s.hT, fun j hj => (hH' j hj).elim (s.hH j) (fun q => by omega), s.hM, hA, s.fit, s.nx, .inl ⟨rfl, rfl, k, hc⟩⟩⟩
    · rcases trim_calm hc m (by omega) with ⟨e, k', f, hc', f1, f2, hf⟩ | ⟨e, hs'⟩
      · refine (trim_ok w T D J H M av X S A most might might safe more fell s.tr s.fit N bv kv (by omega) m hm0 0 e rfl (by omega) f hf f1 f2).mono ?_
        rintro e' w' ⟨rfl, t, H', hH', tr'⟩
        exact ⟨rfl, t.mono (fun j hj => hj.elim (fun q => by rw [q]; exact s.hT) (s.hH j)), J, H', M, av, _, _, A, f, f, safe, more, _, fell, ⟨tr', s.hT, fun j hj => (hH' j hj).elim (s.hH j) (fun q => by omega), s.hM, hA, hc'.fit (by omega) hm, by rw [hc'.top]; exact hA, .inl ⟨rfl, rfl, k', hc'⟩⟩⟩
      · have L := trim_left hc (by omega) hm m (by omega) e
        refine (trim_hit w T D J H M av X S A most might might safe more fell s.tr s.fit N bv kv (by omega) m hm0 3 e rfl (by omega) L.2.2).mono ?_
        rintro e' w' ⟨rfl, t, H', hH', tr'⟩
        exact ⟨rfl, t.mono (fun j hj => hj.elim (fun q => by rw [q]; exact s.hT) (s.hH j)), J, H', M, av, _, _, A, might, max might m, safe, more, _, fell, ⟨tr', s.hT, fun j hj => (hH' j hj).elim (s.hH j) (fun q => by omega), s.hM, hA, L.1, Nat.le_trans L.2.1 hA, .inr ⟨rfl, hs'⟩⟩⟩
  · have e := struck_trim (S := S) m hs.xd
    refine (trim_dn w T D J H M av X S A most first might safe more fell s.tr s.fit N bv kv (by omega) m hm0 3 (by rw [e]) (.inl rfl)).mono ?_
    rintro e' w' ⟨rfl, t, H', hH', tr'⟩
    rw [e] at tr'
    exact ⟨rfl, t.mono (fun j hj => hj.elim (fun q => by rw [q]; exact s.hT) (s.hH j)), J, H', M, av, X, S, A, first, might, safe, more, _, fell, ⟨tr', s.hT, fun j hj => (hH' j hj).elim (s.hH j) (fun q => by omega), s.hM, hA, s.fit, s.nx, .inr ⟨rfl, hs⟩⟩⟩

/-- what open leaves -/
theorem Stand.again {w w' : World} {T D b0 most n J J' : Nat} {H H' M : Nat → Prop} {av av' : Value} {X : Jn} {S S3 : Dk} {A : List (List Int)} {first might safe safe' k2 : Nat} {more dn fell fell' : Bool} {segs2 : List Sg} (s : Std w T D b0 most n J H M av X S A first might safe more dn fell) (hn : n < 100) (hm : most ≤ 1000) (hb : b0 ≤ w.heap.size)
    (hH' : ∀ j, H' j → H j ∨ w.heap.size ≤ j) (tr' : Tr w' T D J' H' M av' (newX most segs2) S3 (A.take (nextOf segs2)) most (firstOf segs2) (firstOf segs2) safe' false false fell') (hc : Calm most (newX most segs2) S3 (A.take (nextOf segs2)) (firstOf segs2) safe' k2) : Stand w' T D b0 most n := by
  have hA := s.len
  have hl : (A.take (nextOf segs2)).length ≤ n := by rw [List.length_take]; omega
  exact ⟨J', H', M, av', _, S3, _, _, _, safe', false, false, fell', ⟨tr', s.hT, fun j hj => (hH' j hj).elim (s.hH j) (fun q => by omega), s.hM, hl, hc.fit (by omega) hm, by rw [hc.top]; exact hl, .inl ⟨rfl, rfl, k2, hc⟩⟩⟩

theorem Stand.open {w : World} {T D b0 most n : Nat} (h : Stand w T D b0 most n) (hn : n < 100) (h1 : 1 ≤ most) (hm : most ≤ 1000) (hb : b0 ≤ w.heap.size) (N : Int) (bv kv : Value) :
    Calls Tryz.prog 11 #[.pointer (some ⟨T, 0, none⟩), .agg #[.int .i64 5, .int .i64 N, bv, kv]] w fun e' w' => e' = .returned (.bool true) ∧
      Turn (fun j => b0 ≤ j) w w' ∧ Stand w' T D b0 most n := by
  obtain ⟨J, H, M, av, X, S, A, first, might, safe, more, dn, fell, s⟩ := h
  have hA := s.len
  obtain ⟨sd0, hsd, hR, hO, hsh⟩ : ∃ sd0, S.down = sd0 ∧ Ready (startS S) ∧ Opens (startS S) A first might safe most sd0 ∧ ∀ z ∈ A, z.length ≤ 300 := by
    rcases s.is with ⟨rfl, rfl, k, hc⟩ | ⟨rfl, hs⟩
    · exact ⟨false, hc.sd, ready_calm w hc (by omega) s.tr.bytes, open_calm hc, hc.jv.short⟩
    · obtain ⟨segs, k', f, j, q⟩ := hs.jv
      exact ⟨true, hs.sd, ready_struck w hs (by omega) s.tr.bytes, open_struck hs, j.short⟩
  obtain ⟨segs2, k2, S3, e, f1, f2, n1, n2, n3, fn, hr, hc2, ha⟩ := hO.ex
  have hl : (A.take (nextOf segs2)).length ≤ n := by rw [List.length_take]; omega
  refine (open_step w T D J H M av X S S3 segs2 A most first might safe more dn fell s.tr N bv kv e hR h1 hm (hc2.fit (by omega) hm) f1 f2 n1 n2 sd0 hsd _ rfl n3 fn hr hsh (by omega)).mono ?_
  rintro e' w' ⟨rfl, J', av', H', hH', tr', t⟩
  exact ⟨rfl, t.mono (fun j hj => hj.elim (fun q => by rw [q]; exact s.hT) (s.hH j)), Stand.again s hn hm hb hH' tr' hc2⟩

theorem Stand.crash {w : World} {T D b0 most n : Nat} (h : Stand w T D b0 most n) (hn : n < 100) (h1 : 1 ≤ most) (hm : most ≤ 1000) (hb : b0 ≤ w.heap.size) (N : Int) (bv kv : Value) (ks : List Int) (hrow : Row .i64 (fun b => b < b0) w kv ks) :
    Calls Tryz.prog 11 #[.pointer (some ⟨T, 0, none⟩), .agg #[.int .i64 4, .int .i64 N, bv, kv]] w fun e' w' => e' = .returned (.bool true) ∧
      Turn (fun j => b0 ≤ j) w w' ∧ Stand w' T D b0 most n := by
  obtain ⟨J, H, M, av, X, S, A, first, might, safe, more, dn, fell, s⟩ := h
  have hA := s.len
  obtain ⟨hR, hO, hsh⟩ : Ready (startS (crashS S ks)) ∧ Opens (startS (crashS S ks)) A first might safe most true ∧ ∀ z ∈ A, z.length ≤ 300 := by
    rcases s.is with ⟨rfl, rfl, k, hc⟩ | ⟨rfl, hs⟩
    · exact ⟨ready_crash w ks hc.jv (by omega) s.tr.bytes hc.size, open_crash ks hc.jv (Nat.le_refl _) (Nat.le_refl _) hc.safe hc.size, hc.jv.short⟩
    · obtain ⟨segs, k', f, j, q1, q2, q3⟩ := hs.jv
      exact ⟨ready_crash w ks j (by omega) s.tr.bytes hs.size, open_crash ks j q1 q2 q3 hs.size, j.short⟩
  obtain ⟨segs2, k2, S3, e, f1, f2, n1, n2, n3, fn, hr, hc2, ha⟩ := hO.ex
  have hl : (A.take (nextOf segs2)).length ≤ n := by rw [List.length_take]; omega
  have hrow' := hrow.mono (B' := fun b => b < w.heap.size ∧ ¬ H b ∧ b ≠ T) (fun b hb' => ⟨by omega, fun q => by have := s.hH b q; omega, fun q => by have := s.hT; omega⟩)
  refine (crash_step w T D J H M av X S S3 segs2 A most first might safe more dn fell s.tr N bv kv ks hrow' e hR h1 hm (hc2.fit (by omega) hm) f1 f2 n1 n2 true rfl _ rfl n3 fn hr hsh (by omega)).mono ?_
  rintro e' w' ⟨rfl, J', av', H', hH', tr', t⟩
  exact ⟨rfl, t.mono (fun j hj => hj.elim (fun q => by rw [q]; exact s.hT) (s.hH j)), Stand.again s hn hm hb hH' tr' hc2⟩
end Go.Proofs.YthikiahhochjmaaGreatDoor
