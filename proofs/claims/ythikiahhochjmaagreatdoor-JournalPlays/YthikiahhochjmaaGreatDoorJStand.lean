/- JournalPlays: what stands between two steps of the law, and the steps that add no record. -/
import Derived.Test.YthikiahhochjmaaGreatDoorJRunQ
import Derived.Test.YthikiahhochjmaaGreatDoorJStepU
import Derived.Test.YthikiahhochjmaaGreatDoorJStepO
import Derived.Test.YthikiahhochjmaaGreatDoorJStepC
namespace Go.Proofs.YthikiahhochjmaaGreatDoor
open Go.RowKit Go.Maps Go.Sort
set_option linter.unusedVariables false
set_option linter.unusedSimpArgs false

/-- what a call that was hit leaves of the journal in memory -/
theorem sync_left {mo : Nat} {X : Jn} {S : Dk} {A : List (List Int)} {first safe k : Nat} (h : Calm mo X S A first safe k) (hA : A.length < 100) (hm : mo ≤ 1000) :
    Fit (syncJ X S).2.1 ∧ nextOf (syncJ X S).2.1.segs ≤ A.length := by
  rcases sync_hold h.jv.hold h.sd h.xd h.st with ⟨S', e, hs, hd, hr⟩ | ⟨_, S', e, hs, hd, hr⟩
  · rw [e]
    exact ⟨fit_of h.jv.hold.ch (by show nextOf X.segs < 100; rw [h.top]; exact hA) (Nat.le_refl _) (by show X.most ≤ _; rw [h.mo]; exact hm), Nat.le_of_eq h.top⟩
  · rw [e]
    exact ⟨fit_of h.jv.hold.ch (by show nextOf X.segs < 100; rw [h.top]; exact hA) h.st (by show X.most ≤ _; rw [h.mo]; exact hm), Nat.le_of_eq h.top⟩
theorem trim_left {mo : Nat} {X : Jn} {S : Dk} {A : List (List Int)} {first safe k : Nat} (h : Calm mo X S A first safe k) (hA : A.length < 100) (hm : mo ≤ 1000) (n : Nat) (hn : n ≤ A.length) (h3 : (trimJ X S n).1 = 3) :
    Fit (trimJ X S n).2.1 ∧ nextOf (trimJ X S n).2.1.segs ≤ A.length ∧ (trimJ X S n).2.2.down = true := by
  rcases trim_hold2 n h.jv.hold h.sd h.xd h.st (by rw [h.top]; exact hn) with ⟨st, S', m', e, _⟩ | ⟨_, st, S', m', i, e, hst, hi, hs, hm', hd, hr⟩
  · rw [e] at h3; cases h3
  · rw [e]
    exact ⟨fit_of h.jv.hold.ch (by show nextOf X.segs < 100; rw [h.top]; exact hA) hst (by show X.most ≤ _; rw [h.mo]; exact hm), Nat.le_of_eq h.top, hd⟩
theorem app_left {mo : Nat} {X : Jn} {S : Dk} {A : List (List Int)} {first safe k : Nat} (h : Calm mo X S A first safe k) (hA : A.length < 100) (hm : mo ≤ 1000) (h1 : 1 ≤ mo) {b : List Int} (hb : b.length ≤ 300) (h3 : (appendJ X S b).1 = 3) :
    Fit (appendJ X S b).2.1 ∧ nextOf (appendJ X S b).2.1.segs ≤ A.length ∧ (appendJ X S b).2.2.down = true := by
  rcases append_hold b h.jv.hold h.sd h.xd h.st (by rw [h.mo]; exact h1) (by rw [h.top]; omega) (by omega) with ⟨st, S', m', e, _⟩ | ⟨st, S', m', e, _⟩ | ⟨_, st, S', m', segs', e, hst, hs, hk, hd, hr⟩
  · rw [e] at h3; cases h3
  · rw [e] at h3; cases h3
  · rw [e]
    exact ⟨fit_of h.jv.hold.ch (by show nextOf X.segs < 100; rw [h.top]; exact hA) hst (by show X.most ≤ _; rw [h.mo]; exact hm), Nat.le_of_eq h.top, hd⟩

/-- what stands between two steps -/
structure Std (w : World) (T D b0 most n J : Nat) (H M : Nat → Prop) (av : Value) (X : Jn) (S : Dk) (A : List (List Int)) (first might safe : Nat) (more dn fell : Bool) : Prop where
  tr : Tr w T D J H M av X S A most first might safe more dn fell
  hT : b0 ≤ T
  hH : ∀ j, H j → b0 ≤ j
  hM : ∀ j, M j → b0 ≤ j
  len : A.length ≤ n
  fit : Fit X
  nx : nextOf X.segs ≤ n
  is : (dn = false ∧ might = first ∧ ∃ k, Calm most X S A first safe k) ∨ (dn = true ∧ Struck X S A first might safe)
def Stand (w : World) (T D b0 most n : Nat) : Prop := ∃ J H M av X S A first might safe more dn fell, Std w T D b0 most n J H M av X S A first might safe more dn fell

theorem Stand.sync {w : World} {T D b0 most n : Nat} (h : Stand w T D b0 most n) (hn : n < 100) (hm : most ≤ 1000) (hb : b0 ≤ w.heap.size) (N : Int) (bv kv : Value) :
    Calls Tryz.prog 11 #[.pointer (some ⟨T, 0, none⟩), .agg #[.int .i64 1, .int .i64 N, bv, kv]] w fun e' w' => e' = .returned (.bool true) ∧
      Turn (fun j => b0 ≤ j) w w' ∧ Stand w' T D b0 most n := by
  obtain ⟨J, H, M, av, X, S, A, first, might, safe, more, dn, fell, s⟩ := h
  have hA := s.len
  rcases s.is with ⟨rfl, rfl, k, hc⟩ | ⟨rfl, hs⟩
  · rcases sync_calm hc with ⟨e, k', hc'⟩ | ⟨e, hs', _, _⟩
    · refine (sync_step w T D J H M av X S A most might might safe more false fell s.tr s.fit N bv kv (by omega) 0 e (fun q => by cases q) (fun _ => .inl rfl)).mono ?_
      rintro e' w' ⟨rfl, t, H', hH', tr'⟩
      have L := sync_left hc (by omega) hm
      refine ⟨rfl, t.mono (fun j hj => hj.elim (fun q => by rw [q]; exact s.hT) (s.hH j)), J, H', M, av, _, _, A, might, might, _, more, _, fell, ⟨tr', s.hT, fun j hj => (hH' j hj).elim (s.hH j) (fun q => by omega), s.hM, hA, L.1, Nat.le_trans L.2 hA, .inl ⟨rfl, rfl, k', ?_⟩⟩⟩
      simpa using hc'
    · refine (sync_step w T D J H M av X S A most might might safe more false fell s.tr s.fit N bv kv (by omega) 3 e (fun q => rfl) (fun _ => .inr ⟨rfl, hs'.sd⟩)).mono ?_
      rintro e' w' ⟨rfl, t, H', hH', tr'⟩
      have L := sync_left hc (by omega) hm
      refine ⟨rfl, t.mono (fun j hj => hj.elim (fun q => by rw [q]; exact s.hT) (s.hH j)), J, H', M, av, _, _, A, might, might, _, more, _, fell, ⟨tr', s.hT, fun j hj => (hH' j hj).elim (s.hH j) (fun q => by omega), s.hM, hA, L.1, Nat.le_trans L.2 hA, .inr ⟨rfl, ?_⟩⟩⟩
      simpa using hs'
  · have e := struck_sync (S := S) hs.xd
    refine (sync_step w T D J H M av X S A most first might safe more true fell s.tr s.fit N bv kv (by omega) 3 (by rw [e]) (fun q => rfl) (fun q => by cases q)).mono ?_
    rintro e' w' ⟨rfl, t, H', hH', tr'⟩
    rw [e] at tr'
    refine ⟨rfl, t.mono (fun j hj => hj.elim (fun q => by rw [q]; exact s.hT) (s.hH j)), J, H', M, av, X, S, A, first, might, _, more, _, fell, ⟨tr', s.hT, fun j hj => (hH' j hj).elim (s.hH j) (fun q => by omega), s.hM, hA, s.fit, s.nx, .inr ⟨rfl, ?_⟩⟩⟩
    simpa using hs
end Go.Proofs.YthikiahhochjmaaGreatDoor
