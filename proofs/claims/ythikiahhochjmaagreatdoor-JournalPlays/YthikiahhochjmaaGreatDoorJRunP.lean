/- JournalPlays: what stands between the law's steps, and what each step makes of it: plain. -/
import Derived.Test.YthikiahhochjmaaGreatDoorPack7
import Derived.Test.YthikiahhochjmaaGreatDoorJOpenP
namespace Go.Proofs.YthikiahhochjmaaGreatDoor
set_option linter.unusedVariables false
set_option linter.unusedSimpArgs false

/-- nothing was hit: the journal holds what the law was told -/
structure Calm (mo : Nat) (X : Jn) (S : Dk) (A : List (List Int)) (first safe k : Nat) : Prop where
  jv : Jv S X.segs k first A
  top : nextOf X.segs = A.length
  safe : safe ≤ safeOf X.segs k
  sd : S.down = false
  xd : X.down = false
  st : X.settled ≤ X.segs.length - 1
  size : S.size = 262144
  mo : X.most = mo
/-- a call was hit: the disk holds some of what the law was told -/
structure Struck (X : Jn) (S : Dk) (A : List (List Int)) (first might safe : Nat) : Prop where
  jv : ∃ segs k f, Jv S segs k f A ∧ first ≤ f ∧ f ≤ might ∧ safe ≤ safeOf segs k
  sd : S.down = true
  xd : X.down = true
  size : S.size = 262144

theorem Jv.swap {S S' : Dk} {segs : List Sg} {k first : Nat} {A : List (List Int)} (h : Jv S segs k first A) (hs : Hold S' segs (kLen segs k)) : Jv S' segs k first A :=
  ⟨hs, h.top, h.tail, h.base, h.nil, h.beg, h.le, h.recs, h.short⟩

theorem sync_calm {mo : Nat} {X : Jn} {S : Dk} {A : List (List Int)} {first safe k : Nat} (h : Calm mo X S A first safe k) :
    ((syncJ X S).1 = 0 ∧ ∃ k', Calm mo (syncJ X S).2.1 (syncJ X S).2.2 A first A.length k') ∨
    ((syncJ X S).1 = 3 ∧ Struck (syncJ X S).2.1 (syncJ X S).2.2 A first first safe ∧ (syncJ X S).2.1.segs = X.segs ∧ (syncJ X S).2.1.most = X.most) := by
  rcases sync_hold h.jv.hold h.sd h.xd h.st with ⟨S', e, hs, hd, hr⟩ | ⟨_, S', e, hs, hd, hr⟩
  · rw [e]
    obtain ⟨k', j1, j2, j3⟩ := h.jv.all hs
    refine .inl ⟨rfl, k', ⟨j1, h.top, by rw [j2, h.top]; exact Nat.le_refl _, hd, h.xd, Nat.le_refl _, ?_, h.mo⟩⟩
    rw [← h.size]; exact hr.size
  · rw [e]
    refine .inr ⟨rfl, ⟨⟨X.segs, k, first, h.jv.swap hs, Nat.le_refl _, Nat.le_refl _, h.safe⟩, hd, rfl, by rw [← h.size]; exact hr.size⟩, rfl, rfl⟩
theorem struck_sync {X : Jn} {S : Dk} (h : X.down = true) : syncJ X S = (3, X, S) := by unfold syncJ; rw [if_pos h]
theorem struck_append {X : Jn} {S : Dk} (b : List Int) (h : X.down = true) : appendJ X S b = (3, X, S) := by unfold appendJ; rw [if_pos h]
theorem struck_trim {X : Jn} {S : Dk} (n : Nat) (h : X.down = true) : trimJ X S n = (3, X, S) := by unfold trimJ; rw [if_pos h]

theorem trim_calm {mo : Nat} {X : Jn} {S : Dk} {A : List (List Int)} {first safe k : Nat} (h : Calm mo X S A first safe k) (n : Nat) (hn : n ≤ A.length) :
    ((trimJ X S n).1 = 0 ∧ ∃ k' f, Calm mo (trimJ X S n).2.1 (trimJ X S n).2.2 A f safe k' ∧ first ≤ f ∧ f ≤ max first n ∧ firstOf (trimJ X S n).2.1.segs = f) ∨
    ((trimJ X S n).1 = 3 ∧ Struck (trimJ X S n).2.1 (trimJ X S n).2.2 A first (max first n) safe) := by
  rcases trim_hold2 n h.jv.hold h.sd h.xd h.st (by rw [h.top]; exact hn) with ⟨st, S', m', e, hst, hs, hm, hd, hr⟩ | ⟨_, st, S', m', i, e, hst, hi, hs, hm, hd, hr⟩
  · rw [e]
    obtain ⟨k', f, j1, j2, j3, j4⟩ := jv_drop h.jv (Nat.le_refl _) hs hm
    refine .inl ⟨rfl, k', f, ⟨j1, ?_, Nat.le_trans h.safe j4, hd, h.xd, hst, by rw [← h.size]; exact hr.size, h.mo⟩, j2, j3, j1.beg⟩
    rw [← h.top]
    exact nextOf_drop (below_most n X.segs)
  · rw [e]
    obtain ⟨k', f, j1, j2, j3, j4⟩ := jv_drop h.jv hi hs hm
    exact .inr ⟨rfl, ⟨⟨_, k', f, j1, j2, j3, Nat.le_trans h.safe j4⟩, hd, rfl, by rw [← h.size]; exact hr.size⟩⟩

theorem app_calm {mo : Nat} {X : Jn} {S : Dk} {A : List (List Int)} {first safe k : Nat} {b : List Int} (h : Calm mo X S A first safe k) (hm : 1 ≤ X.most) (hb : b.length ≤ 300) (hA : A.length < 1000000000) :
    ((appendJ X S b).1 = 0 ∧ ∃ k', Calm mo (appendJ X S b).2.1 (appendJ X S b).2.2 (A ++ [b]) first safe k') ∨
    ((appendJ X S b).1 = 4 ∧ ∃ k', Calm mo (appendJ X S b).2.1 (appendJ X S b).2.2 A first safe k') ∨
    ((appendJ X S b).1 = 3 ∧ Struck (appendJ X S b).2.1 (appendJ X S b).2.2 (A ++ [b]) first first safe) := by
  rcases append_hold b h.jv.hold h.sd h.xd h.st hm (by rw [h.top]; exact hA) (by omega) with ⟨st, S', m', e, hst, hs, hk, hd, hr⟩ | ⟨st, S', m', e, hst, hs, hm', hd, hr, _⟩ | ⟨_, st, S', m', segs', e, hst, hs, hk, hd, hr⟩
  · rw [e]
    obtain ⟨k', j1, j2⟩ := jv_mk h.jv h.top hb hm hs hk
    refine .inl ⟨rfl, k', ⟨j1, by rw [next_grow, h.top]; simp, Nat.le_trans h.safe j2, hd, h.xd, hst, by rw [← h.size]; exact hr.size, h.mo⟩⟩
  · rw [e]
    refine .inr (.inl ⟨rfl, ?_⟩)
    rcases hm' with rfl | rfl
    · exact ⟨k, ⟨h.jv.swap hs, h.top, h.safe, hd, h.xd, hst, by rw [← h.size]; exact hr.size, h.mo⟩⟩
    · obtain ⟨k', j1, j2, j3⟩ := h.jv.all hs
      exact ⟨k', ⟨j1, h.top, Nat.le_trans h.safe j3, hd, h.xd, hst, by rw [← h.size]; exact hr.size, h.mo⟩⟩
  · rw [e]
    obtain ⟨k', j1, j2⟩ := jv_mk h.jv h.top hb hm hs hk
    exact .inr (.inr ⟨rfl, ⟨⟨segs', k', first, j1, Nat.le_refl _, Nat.le_refl _, Nat.le_trans h.safe j2⟩, hd, rfl, by rw [← h.size]; exact hr.size⟩⟩)

/-- what open asks, and what stands behind it -/
structure Opens (S2 : Dk) (A : List (List Int)) (first might safe most : Nat) (fell : Bool) : Prop where
  ex : ∃ segs2 k2 S3, openJ S2 = (0, segs2, S3) ∧ first ≤ firstOf segs2 ∧ firstOf segs2 ≤ might ∧ safe ≤ nextOf segs2 ∧ nextOf segs2 ≤ A.length ∧ (fell = false → nextOf segs2 = A.length) ∧ firstOf segs2 ≤ nextOf segs2 ∧ recsOf segs2 = (A.take (nextOf segs2)).drop (firstOf segs2) ∧
    Calm most (newX most segs2) S3 (A.take (nextOf segs2)) (firstOf segs2) (if fell = true then nextOf segs2 else safe) k2 ∧ S3.arm = 0

theorem open_calm {mo : Nat} {X : Jn} {S : Dk} {A : List (List Int)} {first safe k most : Nat} (h : Calm mo X S A first safe k) : Opens (startS S) A first first safe most false := by
  obtain ⟨e, j, hd, ha, hz⟩ := jv_calm h.jv h.sd
  refine ⟨⟨X.segs, k, startS S, e, by rw [h.jv.beg]; exact Nat.le_refl _, by rw [h.jv.beg]; exact Nat.le_refl _, ?_, h.jv.le, fun _ => h.top, by rw [h.jv.beg]; exact h.jv.below.1, by rw [h.jv.beg]; exact h.jv.recs, ?_, ha⟩⟩
  · exact Nat.le_trans h.safe h.jv.below.2
  · refine ⟨?_, ?_, h.safe, hd, rfl, Nat.zero_le _, by rw [hz]; exact h.size, rfl⟩
    · rw [h.top, List.take_of_length_le (Nat.le_refl _), h.jv.beg]; exact j
    · show nextOf X.segs = _
      rw [h.top, List.take_of_length_le (Nat.le_refl _)]
theorem open_fell {S S2 : Dk} {segs : List Sg} {k f first might safe most : Nat} {A : List (List Int)} (keep : List Int) (h : Jv S segs k f A) (h1 : first ≤ f) (h2 : f ≤ might) (h3 : safe ≤ safeOf segs k) (hfs : S2.fs = (crashS S keep).fs) (hd : S2.down = false) (ha : S2.arm = 0) (hz : S2.size = 262144) : Opens S2 A first might safe most true := by
  obtain ⟨segs2, k2, S3, e, j, a1, a2, a3, d3, ar3, z3⟩ := jv_fall keep h hfs hd ha
  have hle : nextOf segs2 ≤ A.length := Nat.le_trans a2 h.le
  refine ⟨⟨segs2, k2, S3, e, by rw [j.beg]; exact h1, by rw [j.beg]; exact h2, Nat.le_trans h3 a1, hle, (fun q => by cases q), by rw [j.beg]; exact j.below.1, ?_, ?_, ar3⟩⟩
  · rw [j.beg]
    have := j.recs
    rwa [List.take_take, Nat.min_self] at this
  · refine ⟨by rw [j.beg]; exact j, ?_, by rw [if_pos rfl]; exact Nat.le_of_eq a3.symm, d3, rfl, Nat.zero_le _, by rw [z3]; exact hz, rfl⟩
    show nextOf segs2 = _
    rw [List.length_take]; omega
theorem open_struck {X : Jn} {S : Dk} {A : List (List Int)} {first might safe most : Nat} (h : Struck X S A first might safe) : Opens (startS S) A first might safe most true := by
  obtain ⟨segs, k, f, j, h1, h2, h3⟩ := h.jv
  obtain ⟨e1, e2, e3, e4⟩ := start_down h.sd
  exact open_fell [] j h1 h2 h3 e1 e2 e3 (by rw [e4]; exact h.size)
/-- a fall with what is kept, then open -/
theorem open_crash {S : Dk} {segs : List Sg} {k f first might safe most : Nat} {A : List (List Int)} (keep : List Int) (h : Jv S segs k f A) (h1 : first ≤ f) (h2 : f ≤ might) (h3 : safe ≤ safeOf segs k) (hz : S.size = 262144) : Opens (startS (crashS S keep)) A first might safe most true := by
  obtain ⟨e1, e2, e3, e4⟩ := start_crash S keep
  exact open_fell keep h h1 h2 h3 e1 e2 e3 (by rw [e4]; exact hz)
end Go.Proofs.YthikiahhochjmaaGreatDoor
