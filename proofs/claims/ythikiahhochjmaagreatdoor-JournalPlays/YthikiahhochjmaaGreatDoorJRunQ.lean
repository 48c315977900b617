/- JournalPlays: the disks that open is asked of, are such that it may be: plain. -/
import Derived.Test.YthikiahhochjmaaGreatDoorJRunP
import Derived.Test.YthikiahhochjmaaGreatDoorJGrown
namespace Go.Proofs.YthikiahhochjmaaGreatDoor
set_option linter.unusedVariables false
set_option linter.unusedSimpArgs false

theorem jv_firsts {S : Dk} {segs : List Sg} {k f : Nat} {A : List (List Int)} (h : Jv S segs k f A) (hA : A.length < 100) : ∀ s ∈ segs, s.first < 100 := by
  have hf := fit_of (X := newX 1 segs) h.hold.ch (by show nextOf segs < 100; have := h.le; omega) (Nat.zero_le _) (by show 1 ≤ 1000; omega)
  exact fun s hs => (hf.first s hs).1
theorem jv_fit {S : Dk} {segs : List Sg} {k f most : Nat} {A : List (List Int)} (h : Jv S segs k f A) (hA : A.length < 100) (hm : most ≤ 1000) : Fit (newX most segs) :=
  fit_of (X := newX most segs) h.hold.ch (by show nextOf segs < 100; have := h.le; omega) (Nat.zero_le _) hm
theorem Calm.fit {mo : Nat} {X : Jn} {S : Dk} {A : List (List Int)} {first safe k : Nat} (h : Calm mo X S A first safe k) (hA : A.length < 100) (hm : mo ≤ 1000) : Fit X :=
  fit_of h.jv.hold.ch (by have := h.jv.le; omega) h.st (by rw [h.mo]; exact hm)
theorem jv_bytes {S : Dk} {segs : List Sg} {k f : Nat} {A : List (List Int)} (h : Jv S segs k f A) (hb : ∀ z ∈ A, Bytes z) : FsBytes S := hold_bytes h.hold (fun b hb' => hb b (h.short' b hb').2)
theorem ready_calm (w0 : World) {mo : Nat} {X : Jn} {S : Dk} {A : List (List Int)} {first safe k : Nat} (h : Calm mo X S A first safe k) (hA : A.length < 100) (hb : ∀ z ∈ A, Bytes z) : Ready (startS S) := by
  obtain ⟨a, b, c, d⟩ := start_up h.sd
  refine ready_of w0 h.jv.hold (jv_firsts h.jv hA) (fun x hx => jv_bytes h.jv hb x (by rw [a] at hx; exact hx)) (by rw [d, h.size]; omega) (fun y hy => .inr ⟨y, by rw [a] at hy; exact hy, rfl⟩)
theorem ready_fell (w0 : World) {S S2 : Dk} {segs : List Sg} {k f : Nat} {A : List (List Int)} (keep : List Int) (h : Jv S segs k f A) (hA : A.length < 100) (hb : ∀ z ∈ A, Bytes z) (hfs : S2.fs = (crashS S keep).fs) (hz : S2.size = 262144) : Ready S2 := by
  refine ready_of w0 h.hold (jv_firsts h hA) (fun x hx => crash_bytes keep (jv_bytes h hb) x (by rw [hfs] at hx; exact hx)) (by rw [hz]; omega) (fun y hy => crash_names S keep (nameS 0) y (by rw [hfs] at hy; exact hy))
theorem ready_struck (w0 : World) {X : Jn} {S : Dk} {A : List (List Int)} {first might safe : Nat} (h : Struck X S A first might safe) (hA : A.length < 100) (hb : ∀ z ∈ A, Bytes z) : Ready (startS S) := by
  obtain ⟨segs, k, f, j, _⟩ := h.jv
  obtain ⟨e1, e2, e3, e4⟩ := start_down h.sd
  exact ready_fell w0 [] j hA hb e1 (by rw [e4]; exact h.size)
theorem ready_crash (w0 : World) {S : Dk} {segs : List Sg} {k f : Nat} {A : List (List Int)} (keep : List Int) (h : Jv S segs k f A) (hA : A.length < 100) (hb : ∀ z ∈ A, Bytes z) (hz : S.size = 262144) : Ready (startS (crashS S keep)) := by
  obtain ⟨e1, e2, e3, e4⟩ := start_crash S keep
  exact ready_fell w0 keep h hA hb e1 (by rw [e4]; exact hz)
end Go.Proofs.YthikiahhochjmaaGreatDoor
