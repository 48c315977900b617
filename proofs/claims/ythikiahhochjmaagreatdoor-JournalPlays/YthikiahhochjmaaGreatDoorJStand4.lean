/- JournalPlays: the beginning, told, and the last open, over what stands between two steps. -/
import Derived.Test.YthikiahhochjmaaGreatDoorJStand3
import Derived.Test.YthikiahhochjmaaGreatDoorJTest
import Derived.Test.YthikiahhochjmaaGreatDoorJTopen
namespace Go.Proofs.YthikiahhochjmaaGreatDoor
open Go.RowKit Go.Maps Go.Sort
set_option linter.unusedVariables false
set_option linter.unusedSimpArgs false

theorem Std.quiet {w w' : World} {T D b0 most n J : Nat} {H M : Nat → Prop} {av : Value} {X : Jn} {S : Dk} {A : List (List Int)} {first might safe : Nat} {more dn fell : Bool} (s : Std w T D b0 most n J H M av X S A first might safe more dn fell) (t : Turn (fun _ => False) w w') : Std w' T D b0 most n J H M av X S A first might safe more dn fell :=
  ⟨s.tr.calm t, s.hT, s.hH, s.hM, s.len, s.fit, s.nx, s.is⟩
theorem Stand.quiet {w w' : World} {T D b0 most n : Nat} (h : Stand w T D b0 most n) (t : Turn (fun _ => False) w w') : Stand w' T D b0 most n := by
  obtain ⟨J, H, M, av, X, S, A, first, might, safe, more, dn, fell, s⟩ := h
  exact ⟨J, H, M, av, X, S, A, first, might, safe, more, dn, fell, s.quiet t⟩
/-- the disk is down where the law says so -/
theorem Std.down {w : World} {T D b0 most n J : Nat} {H M : Nat → Prop} {av : Value} {X : Jn} {S : Dk} {A : List (List Int)} {first might safe : Nat} {more dn fell : Bool} (s : Std w T D b0 most n J H M av X S A first might safe more dn fell) : S.down = dn := by
  rcases s.is with ⟨rfl, _, k, hc⟩ | ⟨rfl, hs⟩
  · exact hc.sd
  · exact hs.sd
theorem Std.told {w : World} {T D b0 most n J : Nat} {H M : Nat → Prop} {av : Value} {X : Jn} {S : Dk} {A : List (List Int)} {first might safe : Nat} {more fell : Bool} (s : Std w T D b0 most n J H M av X S A first might safe more false fell) (hn : n < 100) :
    Calls Tryz.prog 12 #[.pointer (some ⟨T, 0, none⟩)] w fun e w' => e = .returned (.bool true) ∧ Turn (fun _ => False) w w' := by
  have hA := s.len
  rcases s.is with ⟨_, rfl, k, hc⟩ | ⟨q, _⟩
  · refine told_walk w T D J H M av X S A most might might safe more fell s.tr s.fit (by omega) hc.top hc.jv.beg ?_ ?_ hc.jv.short
    · have := hc.jv.below.1; have := hc.top; omega
    · rw [hc.jv.recs, hc.top, List.take_of_length_le (Nat.le_refl _)]
  · cases q
theorem Stand.topen {w : World} {T D b0 most n : Nat} (h : Stand w T D b0 most n) (hn : n < 100) (h1 : 1 ≤ most) (hm : most ≤ 1000) (hb : b0 ≤ w.heap.size) :
    Calls Tryz.prog 14 #[.pointer (some ⟨T, 0, none⟩)] w fun e' w' => e' = .returned (.bool true) ∧
      Turn (fun j => b0 ≤ j) w w' ∧ ∃ J H M av X S A first might safe more fell, Std w' T D b0 most n J H M av X S A first might safe more false fell := by
  obtain ⟨J, H, M, av, X, S, A, first, might, safe, more, dn, fell, s⟩ := h
  have hA := s.len
  obtain ⟨sd0, hsd, hR, hO, hsh⟩ : ∃ sd0, S.down = sd0 ∧ Ready (startS S) ∧ Opens (startS S) A first might safe most sd0 ∧ ∀ z ∈ A, z.length ≤ 300 := by
    rcases s.is with ⟨rfl, rfl, k, hc⟩ | ⟨rfl, hs⟩
    · exact ⟨false, hc.sd, ready_calm w hc (by omega) s.tr.bytes, open_calm hc, hc.jv.short⟩
    · obtain ⟨segs, k', f, j, q⟩ := hs.jv
      exact ⟨true, hs.sd, ready_struck w hs (by omega) s.tr.bytes, open_struck hs, j.short⟩
  obtain ⟨segs2, k2, S3, e, f1, f2, n1, n2, n3, fn, hr, hc2, ha⟩ := hO.ex
  have hl : (A.take (nextOf segs2)).length ≤ n := by rw [List.length_take]; omega
  refine (topen_walk w T D J H M av X S S3 segs2 A most first might safe more dn fell s.tr e hR h1 hm (hc2.fit (by omega) hm) f1 f2 n1 n2 sd0 hsd _ rfl n3 fn hr hsh (by omega)).mono ?_
  rintro e' w' ⟨rfl, J', av', H', hH', tr', t⟩
  exact ⟨rfl, t.mono (fun j hj => hj.elim (fun q => by rw [q]; exact s.hT) (s.hH j)), J', H', M, av', _, S3, _, _, _, _, false, _, ⟨tr', s.hT, fun j hj => (hH' j hj).elim (s.hH j) (fun q => by omega), s.hM, hl, hc2.fit (by omega) hm, by rw [hc2.top]; exact hl, .inl ⟨rfl, rfl, k2, hc2⟩⟩⟩
theorem jv_none : Jv (newS 262144) [] 0 0 [] :=
  ⟨⟨rfl, trivial, fun s hs => (by cases hs)⟩, fun l s h => (by cases l <;> cases h), fun l s h => (by cases l <;> cases h), fun s h => (by cases h), fun _ => rfl, rfl, Nat.le_refl _, rfl, fun b hb => (by cases hb)⟩
theorem begin_stand (w : World) (m : Nat) (h1 : 1 ≤ m) (h2 : m ≤ 1000) :
    Calls Tryz.prog 8 #[.int .i64 (m : Int)] w fun e w' => ∃ T D, e = .returned (.pointer (some ⟨T, 0, none⟩)) ∧ Turn (fun _ => False) w w' ∧ Stand w' T D w.heap.size m 0 := by
  refine (begin_t w m h1 h2).mono ?_
  rintro e w' ⟨T, J, D, rfl, t, hT, o, j⟩
  have hc : Calm m (newX m []) (newS 262144) [] 0 0 0 := ⟨jv_none, rfl, Nat.zero_le _, rfl, rfl, Nat.zero_le _, rfl, rfl⟩
  have hTw : T < w'.heap.size := (Array.getElem?_eq_some_iff.1 o).1
  refine ⟨T, D, rfl, t, J, fun j => (w.heap.size ≤ j ∧ j ≠ T) ∧ j < w'.heap.size, fun _ => False, .slice none 0 0, newX m [], newS 262144, [], 0, 0, 0, false, false, false, ⟨⟨o, j.mono (fun j q1 q2 => ⟨q1, q2⟩), allM_none _ _, fun q => q.1.2 rfl, id, fun j _ q => q, fun j q => q.2, fun j q => q.elim, fun z hz => (by cases hz)⟩, hT, fun j q => q.1.1, fun j q => q.elim, Nat.le_refl _, hc.fit (by decide) h2, Nat.le_refl _, .inl ⟨rfl, rfl, 0, hc⟩⟩⟩
end Go.Proofs.YthikiahhochjmaaGreatDoor
