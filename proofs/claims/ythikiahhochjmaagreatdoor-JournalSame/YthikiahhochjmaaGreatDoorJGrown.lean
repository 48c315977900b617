/- A journal that has been appended to, on a disk that nothing hits. -/
import Derived.Test.YthikiahhochjmaaGreatDoorJTest
namespace Go.Proofs.YthikiahhochjmaaGreatDoor
open Go.RowKit Go.Maps Go.Sort
set_option linter.unusedVariables false
set_option linter.unusedSimpArgs false

/-- so many records, each of at most B bytes, so many a segment -/
structure Grown (B m i : Nat) (X : Jn) (S : Dk) : Prop where
  most : X.most = m
  up : X.down = false
  settled : X.settled ≤ X.segs.length - 1
  ev : Ev m X.segs
  next : nextOf X.segs = i
  short : ∀ b ∈ recsOf X.segs, b.length ≤ B
  hold : ∃ k, Hold S X.segs k
  live : S.down = false
  calm : S.arm = 0
  room : S.size = 262144
theorem ev_first0 {m : Nat} {segs : List Sg} (h : Ev m segs) : firstOf segs = 0 := by
  cases segs with
  | nil => rfl
  | cons a l => have := h 0 a (by simp); simp [firstOf, this.1]
theorem seg_le {segs : List Sg} (h : Ch segs) : segs.length ≤ nextOf segs + 1 := by
  cases segs with
  | nil => simp
  | cons a l => have := ch_long h; simp only [List.length_cons]; omega
theorem Grown.fit {B m i : Nat} {X : Jn} {S : Dk} (h : Grown B m i X S) (hi : i < 100) (hm : m ≤ 1000) : Fit X := by
  obtain ⟨k, hk⟩ := h.hold
  exact fit_of hk.ch (by rw [h.next]; exact hi) h.settled (by rw [h.most]; exact hm)
theorem Grown.count {B m i : Nat} {X : Jn} {S : Dk} (h : Grown B m i X S) : (recsOf X.segs).length = i := by
  obtain ⟨k, hk⟩ := h.hold
  have := count_first hk.ch
  rw [ev_first0 h.ev, h.next] at this
  omega
theorem grown_new (B m : Nat) : Grown B m 0 (newX m []) (newS 262144) :=
  ⟨rfl, rfl, by simp [newX], ev_nil m, rfl, fun b hb => by simp [newX, recsOf] at hb, ⟨0, rfl, trivial, fun s hs => by simp [newX] at hs⟩, rfl, rfl, rfl⟩
theorem grown_more {B m i : Nat} {X : Jn} {S : Dk} {b : List Int} (h : Grown B m i X S) (hm : 1 ≤ m) (hi : i < 40) (hB : B ≤ 300) (hb : b.length ≤ B) :
    (appendJ X S b).1 = 0 ∧ Grown B m (i + 1) (appendJ X S b).2.1 (appendJ X S b).2.2 ∧ recsOf (appendJ X S b).2.1.segs = recsOf X.segs ++ [b] := by
  obtain ⟨k, hk⟩ := h.hold
  have hc := h.count
  have hu : used S.fs ≤ i * (B + 10) := by
    rw [hk.fs, used_filesG, ← hc]
    exact frames_le B _ h.short
  have hu2 : i * (B + 10) ≤ 40 * 310 := Nat.mul_le_mul (by omega) (by omega)
  have hl : S.fs.length ≤ i + 1 := by
    rw [hk.fs, filesG_len]
    have := seg_le hk.ch
    rw [h.next] at this
    exact this
  rcases append_hold b hk h.live h.up h.settled (by rw [h.most]; exact hm) (by rw [h.next]; omega) (by omega) with ⟨st, S', m', e, h1, h2, h3, h4, h5⟩ | ⟨st, S', m', e, h1, h2, h3, h4, h5, h6⟩ | ⟨h0, _⟩
  · rw [e]
    refine ⟨rfl, ⟨h.most, h.up, h1, ?_, ?_, ?_, ⟨m', h2⟩, h4, h5.calm h.calm, h5.size.trans h.room⟩, recs_grow X b⟩
    · have := ev_grow (X := X) b (by rw [h.most]; exact hm) (by rw [h.most]; exact h.ev)
      rw [h.most] at this
      exact this
    · show nextOf (growS X b) = i + 1
      rw [next_grow, h.next]
    · intro x hx
      have hx : x ∈ recsOf (growS X b) := hx
      rw [recs_grow] at hx
      rcases List.mem_append.1 hx with hx | hx
      · exact h.short x hx
      · simp at hx; rw [hx]; exact hb
  · have := h.room
    omega
  · exact absurd h.calm h0
/-- a Trim -/
theorem grown_trim {B m i n : Nat} {X : Jn} {S : Dk} (h : Grown B m i X S) (hm : 1 ≤ m) (hn : n ≤ i) (hi : i < 100) (hm2 : m ≤ 1000) :
    (trimJ X S n).1 = 0 ∧ Fit (trimJ X S n).2.1 ∧ firstOf (trimJ X S n).2.1.segs = min (n / m) (X.segs.length - 1) * m ∧ nextOf (trimJ X S n).2.1.segs = i ∧
      (recsOf (trimJ X S n).2.1.segs).length = i - min (n / m) (X.segs.length - 1) * m ∧ min (n / m) (X.segs.length - 1) * m ≤ i ∧ (trimJ X S n).2.1.down = false ∧
      (trimJ X S n).2.1.segs = X.segs.drop (below n X.segs) ∧ (∃ k, Hold (trimJ X S n).2.2 (trimJ X S n).2.1.segs k) ∧ (trimJ X S n).2.2.down = false ∧ (trimJ X S n).2.2.arm = 0 ∧ (trimJ X S n).2.2.size = 262144 := by
  obtain ⟨k, hk⟩ := h.hold
  have hb := ev_below (n := n) hm h.ev
  have hbm := below_most n X.segs
  rcases trim_hold n hk h.live h.up h.settled (by rw [h.next]; exact hn) with ⟨st, S', m', e, h1, h2, h3, h4, h5⟩ | ⟨h0, _⟩
  · rw [e]
    have e1 : firstOf (X.segs.drop (below n X.segs)) = below n X.segs * m := ev_first h.ev hbm (fun h0 => by omega)
    have e2 : nextOf (X.segs.drop (below n X.segs)) = i := by rw [nextOf_drop hbm, h.next]
    have e3 := count_first h2.ch
    rw [e1, e2] at e3
    rw [← hb]
    refine ⟨rfl, fit_of h2.ch (by show nextOf (X.segs.drop (below n X.segs)) < 100; rw [e2]; exact hi) h1 (by show X.most ≤ 1000; rw [h.most]; exact hm2), e1, e2, e3.1, e3.2, h.up, rfl, ⟨m', h2⟩, h4, h5.calm h.calm, h5.size.trans h.room⟩
  · exact absurd h.calm h0
theorem trim_above {X : Jn} {S : Dk} {n : Nat} (h : X.down = false) (hn : nextOf X.segs < n) : trimJ X S n = (1, X, S) := by
  unfold trimJ; rw [h, if_neg (by decide), if_pos hn]
theorem grown_names {B m i : Nat} {X : Jn} {S : Dk} (h : Grown B m i X S) : namesC S = 0 ∧ namesL S = X.segs.map (fun s => nameS s.first) := by
  obtain ⟨k, hk⟩ := h.hold
  unfold namesC namesL
  rw [h.live, hk.fs]
  exact ⟨rfl, filesG_names _ _⟩
theorem names_jat (w : World) (H : Nat → Prop) (J D : Nat) (X : Jn) (S : Dk) (h : JAt w H J D X S) :
    Calls Tryz.prog 16 #[.pointer (some ⟨D, 0, none⟩)] w fun e w' => ∃ v, e = .returned (.tuple #[v, .int .i64 (namesC S)]) ∧ w'.ownsRow w.heap.size 9 1 v (namesL S).length ((namesL S).map encStr) ∧ Turn (fun _ => False) w w' := by
  obtain ⟨F, G, sv, E, d, m, _⟩ := h; exact Names_walk w D F S d
theorem JAt.same {H : Nat → Prop} {w w' : World} {J D : Nat} {X : Jn} {S : Dk} (h : JAt w H J D X S) (T : Turn (fun _ => False) w w') : JAt w' H J D X S := h.turn T (fun _ _ h => h)
/-- what is not of the journal stays -/
theorem keep_obj {H : Nat → Prop} {w w1 w2 : World} {k : Nat} {o : Obj} (T : Turn H w1 w2) (hk : w1.heap[k]? = some o) (hn : ¬ H k) : w2.heap[k]? = some o := T.same hk hn
theorem rem9 (a : Int) (k : Nat) (h0 : 0 < k) (h1 : k ≤ 1000) : ∃ n : Nat, n < k ∧ wrap64 ((IntKind.u64.wrap a).tmod (k : Int)) = (n : Int) := by
  refine ⟨(a % 18446744073709551616 % (k : Int)).toNat, ?_, ?_⟩
  · have := Int.emod_lt_of_pos (a % 18446744073709551616) (show (0 : Int) < k by omega)
    omega
  · have e : (IntKind.u64.wrap a).tmod (k : Int) = a % 18446744073709551616 % (k : Int) := by
      rw [IntKind.wrap_u64, Int.tmod_eq_emod_of_nonneg (by omega)]
    have h2 := Int.emod_lt_of_pos (a % 18446744073709551616) (show (0 : Int) < k by omega)
    have h3 := Int.emod_nonneg (a % 18446744073709551616) (show (k : Int) ≠ 0 by omega)
    rw [e]
    unfold wrap64
    omega
theorem max_run (a b : Nat) (u : World) : (Builtin.max_ #[3, 3] 3 #[.int .i64 ((a : Int) - 1), .int .i64 0]).run Tryz.prog u = .ok (.int .i64 ((a - 1 : Nat) : Int)) u := by
  have e1 : (if (a : Int) - 1 < 0 then (0 : Int) else (a : Int) - 1) = ((a - 1 : Nat) : Int) := by split <;> omega
  simp only [Builtin.max_, List.foldlM, Builtin.max2, pure_bind]
  first
    | (rw [show (if (0 : Int) < (a : Int) - 1 then ((a : Int) - 1) else 0) = ((a - 1 : Nat) : Int) by split <;> omega]; rfl)
    | (simp only [e1]; rfl)
theorem min_run (a b : Nat) (u : World) : (Builtin.min_ #[3, 3] 3 #[.int .i64 (a : Int), .int .i64 (b : Int)]).run Tryz.prog u = .ok (.int .i64 ((min a b : Nat) : Int)) u := by
  have e1 : (if (b : Int) < (a : Int) then (b : Int) else (a : Int)) = ((min a b : Nat) : Int) := by split <;> omega
  simp only [Builtin.min_, List.foldlM, Builtin.min2, pure_bind, e1]
  rfl
end Go.Proofs.YthikiahhochjmaaGreatDoor
