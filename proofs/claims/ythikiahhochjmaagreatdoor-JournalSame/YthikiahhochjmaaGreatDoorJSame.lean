/- Lists of byte lists held against each other; a list of the law's own; Open where nothing is to be mended. -/
import Derived.Test.YthikiahhochjmaaGreatDoorLawBad7
import Derived.Test.YthikiahhochjmaaGreatDoorFArg
namespace Go.Proofs.YthikiahhochjmaaGreatDoor
open Go.RowKit Go.Maps Go.Sort
set_option linter.unusedVariables false
set_option linter.unusedSimpArgs false

set_option maxRecDepth 100000 in
set_option maxHeartbeats 2000000 in
theorem same_lists (v v' : Value) (zss : List (List Int)) (w : World) (h : BArgs w v zss) (h' : BArgs w v' zss) :
    Calls Tryz.prog 28 #[v, v', .func (.func 29) #[] #[]] w fun e w' => e = .returned (.bool true) ∧ Turn (fun _ => False) w w' := by
  obtain ⟨a, c, rfl⟩ := h.form
  obtain ⟨a', c', rfl⟩ := h'.form
  have hm := h.len
  unfold maxLen at hm
  have H := hide (And.intro h h')
  clear h h'
  generalize hl : zss.length = n at *
  have Hl := hide hl
  clear hl
  go_enter Tryz.func28, Tryz.ntmps28
  go_wp2_with fail
  go_loopw [7] (fun i wr => ∃ k : Nat, k ≤ n ∧ i = .int .i64 (k : Int) ∧ Turn (fun _ => False) w wr) (fun i _ => n - (intOf i).toNat)
  case atStart => exact ⟨0, Nat.zero_le _, rfl, Turn.refl _ _⟩
  case round =>
    obtain ⟨k, hk, rfl, T⟩ := hrel
    by_cases hlt : k < n
    · obtain ⟨h, h'⟩ := unhide H
      obtain ⟨g, off, cc, u, e1, q1, r1⟩ := (h.turn T).cell k (by rw [show zss.length = n from unhide Hl]; exact hlt)
      obtain ⟨g', off', cc', u', e2, q2, r2⟩ := (h'.turn T).cell k (by rw [show zss.length = n from unhide Hl]; exact hlt)
      have ea : a = some ⟨g, off, none⟩ := by simp at e1; exact e1.1
      have ea' : a' = some ⟨g', off', none⟩ := by simp at e2; exact e2.1
      subst ea ea'
      have q1n : ∀ m, (wr.drewN m).cell? ⟨g, off + k, none⟩ = some u := fun m => (Turn.drewN (Turn.refl (fun _ => False) wr) m).cell q1 id
      have q2n : ∀ m, (wr.drewN m).cell? ⟨g', off' + k, none⟩ = some u' := fun m => (Turn.drewN (Turn.refl (fun _ => False) wr) m).cell q2 id
      have hb : ∀ m, Calls Tryz.prog 29 #[u, u'] (wr.drewN m) fun e w' => e = .returned (.bool true) ∧ w' = wr.drewN m := fun m => bytes_walk _ _ u u' (zss.getD k []) (wr.drewN m) (r1.turn (Turn.drewN (Turn.refl (fun _ => False) wr) m) (fun _ _ h => h)) (r2.turn (Turn.drewN (Turn.refl (fun _ => False) wr) m) (fun _ _ h => h))
      have Hq := hide (And.intro q1n q2n)
      clear h h' e1 e2 r1 r2 q1n q2n
      go_wp2
      go_quiet ((go_at_call 29; exact Calls.quiet_of_same (hb _)))
      go_wp2
      exact ⟨⟨k + 1, by omega, by go_num, T.drewN nq⟩, by simp [intOf]; omega⟩
    · go_wp2
      go_ret
      exact ⟨rfl, T⟩

theorem bargs_of_lists {w : World} {base : Nat} {v : Value} {zss : List (List Int)} (h : Lists w base v zss) (hb : ∀ z ∈ zss, Bytes z) (hl : zss.length ≤ maxLen) : BArgs w v zss := by
  refine ⟨hl, h.slice, fun i hi => ?_, hb⟩
  obtain ⟨g, off, cap, u, e, q, o, _⟩ := h.at i hi
  refine ⟨g, off, cap, u, e, q, ?_⟩
  rw [show zss.getD i [] = zss[i] by simp [hi]]
  exact (row_of_sl o).mono (fun _ _ => trivial)

/-- a list of byte lists of the law's own, whose elements lie in blocks below b0 -/
def MyL (w : World) (b0 : Nat) (v : Value) (zss : List (List Int)) : Prop :=
  ∃ us : List Value, OwnSl w 33 1 v us.length us ∧ us.length = zss.length ∧ ∀ (i : Nat) (u : Value) (z : List Int), us[i]? = some u → zss[i]? = some z → Row .u8 (fun b => any b ∧ b < b0) w u z
theorem MyL.turn {F : Nat → Prop} {w w' : World} {b0 : Nat} {v : Value} {zss : List (List Int)} (h : MyL w b0 v zss) (T : Turn F w w') (h1 : ∀ j, v.ownBlock = some j → ¬ F j) (h2 : ∀ j, j < b0 → ¬ F j) : MyL w' b0 v zss := by
  obtain ⟨us, a, b, c⟩ := h
  exact ⟨us, a.turn T h1, b, fun i u z hu hz => (c i u z hu hz).turn T (fun j hj => h2 j hj.2)⟩
theorem myL_none (w : World) (b0 : Nat) : MyL w b0 (.slice none 0 0) [] := ⟨[], ⟨rfl, .inl ⟨rfl, rfl⟩⟩, rfl, fun i u z hu => by simp at hu⟩
theorem MyL.slice {w : World} {b0 : Nat} {v : Value} {zss : List (List Int)} (h : MyL w b0 v zss) : ∃ a c, v = .slice a zss.length c := by
  obtain ⟨us, a, b, _⟩ := h
  obtain ⟨x, c, hv⟩ := a.form
  exact ⟨x, c, by rw [hv, b]⟩
theorem MyL.bargs {w : World} {b0 : Nat} {v : Value} {zss : List (List Int)} (h : MyL w b0 v zss) (hb : ∀ z ∈ zss, Bytes z) (hl : zss.length ≤ maxLen) : BArgs w v zss := by
  have hs := h.slice
  obtain ⟨us, a, b, c⟩ := h
  refine ⟨hl, hs, fun i hi => ?_, hb⟩
  have hu : us[i]? = some (us[i]'(by omega)) := by simp
  have a' := a
  rcases a.2 with ⟨rfl, h0⟩ | ⟨g, off, cap, cur, rfl, _⟩
  · omega
  · refine ⟨g, off, cap, us[i]'(by omega), by rw [b], a'.cells i _ hu, ?_⟩
    rw [show zss.getD i [] = zss[i] by simp [hi]]
    exact (c i _ _ hu (by simp [hi])).mono (fun _ _ => trivial)
/-- one more behind -/
theorem MyL.push {w : World} {b0 : Nat} {v x : Value} {zss : List (List Int)} {z : List Int} (h : MyL w b0 v zss) (hx : Row .u8 (fun b => any b ∧ b < b0) w x z) (hm : zss.length ≤ 1000000) (hv : ∀ j, v.ownBlock = some j → b0 ≤ j) :
    ∃ v' w2, (Builtin.append_ #[29, 29] 29 #[v, .slice (some ⟨w.heap.size, 0, none⟩) 1 1]).run Tryz.prog (w.alloc (.cells #[x] 33)) = .ok v' w2 ∧ MyL w2 b0 v' (zss ++ [z]) ∧ Turn (fun j => v.ownBlock = some j) w w2 ∧ (∀ j, v'.ownBlock = some j → v.ownBlock = some j ∨ w.heap.size ≤ j) := by
  obtain ⟨i0, hi, hz0, hz1, hz2⟩ := info_parts info_sl
  obtain ⟨us, h1, h2, h3⟩ := h
  have TA : Turn (fun _ => False) w (w.alloc (.cells #[x] 33)) := (Turn.refl _ w).alloc _
  have hs : Src 1 (w.alloc (.cells #[x] 33)) (.slice (some ⟨w.heap.size, 0, none⟩) 1 1) 1 [x] := ⟨rfl, .inr ⟨_, _, rfl, by omega, one_new w 33 x⟩⟩
  obtain ⟨ax, cx, hxv⟩ := hx.slice
  obtain ⟨v', w2, r1, r2, r3, r4⟩ := append_src (P := Tryz.prog) (ty := 29) Tryz.underlying29 hi hz0 hz1 hz2 rfl (by omega) (h1.turn TA (fun _ _ h => h)) hs (fun u hu => by simp at hu; subst hu; rw [hxv]; rfl) (by unfold maxLen; omega) (by omega)
  have sA := TA.size
  have T2 : Turn (fun j => v.ownBlock = some j) w w2 := (TA.mono (fun _ h => h.elim)).then r3
  have keep : ∀ (u : Value) (y : List Int), Row .u8 (fun b => any b ∧ b < b0) w u y → Row .u8 (fun b => any b ∧ b < b0) w2 u y := fun u y hu => hu.turn T2 (fun j hj hh => by have := hv j hh; have := hj.2; omega)
  refine ⟨v', w2, r1, ⟨us ++ [x], by simpa using r2, by simp [h2], fun i u y hu hy => ?_⟩, T2, fun j hj => ?_⟩
  · by_cases hlt : i < us.length
    · rw [List.getElem?_append_left hlt] at hu
      rw [List.getElem?_append_left (by omega)] at hy
      exact keep u y (h3 i u y hu hy)
    · rw [List.getElem?_append_right (by omega)] at hu
      rw [List.getElem?_append_right (by omega)] at hy
      have hi0 : i - us.length = 0 := by
        rcases Nat.eq_zero_or_pos (i - us.length) with h | h
        · exact h
        · rw [List.getElem?_eq_none (by simp; omega)] at hu; cases hu
      rw [hi0] at hu
      rw [show i - zss.length = 0 by omega] at hy
      simp at hu hy
      subst hu hy
      exact keep _ _ hx
  · rcases r4 j hj with h | h
    · exact .inl h
    · exact .inr (by omega)
/-- from a place on -/
theorem MyL.from_ {w : World} {b0 : Nat} {v : Value} {zss : List (List Int)} (h : MyL w b0 v zss) (n : Nat) (hn : n ≤ zss.length) (hb : ∀ z ∈ zss, Bytes z) (hl : zss.length ≤ maxLen) :
    ∃ x, (∀ u : World, (Instr.slice 29 v (some (.int .u64 (n : Int))) none none).run Tryz.prog u = .ok x u) ∧ BArgs w x (zss.drop n) := by
  obtain ⟨i0, hi, hz0, hz1, hz2⟩ := info_parts info_sl
  obtain ⟨us, h1, h2, h3⟩ := h
  obtain ⟨x, hx, hsrc, _⟩ := cutS_from (P := Tryz.prog) (ki := .u64) Tryz.underlying29 hi hz1 h1 n (by omega)
  have hdl : (zss.drop n).length = us.length - n := by rw [List.length_drop]; omega
  refine ⟨x, hx, ?_⟩
  rcases hsrc with ⟨e0, ⟨a, c, rfl, hn0, hz⟩ | ⟨a, c, rfl, h0, hc⟩⟩
  · have hd0 : zss.drop n = [] := List.eq_nil_of_length_eq_zero (by omega)
    rw [hd0]
    exact ⟨Nat.zero_le _, ⟨a, c, rfl⟩, fun i hi => by simp at hi, fun z hz => by cases hz⟩
  · have hcell : ∀ i, i < us.length - n → ∃ u, us[n + i]? = some u ∧ w.cell? (a.add i) = some u := fun i hi => by
      have hu : us[n + i]? = some (us[n + i]'(by omega)) := by simp
      refine ⟨_, hu, hc i _ ?_⟩
      rw [Nat.mul_one, List.getElem?_drop]; exact hu
    obtain ⟨g, off, spot⟩ := a
    have hspot : spot = none := by
      obtain ⟨u, _, h⟩ := hcell 0 h0
      simpa [Addr.add] using World.cell?_spot h
    subst hspot
    refine ⟨by omega, ⟨_, _, by rw [hdl]⟩, fun i hi => ?_, fun z hz => hb z (List.mem_of_mem_drop hz)⟩
    rw [hdl] at hi
    obtain ⟨u, hu, hq⟩ := hcell i hi
    rw [Addr.add_lit] at hq
    refine ⟨g, off, c, u, by rw [hdl], hq, ?_⟩
    have hz : zss[n + i]? = some ((zss.drop n).getD i []) := by
      rw [List.getD_eq_getElem?_getD, List.getElem?_drop, List.getElem?_eq_getElem (by omega)]; simp
    exact (h3 (n + i) u _ hu hz).mono (fun _ _ => trivial)

/-- truth values that came in -/
structure Bools (w : World) (v : Value) (n : Nat) (f : Nat → Bool) : Prop where
  len : n ≤ maxLen
  form : ∃ a c, v = .slice a n c
  cell : ∀ i, i < n → ∃ g off c, v = .slice (some ⟨g, off, none⟩) n c ∧ w.cell? ⟨g, off + i, none⟩ = some (.bool (f i))
/-- Open, where nothing is to be mended -/
theorem open_held (w : World) (F : Nat → Prop) (D m : Nat) (S : Dk) (segs : List Sg) (k : Nat) (d : DAt w D F S) (hh : Hold S segs k) (hd : S.down = false) (hb : ∀ b ∈ recsOf segs, Bytes b ∧ b.length ≤ 1048576) (hl : ∀ l s, segs = l ++ [s] → l = [] ∨ s.recs ≠ []) (hlow : ∀ s ∈ segs, s.first < 100) (hsz : S.size ≤ 1000000) (h1 : 1 ≤ m) (h2 : m ≤ 1000) :
    Calls Tryz.prog 24 #[.pointer (some ⟨D, 0, none⟩), .int .i64 (m : Int)] w fun e w' => ∃ J, e = .returned (.tuple #[.pointer (some ⟨J, 0, none⟩), .int .i64 0]) ∧ Turn F w w' ∧ JAt w' (NF w F) J D (newX m segs) S := by
  have ho := open_hold hh hd (fun b hb' => (hb b hb').2) hl
  have hN := numbers_in (w := w) (n := nameS 0) hh hlow (fun y hy => .inr ⟨y, hy, rfl⟩ : NamesIn S S (nameS 0)) (fun v hv => number_ok 0 (by decide) v) (fun _ v hv => by rw [num_nameS 0 (by decide)] at hv; cases hv; decide)
  refine (open_j w F D m S d (hold_bytes hh (fun b hb' => (hb b hb').1)) hsz hN.1 hN.2 h1 h2).mono ?_
  rintro e w' ⟨p, rfl, t, h⟩
  rw [ho]
  rcases h with ⟨_, J, rfl, _, h⟩ | ⟨h0, _⟩
  · rw [ho] at h; exact ⟨J, rfl, t, h⟩
  · rw [ho] at h0; exact absurd rfl h0
theorem ev_tail {m : Nat} {segs : List Sg} (h : Ev m segs) : ∀ l s, segs = l ++ [s] → l = [] ∨ s.recs ≠ [] := by
  rintro l s rfl
  right
  intro h0
  have := (ev_last h).2.1
  rw [h0] at this; simp at this
theorem Grown.again {B m i : Nat} {X : Jn} {S : Dk} (h : Grown B m i X S) : Grown B m i (newX m X.segs) S := ⟨rfl, rfl, Nat.zero_le _, h.ev, h.next, h.short, h.hold, h.live, h.calm, h.room⟩
theorem rem_u (a : Int) (k : Nat) (h0 : 0 < k) (h1 : k ≤ 10000) : ∃ n : Nat, n < k ∧ (IntKind.u64.wrap a).tmod (k : Int) = (n : Int) := by
  refine ⟨(a % 18446744073709551616 % (k : Int)).toNat, ?_, ?_⟩
  · have := Int.emod_lt_of_pos (a % 18446744073709551616) (show (0 : Int) < k by omega)
    omega
  · have h3 := Int.emod_nonneg (a % 18446744073709551616) (show (k : Int) ≠ 0 by omega)
    rw [IntKind.wrap_u64, Int.tmod_eq_emod_of_nonneg (by omega)]
    omega
end Go.Proofs.YthikiahhochjmaaGreatDoor
