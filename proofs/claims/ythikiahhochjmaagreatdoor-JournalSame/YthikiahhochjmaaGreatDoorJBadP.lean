/- Plain facts of a disk whose segments are at fault. -/
import Derived.Test.YthikiahhochjmaaGreatDoorJFound
import Derived.Test.YthikiahhochjmaaGreatDoorJGrown
namespace Go.Proofs.YthikiahhochjmaaGreatDoor
set_option linter.unusedVariables false
set_option linter.unusedSimpArgs false

theorem find_stop {S : Dk} {f : Nat} {r : List Nm} {all : List Sg} {en : Nat × Nat} (hf : f < 10000000000) (h0 : all ≠ []) (h : follows f all en = false) : findF S (nameS f :: r) all en = (12, [], 0, 0) := by
  have : 0 < all.length := List.length_pos_iff.2 h0
  simp only [findF]
  rw [mark_nameS, num_nameS f hf]
  simp [this, h]
theorem find_fault {S : Dk} {n : Nm} {r : List Nm} {all : List Sg} {en : Nat × Nat} (hm : markB n = true) (hn : numOf n = none) : findF S (n :: r) all en = (12, [], 0, 0) := by
  simp only [findF]; rw [hm, hn]; simp
theorem find_skip {S : Dk} {n : Nm} {r : List Nm} {all : List Sg} {en : Nat × Nat} (hm : markB n = false) : findF S (n :: r) all en = findF S r all en := by
  simp only [findF]; rw [hm]; simp
theorem open_bad {S : Dk} (hd : S.down = false) (h : findF S (S.fs.map Fl.n) [] (0, 0) = (12, [], 0, 0)) : openJ S = (12, [], S) := by
  have h1 : namesC S = 0 := by unfold namesC; rw [hd]; rfl
  have h2 : namesL S = S.fs.map Fl.n := by unfold namesL; rw [hd]; rfl
  have : findJ S = (12, [], 0, 0) := by unfold findJ; rw [h1, h2, h]; simp
  unfold openJ; rw [this]; simp

/-- three segments at least -/
theorem grown_three {B i : Nat} {X : Jn} {S : Dk} (h : Grown B 2 i X S) (hi : 5 ≤ i) : ∃ a b c r, X.segs = a :: b :: c :: r ∧ a.first = 0 ∧ b.first = 2 ∧ c.first = 4 ∧ a.recs.length = 2 ∧ b.recs.length = 2 := by
  have hl := ev_len (by decide) h.ev
  rw [h.next] at hl
  have : 3 ≤ X.segs.length := by omega
  have hev := h.ev
  match hx : X.segs, this with
  | a :: b :: c :: r, _ =>
    rw [hx] at hev
    have h0 := hev 0 a (by simp)
    have h1 := hev 1 b (by simp)
    have h2 := hev 2 c (by simp)
    refine ⟨a, b, c, r, rfl, by rw [h0.1], by rw [h1.1], by rw [h2.1], h0.2.2.2 (by simp), h1.2.2.2 (by simp)⟩
theorem grown_two {B i : Nat} {X : Jn} {S : Dk} (h : Grown B 2 i X S) (hi : 3 ≤ i) : ∃ a b r, X.segs = a :: b :: r ∧ a.first = 0 ∧ b.first = 2 ∧ a.recs.length = 2 := by
  have hl := ev_len (by decide) h.ev
  rw [h.next] at hl
  have : 2 ≤ X.segs.length := by omega
  have hev := h.ev
  match hx : X.segs, this with
  | a :: b :: r, _ =>
    rw [hx] at hev
    have h0 := hev 0 a (by simp)
    have h1 := hev 1 b (by simp)
    refine ⟨a, b, r, rfl, by rw [h0.1], by rw [h1.1], h0.2.2.2 (by simp)⟩
/-- one between is gone -/
theorem bad_gone {B i : Nat} {X : Jn} {S : Dk} (h : Grown B 2 i X S) (hB : B ≤ 1048576) (hi : 5 ≤ i) : removeC S (nameS 2) = 0 ∧ openJ (removeS S (nameS 2)) = (12, [], removeS S (nameS 2)) := by
  obtain ⟨a, b, c, r, hx, ha, hb, hc, hra, hrb⟩ := grown_three h hi
  obtain ⟨m, hh⟩ := h.hold
  have hr : Rise Fl.n S.fs := by rw [hh.fs]; exact filesG_rise hh.ch hh.low m
  have hf : S.fs = [fullG a] ++ fullG b :: filesG (c :: r) m := by rw [hh.fs, hx, filesG_cons a (by simp), filesG_cons b (by simp)]; rfl
  have hg : getK Fl.n (nameS 2) S.fs = some (fullG b) := by
    rw [← hb, hf]; rw [hf] at hr
    exact getK_mid (x := fullG b) hr
  obtain ⟨e1, e2⟩ := remove_there h.live hg
  have hb0 := (hit_none h.calm).1
  rw [hb0] at e1 e2
  simp only [Bool.false_eq_true, if_false] at e1 e2
  refine ⟨e1, ?_⟩
  have ed : delK Fl.n (nameS 2) S.fs = fullG a :: filesG (c :: r) m := by
    rw [← hb, hf]; rw [hf] at hr
    exact delK_mid (x := fullG b) hr
  rw [e2, (hit_none h.calm).2, ed]
  refine open_bad h.live ?_
  have hn : (fullG a :: filesG (c :: r) m).map Fl.n = nameS a.first :: nameS c.first :: r.map (fun s => nameS s.first) := by
    rw [List.map_cons, filesG_names]; rfl
  show findF _ ((fullG a :: filesG (c :: r) m).map Fl.n) [] (0, 0) = _
  rw [hn]
  have hga : getK Fl.n (nameS a.first) (fullG a :: filesG (c :: r) m) = some (fullG a) := by simp [getK, fullG, fileG]
  rw [find_more (by omega) (.inl rfl) (read_file (S := { S with fs := fullG a :: filesG (c :: r) m }) (s := a) h.live hga (fun y hy => by
    have := h.short y (List.mem_flatMap.2 ⟨a, by rw [hx]; simp, hy⟩)
    omega))]
  refine find_stop (by omega) (by simp) ?_
  have hne : ¬ c.first = nextOf [a] := by
    have : nextOf [a] = a.first + a.recs.length := rfl
    omega
  simp only [List.nil_append]
  unfold follows
  simp [show nextOf [(⟨a.first, a.recs⟩ : Sg)] = nextOf [a] from rfl, hne]
/-- the first one is cut -/
theorem bad_cut {B i : Nat} {X : Jn} {S : Dk} {x y : List Int} {r0 : List (List Int)} (h : Grown B 2 i X S) (hi : 3 ≤ i) (hx0 : recsOf X.segs = x :: y :: r0) (hx : x.length = 2) (hy : y.length = 2) :
    cutC S (nameS 0) 15 = 0 ∧ openJ (cutS S (nameS 0) 15) = (12, [], cutS S (nameS 0) 15) := by
  obtain ⟨a, b, r, hs, ha, hb, hra⟩ := grown_two h hi
  obtain ⟨m, hh⟩ := h.hold
  have har : a.recs = [x, y] := by
    rw [hs] at hx0
    simp only [recsOf, List.flatMap_cons] at hx0
    match hq : a.recs, hra with
    | [u, v], _ => rw [hq] at hx0; simp at hx0; rw [hx0.1, hx0.2.1]
  have hr : Rise Fl.n S.fs := by rw [hh.fs]; exact filesG_rise hh.ch hh.low m
  have hf : S.fs = [] ++ fullG a :: filesG (b :: r) m := by rw [hh.fs, hs, filesG_cons a (by simp)]; rfl
  have hg : getK Fl.n (nameS 0) S.fs = some (fullG a) := by
    rw [← ha, hf]; rw [hf] at hr
    exact getK_mid (x := fullG a) hr
  have hd : (fullG a).d = packB x ++ packB y := by simp [fullG, fileG, har, frames]
  have hl : (fullG a).d.length = 24 := by rw [hd, List.length_append, packB_len, packB_len, hx, hy]
  have e1 : cutC S (nameS 0) 15 = 0 := by
    unfold cutC
    rw [refuse_name h.live, hg]
    simp only [ne_eq, not_true_eq_false, if_false]
    rw [if_neg (by rw [hl]; omega), (hit_none h.calm).1]
    simp
  have e2 : cutS S (nameS 0) 15 = { S with fs := ⟨nameS 0, (fullG a).d.take 15, 15⟩ :: filesG (b :: r) m } := by
    unfold cutS
    rw [refuse_name h.live, hg]
    simp only [ne_eq, not_true_eq_false, if_false]
    rw [if_neg (by rw [hl]; omega), (hit_none h.calm).1, (hit_none h.calm).2]
    simp only [Bool.false_eq_true, if_false]
    have : putK Fl.n ⟨nameS 0, (fullG a).d.take 15, 15⟩ S.fs = ⟨nameS 0, (fullG a).d.take 15, 15⟩ :: filesG (b :: r) m := by
      rw [hf]; rw [hf] at hr
      exact putK_mid (x := fullG a) (x' := ⟨nameS 0, (fullG a).d.take 15, 15⟩) hr (by rw [← ha]; rfl)
    show ({ S with fs := putK Fl.n ⟨nameS 0, (fullG a).d.take 15, 15⟩ S.fs } : Dk) = _
    rw [this]
  refine ⟨e1, ?_⟩
  rw [e2]
  refine open_bad h.live ?_
  have hn : ((⟨nameS 0, (fullG a).d.take 15, 15⟩ : Fl) :: filesG (b :: r) m).map Fl.n = nameS 0 :: nameS b.first :: r.map (fun s => nameS s.first) := by
    rw [List.map_cons, filesG_names]; rfl
  show findF _ (((⟨nameS 0, (fullG a).d.take 15, 15⟩ : Fl) :: filesG (b :: r) m).map Fl.n) [] (0, 0) = _
  rw [hn]
  have ht : (fullG a).d.take 15 = frames [x] ++ ((packB y).take 3 ++ List.replicate 0 0) := by
    have h12 : (packB x).length = 12 := by rw [packB_len, hx]
    rw [hd, List.take_append, List.take_of_length_le (by omega), h12, frames_one]
    simp
  have hsc := scan_torn [x] y 3 0 (by intro z hz; simp at hz; rw [hz]; omega) (by omega) (by rw [packB_len]; omega)
  rw [← ht] at hsc
  have hrd : readG ({ S with fs := (⟨nameS 0, (fullG a).d.take 15, 15⟩ : Fl) :: filesG (b :: r) m } : Dk) 0 = (0, [x], 12, 3) := by
    have q0 : getK Fl.n (nameS 0) ((⟨nameS 0, (fullG a).d.take 15, 15⟩ : Fl) :: filesG (b :: r) m) = some ⟨nameS 0, (fullG a).d.take 15, 15⟩ := by simp [getK]
    have q1 : readC ({ S with fs := (⟨nameS 0, (fullG a).d.take 15, 15⟩ : Fl) :: filesG (b :: r) m } : Dk) (nameS 0) = 0 := by
      unfold readC; rw [refuse_name (S := { S with fs := (⟨nameS 0, (fullG a).d.take 15, 15⟩ : Fl) :: filesG (b :: r) m }) h.live]; simp only; rw [q0]; simp
    have q2 : readD ({ S with fs := (⟨nameS 0, (fullG a).d.take 15, 15⟩ : Fl) :: filesG (b :: r) m } : Dk) (nameS 0) = (fullG a).d.take 15 := by
      unfold readD; rw [refuse_name (S := { S with fs := (⟨nameS 0, (fullG a).d.take 15, 15⟩ : Fl) :: filesG (b :: r) m }) h.live]; simp only; rw [q0]; simp
    unfold readG
    rw [q1, q2, hsc]
    simp only [ne_eq, not_true_eq_false, if_false]
    rw [List.length_take, hl, frames_one, packB_len, hx]
    rfl
  rw [find_more (by omega) (.inl rfl) hrd]
  refine find_stop (by omega) (by simp) ?_
  simp [follows]
/-- a file behind all segments -/
theorem add_end {S : Dk} {segs : List Sg} {m : Nat} {n : Nm} (b : List Int) (h : Hold S segs m) (hn : ∀ s ∈ segs, bytesBefore (nameS s.first) n = true) :
    getK Fl.n n S.fs = none ∧ (appS S n b).fs = S.fs ++ [⟨n, b, 0⟩] := by
  have hb : ∀ e ∈ S.fs, bytesBefore (Fl.n e) n = true := by
    intro e he
    rw [h.fs] at he
    obtain ⟨s, hs, e1⟩ := filesG_mem he
    rw [e1]; exact hn s hs
  have hg : getK Fl.n n S.fs = none := by
    unfold getK
    rw [List.find?_eq_none]
    intro y hy
    simpa using before_ne (hb y hy)
  refine ⟨hg, ?_⟩
  have e1 : fileOf S n = ⟨n, [], 0⟩ := by unfold fileOf; rw [hg]; rfl
  unfold appS putK
  rw [e1]
  simp only
  rw [delK_none (fun e he => before_ne (hb e he)), insK_end hb]
  simp
theorem add_gets {S : Dk} {segs : List Sg} {m : Nat} {n : Nm} {b : List Int} (h : Hold S segs m) (e : (appS S n b).fs = S.fs ++ [⟨n, b, 0⟩]) : ∀ s ∈ segs, ∃ k, getK Fl.n (nameS s.first) (appS S n b).fs = some (fileG s k) := by
  intro s hs
  obtain ⟨k, hk⟩ := hold_get h s hs
  refine ⟨k, ?_⟩
  rw [e]
  unfold getK at hk ⊢
  rw [List.find?_append, hk]
  rfl
/-- what Append of such a file answers -/
theorem add_calls {B i : Nat} {X : Jn} {S : Dk} {n : Nm} (h : Grown B 2 i X S) (hi : i ≤ 10) (hB : B ≤ 300) :
    (appendC S n [120] = 0 ∨ appendC S n [120] = 1) ∧ (appendC S n [120] = 0 → appendS S n [120] = appS S n [120]) ∧ (appendC S n [120] ≠ 0 → appendS S n [120] = S) ∧ (goodB n = true → appendC S n [120] = 0) := by
  obtain ⟨m, hh⟩ := h.hold
  have hu : used S.fs ≤ i * (B + 10) := by
    rw [hh.fs, used_filesG, ← h.count]
    exact frames_le B _ h.short
  have hu2 : i * (B + 10) ≤ 10 * 310 := Nat.mul_le_mul hi (by omega)
  have hl : S.fs.length ≤ i + 1 := by
    rw [hh.fs, filesG_len]
    have := seg_le hh.ch
    rw [h.next] at this
    exact this
  have hfu : fullB S n [120] = false := by
    unfold fullB
    rw [Bool.or_eq_false_iff]
    refine ⟨by rw [h.room]; simp; omega, ?_⟩
    rw [Bool.and_eq_false_iff]; right; simp; omega
  unfold appendC appendS refuse
  rw [h.live, hfu, (hit_none h.calm).1]
  have h2 : hitS (appS S n [120]) = appS S n [120] := (hit_none (S := appS S n [120]) h.calm).2
  rw [h2]
  cases goodB n <;> simp
theorem low_hundred {B i : Nat} {X : Jn} {S : Dk} (h : Grown B 2 i X S) (hi : i ≤ 10) : ∀ s ∈ X.segs, s.first < 100 := fun s hs => ((h.fit (by omega) (by omega)).first s hs).1
theorem fives (f : Nat) (hf : f < 100) : bytesBefore (nameS f) [108, 53] = true := by rw [name_two f hf]; rfl
theorem exes (f : Nat) (hf : f < 100) (n : Nm) : bytesBefore (nameS f) (120 :: n) = true := by rw [name_two f hf]; rfl
theorem grown_recs {B i : Nat} {X : Jn} {S : Dk} (h : Grown B 2 i X S) (hB : B ≤ 300) : ∀ s ∈ X.segs, ∀ b ∈ s.recs, b.length ≤ 1048576 := fun s hs b hb => by
  have := h.short b (List.mem_flatMap.2 ⟨s, hs, hb⟩)
  omega
/-- a file that is no segment's, though its name begins so -/
theorem bad_five {B i : Nat} {X : Jn} {S : Dk} (h : Grown B 2 i X S) (hi : i ≤ 10) (hB : B ≤ 300) : appendC S [108, 53] [120] = 0 ∧ openJ (appendS S [108, 53] [120]) = (12, [], appendS S [108, 53] [120]) := by
  obtain ⟨m, hh⟩ := h.hold
  obtain ⟨_, c2, _, c4⟩ := add_calls (n := [108, 53]) h hi hB
  have c0 := c4 (by decide)
  refine ⟨c0, ?_⟩
  rw [c2 c0]
  obtain ⟨g1, g2⟩ := add_end (n := [108, 53]) [120] hh (fun s hs => fives _ (low_hundred h hi s hs))
  refine open_bad h.live ?_
  have hn : (appS S [108, 53] [120]).fs.map Fl.n = X.segs.map (fun s => nameS s.first) ++ [[108, 53]] := by rw [g2, List.map_append, hh.fs, filesG_names]; rfl
  rw [hn, find_files (S := appS S [108, 53] [120]) h.live X.segs [] [[108, 53]] (0, 0) hh.ch (add_gets hh g2) (fun s hs => ⟨hh.low s hs, grown_recs h hB s hs⟩) (.inl rfl)]
  exact find_fault (by decide) (by decide)
/-- other files play no part -/
theorem open_other {B i : Nat} {X : Jn} {S : Dk} (n : Nm) (h : Grown B 2 i X S) (hi : i ≤ 10) (hB : B ≤ 300) :
    (appendC S (120 :: n) [120] = 0 ∨ appendC S (120 :: n) [120] = 1) ∧ openJ (appendS S (120 :: n) [120]) = (0, X.segs, appendS S (120 :: n) [120]) := by
  obtain ⟨m, hh⟩ := h.hold
  obtain ⟨c1, c2, c3, _⟩ := add_calls (n := 120 :: n) h hi hB
  refine ⟨c1, ?_⟩
  have hlast : ∀ l s, X.segs = l ++ [s] → s.recs ≠ [] := by
    intro l s e
    have h1 := h.ev
    rw [e] at h1
    have := ev_last h1
    intro h0; rw [h0] at this; simp at this
  by_cases hc : appendC S (120 :: n) [120] = 0
  · rw [c2 hc]
    obtain ⟨g1, g2⟩ := add_end (n := 120 :: n) [120] hh (fun s hs => exes _ (low_hundred h hi s hs) n)
    have hnl : namesL (appS S (120 :: n) [120]) = X.segs.map (fun s => nameS s.first) ++ [120 :: n] := by
      unfold namesL
      rw [show (appS S (120 :: n) [120]).down = false from h.live, g2, List.map_append, hh.fs, filesG_names]; rfl
    have hnc : namesC (appS S (120 :: n) [120]) = 0 := by unfold namesC; rw [show (appS S (120 :: n) [120]).down = false from h.live]; rfl
    have hf := find_files (S := appS S (120 :: n) [120]) h.live X.segs [] [120 :: n] (0, 0) hh.ch (add_gets hh g2) (fun s hs => ⟨hh.low s hs, grown_recs h hB s hs⟩) (.inl rfl)
    rw [find_skip (by simp [markB, Lib.hasPrefix, List.isPrefixOf])] at hf
    have hj : findJ (appS S (120 :: n) [120]) = (0, X.segs, (match X.segs.getLast? with | none => (0, 0) | some s => ((frames s.recs).length, 0))) := by
      unfold findJ
      rw [hnc, hnl, hf]
      simp only [findF, ne_eq, not_true_eq_false, if_false, List.nil_append]
      cases X.segs.getLast? <;> rfl
    unfold openJ
    rw [hj]
    simp only [ne_eq, not_true_eq_false, if_false]
    unfold mendJ
    rcases snoc_of X.segs with e | ⟨l, s, e⟩
    · rw [e]; simp
    · rw [e]
      simp only [List.getLast?_append, List.getLast?_singleton, Option.some_or]
      rw [if_neg, if_neg (by simp)]
      rintro ⟨h1, h2⟩
      cases hr : s.recs with
      | nil => exact hlast l s e hr
      | cons b r => rw [hr] at h2; simp only [frames_cons, List.length_append, packB_len] at h2; omega
  · rw [c3 hc]
    exact open_hold hh h.live (fun b hb => by have := h.short b hb; omega) (fun l s e => .inr (hlast l s e))
end Go.Proofs.YthikiahhochjmaaGreatDoor
