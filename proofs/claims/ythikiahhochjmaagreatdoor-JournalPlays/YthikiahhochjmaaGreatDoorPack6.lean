/- Plain facts of a journal's segments: how many there are, where each begins, what is in them. What Open finds on a disk that holds segments and nothing else. What a fall leaves of a journal, and what Open finds and mends behind it. What JournalPlays keeps of a journal and its disk: plain facts. A segment's name; which number a name says. The smaller calls of a journal: the next number, whether a segment may follow, First, Next, Segments, why nothing is done, what is told. -/
import Derived.Test.YthikiahhochjmaaGreatDoorPack5
import Derived.Laws.Concat
namespace Go.Proofs.YthikiahhochjmaaGreatDoor
set_option linter.unusedVariables false
set_option linter.unusedSimpArgs false

theorem recs_grow (X : Jn) (b : List Int) : recsOf (growS X b) = recsOf X.segs ++ [b] := by
  cases hf : fullX X
  · obtain ⟨l, s, hx⟩ : ∃ l s, X.segs = l ++ [s] := by
      rcases snoc_of X.segs with e | ⟨l, s, e⟩
      · unfold fullX at hf; rw [e] at hf; cases hf
      · exact ⟨l, s, e⟩
    rw [grow_more hx hf, hx]; simp [recsOf]
  · rw [grow_full hf]; simp [recsOf]
theorem next_grow (X : Jn) (b : List Int) : nextOf (growS X b) = nextOf X.segs + 1 := by
  cases hf : fullX X
  · obtain ⟨l, s, hx⟩ : ∃ l s, X.segs = l ++ [s] := by
      rcases snoc_of X.segs with e | ⟨l, s, e⟩
      · unfold fullX at hf; rw [e] at hf; cases hf
      · exact ⟨l, s, e⟩
    rw [grow_more hx hf, hx, next_snoc, next_snoc]; simp; omega
  · rw [grow_full hf, next_snoc]; simp
theorem frames_le (B : Nat) : ∀ l : List (List Int), (∀ b ∈ l, b.length ≤ B) → (frames l).length ≤ l.length * (B + 10)
  | [], _ => by simp [frames]
  | b :: l, h => by
    have h1 := frames_le B l (fun x hx => h x (by simp [hx]))
    have h2 := h b (by simp)
    rw [frames_cons, List.length_append, packB_len, List.length_cons, Nat.succ_mul]
    omega
theorem ch_long {a : Sg} {l : List Sg} (h : Ch (a :: l)) : a.first + l.length ≤ nextOf (a :: l) := by
  induction l generalizing a with
  | nil => simp [nextOf]
  | cons b r ih =>
    have := ih h.2.2
    have h1 := h.1
    have hp : 0 < a.recs.length := List.length_pos_iff.2 h.2.1
    have e1 : nextOf (a :: b :: r) = nextOf (b :: r) := by simp [nextOf, List.getLast?_cons_cons]
    rw [e1]; simp only [List.length_cons]; omega
theorem ch_end {a : Sg} {l : List Sg} (h : Ch (a :: l)) : ∀ x ∈ a :: l, x.first + x.recs.length ≤ nextOf (a :: l) := by
  induction l generalizing a with
  | nil => intro x hx; simp at hx; rw [hx]; simp [nextOf]
  | cons b r ih =>
    have ih := ih h.2.2
    have h1 := h.1
    have e1 : nextOf (a :: b :: r) = nextOf (b :: r) := by simp [nextOf, List.getLast?_cons_cons]
    rw [e1]
    intro x hx
    rcases List.mem_cons.1 hx with rfl | hx
    · have := ih b (by simp); omega
    · exact ih x hx
theorem fit_of {X : Jn} (h : Ch X.segs) (hn : nextOf X.segs < 100) (hs : X.settled ≤ X.segs.length - 1) (hm : X.most ≤ 1000) : Fit X := by
  obtain ⟨most, segs, st, dn⟩ := X
  simp only at *
  cases segs with
  | nil => exact ⟨fun s hs => (by cases hs), by simp, Nat.le_trans hs (Nat.sub_le _ _), hm⟩
  | cons a l =>
    have h1 := ch_end h
    have h2 := ch_long h
    refine ⟨fun s hs => ?_, by simp; omega, by simp at hs ⊢; omega, hm⟩
    have := h1 s hs
    omega
/-- each segment but the last is just full -/
def Ev (m : Nat) (segs : List Sg) : Prop := ∀ (q : Nat) (s : Sg), segs[q]? = some s → s.first = q * m ∧ 1 ≤ s.recs.length ∧ s.recs.length ≤ m ∧ (q + 1 < segs.length → s.recs.length = m)
theorem ev_nil (m : Nat) : Ev m [] := fun q s h => by simp at h
theorem ev_last {m : Nat} {l : List Sg} {s : Sg} (h : Ev m (l ++ [s])) : s.first = l.length * m ∧ 1 ≤ s.recs.length ∧ s.recs.length ≤ m := by
  have := h l.length s (by simp)
  exact ⟨this.1, this.2.1, this.2.2.1⟩
theorem ev_grow {X : Jn} (b : List Int) (hm : 1 ≤ X.most) (h : Ev X.most X.segs) : Ev X.most (growS X b) := by
  cases hf : fullX X
  · obtain ⟨l, s, hx⟩ : ∃ l s, X.segs = l ++ [s] := by
      rcases snoc_of X.segs with e | ⟨l, s, e⟩
      · unfold fullX at hf; rw [e] at hf; cases hf
      · exact ⟨l, s, e⟩
    rw [grow_more hx hf]
    rw [hx] at h
    have hl := ev_last h
    have hlt : s.recs.length < X.most := by
      unfold fullX at hf; rw [hx] at hf; simpa using hf
    intro q t hq
    rw [List.getElem?_append] at hq
    split at hq
    · rename_i hlq
      have := h q t (by rw [List.getElem?_append_left hlq]; exact hq)
      refine ⟨this.1, this.2.1, this.2.2.1, fun _ => this.2.2.2 (by simp; omega)⟩
    · rename_i hlq
      have hq0 : q - l.length = 0 := by
        rcases Nat.eq_zero_or_pos (q - l.length) with h0 | h0
        · exact h0
        · rw [List.getElem?_eq_none (by simp; omega)] at hq; cases hq
      rw [hq0] at hq
      simp at hq
      subst hq
      have : q = l.length := by omega
      subst this
      refine ⟨hl.1, by simp, by simp; omega, fun h => by simp at h⟩
  · rw [grow_full hf]
    intro q t hq
    rw [List.getElem?_append] at hq
    split at hq
    · rename_i hlq
      have h1 := h q t hq
      refine ⟨h1.1, h1.2.1, h1.2.2.1, fun _ => ?_⟩
      by_cases hlast : q + 1 < X.segs.length
      · exact h1.2.2.2 hlast
      · rcases snoc_of X.segs with e | ⟨l, s, e⟩
        · rw [e] at hlq; simp at hlq
        · have hfull : X.most ≤ s.recs.length := by
            unfold fullX at hf; rw [e] at hf; simpa using hf
          have hql : q = l.length := by rw [e] at hlast hlq; simp at hlast hlq; omega
          rw [e, hql] at hq
          simp at hq
          subst hq
          have := h1.2.2.1
          omega
    · rename_i hlq
      have hq0 : q - X.segs.length = 0 := by
        rcases Nat.eq_zero_or_pos (q - X.segs.length) with h0 | h0
        · exact h0
        · rw [List.getElem?_eq_none (by simp; omega)] at hq; cases hq
      rw [hq0] at hq
      simp at hq
      have hq1 : q = X.segs.length := by omega
      rw [hq1, ← hq]
      refine ⟨?_, by simp, by simp; omega, fun h => by simp at h⟩
      simp only
      rcases snoc_of X.segs with e | ⟨l, s, e⟩
      · rw [e]; simp [nextOf]
      · have hfull : X.most ≤ s.recs.length := by
          unfold fullX at hf; rw [e] at hf; simpa using hf
        rw [e] at h
        have hl := ev_last h
        rw [e, next_snoc, hl.1]
        simp only [List.length_append, List.length_cons, List.length_nil, Nat.zero_add]
        rw [Nat.succ_mul]; omega
theorem ev_len {m : Nat} {segs : List Sg} (hm : 1 ≤ m) (h : Ev m segs) : segs.length = (nextOf segs + m - 1) / m := by
  rcases snoc_of segs with rfl | ⟨l, s, rfl⟩
  · simp only [nextOf, List.getLast?_nil, List.length_nil]; rw [Nat.div_eq_of_lt (by omega)]
  · obtain ⟨h1, h2, h3⟩ := ev_last h
    rw [next_snoc, h1]
    have : l.length * m + s.recs.length + m - 1 = (s.recs.length - 1) + m * (l.length + 1) := by rw [Nat.mul_succ, Nat.mul_comm m]; omega
    rw [this, Nat.add_mul_div_left _ _ (by omega), Nat.div_eq_of_lt (by omega)]
    simp
theorem below_ev {m : Nat} (hm : 1 ≤ m) (n : Nat) : ∀ (l : List Sg) (q0 : Nat), (∀ (q : Nat) (s : Sg), l[q]? = some s → s.first = (q0 + q) * m) → q0 * m ≤ n → below n l = min (n / m - q0) (l.length - 1)
  | [], q0, h, hq => by simp [below]
  | [a], q0, h, hq => by simp [below]
  | a :: b :: r, q0, h, hq => by
    have hb := h 1 b (by simp)
    simp only [below]
    split
    · rename_i hle
      rw [below_ev hm n (b :: r) (q0 + 1) (fun q s hs => by rw [h (q + 1) s (by simpa using hs)]; congr 1; omega) (by omega)]
      have : q0 + 1 ≤ n / m := by rw [Nat.le_div_iff_mul_le (by omega)]; omega
      simp only [List.length_cons]
      omega
    · rename_i hle
      have : n / m < q0 + 1 := by rw [Nat.div_lt_iff_lt_mul (by omega)]; omega
      simp only [List.length_cons]
      omega
theorem ev_below {m n : Nat} {segs : List Sg} (hm : 1 ≤ m) (h : Ev m segs) : below n segs = min (n / m) (segs.length - 1) := by
  have := below_ev hm n segs 0 (fun q s hs => by rw [(h q s hs).1]; simp) (by simp)
  simpa using this
theorem ev_first {m c : Nat} {segs : List Sg} (h : Ev m segs) (hc : c ≤ segs.length - 1) (h0 : segs.length = 0 → c = 0) : firstOf (segs.drop c) = c * m := by
  by_cases hs : segs.length = 0
  · have : segs = [] := List.length_eq_zero_iff.1 hs
    rw [this, h0 hs]; simp [firstOf]
  · have hlt : c < segs.length := by omega
    have := h c segs[c] (by simp [hlt])
    rw [List.drop_eq_getElem_cons hlt]
    simp only [firstOf, List.head?_cons]
    exact this.1
theorem count_first {segs : List Sg} (h : Ch segs) : (recsOf segs).length = nextOf segs - firstOf segs ∧ firstOf segs ≤ nextOf segs := by
  cases segs with
  | nil => simp [recsOf, nextOf, firstOf]
  | cons a l =>
    have := ch_count h
    simp only [firstOf, List.head?_cons]
    omega
theorem ev_name {m q : Nat} {segs : List Sg} (h : Ev m segs) (hq : q < segs.length) : (segs.map (fun s => nameS s.first))[q]? = some (nameS (q * m)) := by
  rw [List.getElem?_map, List.getElem?_eq_getElem hq]
  have := h q segs[q] (by simp [hq])
  simp [this.1]
theorem name_two (k : Nat) (h : k < 100) : nameS k = [108, 48, 48, 48, 48, 48, 48, 48, 48, UInt8.ofNat (48 + k / 10), UInt8.ofNat (48 + k % 10)] := by
  have h1 : k / 10 / 10 = 0 := by omega
  have h2 : k / 10 % 10 = k / 10 := by omega
  simp [nameS, dig, h1, h2]
end Go.Proofs.YthikiahhochjmaaGreatDoor


namespace Go.Proofs.YthikiahhochjmaaGreatDoor
set_option linter.unusedVariables false
set_option linter.unusedSimpArgs false

theorem scan_all (l : List (List Int)) (h : ∀ b ∈ l, b.length ≤ 1048576) : scanT (frames l) = (l, (frames l).length, 0) := by
  have := scan_frames l [] h
  rw [List.append_nil, scan_end (b := []) (by left; rfl)] at this
  simpa using this
theorem hold_get {S : Dk} {segs : List Sg} {m : Nat} (h : Hold S segs m) : ∀ s ∈ segs, ∃ k, getK Fl.n (nameS s.first) S.fs = some (fileG s k) := by
  intro s hs
  have hr : Rise Fl.n S.fs := by rw [h.fs]; exact filesG_rise h.ch h.low m
  rcases snoc_of segs with rfl | ⟨l, t, rfl⟩
  · cases hs
  · rcases List.mem_append.1 hs with hs | hs
    · exact ⟨(frames s.recs).length, getK_of_mem (x := fullG s) hr (by rw [h.fs, filesG_snoc]; exact List.mem_append_left _ (List.mem_map.2 ⟨s, hs, rfl⟩))⟩
    · simp at hs
      subst hs
      exact ⟨m, getK_of_mem (x := fileG s m) hr (by rw [h.fs, filesG_snoc]; simp)⟩
/-- a segment's file is read -/
theorem read_file {S : Dk} {s : Sg} {k : Nat} (hd : S.down = false) (hg : getK Fl.n (nameS s.first) S.fs = some (fileG s k)) (hb : ∀ b ∈ s.recs, b.length ≤ 1048576) :
    readG S s.first = (0, s.recs, (frames s.recs).length, 0) := by
  have e1 : readC S (nameS s.first) = 0 := by unfold readC; rw [refuse_name hd, hg]; rfl
  have e2 : readD S (nameS s.first) = frames s.recs := by unfold readD; rw [refuse_name hd, hg]; rfl
  unfold readG
  rw [e1, e2, scan_all s.recs hb]
  simp
theorem find_more {S : Dk} {f : Nat} {r : List Nm} {all : List Sg} {en : Nat × Nat} {recs : List (List Int)} {a b : Nat} (hf : f < 10000000000) (h0 : all = [] ∨ follows f all en = true) (hr : readG S f = (0, recs, a, b)) :
    findF S (nameS f :: r) all en = findF S r (all ++ [⟨f, recs⟩]) (a, b) := by
  simp only [findF]
  rw [mark_nameS, num_nameS f hf]
  simp only [if_true]
  rw [hr]
  have : ¬ (0 < all.length ∧ follows f all en = false) := by
    rintro ⟨h1, h2⟩
    rcases h0 with h | h
    · rw [h] at h1; simp at h1
    · rw [h] at h2; cases h2
  simp [this]
/-- all of them are found -/
theorem find_files {S : Dk} (hd : S.down = false) : ∀ (B A : List Sg) (r : List Nm) (en : Nat × Nat), Ch (A ++ B) → (∀ s ∈ B, ∃ k, getK Fl.n (nameS s.first) S.fs = some (fileG s k)) → (∀ s ∈ B, s.first < 1000000000 ∧ ∀ b ∈ s.recs, b.length ≤ 1048576) → (A = [] ∨ en.2 = 0) →
    findF S (B.map (fun s => nameS s.first) ++ r) A en = findF S r (A ++ B) (match B.getLast? with | none => en | some s => ((frames s.recs).length, 0))
  | [], A, r, en, _, _, _, _ => by simp
  | s :: B, A, r, en, hc, hg, hb, he => by
    obtain ⟨k, hk⟩ := hg s (by simp)
    obtain ⟨h1, h2⟩ := hb s (by simp)
    have hfol : A = [] ∨ follows s.first A en = true := by
      rcases he with he | he
      · exact .inl he
      · rcases snoc_of A with rfl | ⟨l, t, rfl⟩
        · exact .inl rfl
        · right
          unfold follows
          rw [he, next_snoc]
          have : ∀ (l : List Sg), Ch (l ++ [t] ++ s :: B) → s.first = t.first + t.recs.length := by
            intro l
            induction l with
            | nil => intro h; exact h.1
            | cons a l ih => intro h; exact ih (ch_tail h)
          simp [this l hc]
    simp only [List.map_cons, List.cons_append]
    rw [find_more (by omega) hfol (read_file hd hk h2)]
    have e : (⟨s.first, s.recs⟩ : Sg) = s := rfl
    rw [e, find_files hd B (A ++ [s]) r _ (by simpa using hc) (fun x hx => hg x (by simp [hx])) (fun x hx => hb x (by simp [hx])) (.inr rfl)]
    congr 1
    · simp
    · cases B with
      | nil => simp
      | cons b B =>
        rw [List.getLast?_cons_cons]
        cases h : (b :: B).getLast? with
        | none => simp at h
        | some t => rfl
/-- Open, where nothing is to be mended -/
theorem open_hold {S : Dk} {segs : List Sg} {m : Nat} (h : Hold S segs m) (hd : S.down = false) (hb : ∀ b ∈ recsOf segs, b.length ≤ 1048576) (hl : ∀ l s, segs = l ++ [s] → l = [] ∨ s.recs ≠ []) : openJ S = (0, segs, S) := by
  have hn : namesL S = segs.map (fun s => nameS s.first) ++ [] := by unfold namesL; rw [hd, h.fs, List.append_nil]; exact filesG_names _ _
  have hnc : namesC S = 0 := by unfold namesC; rw [hd]; rfl
  have hf := find_files hd segs [] [] (0, 0) h.ch (hold_get h) (fun s hs => ⟨h.low s hs, fun b hbs => hb b (List.mem_flatMap.2 ⟨s, hs, hbs⟩)⟩) (.inl rfl)
  have hj : findJ S = (0, segs, (match segs.getLast? with | none => (0, 0) | some s => ((frames s.recs).length, 0))) := by
    unfold findJ
    rw [hnc, hn, hf]
    simp [findF]
  unfold openJ
  rw [hj]
  simp only [ne_eq, not_true_eq_false, if_false]
  unfold mendJ
  rcases snoc_of segs with rfl | ⟨l, s, rfl⟩
  · simp
  · simp only [List.getLast?_append, List.getLast?_singleton, Option.some_or]
    rw [if_neg, if_neg (by simp)]
    rintro ⟨h1, h2⟩
    rcases hl l s rfl with h0 | h0
    · rw [h0] at h1; simp at h1
    · cases hr : s.recs with
      | nil => exact h0 hr
      | cons b r => rw [hr] at h2; simp only [frames_cons, List.length_append, packB_len] at h2; omega
end Go.Proofs.YthikiahhochjmaaGreatDoor


namespace Go.Proofs.YthikiahhochjmaaGreatDoor
set_option linter.unusedVariables false
set_option linter.unusedSimpArgs false

/-- how many bytes the first k records have -/
def flen (l : List (List Int)) (k : Nat) : Nat := (frames (l.take k)).length
theorem flen_succ (l : List (List Int)) (k : Nat) (h : k < l.length) : flen l (k + 1) = flen l k + ((l.getD k []).length + 10) := by
  unfold flen
  rw [List.take_succ_eq_append_getElem h, frames_append, List.length_append]
  simp [frames, packB_len, h]
theorem flen_all (l : List (List Int)) {k : Nat} (h : l.length ≤ k) : flen l k = (frames l).length := by unfold flen; rw [List.take_of_length_le h]
theorem flen_mono (l : List (List Int)) : ∀ {j k : Nat}, j ≤ k → flen l j ≤ flen l k := by
  intro j k h
  induction k with
  | zero => rw [show j = 0 by omega]; exact Nat.le_refl _
  | succ k ih =>
    by_cases e : j = k + 1
    · rw [e]; exact Nat.le_refl _
    · by_cases hk : k < l.length
      · rw [flen_succ l k hk]; have := ih (by omega); omega
      · rw [flen_all l (k := k + 1) (by omega), ← flen_all l (k := k) (by omega)]; exact ih (by omega)
theorem flen_less (l : List (List Int)) {j k : Nat} (h : j < k) (hj : j < l.length) : flen l j + 10 ≤ flen l k := by
  have h1 := flen_mono l (show j + 1 ≤ k from h)
  rw [flen_succ l j hj] at h1
  omega
/-- a beginning of frames: whole ones, and of one a beginning -/
theorem frames_cut : ∀ (l : List (List Int)) (q : Nat), q < (frames l).length → ∃ j p, j < l.length ∧ (frames l).take q = frames (l.take j) ++ (packB (l.getD j [])).take p ∧ p < (packB (l.getD j [])).length ∧ q = flen l j + p
  | [], q, h => by simp [frames] at h
  | b :: l, q, h => by
    rw [frames_cons] at h ⊢
    by_cases hq : q < (packB b).length
    · refine ⟨0, q, by simp, ?_, by simpa using hq, by simp [flen, frames]⟩
      rw [List.take_append_of_le_length (by omega)]
      simp [frames]
    · rw [List.length_append] at h
      obtain ⟨j, p, h1, h2, h3, h4⟩ := frames_cut l (q - (packB b).length) (by omega)
      refine ⟨j + 1, p, by simp; omega, ?_, by simpa using h3, ?_⟩
      · rw [List.take_append, List.take_of_length_le (by omega), h2]
        simp [frames_cons]
      · simp only [flen, List.take_succ_cons, frames_cons, List.length_append] at h4 ⊢
        omega
/-- files that are safe and not empty bear a fall -/
theorem fall_same (keep : List Int) : ∀ (l r : List Fl) (k : Nat), (∀ f ∈ l, f.s = f.d.length ∧ f.d ≠ []) → fallL keep k (l ++ r) = l ++ fallL keep (k + l.length) r
  | [], r, k, _ => by simp
  | f :: l, r, k, h => by
    obtain ⟨h1, h2⟩ := h f (by simp)
    have e : fallD f (turnK keep k) = f.d := by
      have := keepN_le f (turnK keep k)
      unfold fallD
      rw [if_pos (by omega)]
    have ef : fallF f (turnK keep k) = f := by unfold fallF; rw [e, ← h1]
    simp only [List.cons_append, fallL]
    rw [e, if_neg (by intro h0; exact h2 (List.eq_nil_of_length_eq_zero h0)), ef, fall_same keep l r (k + 1) (fun g hg => h g (by simp [hg]))]
    simp only [List.length_cons, List.cons_append]
    congr 3
    omega
theorem frames_none {l : List (List Int)} (h : frames l = []) : l = [] := by
  cases l with
  | nil => rfl
  | cons b r => have := congrArg List.length h; rw [frames_cons, List.length_append, packB_len] at this; simp at this
theorem full_inner {l : List Sg} (h : ∀ s ∈ l, s.recs ≠ []) : ∀ f ∈ l.map fullG, f.s = f.d.length ∧ f.d ≠ [] := by
  intro f hf
  obtain ⟨s, hs, rfl⟩ := List.mem_map.1 hf
  exact ⟨rfl, fun e => h s hs (frames_none e)⟩
/-- the last file's bytes behind a fall: so many whole records, and what is torn -/
structure Torn (s : Sg) (k : Nat) (t : List Int) (j : Nat) : Prop where
  le : k ≤ j
  top : j ≤ s.recs.length
  scan : scanT t = (s.recs.take j, flen s.recs j, 0)
  pre : t.take (flen s.recs j) = frames (s.recs.take j)
  len : flen s.recs j ≤ t.length
theorem fall_last {s : Sg} {k : Nat} (x : Int) (hk : k ≤ s.recs.length) (hb : ∀ b ∈ s.recs, b.length ≤ 1048576) : ∃ j, Torn s k (fallD (fileG s (flen s.recs k)) x) j := by
  have hkm : flen s.recs k ≤ (frames s.recs).length := by rw [← flen_all s.recs (Nat.le_refl _)]; exact flen_mono _ hk
  unfold fallD
  have hkn := keepN_le (fileG s (flen s.recs k)) x
  simp only [fileG] at hkn
  by_cases hw : keepN (fileG s (flen s.recs k)) x = (fileG s (flen s.recs k)).d.length - (fileG s (flen s.recs k)).s
  · rw [if_pos hw]
    refine ⟨s.recs.length, hk, Nat.le_refl _, ?_, ?_, by rw [flen_all _ (Nat.le_refl _)]; exact Nat.le_refl _⟩
    · rw [List.take_of_length_le (Nat.le_refl _), flen_all _ (Nat.le_refl _)]; exact scan_all s.recs hb
    · rw [List.take_of_length_le (Nat.le_refl _ : s.recs.length ≤ _), flen_all _ (Nat.le_refl _)]; exact List.take_of_length_le (Nat.le_refl _)
  · rw [if_neg hw]
    simp only [fileG] at hw ⊢
    obtain ⟨j, p, h1, h2, h3, h4⟩ := frames_cut s.recs (flen s.recs k + keepN ⟨nameS s.first, frames s.recs, flen s.recs k⟩ x) (by omega)
    have hkj : k ≤ j := by
      rcases Nat.lt_or_ge j k with h | h
      · have h5 := flen_mono s.recs (show j + 1 ≤ k from h)
        rw [flen_succ s.recs j h1] at h5
        rw [packB_len] at h3
        omega
      · exact h
    refine ⟨j, hkj, by omega, ?_, ?_, ?_⟩
    · rw [h2, List.append_assoc]
      exact scan_torn (s.recs.take j) (s.recs.getD j []) p _ (fun b hb' => hb b (List.mem_of_mem_take hb')) (hb _ (by simp [h1])) h3
    · rw [h2, List.append_assoc]; exact List.take_left' rfl
    · rw [List.length_append, h2, List.length_append]; unfold flen; omega

theorem ch_inner : ∀ {l : List Sg} {s : Sg}, Ch (l ++ [s]) → ∀ x ∈ l, x.recs ≠ []
  | [], s, _, x, hx => by cases hx
  | [a], s, h, x, hx => by simp at hx; subst hx; exact h.2.1
  | a :: b :: r, s, h, x, hx => by
    rcases List.mem_cons.1 hx with rfl | hx
    · exact h.2.1
    · exact ch_inner (l := b :: r) h.2.2 x hx
/-- all files behind a fall -/
theorem crash_files {S : Dk} {l : List Sg} {s : Sg} {k : Nat} (keep : List Int) (hfs : S.fs = l.map fullG ++ [fileG s (flen s.recs k)]) (h : Ch (l ++ [s])) (hk : k ≤ s.recs.length) (hb : ∀ b ∈ s.recs, b.length ≤ 1048576) :
    ∃ t j, Torn s k t j ∧ (crashS S keep).fs = l.map fullG ++ (if t.length = 0 then [] else [⟨nameS s.first, t, t.length⟩]) := by
  obtain ⟨j, hj⟩ := fall_last (turnK keep (0 + (l.map fullG).length)) hk hb
  refine ⟨_, j, hj, ?_⟩
  show fallL keep 0 S.fs = _
  rw [hfs, fall_same keep _ _ 0 (full_inner (ch_inner h))]
  simp only [fallL]
  split
  · rfl
  · rfl
theorem start_files {S : Dk} (h : ∀ f ∈ S.fs, f.s = f.d.length ∧ f.d ≠ []) : (startS S).fs = S.fs ∧ (startS S).down = false ∧ (startS S).arm = 0 ∧ (startS S).size = S.size := by
  unfold startS
  split
  · refine ⟨?_, rfl, rfl, rfl⟩
    show fallL [] 0 S.fs = S.fs
    have := fall_same [] S.fs [] 0 h
    rw [List.append_nil] at this
    rw [this]; simp [fallL]
  · exact ⟨rfl, rfl, rfl, rfl⟩
theorem start_up {S : Dk} (h : S.down = false) : (startS S).fs = S.fs ∧ (startS S).down = false ∧ (startS S).arm = 0 ∧ (startS S).size = S.size := by
  unfold startS; rw [h]; exact ⟨rfl, rfl, rfl, rfl⟩

/-- what Open makes of segments of which the last is torn -/
def mendS (l : List Sg) (s : Sg) (j : Nat) : List Sg := if l ≠ [] ∧ j = 0 then l else l ++ [⟨s.first, s.recs.take j⟩]
theorem flen_zero {l : List (List Int)} {j : Nat} (hj : j ≤ l.length) (h : flen l j = 0) : j = 0 := by
  rcases Nat.eq_zero_or_pos j with h0 | h0
  · exact h0
  · have := flen_less l h0 (by omega); omega
theorem whole_flen (l : List Sg) (s : Sg) (j : Nat) : whole (l ++ [⟨s.first, s.recs.take j⟩]) = flen s.recs j := by rw [whole_snoc]; rfl
theorem open_torn {S : Dk} {l : List Sg} {s : Sg} {k j : Nat} {t : List Int} (hfs : S.fs = l.map fullG ++ [⟨nameS s.first, t, t.length⟩]) (hd : S.down = false) (ha : S.arm = 0) (h : Ch (l ++ [s])) (hlow : ∀ x ∈ l ++ [s], x.first < 1000000000) (hb : ∀ b ∈ recsOf (l ++ [s]), b.length ≤ 1048576) (ht : Torn s k t j) :
    ∃ S', openJ S = (0, mendS l s j, S') ∧ Hold S' (mendS l s j) (whole (mendS l s j)) ∧ S'.down = false ∧ S'.arm = 0 ∧ S'.size = S.size := by
  have hs1 : s.first < 1000000000 := hlow s (by simp)
  have hr : Rise Fl.n S.fs := by rw [hfs]; exact rise_snoc h (by omega) rfl
  have hgl : ∀ x ∈ l, ∃ m, getK Fl.n (nameS x.first) S.fs = some (fileG x m) := fun x hx => ⟨(frames x.recs).length, getK_of_mem (x := fullG x) hr (by rw [hfs]; exact List.mem_append_left _ (List.mem_map.2 ⟨x, hx, rfl⟩))⟩
  have hgs : getK Fl.n (nameS s.first) S.fs = some ⟨nameS s.first, t, t.length⟩ := getK_of_mem (x := ⟨nameS s.first, t, t.length⟩) hr (by rw [hfs]; simp)
  have hnc : namesC S = 0 := by unfold namesC; rw [hd]; rfl
  have hn : namesL S = l.map (fun x => nameS x.first) ++ [nameS s.first] := by
    unfold namesL; rw [hd, hfs]
    simp [fullG, fileG, Function.comp_def]
  have hread : readG S s.first = (0, s.recs.take j, flen s.recs j, t.length - flen s.recs j) := by
    have e1 : readC S (nameS s.first) = 0 := by unfold readC; rw [refuse_name hd, hgs]; rfl
    have e2 : readD S (nameS s.first) = t := by unfold readD; rw [refuse_name hd, hgs]; rfl
    unfold readG
    rw [e1, e2, ht.scan]
    simp
  have hfol : l = [] ∨ ∀ en : Nat × Nat, en.2 = 0 → follows s.first l en = true := by
    rcases snoc_of l with e | ⟨l', x, e⟩
    · exact .inl e
    · right
      intro en he
      unfold follows
      rw [he, e, next_snoc]
      rw [e] at h
      have : ∀ (l' : List Sg), Ch (l' ++ [x] ++ [s]) → s.first = x.first + x.recs.length := by
        intro l'
        induction l' with
        | nil => intro h; exact h.1
        | cons a r ih => intro h; exact ih (ch_tail h)
      simp [this l' h]
  have hfind : findJ S = (0, l ++ [⟨s.first, s.recs.take j⟩], (flen s.recs j, t.length - flen s.recs j)) := by
    unfold findJ
    rw [hnc, hn, find_files hd l [] [nameS s.first] (0, 0) (by simpa using ch_init h) hgl (fun x hx => ⟨hlow x (by simp [hx]), fun b hbx => hb b (List.mem_flatMap.2 ⟨x, by simp [hx], hbx⟩)⟩) (.inl rfl)]
    rw [List.nil_append]
    have hen : l = [] ∨ (match l.getLast? with | none => ((0, 0) : Nat × Nat) | some s => ((frames s.recs).length, 0)).2 = 0 := by
      right
      cases l.getLast? <;> rfl
    rw [find_more (by omega) (by
      rcases hfol with h1 | h1
      · exact .inl h1
      · right
        refine h1 _ ?_
        cases l.getLast? <;> rfl) hread]
    simp [findF]
  unfold openJ
  rw [hfind]
  simp only [ne_eq, not_true_eq_false, if_false]
  unfold mendJ
  obtain ⟨hh1, hh2⟩ := hit_none ha
  have hrm := remove_there hd hgs
  rw [hh1, hh2] at hrm
  simp only [Bool.false_eq_true, if_false] at hrm
  have hlast : lastF (l ++ [⟨s.first, s.recs.take j⟩]) = s.first := lastF_end l _
  rw [hlast]
  have hchn : Ch (l ++ [⟨s.first, s.recs.take j⟩]) := ch_last h
  have hlown : ∀ x ∈ l ++ [(⟨s.first, s.recs.take j⟩ : Sg)], x.first < 1000000000 := fun x hx => by
    rcases List.mem_append.1 hx with hx | hx
    · exact hlow x (by simp [hx])
    · simp at hx; rw [hx]; exact hs1
  by_cases hA : l ≠ [] ∧ j = 0
  · obtain ⟨hl, rfl⟩ := hA
    have hm : mendS l s 0 = l := by unfold mendS; rw [if_pos ⟨hl, rfl⟩]
    have hlen : 1 < (l ++ [(⟨s.first, s.recs.take 0⟩ : Sg)]).length := by
      have := List.length_pos_iff.2 hl
      simp; omega
    simp only
    rw [if_pos ⟨hlen, by simp [flen, frames]⟩, hrm.1, hrm.2, List.dropLast_concat, hm]
    refine ⟨_, rfl, ⟨?_, ch_init h, fun x hx => hlow x (by simp [hx])⟩, hd, ha, rfl⟩
    show delK Fl.n (nameS s.first) S.fs = _
    have hr' := hr
    rw [hfs] at hr' ⊢
    have hdm := delK_mid (key := Fl.n) (X := l.map fullG) (Y := []) (x := ⟨nameS s.first, t, t.length⟩) hr'
    rw [show (⟨nameS s.first, t, t.length⟩ : Fl).n = nameS s.first from rfl] at hdm
    rw [hdm, List.append_nil]
    rcases snoc_of l with e | ⟨l', x, e⟩
    · exact absurd e hl
    · rw [e, whole_snoc, fullG_all]
  · have hm : mendS l s j = l ++ [⟨s.first, s.recs.take j⟩] := by unfold mendS; rw [if_neg hA]
    simp only
    rw [if_neg (by
      rintro ⟨h1, h2⟩
      refine hA ⟨?_, flen_zero ht.top h2⟩
      intro e; rw [e] at h1; simp at h1), hm]
    have hwh := whole_flen l s j
    rw [hwh]
    have hl := ht.len
    by_cases hB : 0 < t.length - flen s.recs j
    · rw [if_pos hB]
      have hcc : cutC S (nameS s.first) ((flen s.recs j : Nat) : Int) = 0 := by
        unfold cutC
        rw [refuse_name hd, hgs, hh1]
        simp only [ne_eq, not_true_eq_false, if_false]
        rw [if_neg (by omega)]; rfl
      have hcs : cutS S (nameS s.first) ((flen s.recs j : Nat) : Int) = { S with fs := putK Fl.n ⟨nameS s.first, t.take (flen s.recs j), flen s.recs j⟩ S.fs } := by
        unfold cutS
        rw [refuse_name hd, hgs, hh1, hh2]
        simp only [ne_eq, not_true_eq_false, if_false]
        rw [if_neg (by omega)]
        simp
      rw [hcc, hcs]
      refine ⟨_, rfl, ⟨?_, hchn, hlown⟩, hd, ha, rfl⟩
      show putK Fl.n _ S.fs = _
      have hr' := hr
      rw [hfs] at hr' ⊢
      rw [putK_mid (x' := ⟨nameS s.first, t.take (flen s.recs j), flen s.recs j⟩) hr' rfl, filesG_snoc, ht.pre]
      rfl
    · rw [if_neg hB]
      refine ⟨S, rfl, ⟨?_, hchn, hlown⟩, hd, ha, rfl⟩
      rw [hfs, filesG_snoc]
      have e : t = frames (s.recs.take j) := by rw [← ht.pre, List.take_of_length_le (by omega)]
      have e2 : t.length = flen s.recs j := by omega
      rw [e2]
      unfold fileG
      simp only
      rw [← e]
end Go.Proofs.YthikiahhochjmaaGreatDoor


namespace Go.Proofs.YthikiahhochjmaaGreatDoor
set_option linter.unusedVariables false
set_option linter.unusedSimpArgs false

/-- how many bytes of the last segment are safe, where k of its records are -/
def kLen (segs : List Sg) (k : Nat) : Nat := match segs.getLast? with | none => 0 | some s => flen s.recs k
theorem kLen_snoc (l : List Sg) (s : Sg) (k : Nat) : kLen (l ++ [s]) k = flen s.recs k := by simp [kLen]
/-- how many records are safe -/
def safeOf (segs : List Sg) (k : Nat) : Nat := match segs.getLast? with | none => 0 | some s => s.first + k
theorem safeOf_snoc (l : List Sg) (s : Sg) (k : Nat) : safeOf (l ++ [s]) k = s.first + k := by simp [safeOf]
/-- the disk holds these segments, of which these many are safe; they are those of A from 'first' on -/
structure Jv (S : Dk) (segs : List Sg) (k first : Nat) (A : List (List Int)) : Prop where
  hold : Hold S segs (kLen segs k)
  top : ∀ l s, segs = l ++ [s] → k ≤ s.recs.length
  tail : ∀ l s, segs = l ++ [s] → l = [] ∨ s.recs ≠ []
  base : ∀ s, segs = [s] → s.first = 0 ∨ 1 ≤ k
  nil : segs = [] → first = 0
  beg : firstOf segs = first
  le : nextOf segs ≤ A.length
  recs : recsOf segs = (A.take (nextOf segs)).drop first
  short : ∀ b ∈ A, b.length ≤ 300
theorem Jv.fs {S S' : Dk} {segs : List Sg} {k first : Nat} {A : List (List Int)} (h : Jv S segs k first A) (e : S'.fs = S.fs) : Jv S' segs k first A :=
  ⟨hold_fs h.hold e, h.top, h.tail, h.base, h.nil, h.beg, h.le, h.recs, h.short⟩
theorem Jv.more {S : Dk} {segs : List Sg} {k first : Nat} {A : List (List Int)} {b : List Int} (h : Jv S segs k first A) (hb : b.length ≤ 300) : Jv S segs k first (A ++ [b]) :=
  ⟨h.hold, h.top, h.tail, h.base, h.nil, h.beg, by have := h.le; simp; omega, by rw [h.recs, List.take_append_of_le_length h.le], fun x hx => by
    rcases List.mem_append.1 hx with hx | hx
    · exact h.short x hx
    · simp at hx; rw [hx]; exact hb⟩
/-- .. where all is safe -/
theorem Jv.all {S S' : Dk} {segs : List Sg} {k first : Nat} {A : List (List Int)} (h : Jv S segs k first A) (hs : Hold S' segs (whole segs)) : ∃ k', Jv S' segs k' first A ∧ safeOf segs k' = nextOf segs ∧ safeOf segs k ≤ safeOf segs k' := by
  rcases snoc_of segs with rfl | ⟨l, s, rfl⟩
  · exact ⟨0, ⟨hs, fun l s e => by simp at e, fun l s e => by simp at e, fun s e => by simp at e, h.nil, h.beg, h.le, h.recs, h.short⟩, rfl, Nat.le_refl _⟩
  · have ht := h.top l s rfl
    refine ⟨s.recs.length, ⟨by rw [kLen_snoc, flen_all _ (Nat.le_refl _)]; rw [whole_snoc] at hs; exact hs, fun l' s' e => ?_, h.tail, fun s' e => ?_, h.nil, h.beg, h.le, h.recs, h.short⟩, by rw [safeOf_snoc, next_snoc], by rw [safeOf_snoc, safeOf_snoc]; omega⟩
    · have := (List.append_inj' e rfl).2
      simp at this
      rw [this]; exact Nat.le_refl _
    · rcases h.base s' e with h1 | h1
      · exact .inl h1
      · exact .inr (by omega)
theorem Jv.short' {S : Dk} {segs : List Sg} {k first : Nat} {A : List (List Int)} (h : Jv S segs k first A) : ∀ b ∈ recsOf segs, b.length ≤ 300 ∧ b ∈ A := fun b hb => by
  rw [h.recs] at hb
  have := List.mem_of_mem_take (List.mem_of_mem_drop hb)
  exact ⟨h.short b this, this⟩
theorem Jv.below {S : Dk} {segs : List Sg} {k first : Nat} {A : List (List Int)} (h : Jv S segs k first A) : first ≤ nextOf segs ∧ safeOf segs k ≤ nextOf segs := by
  refine ⟨by rw [← h.beg]; exact (count_first h.hold.ch).2, ?_⟩
  rcases snoc_of segs with rfl | ⟨l, s, rfl⟩
  · exact Nat.zero_le _
  · have := h.top l s rfl
    rw [safeOf_snoc, next_snoc]; omega
theorem flen_append (l r : List (List Int)) (k : Nat) (h : k ≤ l.length) : flen (l ++ r) k = flen l k := by unfold flen; rw [List.take_append_of_le_length h]
theorem firstOf_app (l : List Sg) (s : Sg) : firstOf (l ++ [s]) = if l = [] then s.first else firstOf l := by
  cases l with
  | nil => rfl
  | cons a r => simp [firstOf]
/-- an Append that was done, or hit -/
theorem jv_mk {S S' : Dk} {X : Jn} {k first m' : Nat} {A : List (List Int)} {b : List Int} {segs' : List Sg} (h : Jv S X.segs k first A) (hn : nextOf X.segs = A.length) (hb : b.length ≤ 300) (hm : 1 ≤ X.most) (hs : Hold S' segs' m') (hk : Mk X b (kLen X.segs k) segs' m') :
    ∃ k', Jv S' segs' k' first (A ++ [b]) ∧ safeOf X.segs k ≤ safeOf segs' k' := by
  have hrec : segs' = growS X b → recsOf segs' = ((A ++ [b]).take (nextOf segs')).drop first := fun e => by
    rw [e, recs_grow, next_grow, hn, List.take_of_length_le (by simp), h.recs, hn, List.take_of_length_le (Nat.le_refl _), List.drop_append_of_le_length (by have := h.below.1; omega)]
  have hsh : ∀ x ∈ A ++ [b], x.length ≤ 300 := (h.more hb).short
  rcases hk with ⟨rfl, hm' | hm'⟩ | ⟨hf, e, hm'⟩ | ⟨hf, e, hm'⟩
  · exact ⟨k, (⟨by rw [← hm']; exact hs, h.top, h.tail, h.base, h.nil, h.beg, h.le, h.recs, h.short⟩ : Jv S' X.segs k first A).more hb, Nat.le_refl _⟩
  · rw [hm'] at hs
    obtain ⟨k', h1, _, h3⟩ := h.all hs
    exact ⟨k', h1.more hb, h3⟩
  · have hr := hrec e
    have hnx : nextOf segs' = A.length + 1 := by rw [e, next_grow, hn]
    obtain ⟨l, s, hx⟩ : ∃ l s, X.segs = l ++ [s] := by
      rcases snoc_of X.segs with e | ⟨l, s, e⟩
      · unfold fullX at hf; rw [e] at hf; cases hf
      · exact ⟨l, s, e⟩
    rw [grow_more hx hf] at e
    have ht := h.top l s hx
    have hfi := h.beg
    have hba := h.base
    rw [hx] at hfi hba hm'
    rw [kLen_snoc] at hm'
    refine ⟨k, ⟨?_, fun l' s' e' => ?_, fun l' s' e' => ?_, fun s' e' => ?_, fun e' => by rw [e] at e'; simp at e', ?_, by rw [hnx]; simp, hr, hsh⟩, ?_⟩
    · rw [hm'] at hs
      rw [e] at hs ⊢
      rw [kLen_snoc, flen_append _ _ _ ht]; exact hs
    · rw [e] at e'
      have := (List.append_inj' e' rfl).2
      simp at this
      rw [← this]; simp; omega
    · rw [e] at e'
      have := (List.append_inj' e' rfl).2
      simp at this
      right; rw [← this]; simp
    · rw [e] at e'
      have h1 : l = [] := by
        have := congrArg List.length e'
        simp at this; exact this
      subst h1
      simp at e'
      rw [← e']
      exact hba s rfl
    · rw [e, firstOf_app]; rw [firstOf_app] at hfi; exact hfi
    · rw [hx, e, safeOf_snoc, safeOf_snoc]; exact Nat.le_refl _
  · have hr := hrec e
    have hnx : nextOf segs' = A.length + 1 := by rw [e, next_grow, hn]
    rw [grow_full hf] at e
    have hb2 := h.below.2
    refine ⟨0, ⟨?_, fun l' s' e' => Nat.zero_le _, fun l' s' e' => ?_, fun s' e' => ?_, fun e' => by rw [e] at e'; simp at e', ?_, by rw [hnx]; simp, hr, hsh⟩, ?_⟩
    · rw [hm'] at hs
      rw [e] at hs ⊢
      rw [kLen_snoc]; exact hs
    · rw [e] at e'
      have := (List.append_inj' e' rfl).2
      simp at this
      right; rw [← this]; simp
    · rw [e] at e'
      left
      have h1 : X.segs = [] := by
        have := congrArg List.length e'
        simp at this; exact this
      rw [h1] at e'
      simp at e'
      rw [← e']; rfl
    · rw [e, firstOf_app]
      by_cases h0 : X.segs = []
      · rw [if_pos h0, h.nil h0, h0]; rfl
      · rw [if_neg h0]; exact h.beg
    · rw [e, safeOf_snoc]; simp only [Nat.add_zero]; exact hb2

/-! ### Trim -/
theorem below_first (n : Nat) : ∀ (segs : List Sg) (i : Nat), i ≤ below n segs → firstOf (segs.drop i) ≤ max (firstOf segs) n
  | segs, 0, _ => by simp; omega
  | [], i + 1, h => by simp [below] at h
  | [a], i + 1, h => by simp [below] at h
  | a :: b :: r, i + 1, h => by
    simp only [below] at h
    split at h
    · rename_i hb
      have := below_first n (b :: r) i (by omega)
      simp only [List.drop_succ_cons]
      simp [firstOf] at this ⊢
      omega
    · omega
theorem first_up {segs : List Sg} (h : Ch segs) (i : Nat) (hi : i ≤ segs.length - 1) : firstOf segs ≤ firstOf (segs.drop i) := by
  cases segs with
  | nil => simp
  | cons a l =>
    cases i with
    | zero => simp
    | succ i =>
      simp only [List.length_cons] at hi
      have hlt : i < l.length := by omega
      have := ch_lt h l[i] (List.getElem_mem _)
      rw [List.drop_succ_cons, List.drop_eq_getElem_cons hlt]
      show a.first ≤ l[i].first
      omega
theorem recs_pre {segs segs2 : List Sg} {A r : List (List Int)} {next first n2 : Nat} (h : recsOf segs = (A.take next).drop first) (hp : recsOf segs = recsOf segs2 ++ r) (hl : (recsOf segs2).length = n2 - first) (h2 : n2 ≤ next) : recsOf segs2 = (A.take n2).drop first := by
  have e : recsOf segs2 = (recsOf segs).take (n2 - first) := by rw [hp, ← hl, List.take_left' rfl]
  rw [e, h, List.drop_take, List.drop_take, List.take_take, Nat.min_eq_left (by omega)]
theorem recs_post {segs : List Sg} {i : Nat} {A : List (List Int)} {next first f : Nat} (h : recsOf segs = (A.take next).drop first) (hl : (recsOf (segs.drop i)).length = next - f) (hle : next ≤ A.length) (h1 : first ≤ f) (h2 : f ≤ next) : recsOf (segs.drop i) = (A.take next).drop f := by
  have e : recsOf segs = recsOf (segs.take i) ++ recsOf (segs.drop i) := by
    unfold recsOf
    rw [← List.flatMap_append, List.take_append_drop]
  have hl2 := congrArg List.length e
  rw [List.length_append, hl, h, List.length_drop, List.length_take] at hl2
  have e2 : recsOf (segs.drop i) = (recsOf segs).drop (f - first) := by
    rw [e, List.drop_left' (by omega)]
  rw [e2, h, List.drop_drop]
  congr 1
  omega
theorem jv_drop {S S' : Dk} {segs : List Sg} {k first i m' n : Nat} {A : List (List Int)} (h : Jv S segs k first A) (hi : i ≤ below n segs) (hs : Hold S' (segs.drop i) m') (hm : (i = 0 ∧ m' = kLen segs k) ∨ m' = whole segs) :
    ∃ k' f', Jv S' (segs.drop i) k' f' A ∧ first ≤ f' ∧ f' ≤ max first n ∧ safeOf segs k ≤ safeOf (segs.drop i) k' := by
  have hbm := below_most n segs
  by_cases h0 : i = 0
  · subst h0
    rw [List.drop_zero] at hs ⊢
    rcases hm with ⟨_, hm⟩ | hm
    · exact ⟨k, first, ⟨by rw [← hm]; exact hs, h.top, h.tail, h.base, h.nil, h.beg, h.le, h.recs, h.short⟩, Nat.le_refl _, by omega, Nat.le_refl _⟩
    · rw [hm] at hs
      obtain ⟨k', h1, _, h3⟩ := h.all hs
      exact ⟨k', first, h1, Nat.le_refl _, by omega, h3⟩
  · have hm : m' = whole segs := by
      rcases hm with ⟨h1, _⟩ | h1
      · exact absurd h1 h0
      · exact h1
    rcases snoc_of segs with rfl | ⟨l, s, rfl⟩
    · simp at hbm; omega
    · have hil : i ≤ l.length := by simp at hbm; omega
      have ed : (l ++ [s]).drop i = l.drop i ++ [s] := List.drop_append_of_le_length hil
      have hne : s.recs ≠ [] := by
        rcases h.tail l s rfl with h1 | h1
        · rw [h1] at hil; simp at hil; omega
        · exact h1
      have hpos : 1 ≤ s.recs.length := List.length_pos_iff.2 hne
      have hf1 := first_up h.hold.ch i (by simp; omega)
      have hf2 := below_first n (l ++ [s]) i hi
      rw [h.beg] at hf1 hf2
      have hnx : nextOf ((l ++ [s]).drop i) = nextOf (l ++ [s]) := nextOf_drop (by simp; omega)
      have hcf := count_first hs.ch
      rw [hnx] at hcf
      refine ⟨s.recs.length, firstOf ((l ++ [s]).drop i), ⟨?_, ?_, ?_, ?_, ?_, rfl, ?_, ?_, h.short⟩, hf1, hf2, ?_⟩
      · rw [hm, whole_snoc] at hs
        rw [ed] at hs ⊢
        rw [kLen_snoc, flen_all _ (Nat.le_refl _)]; exact hs
      · intro l' s' e
        rw [ed] at e
        have := (List.append_inj' e rfl).2
        simp at this
        rw [this]; exact Nat.le_refl _
      · intro l' s' e
        rw [ed] at e
        have := (List.append_inj' e rfl).2
        simp at this
        right; rw [← this]; exact hne
      · intro s' e; exact .inr hpos
      · intro e; rw [ed] at e; simp at e
      · rw [hnx]; exact h.le
      · rw [hnx]
        exact recs_post h.recs hcf.1 h.le hf1 hcf.2
      · have ht := h.top l s rfl
        rw [ed, safeOf_snoc, safeOf_snoc]; omega
/-- Trim, and how much is safe behind it -/
theorem trim_hold2 {S : Dk} {X : Jn} {m : Nat} (n : Nat) (h : Hold S X.segs m) (hd : S.down = false) (hx : X.down = false) (hs : X.settled ≤ X.segs.length - 1) (hn : n ≤ nextOf X.segs) :
    (∃ st S' m', trimJ X S n = (0, { X with segs := X.segs.drop (below n X.segs), settled := st }, S') ∧ st ≤ (X.segs.drop (below n X.segs)).length - 1 ∧ Hold S' (X.segs.drop (below n X.segs)) m' ∧ ((below n X.segs = 0 ∧ m' = m) ∨ m' = whole X.segs) ∧ S'.down = false ∧ Rest S S') ∨
    (S.arm ≠ 0 ∧ ∃ st S' m' i, trimJ X S n = (3, { X with settled := st, down := true }, S') ∧ st ≤ X.segs.length - 1 ∧ i ≤ below n X.segs ∧ Hold S' (X.segs.drop i) m' ∧ ((i = 0 ∧ m' = m) ∨ m' = whole X.segs) ∧ S'.down = true ∧ Rest S S') := by
  have hc := below_most n X.segs
  unfold trimJ
  rw [hx, if_neg (by decide), if_neg (by omega), hd, if_neg (by decide)]
  unfold dropJ
  obtain ⟨most, segs, st, dn⟩ := X
  simp only at *
  subst hx
  generalize hce : below n segs = c at *
  by_cases h0 : c = 0
  · subst h0
    rw [if_pos rfl]
    exact .inl ⟨st, S, m, by simp [toldJ], by simpa using hs, by simpa using h, .inl ⟨rfl, rfl⟩, hd, Rest.refl S⟩
  · rw [if_neg h0]
    rcases settle_hold (X := ⟨most, segs, st, false⟩) h hd hs with ⟨S1, h1, h2, h3, h4⟩ | ⟨hz, S1, h1, h2, h3, h4⟩
    · rw [h1]
      simp only [ne_eq, not_true_eq_false, if_false]
      have hR : segs.drop c ≠ [] := by
        intro he
        have := congrArg List.length he
        simp at this
        omega
      rcases drop_files (segs.take c) (segs.drop c) (whole segs) S1 hR (hold_take h2) h3 with ⟨S', g1, g2, g3, g4⟩ | ⟨hz, i, S', gi, g1, g2, g3, g4⟩
      · rw [g1]
        exact .inl ⟨segs.length - 1 - c, S', whole segs, by simp [toldJ], by simp; omega, g2, .inr rfl, g3, h4.trans g4⟩
      · rw [g1]
        refine .inr ⟨fun hq => hz (h4.calm hq), segs.length - 1, S', whole segs, i, by simp [toldJ], by omega, ?_, by rw [List.take_append_drop] at g2; exact g2, .inr rfl, g3, h4.trans g4⟩
        simp at gi; omega
    · rw [h1]
      simp only [ne_eq, show ¬ ((3 : Int) = 0) by decide, not_false_eq_true, if_true]
      exact .inr ⟨hz, st, S1, m, 0, by simp [toldJ], hs, by omega, by simpa using h2, .inl ⟨rfl, rfl⟩, h3, h4⟩

/-! ### Open -/
theorem jv_tail {S : Dk} {segs : List Sg} {k first : Nat} {A : List (List Int)} (h : Jv S segs k first A) : ∀ b ∈ recsOf segs, b.length ≤ 1048576 := fun b hb => by have := (h.short' b hb).1; omega
/-- opened without a fall -/
theorem jv_calm {S : Dk} {segs : List Sg} {k first : Nat} {A : List (List Int)} (h : Jv S segs k first A) (hd : S.down = false) : openJ (startS S) = (0, segs, startS S) ∧ Jv (startS S) segs k first A ∧ (startS S).down = false ∧ (startS S).arm = 0 ∧ (startS S).size = S.size := by
  obtain ⟨a, b, c, d⟩ := start_up hd
  have h1 := h.fs a
  exact ⟨open_hold h1.hold b (jv_tail h1) h1.tail, h1, b, c, d⟩
/-- opened behind a fall -/
theorem jv_fall {S S2 : Dk} {segs : List Sg} {k first : Nat} {A : List (List Int)} (keep : List Int) (h : Jv S segs k first A) (hfs : S2.fs = (crashS S keep).fs) (hd : S2.down = false) (ha : S2.arm = 0) :
    ∃ segs2 k2 S3, openJ S2 = (0, segs2, S3) ∧ Jv S3 segs2 k2 first (A.take (nextOf segs2)) ∧ safeOf segs k ≤ nextOf segs2 ∧ nextOf segs2 ≤ nextOf segs ∧ safeOf segs2 k2 = nextOf segs2 ∧ S3.down = false ∧ S3.arm = 0 ∧ S3.size = S2.size := by
  have hshort : ∀ n, ∀ b ∈ A.take n, b.length ≤ 300 := fun n b hb => h.short b (List.mem_of_mem_take hb)
  rcases snoc_of segs with rfl | ⟨l, s, rfl⟩
  · have hf : S2.fs = [] := by
      rw [hfs]
      have : S.fs = [] := by rw [h.hold.fs]; rfl
      show fallL keep 0 S.fs = []
      rw [this]; rfl
    have hh : Hold S2 [] 0 := ⟨hf, trivial, fun s hs => by cases hs⟩
    refine ⟨[], 0, S2, open_hold hh hd (fun b hb => by simp [recsOf] at hb) (fun l s e => by simp at e), ⟨hh, fun l s e => by simp at e, fun l s e => by simp at e, fun s e => by simp at e, h.nil, h.beg, Nat.zero_le _, by rw [h.recs]; simp [nextOf], hshort _⟩, Nat.le_refl _, Nat.le_refl _, rfl, hd, ha, rfl⟩
  · have hSf : S.fs = l.map fullG ++ [fileG s (flen s.recs k)] := by rw [h.hold.fs, kLen_snoc, filesG_snoc]
    have hch := h.hold.ch
    have hbs : ∀ b ∈ s.recs, b.length ≤ 1048576 := fun b hb => jv_tail h b (List.mem_flatMap.2 ⟨s, by simp, hb⟩)
    obtain ⟨t, j, hT, hcf⟩ := crash_files keep hSf hch (h.top l s rfl) hbs
    rw [hcf] at hfs
    have hin := ch_inner hch
    have hfi := h.beg
    have hap : recsOf (l ++ [s]) = recsOf l ++ s.recs := by simp [recsOf]
    have hnl : l ≠ [] → nextOf l = s.first := by
      intro hl
      rcases snoc_of l with e | ⟨l', x, e⟩
      · exact absurd e hl
      · subst e
        rw [next_snoc]
        have : ∀ (l' : List Sg), Ch (l' ++ [x] ++ [s]) → s.first = x.first + x.recs.length := by
          intro l'
          induction l' with
          | nil => intro h; exact h.1
          | cons a r ih => intro h; exact ih (ch_tail h)
        exact (this l' hch).symm
    -- what is left when the last one is gone
    have gone : k = 0 → l ≠ [] ∨ s.first = 0 → ∀ S3 : Dk, Hold S3 l (whole l) → Jv S3 l (match l.getLast? with | none => 0 | some x => x.recs.length) first (A.take (nextOf l)) ∧ safeOf (l ++ [s]) k ≤ nextOf l ∧ nextOf l ≤ nextOf (l ++ [s]) ∧ safeOf l (match l.getLast? with | none => 0 | some x => x.recs.length) = nextOf l := by
      intro hk0 hl0 S3 h3
      have hle : nextOf l ≤ nextOf (l ++ [s]) := by
        rw [next_snoc]
        by_cases hl : l = []
        · rw [hl]; simp [nextOf]
        · rw [hnl hl]; omega
      have hfl : l ≠ [] → firstOf l = first := fun hl => by rw [← hfi, firstOf_app, if_neg hl]
      have hcl := count_first h3.ch
      refine ⟨⟨?_, ?_, ?_, ?_, ?_, ?_, ?_, ?_, hshort _⟩, ?_, hle, ?_⟩
      · rcases snoc_of l with e | ⟨l', x, e⟩
        · subst e; exact h3
        · subst e
          rw [whole_snoc] at h3
          rw [kLen_snoc]
          simp only [List.getLast?_append, List.getLast?_singleton, Option.some_or]
          rw [flen_all _ (Nat.le_refl _)]; exact h3
      · intro l' x e; subst e; simp
      · intro l' x e; right; subst e; exact hin x (by simp)
      · intro x e; right; subst e; simp; exact List.length_pos_iff.2 (hin x (by simp))
      · intro e
        rw [← hfi, e]
        rcases hl0 with h1 | h1
        · exact absurd e h1
        · simp [firstOf]; exact h1
      · by_cases hl : l = []
        · rw [← hfi, hl]
          rcases hl0 with h1 | h1
          · exact absurd hl h1
          · simp [firstOf]; exact h1.symm
        · exact hfl hl
      · rw [List.length_take]; have := h.le; omega
      · rw [List.take_take, Nat.min_self]
        by_cases hl : l = []
        · subst hl; simp [recsOf, nextOf]
        · exact recs_pre h.recs hap (by rw [hcl.1, hfl hl]) hle
      · rw [safeOf_snoc, hk0]
        by_cases hl : l = []
        · rcases hl0 with h1 | h1
          · exact absurd hl h1
          · rw [h1]; omega
        · rw [hnl hl]; omega
      · rcases snoc_of l with e | ⟨l', x, e⟩
        · subst e; rfl
        · subst e
          rw [safeOf_snoc, next_snoc]
          simp
    by_cases ht0 : t.length = 0
    · rw [if_pos ht0, List.append_nil] at hfs
      have hj0 : j = 0 := flen_zero hT.top (by have := hT.len; omega)
      have hk0 : k = 0 := by have := hT.le; omega
      have hl0 : l ≠ [] ∨ s.first = 0 := by
        by_cases hl : l = []
        · right
          subst hl
          rcases h.base s rfl with h1 | h1
          · exact h1
          · omega
        · exact .inl hl
      have hh : Hold S2 l (whole l) := ⟨by
        rw [hfs]
        rcases snoc_of l with e | ⟨l', x, e⟩
        · subst e; rfl
        · rw [e, whole_snoc, fullG_all], ch_init hch, fun x hx => h.hold.low x (by simp [hx])⟩
      obtain ⟨g1, g2, g3, g4⟩ := gone hk0 hl0 S2 hh
      exact ⟨l, _, S2, open_hold hh hd (jv_tail g1) g1.tail, g1, g2, g3, g4, hd, ha, rfl⟩
    · rw [if_neg ht0] at hfs
      obtain ⟨S3, o1, o2, o3, o4, o5⟩ := open_torn hfs hd ha hch h.hold.low (jv_tail h) hT
      by_cases hA : l ≠ [] ∧ j = 0
      · have hm : mendS l s j = l := by unfold mendS; rw [if_pos hA]
        rw [hm] at o1 o2
        have hk0 : k = 0 := by have := hT.le; omega
        obtain ⟨g1, g2, g3, g4⟩ := gone hk0 (.inl hA.1) S3 o2
        exact ⟨l, _, S3, o1, g1, g2, g3, g4, o3, o4, o5⟩
      · have hm : mendS l s j = l ++ [⟨s.first, s.recs.take j⟩] := by unfold mendS; rw [if_neg hA]
        rw [hm] at o1 o2
        have htop := hT.top
        have hn2 : nextOf (l ++ [(⟨s.first, s.recs.take j⟩ : Sg)]) = s.first + j := by
          rw [next_snoc, List.length_take, Nat.min_eq_left htop]
        have hle2 : s.first + j ≤ nextOf (l ++ [s]) := by rw [next_snoc]; omega
        have hcl := count_first o2.ch
        have hf2 : firstOf (l ++ [(⟨s.first, s.recs.take j⟩ : Sg)]) = first := by rw [← hfi, firstOf_app, firstOf_app]
        rw [hn2, hf2] at hcl
        have hjj : j ≤ (s.recs.take j).length := by rw [List.length_take]; omega
        refine ⟨_, j, S3, o1, ⟨?_, ?_, ?_, ?_, ?_, hf2, ?_, ?_, hshort _⟩, ?_, ?_, ?_, o3, o4, o5⟩
        · rw [whole_flen] at o2
          rw [kLen_snoc]
          have : flen (s.recs.take j) j = flen s.recs j := by unfold flen; rw [List.take_take, Nat.min_self]
          rw [this]; exact o2
        · intro l' x e
          have := (List.append_inj' e rfl).2
          simp at this
          rw [← this]; exact hjj
        · intro l' x e
          have e1 := (List.append_inj' e rfl).1
          have := (List.append_inj' e rfl).2
          simp at this
          by_cases hl : l = []
          · left; rw [← e1, hl]
          · right
            rw [← this]
            intro h0
            have := congrArg List.length h0
            simp only [List.length_take, List.length_nil] at this
            exact hA ⟨hl, by omega⟩
        · intro x e
          have hl : l = [] := by have := congrArg List.length e; simp at this; exact this
          subst hl
          simp at e
          rw [← e]
          rcases h.base s rfl with h1 | h1
          · exact .inl h1
          · right; have := hT.le; omega
        · intro e; simp at e
        · rw [hn2, List.length_take]; have := h.le; omega
        · rw [hn2, List.take_take, Nat.min_self]
          refine recs_pre (segs := l ++ [s]) (r := s.recs.drop j) h.recs ?_ hcl.1 hle2
          simp [recsOf]
        · rw [safeOf_snoc, hn2]; have := hT.le; omega
        · rw [hn2]; exact hle2
        · rw [safeOf_snoc, hn2]
end Go.Proofs.YthikiahhochjmaaGreatDoor


namespace Go.Proofs.YthikiahhochjmaaGreatDoor
open Go.RowKit Go.Maps
set_option linter.unusedVariables false
set_option linter.unusedSimpArgs false

def nameB (f : Nat) : ByteArray := ⟨(nameS f).toArray⟩
theorem nameB_list (f : Nat) : (nameB f).data.toList = nameS f := rfl
theorem nameB_size (f : Nat) : (nameB f).size = 11 := by
  show (nameS f).toArray.size = 11
  rw [List.size_toArray, nameS_len]
theorem nameB_len (f : Nat) : (nameB f).size ≤ maxLen := by rw [nameB_size]; unfold maxLen; omega

set_option maxRecDepth 100000 in
set_option maxHeartbeats 1000000 in
theorem format_walk (f : Nat) (hf : f < 100) (w : World) :
    Calls Tryz.prog 75 #[.int .u64 (f : Int), .int .i64 10] w fun e w' => e = .returned (.string ⟨(Lib.decDigits f).toArray⟩) ∧ w' = w := by
  have inner : Calls Tryz.prog 87 #[.int .u64 (f : Int), .int .i64 10] w fun e w' => e = .returned (.string ⟨(Lib.decDigits f).toArray⟩) ∧ w' = w := by
    have hs := Tryz.internal_strconv_small f hf w
    go_enter Tryz.func87, Tryz.ntmps87
    go_wp2_with (go_at_call 109; refine hs.mono ?_; rintro e w' ⟨rfl, rfl⟩)
    go_ret
    exact ⟨rfl, rfl⟩
  go_enter Tryz.func75, Tryz.ntmps75
  go_wp2_with (go_at_call 87; refine inner.mono ?_; rintro e w' ⟨rfl, rfl⟩)
  go_ret
  exact ⟨rfl, rfl⟩

theorem dec_len (f : Nat) (hf : f < 100) : (Lib.decDigits f).length ≤ 2 := (dig_dec 1 f (by omega)).1
theorem name_bytes (f : Nat) (hf : f < 100) : (⟨#[108]⟩ : ByteArray) ++ (⟨(Lib.repeatL [48] (10 - (Lib.decDigits f).length)).toArray⟩ : ByteArray) ++ (⟨(Lib.decDigits f).toArray⟩ : ByteArray) = nameB f := by
  have h := (dig_dec 9 f (by omega)).2
  have : nameB f = ⟨(108 :: (Lib.repeatL [48] (10 - (Lib.decDigits f).length) ++ Lib.decDigits f)).toArray⟩ := by rw [h]; rfl
  rw [this]
  apply ByteArray.ext
  simp [ByteArray.data_append]

set_option maxRecDepth 100000 in
set_option maxHeartbeats 1000000 in
theorem name_walk' (f : Nat) (hf : f < 100) (v : Value) (w : World) :
    Calls Tryz.prog 60 #[.agg #[.int .u64 (f : Int), v]] w fun e w' => e = .returned (.string (nameB f)) ∧ Turn (fun _ => False) w w' := by
  have hb := name_bytes f hf
  have hl := dec_len f hf
  have h1 := fun w => format_walk f hf w
  have h2 := fun w => Tryz.strings_Repeat ⟨#[48]⟩ (10 - (Lib.decDigits f).length) w (by omega) (by show 1 * _ ≤ _; omega)
  have hsz : (⟨(Lib.decDigits f).toArray⟩ : ByteArray).size = (Lib.decDigits f).length := by show (Lib.decDigits f).toArray.size = _; simp
  rw [show (⟨#[48]⟩ : ByteArray).data.toList = [48] from rfl] at h2
  rw [Int.ofNat_sub (by omega)] at h2
  have hrl := Lib.repeatL_length [48] (10 - (Lib.decDigits f).length)
  have c1 : ∀ u : World, (binOp .add 9 (.string ⟨#[108]⟩) (.string ⟨(Lib.repeatL [48] (10 - (Lib.decDigits f).length)).toArray⟩)).run Tryz.prog u = .ok (.string (⟨#[108]⟩ ++ ⟨(Lib.repeatL [48] (10 - (Lib.decDigits f).length)).toArray⟩)) u := fun u => by
    rw [binOp_string_add]
    exact run_string_add _ _ _ (by show ((1 : Nat) : Int) ≤ _; omega) (by rw [ByteArray.size_mk', List.size_toArray, hrl]; simp; omega)
  have c2 : ∀ u : World, (binOp .add 9 (.string (⟨#[108]⟩ ++ ⟨(Lib.repeatL [48] (10 - (Lib.decDigits f).length)).toArray⟩)) (.string ⟨(Lib.decDigits f).toArray⟩)).run Tryz.prog u = .ok (.string (nameB f)) u := fun u => by
    rw [binOp_string_add, ← hb]
    refine run_string_add _ _ _ ?_ ?_
    · rw [ByteArray.size_append, ByteArray.size_mk', ByteArray.size_mk', List.size_toArray, List.size_toArray, hrl]; simp; omega
    · rw [hsz]; omega
  generalize hD : Lib.decDigits f = D at *
  clear hD
  go_enter Tryz.func60, Tryz.ntmps60
  go_wp2_with (first
    | (go_at_call 75; refine (h1 _).mono ?_; rintro e w1 ⟨rfl, rfl⟩)
    | (go_at_call 76; refine (h2 _).mono ?_; rintro e w2 ⟨rfl, t2⟩))
  go_ret
  exact ⟨rfl, (((Turn.refl (fun _ => False) w).alloc _).then (Turn.of_below t2))⟩

/-- what numberOf answers -/
def numR (n : Nm) : Value := .tuple #[.int .u64 (((numOf n).getD 0 : Nat) : Int), .bool (numOf n).isSome]
set_option maxRecDepth 100000 in
set_option maxHeartbeats 1000000 in
theorem number_ok (f : Nat) (hf : f < 10000000000) (w : World) :
    Calls Tryz.prog 65 #[.string (nameB f)] w fun e w' => e = .returned (numR (nameS f)) ∧ Turn (fun _ => False) w w' := by
  have h1 := Tryz.strings_TrimPrefix (nameB f) ⟨#[108]⟩ w
  rw [show Lib.trimPrefix (nameB f).data.toList (⟨#[108]⟩ : ByteArray).data.toList = dig f 10 from trim_nameS f] at h1
  have hR : numR (nameS f) = .tuple #[.int .u64 (f : Int), .bool true] := by unfold numR; rw [num_nameS f hf]; rfl
  rw [hR]
  have hsz : (⟨(dig f 10).toArray⟩ : ByteArray).size = 10 := by show (dig f 10).toArray.size = _; rw [List.size_toArray, dig_len]
  have h2 := Tryz.strconv_ParseUint_10_at64_ok ⟨(dig f 10).toArray⟩ (by rw [hsz]; omega) f (parse_nameS f hf) w
  clear hR
  generalize (⟨(dig f 10).toArray⟩ : ByteArray) = b at *
  go_enter Tryz.func65, Tryz.ntmps65
  go_wp2_with (first
    | (go_at_call 81; refine h1.mono ?_; rintro e w1 ⟨rfl, hw⟩; have hw := hw.symm; subst hw)
    | (go_at_call 82; refine h2.mono ?_; rintro e w2 ⟨rfl, hw2⟩))
  have t2 : Turn (fun _ => False) w w2 := by
    rcases hw2 with rfl | rfl
    · exact Turn.refl _ _
    · exact Turn.of_below (Lib.bytesWorld_below w _ _)
  clear hw2
  go_quiet (fail)
  go_wp2
  go_ret2
  exact ⟨rfl, t2.drewN _⟩

theorem none_len {n : Nm} (h : (trimL n).length ≠ 10) : numR n = .tuple #[.int .u64 0, .bool false] := by
  unfold numR numOf
  rw [if_pos h]; rfl
set_option maxRecDepth 100000 in
set_option maxHeartbeats 1000000 in
theorem number_len (s : ByteArray) (h : (trimL s.data.toList).length ≠ 10) (hs : s.size ≤ maxLen) (w : World) :
    Calls Tryz.prog 65 #[.string s] w fun e w' => e = .returned (numR s.data.toList) ∧ Turn (fun _ => False) w w' := by
  have h1 := Tryz.strings_TrimPrefix s ⟨#[108]⟩ w
  rw [none_len h]
  have hsz : (⟨(trimL s.data.toList).toArray⟩ : ByteArray).size = (trimL s.data.toList).length := by show (trimL s.data.toList).toArray.size = _; rw [List.size_toArray]
  rw [show Lib.trimPrefix s.data.toList (⟨#[108]⟩ : ByteArray).data.toList = trimL s.data.toList from rfl] at h1
  rw [← hsz] at h
  clear hsz hs
  generalize (⟨(trimL s.data.toList).toArray⟩ : ByteArray) = b at *
  go_enter Tryz.func65, Tryz.ntmps65
  go_wp2_with (go_at_call 81; refine h1.mono ?_; rintro e w1 ⟨rfl, hw⟩; have hw := hw.symm; subst hw)
  go_ret2
  exact ⟨rfl, Turn.refl _ _⟩
set_option maxRecDepth 100000 in
set_option maxHeartbeats 1000000 in
/-- ten signs that are no number: what the library's error says of it lies in a variable -/
theorem number_bad (s : ByteArray) (h : (trimL s.data.toList).length = 10) (hp : Lib.parseUintB 64 (trimL s.data.toList) = .«syntax») (ev : Value) (w : World) (hv : w.cell? ⟨1, 0, none⟩ = some ev) (hev : ev = .nilIface ∨ ∃ te pe, ev = .iface te pe) :
    Calls Tryz.prog 65 #[.string s] w fun e w' => e = .returned (numR s.data.toList) ∧ Turn (fun _ => False) w w' := by
  have h1 := Tryz.strings_TrimPrefix s ⟨#[108]⟩ w
  have hR : numR s.data.toList = .tuple #[.int .u64 0, .bool false] := by
    unfold numR numOf
    rw [if_neg (by omega), hp]; rfl
  rw [hR]
  have hsz : (⟨(trimL s.data.toList).toArray⟩ : ByteArray).size = 10 := by show (trimL s.data.toList).toArray.size = _; rw [List.size_toArray]; exact h
  rw [show Lib.trimPrefix s.data.toList (⟨#[108]⟩ : ByteArray).data.toList = trimL s.data.toList from rfl] at h1
  have h2 := Tryz.strconv_ParseUint_10_at64_syntax ⟨(trimL s.data.toList).toArray⟩ (by rw [hsz]; omega) hp ev w hv hev
  clear hR h hp
  generalize (⟨(trimL s.data.toList).toArray⟩ : ByteArray) = b at *
  go_enter Tryz.func65, Tryz.ntmps65
  go_wp2_with (first
    | (go_at_call 81; refine h1.mono ?_; rintro e w1 ⟨rfl, hw⟩; have hw := hw.symm; subst hw)
    | (go_at_call 82; refine h2.mono ?_; rintro e w2 ⟨N, rfl, _, _, t2⟩))
  clear h2
  go_quiet (fail)
  go_wp2
  go_ret2
  exact ⟨rfl, (Turn.of_below t2).drewN _⟩
set_option maxHeartbeats 400000 in
theorem prefix_walk (s : ByteArray) (w : World) : Calls Tryz.prog 66 #[.string s, .string ⟨#[108]⟩] w fun e w' => e = .returned (.bool (markB s.data.toList)) ∧ w' = w := Tryz.strings_HasPrefix s ⟨#[108]⟩ w
end Go.Proofs.YthikiahhochjmaaGreatDoor


namespace Go.Proofs.YthikiahhochjmaaGreatDoor
open Go.RowKit Go.Maps
set_option linter.unusedVariables false
set_option linter.unusedSimpArgs false

theorem ret_u64 {a b : Int} (h : a = b) : Ending.returned (.int .u64 a) = .returned (.int .u64 b) := by rw [h]
theorem nextOf_nil : nextOf ([] : List Sg) = 0 := rfl
theorem nextOf_snoc (l : List Sg) (s : Sg) : nextOf (l ++ [s]) = s.first + s.recs.length := by simp [nextOf]
theorem lastF_snoc (l : List Sg) (s : Sg) : lastF (l ++ [s]) = s.first := by simp [lastF]
theorem segs_cases (E : List Seg) : E = [] ∨ ∃ E' e, E = E' ++ [e] := by
  rcases List.eq_nil_or_concat E with h | ⟨E', e, h⟩
  · exact .inl h
  · exact .inr ⟨E', e, by rw [h, List.concat_eq_append]⟩

set_option maxHeartbeats 1000000 in
theorem next_walk' (w : World) (G : Nat → Prop) (sv : Value) (E : List Seg) (h : SegM w G sv E) (hE : ∀ e ∈ E, e.first < 10000000000 ∧ e.recs.length ≤ 1000000) (hl : E.length ≤ 1000001) :
    Calls Tryz.prog 52 #[sv] w fun e w' => e = .returned (.int .u64 ((nextOf (E.map Seg.sg) : Nat) : Int)) ∧ Turn (fun _ => False) w w' := by
  rcases segs_cases E with rfl | ⟨E', e, rfl⟩
  · obtain ⟨a, c, rfl⟩ := h.slice
    clear h
    go_enter Tryz.func52, Tryz.ntmps52
    go_wp2
    go_ret
    exact ⟨rfl, Turn.refl _ _⟩
  · obtain ⟨g, off, cap, rfl, hc, hg, c0, c1, f1⟩ := h.at E'.length e (by simp)
    obtain ⟨a1, a2⟩ := hE e (by simp)
    have hr := h.recs e (by simp)
    obtain ⟨ra, rc, hv⟩ := hr.slice
    rw [hv] at c1
    rw [List.map_append, List.map_cons, List.map_nil, nextOf_snoc]
    have hlen : (E' ++ [e]).length = E'.length + 1 := by simp
    rw [hlen] at hl hc ⊢
    have e1 : (Seg.sg e).first = e.first := rfl
    have e2 : (Seg.sg e).recs = e.recs := rfl
    rw [e1, e2]
    clear h hE hr hv e1 e2 hlen
    generalize E'.length = n at *
    generalize e.first = f at *
    generalize e.recs.length = m at *
    go_enter Tryz.func52, Tryz.ntmps52
    go_wp2
    go_ret
    exact ⟨ret_u64 (by omega), (Turn.refl _ w).alloc _⟩

theorem follows_eq (f : Nat) (all : List Sg) (en : Nat × Nat) : follows f all en = if en.2 = 0 then decide (f = nextOf all) else false := by
  unfold follows; split <;> simp_all
set_option maxHeartbeats 1000000 in
theorem follows_walk (w : World) (G : Nat → Prop) (sv : Value) (E : List Seg) (f : Nat) (en : Nat × Nat) (h : SegM w G sv E) (hE : ∀ e ∈ E, e.first < 10000000000 ∧ e.recs.length ≤ 1000000) (hl : E.length ≤ 1000001) :
    Calls Tryz.prog 67 #[.int .u64 (f : Int), sv, .agg #[.int .i64 (en.1 : Int), .int .i64 (en.2 : Int)]] w fun e w' => e = .returned (.bool (follows f (E.map Seg.sg) en)) ∧ Turn (fun _ => False) w w' := by
  obtain ⟨e1, e2⟩ := en
  rw [follows_eq]
  have t1 : Turn (fun _ => False) w (w.alloc (.cells #[.int .i64 (e1 : Int), .int .i64 (e2 : Int)] 90)) := (Turn.refl _ w).alloc _
  have hn := next_walk' _ G sv E (h.turn t1 (fun _ _ h => h)) hE hl
  obtain ⟨a, c, rfl⟩ := h.slice
  clear h hE hl
  simp only
  generalize hX : nextOf (E.map Seg.sg) = X at *
  clear hX
  generalize E.length = n at *
  by_cases h0 : e2 = 0
  · subst h0
    rw [if_pos rfl]
    go_enter Tryz.func67, Tryz.ntmps67
    go_wp2_with (go_at_call 52; refine hn.mono ?_; rintro e w2 ⟨rfl, t2⟩)
    go_ret
    exact ⟨ret_bool (by rw [Bool.eq_iff_iff]; simp; omega), t1.then t2⟩
  · rw [if_neg h0]
    have h0' : ((e2 : Int) == 0) = false := by simpa using h0
    go_enter Tryz.func67, Tryz.ntmps67
    go_wp2
    go_ret
    exact ⟨rfl, t1⟩

set_option maxHeartbeats 1000000 in
theorem Next_walk (w : World) (G : Nat → Prop) (J D : Nat) (sv : Value) (E : List Seg) (X : Jn) (m : JMem w G J D sv E X) (hE : ∀ e ∈ E, e.first < 10000000000 ∧ e.recs.length ≤ 1000000) (hl : E.length ≤ 1000001) :
    Calls Tryz.prog 25 #[.pointer (some ⟨J, 0, none⟩)] w fun e w' => e = .returned (.int .u64 ((nextOf X.segs : Nat) : Int)) ∧ Turn (fun _ => False) w w' := by
  have c2 : w.cell? ⟨J, 2, none⟩ = some sv := cell_obj m.obj 2
  have hn := next_walk' w G sv E m.seg hE hl
  rw [← m.segs] at hn
  obtain ⟨a, c, rfl⟩ := m.seg.slice
  clear m hE hl
  go_enter Tryz.func25, Tryz.ntmps25
  go_wp2_with (go_at_call 52; refine hn.mono ?_; rintro e w2 ⟨rfl, t2⟩)
  go_ret
  exact ⟨rfl, t2⟩
set_option maxHeartbeats 1000000 in
theorem First_walk (w : World) (G : Nat → Prop) (J D : Nat) (sv : Value) (E : List Seg) (X : Jn) (m : JMem w G J D sv E X) :
    Calls Tryz.prog 19 #[.pointer (some ⟨J, 0, none⟩)] w fun e w' => e = .returned (.int .u64 ((firstOf X.segs : Nat) : Int)) ∧ w' = w := by
  have c2 : w.cell? ⟨J, 2, none⟩ = some sv := cell_obj m.obj 2
  rw [m.segs]
  cases E with
  | nil =>
    obtain ⟨a, c, rfl⟩ := m.seg.slice
    clear m
    go_enter Tryz.func19, Tryz.ntmps19
    go_wp2
    go_ret
    exact ⟨rfl, rfl⟩
  | cons e r =>
    obtain ⟨g, off, cap, rfl, hc, hg, c0, c1, f1⟩ := m.seg.at 0 e (by simp)
    have e1 : firstOf ((e :: r).map Seg.sg) = e.first := rfl
    rw [e1]
    have hlen : (e :: r).length = r.length + 1 := by simp
    rw [hlen] at c2 hc
    rw [Nat.zero_mul, Nat.add_zero] at c0
    clear m e1 hlen f1 c1
    generalize r.length = n at *
    go_enter Tryz.func19, Tryz.ntmps19
    go_wp2
    go_ret
    exact ⟨rfl, rfl⟩
set_option maxHeartbeats 1000000 in
theorem Segments_walk (w : World) (G : Nat → Prop) (J D : Nat) (sv : Value) (E : List Seg) (X : Jn) (m : JMem w G J D sv E X) :
    Calls Tryz.prog 17 #[.pointer (some ⟨J, 0, none⟩)] w fun e w' => e = .returned (.int .i64 (X.segs.length : Int)) ∧ w' = w := by
  have c2 : w.cell? ⟨J, 2, none⟩ = some sv := cell_obj m.obj 2
  rw [m.segs, List.length_map]
  obtain ⟨a, c, rfl⟩ := m.seg.slice
  clear m
  go_enter Tryz.func17, Tryz.ntmps17
  go_wp2
  go_ret
  exact ⟨rfl, rfl⟩
set_option maxHeartbeats 1000000 in
theorem refusal_j (w : World) (G : Nat → Prop) (J D : Nat) (sv : Value) (E : List Seg) (X : Jn) (m : JMem w G J D sv E X) :
    Calls Tryz.prog 36 #[.pointer (some ⟨J, 0, none⟩)] w fun e w' => e = .returned (.int .i64 (if X.down then 3 else 0)) ∧ w' = w := by
  have c0 : w.cell? ⟨J, 0, none⟩ = some (.pointer (some ⟨D, 0, none⟩)) := cell_obj m.obj 0
  have c4 : w.cell? ⟨J, 4, none⟩ = some (.bool X.down) := cell_obj m.obj 4
  clear m
  cases hd : X.down
  all_goals
    rw [hd] at c4
    go_enter Tryz.func36, Tryz.ntmps36
    go_wp2
    go_ret
    exact ⟨rfl, rfl⟩
/-- a journal's own cell written -/
theorem JMem.re {w : World} {G : Nat → Prop} {J D : Nat} {sv : Value} {E : List Seg} {X : Jn} (m : JMem w G J D sv E X) (j : Nat) (u : Value) (X' : Jn) (hs : X'.segs = X.segs)
    (ho : (#[.pointer (some ⟨D, 0, none⟩), .int .i64 (X.most : Int), sv, .int .i64 (X.settled : Int), .bool X.down] : Array Value).setIfInBounds j u = #[.pointer (some ⟨D, 0, none⟩), .int .i64 (X'.most : Int), sv, .int .i64 (X'.settled : Int), .bool X'.down]) :
    JMem (w.setCell ⟨J, j, none⟩ u) G J D sv E X' ∧ Turn (fun b => b = J) w (w.setCell ⟨J, j, none⟩ u) := by
  have t : Turn (fun b => b = J) w (w.setCell ⟨J, j, none⟩ u) := (Turn.refl (fun b => b = J) w).setCell (p := ⟨J, j, none⟩) (.inl rfl) u
  have ho' := heap_setCell_obj (j := j) m.obj u
  rw [ho] at ho'
  have hneB : ∀ {e : TypeId} {s n : Nat} {v : Value} {xs : List Value}, OwnSl w e s v n xs → e ≠ 79 → ∀ k, v.ownBlock = some k → ¬ k = J := fun h he k hk => h.neObj m.obj he k hk
  refine ⟨⟨ho', m.home, ⟨m.seg.own.turn t (hneB m.seg.own (by decide)), m.seg.blk, fun e he => ?_, m.seg.apart⟩, hs.trans m.segs⟩, t⟩
  obtain ⟨vs, h1, h2, h3, h4⟩ := m.seg.recs e he
  exact ⟨vs, h1.turn t (hneB h1 (by decide)), h2, h3, fun i u z hu hz => ⟨(h4 i u z hu hz).1.turn t (hneB (h4 i u z hu hz).1 (by decide)), (h4 i u z hu hz).2⟩⟩
set_option maxHeartbeats 1000000 in
theorem told_j (w : World) (G : Nat → Prop) (J D : Nat) (sv : Value) (E : List Seg) (X : Jn) (x : Int) (m : JMem w G J D sv E X) :
    Calls Tryz.prog 38 #[.pointer (some ⟨J, 0, none⟩), .int .i64 x] w fun e w' => e = .returned (.int .i64 x) ∧ Turn (fun b => b = J) w w' ∧ JMem w' G J D sv E { X with down := decide (x = 3) } := by
  have c4 : w.cell? ⟨J, 4, none⟩ = some (.bool X.down) := cell_obj m.obj 4
  have f4 : w.frozen? ⟨J, 4, none⟩ = false := frozen_obj m.obj 4
  obtain ⟨m', t⟩ := m.re 4 (.bool (x == 3)) { X with down := x == 3 } rfl rfl
  have hb : (x == 3) = decide (x = 3) := by rw [Bool.eq_iff_iff]; simp
  rw [← hb]
  have Hm := hide m'
  have Ht := hide t
  clear m m' t hb
  go_enter Tryz.func38, Tryz.ntmps38
  go_wp2
  go_ret
  exact ⟨rfl, unhide Ht, unhide Hm⟩

theorem below_le (n : Nat) : ∀ l : List Sg, below n l + 1 ≤ l.length ∨ l = []
  | [] => .inr rfl
  | [a] => .inl (by simp [below])
  | a :: b :: r => by
    left
    rcases below_le n (b :: r) with h | h
    · simp only [below, List.length_cons] at *; split <;> omega
    · cases h
/-- one step of the count -/
theorem below_step (n : Nat) : ∀ (l : List Sg) (k : Nat) (s : Sg), k ≤ below n l → l[k + 1]? = some s → (s.first ≤ n → k + 1 ≤ below n l) ∧ (¬ s.first ≤ n → below n l = k)
  | [], k, s, h, hs => by simp at hs
  | [a], k, s, h, hs => by simp at hs
  | a :: b :: r, 0, s, h, hs => by
    simp at hs; subst hs
    simp only [below]
    exact ⟨fun h => by rw [if_pos h]; omega, fun h => by rw [if_neg h]⟩
  | a :: b :: r, k + 1, s, h, hs => by
    simp only [below] at h ⊢
    split at h
    · rename_i hb
      have := below_step n (b :: r) k s (by omega) (by simpa using hs)
      rw [if_pos hb]
      exact ⟨fun h => by have := this.1 h; omega, fun h => by have := this.2 h; omega⟩
    · omega
theorem below_end (n : Nat) (l : List Sg) (k : Nat) (h : k ≤ below n l) (hs : l.length ≤ k + 1) : below n l = k := by
  rcases below_le n l with h' | h'
  · omega
  · subst h'; simp [below] at *; omega
set_option maxRecDepth 10000 in
set_option maxHeartbeats 2000000 in
theorem below_walk (w : World) (G : Nat → Prop) (J D : Nat) (sv : Value) (E : List Seg) (X : Jn) (n : Nat) (m : JMem w G J D sv E X) (hl : E.length ≤ 1000001) :
    Calls Tryz.prog 44 #[.pointer (some ⟨J, 0, none⟩), .int .u64 (n : Int)] w fun e w' => e = .returned (.int .i64 ((below n X.segs : Nat) : Int)) ∧ w' = w := by
  have c2 : w.cell? ⟨J, 2, none⟩ = some sv := cell_obj m.obj 2
  have hat := fun (i : Nat) (e : Seg) (he : E[i]? = some e) => m.seg.at i e he
  obtain ⟨a, c, hsv⟩ := m.seg.slice
  rw [m.segs]
  clear m
  subst hsv
  go_enter Tryz.func44, Tryz.ntmps44
  go_wp2_with fail
  go_loopw [5] (fun i wr => ∃ k : Nat, i = .int .i64 (k : Int) ∧ k ≤ E.length ∧ Hid (k ≤ below n (E.map Seg.sg)) ∧ wr = w) (fun i _ => E.length - (intOf i).toNat)
  case atStart => exact ⟨0, rfl, Nat.zero_le _, hide (Nat.zero_le _), rfl⟩
  case round =>
    obtain ⟨k, rfl, hk, hb, rfl⟩ := hrel
    by_cases hlt : k + 1 < E.length
    · obtain ⟨e, he⟩ : ∃ e, E[k + 1]? = some e := ⟨E[k + 1], by simp [hlt]⟩
      obtain ⟨g, off, cap, hv, hc, hg, q0, q1, q2⟩ := hat (k + 1) e he
      have hst := below_step n (E.map Seg.sg) k e.sg (unhide hb) (by rw [List.getElem?_map, he]; rfl)
      have e1 : (Seg.sg e).first = e.first := rfl
      rw [e1] at hst
      simp only [Value.slice.injEq, true_and] at hv
      obtain ⟨rfl, rfl⟩ := hv
      by_cases hle : e.first ≤ n
      · have hb2 := hide (hst.1 hle)
        clear hst hb hat q1 q2
        generalize e.first = f at *
        have hle' : (f : Int) ≤ (n : Int) := by omega
        go_wp2
        exact ⟨⟨k + 1, by go_num, by omega, hb2, trivial⟩, by simp [intOf]; omega⟩
      · have hb2 := hide (hst.2 hle)
        clear hst hb hat q1 q2
        generalize e.first = f at *
        have hle' : ¬ (f : Int) ≤ (n : Int) := by omega
        go_wp2
        go_ret
        exact ⟨ret_int (by rw [unhide hb2]), rfl⟩
    · have hb2 := hide (below_end n (E.map Seg.sg) k (unhide hb) (by simp; omega))
      clear hat hb
      have hlt' : ¬ (k : Int) + 1 < (E.length : Int) := by omega
      generalize E.length = len at *
      go_wp2
      go_ret
      exact ⟨ret_int (by rw [unhide hb2]), rfl⟩
end Go.Proofs.YthikiahhochjmaaGreatDoor
