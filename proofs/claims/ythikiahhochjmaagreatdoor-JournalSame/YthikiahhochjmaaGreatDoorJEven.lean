/- Plain facts of a journal's segments: how many there are, where each begins, what is in them. -/
import Derived.Test.YthikiahhochjmaaGreatDoorJHold2
import Derived.Test.YthikiahhochjmaaGreatDoorJMem
namespace Go.Proofs.YthikiahhochjmaaGreatDoor
set_option linter.unusedVariables false
set_option linter.unusedSimpArgs false

theorem recs_grow (X : Jn) (b : List Int) : recsOf (growS X b) = recsOf X.segs ++ [b] := by
  cases hf : fullX X
  · obtain ⟨l, s, hx⟩ : ∃ l s, X.segs = l ++ [s] := by
      rcases snoc_of X.segs with e | ⟨l, s, e⟩
      · unfold fullX at hf; rw [e] at hf; cases hf
      · exact ⟨l, s, e⟩
    rw [grow_more hx hf, hx]; simp [recsOf]
  · rw [grow_full hf]; simp [recsOf]
theorem next_grow (X : Jn) (b : List Int) : nextOf (growS X b) = nextOf X.segs + 1 := by
  cases hf : fullX X
  · obtain ⟨l, s, hx⟩ : ∃ l s, X.segs = l ++ [s] := by
      rcases snoc_of X.segs with e | ⟨l, s, e⟩
      · unfold fullX at hf; rw [e] at hf; cases hf
      · exact ⟨l, s, e⟩
    rw [grow_more hx hf, hx, next_snoc, next_snoc]; simp; omega
  · rw [grow_full hf, next_snoc]; simp
theorem frames_le (B : Nat) : ∀ l : List (List Int), (∀ b ∈ l, b.length ≤ B) → (frames l).length ≤ l.length * (B + 10)
  | [], _ => by simp [frames]
  | b :: l, h => by
    have h1 := frames_le B l (fun x hx => h x (by simp [hx]))
    have h2 := h b (by simp)
    rw [frames_cons, List.length_append, packB_len, List.length_cons, Nat.succ_mul]
    omega
theorem ch_long {a : Sg} {l : List Sg} (h : Ch (a :: l)) : a.first + l.length ≤ nextOf (a :: l) := by
  induction l generalizing a with
  | nil => simp [nextOf]
  | cons b r ih =>
    have := ih h.2.2
    have h1 := h.1
    have hp : 0 < a.recs.length := List.length_pos_iff.2 h.2.1
    have e1 : nextOf (a :: b :: r) = nextOf (b :: r) := by simp [nextOf, List.getLast?_cons_cons]
    rw [e1]; simp only [List.length_cons]; omega
theorem ch_end {a : Sg} {l : List Sg} (h : Ch (a :: l)) : ∀ x ∈ a :: l, x.first + x.recs.length ≤ nextOf (a :: l) := by
  induction l generalizing a with
  | nil => intro x hx; simp at hx; rw [hx]; simp [nextOf]
  | cons b r ih =>
    have ih := ih h.2.2
    have h1 := h.1
    have e1 : nextOf (a :: b :: r) = nextOf (b :: r) := by simp [nextOf, List.getLast?_cons_cons]
    rw [e1]
    intro x hx
    rcases List.mem_cons.1 hx with rfl | hx
    · have := ih b (by simp); omega
    · exact ih x hx
theorem fit_of {X : Jn} (h : Ch X.segs) (hn : nextOf X.segs < 100) (hs : X.settled ≤ X.segs.length - 1) (hm : X.most ≤ 1000) : Fit X := by
  obtain ⟨most, segs, st, dn⟩ := X
  simp only at *
  cases segs with
  | nil => exact ⟨fun s hs => (by cases hs), by simp, Nat.le_trans hs (Nat.sub_le _ _), hm⟩
  | cons a l =>
    have h1 := ch_end h
    have h2 := ch_long h
    refine ⟨fun s hs => ?_, by simp; omega, by simp at hs ⊢; omega, hm⟩
    have := h1 s hs
    omega
/-- each segment but the last is just full -/
def Ev (m : Nat) (segs : List Sg) : Prop := ∀ (q : Nat) (s : Sg), segs[q]? = some s → s.first = q * m ∧ 1 ≤ s.recs.length ∧ s.recs.length ≤ m ∧ (q + 1 < segs.length → s.recs.length = m)
theorem ev_nil (m : Nat) : Ev m [] := fun q s h => by simp at h
theorem ev_last {m : Nat} {l : List Sg} {s : Sg} (h : Ev m (l ++ [s])) : s.first = l.length * m ∧ 1 ≤ s.recs.length ∧ s.recs.length ≤ m := by
  have := h l.length s (by simp)
  exact ⟨this.1, this.2.1, this.2.2.1⟩
theorem ev_grow {X : Jn} (b : List Int) (hm : 1 ≤ X.most) (h : Ev X.most X.segs) : Ev X.most (growS X b) := by
  cases hf : fullX X
  · obtain ⟨l, s, hx⟩ : ∃ l s, X.segs = l ++ [s] := by
      rcases snoc_of X.segs with e | ⟨l, s, e⟩
      · unfold fullX at hf; rw [e] at hf; cases hf
      · exact ⟨l, s, e⟩
    rw [grow_more hx hf]
    rw [hx] at h
    have hl := ev_last h
    have hlt : s.recs.length < X.most := by
      unfold fullX at hf; rw [hx] at hf; simpa using hf
    intro q t hq
    rw [List.getElem?_append] at hq
    split at hq
    · rename_i hlq
      have := h q t (by rw [List.getElem?_append_left hlq]; exact hq)
      refine ⟨this.1, this.2.1, this.2.2.1, fun _ => this.2.2.2 (by simp; omega)⟩
    · rename_i hlq
      have hq0 : q - l.length = 0 := by
        rcases Nat.eq_zero_or_pos (q - l.length) with h0 | h0
        · exact h0
        · rw [List.getElem?_eq_none (by simp; omega)] at hq; cases hq
      rw [hq0] at hq
      simp at hq
      subst hq
      have : q = l.length := by omega
      subst this
      refine ⟨hl.1, by simp, by simp; omega, fun h => by simp at h⟩
  · rw [grow_full hf]
    intro q t hq
    rw [List.getElem?_append] at hq
    split at hq
    · rename_i hlq
      have h1 := h q t hq
      refine ⟨h1.1, h1.2.1, h1.2.2.1, fun _ => ?_⟩
      by_cases hlast : q + 1 < X.segs.length
      · exact h1.2.2.2 hlast
      · rcases snoc_of X.segs with e | ⟨l, s, e⟩
        · rw [e] at hlq; simp at hlq
        · have hfull : X.most ≤ s.recs.length := by
            unfold fullX at hf; rw [e] at hf; simpa using hf
          have hql : q = l.length := by rw [e] at hlast hlq; simp at hlast hlq; omega
          rw [e, hql] at hq
          simp at hq
          subst hq
          have := h1.2.2.1
          omega
    · rename_i hlq
      have hq0 : q - X.segs.length = 0 := by
        rcases Nat.eq_zero_or_pos (q - X.segs.length) with h0 | h0
        · exact h0
        · rw [List.getElem?_eq_none (by simp; omega)] at hq; cases hq
      rw [hq0] at hq
      simp at hq
      have hq1 : q = X.segs.length := by omega
      rw [hq1, ← hq]
      refine ⟨?_, by simp, by simp; omega, fun h => by simp at h⟩
      simp only
      rcases snoc_of X.segs with e | ⟨l, s, e⟩
      · rw [e]; simp [nextOf]
      · have hfull : X.most ≤ s.recs.length := by
          unfold fullX at hf; rw [e] at hf; simpa using hf
        rw [e] at h
        have hl := ev_last h
        rw [e, next_snoc, hl.1]
        simp only [List.length_append, List.length_cons, List.length_nil, Nat.zero_add]
        rw [Nat.succ_mul]; omega
theorem ev_len {m : Nat} {segs : List Sg} (hm : 1 ≤ m) (h : Ev m segs) : segs.length = (nextOf segs + m - 1) / m := by
  rcases snoc_of segs with rfl | ⟨l, s, rfl⟩
  · simp only [nextOf, List.getLast?_nil, List.length_nil]; rw [Nat.div_eq_of_lt (by omega)]
  · obtain ⟨h1, h2, h3⟩ := ev_last h
    rw [next_snoc, h1]
    have : l.length * m + s.recs.length + m - 1 = (s.recs.length - 1) + m * (l.length + 1) := by rw [Nat.mul_succ, Nat.mul_comm m]; omega
    rw [this, Nat.add_mul_div_left _ _ (by omega), Nat.div_eq_of_lt (by omega)]
    simp
theorem below_ev {m : Nat} (hm : 1 ≤ m) (n : Nat) : ∀ (l : List Sg) (q0 : Nat), (∀ (q : Nat) (s : Sg), l[q]? = some s → s.first = (q0 + q) * m) → q0 * m ≤ n → below n l = min (n / m - q0) (l.length - 1)
  | [], q0, h, hq => by simp [below]
  | [a], q0, h, hq => by simp [below]
  | a :: b :: r, q0, h, hq => by
    have hb := h 1 b (by simp)
    simp only [below]
    split
    · rename_i hle
      rw [below_ev hm n (b :: r) (q0 + 1) (fun q s hs => by rw [h (q + 1) s (by simpa using hs)]; congr 1; omega) (by omega)]
      have : q0 + 1 ≤ n / m := by rw [Nat.le_div_iff_mul_le (by omega)]; omega
      simp only [List.length_cons]
      omega
    · rename_i hle
      have : n / m < q0 + 1 := by rw [Nat.div_lt_iff_lt_mul (by omega)]; omega
      simp only [List.length_cons]
      omega
theorem ev_below {m n : Nat} {segs : List Sg} (hm : 1 ≤ m) (h : Ev m segs) : below n segs = min (n / m) (segs.length - 1) := by
  have := below_ev hm n segs 0 (fun q s hs => by rw [(h q s hs).1]; simp) (by simp)
  simpa using this
theorem ev_first {m c : Nat} {segs : List Sg} (h : Ev m segs) (hc : c ≤ segs.length - 1) (h0 : segs.length = 0 → c = 0) : firstOf (segs.drop c) = c * m := by
  by_cases hs : segs.length = 0
  · have : segs = [] := List.length_eq_zero_iff.1 hs
    rw [this, h0 hs]; simp [firstOf]
  · have hlt : c < segs.length := by omega
    have := h c segs[c] (by simp [hlt])
    rw [List.drop_eq_getElem_cons hlt]
    simp only [firstOf, List.head?_cons]
    exact this.1
theorem count_first {segs : List Sg} (h : Ch segs) : (recsOf segs).length = nextOf segs - firstOf segs ∧ firstOf segs ≤ nextOf segs := by
  cases segs with
  | nil => simp [recsOf, nextOf, firstOf]
  | cons a l =>
    have := ch_count h
    simp only [firstOf, List.head?_cons]
    omega
theorem ev_name {m q : Nat} {segs : List Sg} (h : Ev m segs) (hq : q < segs.length) : (segs.map (fun s => nameS s.first))[q]? = some (nameS (q * m)) := by
  rw [List.getElem?_map, List.getElem?_eq_getElem hq]
  have := h q segs[q] (by simp [hq])
  simp [this.1]
theorem name_two (k : Nat) (h : k < 100) : nameS k = [108, 48, 48, 48, 48, 48, 48, 48, 48, UInt8.ofNat (48 + k / 10), UInt8.ofNat (48 + k % 10)] := by
  have h1 : k / 10 / 10 = 0 := by omega
  have h2 : k / 10 % 10 = k / 10 := by omega
  simp [nameS, dig, h1, h2]
end Go.Proofs.YthikiahhochjmaaGreatDoor
