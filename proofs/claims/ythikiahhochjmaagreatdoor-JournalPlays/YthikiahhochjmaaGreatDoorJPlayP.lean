/- What JournalPlays keeps of a journal and its disk: plain facts. -/
import Derived.Test.YthikiahhochjmaaGreatDoorJFall
namespace Go.Proofs.YthikiahhochjmaaGreatDoor
set_option linter.unusedVariables false
set_option linter.unusedSimpArgs false

/-- how many bytes of the last segment are safe, where k of its records are -/
def kLen (segs : List Sg) (k : Nat) : Nat := match segs.getLast? with | none => 0 | some s => flen s.recs k
theorem kLen_snoc (l : List Sg) (s : Sg) (k : Nat) : kLen (l ++ [s]) k = flen s.recs k := by simp [kLen]
/-- how many records are safe -/
def safeOf (segs : List Sg) (k : Nat) : Nat := match segs.getLast? with | none => 0 | some s => s.first + k
theorem safeOf_snoc (l : List Sg) (s : Sg) (k : Nat) : safeOf (l ++ [s]) k = s.first + k := by simp [safeOf]
/-- the disk holds these segments, of which these many are safe; they are those of A from 'first' on -/
structure Jv (S : Dk) (segs : List Sg) (k first : Nat) (A : List (List Int)) : Prop where
  hold : Hold S segs (kLen segs k)
  top : ∀ l s, segs = l ++ [s] → k ≤ s.recs.length
  tail : ∀ l s, segs = l ++ [s] → l = [] ∨ s.recs ≠ []
  base : ∀ s, segs = [s] → s.first = 0 ∨ 1 ≤ k
  nil : segs = [] → first = 0
  beg : firstOf segs = first
  le : nextOf segs ≤ A.length
  recs : recsOf segs = (A.take (nextOf segs)).drop first
  short : ∀ b ∈ A, b.length ≤ 300
theorem Jv.fs {S S' : Dk} {segs : List Sg} {k first : Nat} {A : List (List Int)} (h : Jv S segs k first A) (e : S'.fs = S.fs) : Jv S' segs k first A :=
  ⟨hold_fs h.hold e, h.top, h.tail, h.base, h.nil, h.beg, h.le, h.recs, h.short⟩
theorem Jv.more {S : Dk} {segs : List Sg} {k first : Nat} {A : List (List Int)} {b : List Int} (h : Jv S segs k first A) (hb : b.length ≤ 300) : Jv S segs k first (A ++ [b]) :=
  ⟨h.hold, h.top, h.tail, h.base, h.nil, h.beg, by have := h.le; simp; omega, by rw [h.recs, List.take_append_of_le_length h.le], fun x hx => by
    rcases List.mem_append.1 hx with hx | hx
    · exact h.short x hx
    · simp at hx; rw [hx]; exact hb⟩
/-- .. where all is safe -/
theorem Jv.all {S S' : Dk} {segs : List Sg} {k first : Nat} {A : List (List Int)} (h : Jv S segs k first A) (hs : Hold S' segs (whole segs)) : ∃ k', Jv S' segs k' first A ∧ safeOf segs k' = nextOf segs ∧ safeOf segs k ≤ safeOf segs k' := by
  rcases snoc_of segs with rfl | ⟨l, s, rfl⟩
  · exact ⟨0, ⟨hs, fun l s e => by simp at e, fun l s e => by simp at e, fun s e => by simp at e, h.nil, h.beg, h.le, h.recs, h.short⟩, rfl, Nat.le_refl _⟩
  · have ht := h.top l s rfl
    refine ⟨s.recs.length, ⟨by rw [kLen_snoc, flen_all _ (Nat.le_refl _)]; rw [whole_snoc] at hs; exact hs, fun l' s' e => ?_, h.tail, fun s' e => ?_, h.nil, h.beg, h.le, h.recs, h.short⟩, by rw [safeOf_snoc, next_snoc], by rw [safeOf_snoc, safeOf_snoc]; omega⟩
    · have := (List.append_inj' e rfl).2
      simp at this
      rw [this]; exact Nat.le_refl _
    · rcases h.base s' e with h1 | h1
      · exact .inl h1
      · exact .inr (by omega)
theorem Jv.short' {S : Dk} {segs : List Sg} {k first : Nat} {A : List (List Int)} (h : Jv S segs k first A) : ∀ b ∈ recsOf segs, b.length ≤ 300 ∧ b ∈ A := fun b hb => by
  rw [h.recs] at hb
  have := List.mem_of_mem_take (List.mem_of_mem_drop hb)
  exact ⟨h.short b this, this⟩
theorem Jv.below {S : Dk} {segs : List Sg} {k first : Nat} {A : List (List Int)} (h : Jv S segs k first A) : first ≤ nextOf segs ∧ safeOf segs k ≤ nextOf segs := by
  refine ⟨by rw [← h.beg]; exact (count_first h.hold.ch).2, ?_⟩
  rcases snoc_of segs with rfl | ⟨l, s, rfl⟩
  · exact Nat.zero_le _
  · have := h.top l s rfl
    rw [safeOf_snoc, next_snoc]; omega
theorem flen_append (l r : List (List Int)) (k : Nat) (h : k ≤ l.length) : flen (l ++ r) k = flen l k := by unfold flen; rw [List.take_append_of_le_length h]
theorem firstOf_app (l : List Sg) (s : Sg) : firstOf (l ++ [s]) = if l = [] then s.first else firstOf l := by
  cases l with
  | nil => rfl
  | cons a r => simp [firstOf]
/-- an Append that was done, or hit -/
theorem jv_mk {S S' : Dk} {X : Jn} {k first m' : Nat} {A : List (List Int)} {b : List Int} {segs' : List Sg} (h : Jv S X.segs k first A) (hn : nextOf X.segs = A.length) (hb : b.length ≤ 300) (hm : 1 ≤ X.most) (hs : Hold S' segs' m') (hk : Mk X b (kLen X.segs k) segs' m') :
    ∃ k', Jv S' segs' k' first (A ++ [b]) ∧ safeOf X.segs k ≤ safeOf segs' k' := by
  have hrec : segs' = growS X b → recsOf segs' = ((A ++ [b]).take (nextOf segs')).drop first := fun e => by
    rw [e, recs_grow, next_grow, hn, List.take_of_length_le (by simp), h.recs, hn, List.take_of_length_le (Nat.le_refl _), List.drop_append_of_le_length (by have := h.below.1; omega)]
  have hsh : ∀ x ∈ A ++ [b], x.length ≤ 300 := (h.more hb).short
  rcases hk with ⟨rfl, hm' | hm'⟩ | ⟨hf, e, hm'⟩ | ⟨hf, e, hm'⟩
  · exact ⟨k, (⟨by rw [← hm']; exact hs, h.top, h.tail, h.base, h.nil, h.beg, h.le, h.recs, h.short⟩ : Jv S' X.segs k first A).more hb, Nat.le_refl _⟩
  · rw [hm'] at hs
    obtain ⟨k', h1, _, h3⟩ := h.all hs
    exact ⟨k', h1.more hb, h3⟩
  · have hr := hrec e
    have hnx : nextOf segs' = A.length + 1 := by rw [e, next_grow, hn]
    obtain ⟨l, s, hx⟩ : ∃ l s, X.segs = l ++ [s] := by
      rcases snoc_of X.segs with e | ⟨l, s, e⟩
      · unfold fullX at hf; rw [e] at hf; cases hf
      · exact ⟨l, s, e⟩
    rw [grow_more hx hf] at e
    have ht := h.top l s hx
    have hfi := h.beg
    have hba := h.base
    rw [hx] at hfi hba hm'
    rw [kLen_snoc] at hm'
    refine ⟨k, ⟨?_, fun l' s' e' => ?_, fun l' s' e' => ?_, fun s' e' => ?_, fun e' => by rw [e] at e'; simp at e', ?_, by rw [hnx]; simp, hr, hsh⟩, ?_⟩
    · rw [hm'] at hs
      rw [e] at hs ⊢
      rw [kLen_snoc, flen_append _ _ _ ht]; exact hs
    · rw [e] at e'
      have := (List.append_inj' e' rfl).2
      simp at this
      rw [← this]; simp; omega
    · rw [e] at e'
      have := (List.append_inj' e' rfl).2
      simp at this
      right; rw [← this]; simp
    · rw [e] at e'
      have h1 : l = [] := by
        have := congrArg List.length e'
        simp at this; exact this
      subst h1
      simp at e'
      rw [← e']
      exact hba s rfl
    · rw [e, firstOf_app]; rw [firstOf_app] at hfi; exact hfi
    · rw [hx, e, safeOf_snoc, safeOf_snoc]; exact Nat.le_refl _
  · have hr := hrec e
    have hnx : nextOf segs' = A.length + 1 := by rw [e, next_grow, hn]
    rw [grow_full hf] at e
    have hb2 := h.below.2
    refine ⟨0, ⟨?_, fun l' s' e' => Nat.zero_le _, fun l' s' e' => ?_, fun s' e' => ?_, fun e' => by rw [e] at e'; simp at e', ?_, by rw [hnx]; simp, hr, hsh⟩, ?_⟩
    · rw [hm'] at hs
      rw [e] at hs ⊢
      rw [kLen_snoc]; exact hs
    · rw [e] at e'
      have := (List.append_inj' e' rfl).2
      simp at this
      right; rw [← this]; simp
    · rw [e] at e'
      left
      have h1 : X.segs = [] := by
        have := congrArg List.length e'
        simp at this; exact this
      rw [h1] at e'
      simp at e'
      rw [← e']; rfl
    · rw [e, firstOf_app]
      by_cases h0 : X.segs = []
      · rw [if_pos h0, h.nil h0, h0]; rfl
      · rw [if_neg h0]; exact h.beg
    · rw [e, safeOf_snoc]; simp only [Nat.add_zero]; exact hb2

/-! ### Trim -/
theorem below_first (n : Nat) : ∀ (segs : List Sg) (i : Nat), i ≤ below n segs → firstOf (segs.drop i) ≤ max (firstOf segs) n
  | segs, 0, _ => by simp; omega
  | [], i + 1, h => by simp [below] at h
  | [a], i + 1, h => by simp [below] at h
  | a :: b :: r, i + 1, h => by
    simp only [below] at h
    split at h
    · rename_i hb
      have := below_first n (b :: r) i (by omega)
      simp only [List.drop_succ_cons]
      simp [firstOf] at this ⊢
      omega
    · omega
theorem first_up {segs : List Sg} (h : Ch segs) (i : Nat) (hi : i ≤ segs.length - 1) : firstOf segs ≤ firstOf (segs.drop i) := by
  cases segs with
  | nil => simp
  | cons a l =>
    cases i with
    | zero => simp
    | succ i =>
      simp only [List.length_cons] at hi
      have hlt : i < l.length := by omega
      have := ch_lt h l[i] (List.getElem_mem _)
      rw [List.drop_succ_cons, List.drop_eq_getElem_cons hlt]
      show a.first ≤ l[i].first
      omega
theorem recs_pre {segs segs2 : List Sg} {A r : List (List Int)} {next first n2 : Nat} (h : recsOf segs = (A.take next).drop first) (hp : recsOf segs = recsOf segs2 ++ r) (hl : (recsOf segs2).length = n2 - first) (h2 : n2 ≤ next) : recsOf segs2 = (A.take n2).drop first := by
  have e : recsOf segs2 = (recsOf segs).take (n2 - first) := by rw [hp, ← hl, List.take_left' rfl]
  rw [e, h, List.drop_take, List.drop_take, List.take_take, Nat.min_eq_left (by omega)]
theorem recs_post {segs : List Sg} {i : Nat} {A : List (List Int)} {next first f : Nat} (h : recsOf segs = (A.take next).drop first) (hl : (recsOf (segs.drop i)).length = next - f) (hle : next ≤ A.length) (h1 : first ≤ f) (h2 : f ≤ next) : recsOf (segs.drop i) = (A.take next).drop f := by
  have e : recsOf segs = recsOf (segs.take i) ++ recsOf (segs.drop i) := by
    unfold recsOf
    rw [← List.flatMap_append, List.take_append_drop]
  have hl2 := congrArg List.length e
  rw [List.length_append, hl, h, List.length_drop, List.length_take] at hl2
  have e2 : recsOf (segs.drop i) = (recsOf segs).drop (f - first) := by
    rw [e, List.drop_left' (by omega)]
  rw [e2, h, List.drop_drop]
  congr 1
  omega
theorem jv_drop {S S' : Dk} {segs : List Sg} {k first i m' n : Nat} {A : List (List Int)} (h : Jv S segs k first A) (hi : i ≤ below n segs) (hs : Hold S' (segs.drop i) m') (hm : (i = 0 ∧ m' = kLen segs k) ∨ m' = whole segs) :
    ∃ k' f', Jv S' (segs.drop i) k' f' A ∧ first ≤ f' ∧ f' ≤ max first n ∧ safeOf segs k ≤ safeOf (segs.drop i) k' := by
  have hbm := below_most n segs
  by_cases h0 : i = 0
  · subst h0
    rw [List.drop_zero] at hs ⊢
    rcases hm with ⟨_, hm⟩ | hm
    · exact ⟨k, first, ⟨by rw [← hm]; exact hs, h.top, h.tail, h.base, h.nil, h.beg, h.le, h.recs, h.short⟩, Nat.le_refl _, by omega, Nat.le_refl _⟩
    · rw [hm] at hs
      obtain ⟨k', h1, _, h3⟩ := h.all hs
      exact ⟨k', first, h1, Nat.le_refl _, by omega, h3⟩
  · have hm : m' = whole segs := by
      rcases hm with ⟨h1, _⟩ | h1
      · exact absurd h1 h0
      · exact h1
    rcases snoc_of segs with rfl | ⟨l, s, rfl⟩
    · simp at hbm; omega
    · have hil : i ≤ l.length := by simp at hbm; omega
      have ed : (l ++ [s]).drop i = l.drop i ++ [s] := List.drop_append_of_le_length hil
      have hne : s.recs ≠ [] := by
        rcases h.tail l s rfl with h1 | h1
        · rw [h1] at hil; simp at hil; omega
        · exact h1
      have hpos : 1 ≤ s.recs.length := List.length_pos_iff.2 hne
      have hf1 := first_up h.hold.ch i (by simp; omega)
      have hf2 := below_first n (l ++ [s]) i hi
      rw [h.beg] at hf1 hf2
      have hnx : nextOf ((l ++ [s]).drop i) = nextOf (l ++ [s]) := nextOf_drop (by simp; omega)
      have hcf := count_first hs.ch
      rw [hnx] at hcf
      refine ⟨s.recs.length, firstOf ((l ++ [s]).drop i), ⟨?_, ?_, ?_, ?_, ?_, rfl, ?_, ?_, h.short⟩, hf1, hf2, ?_⟩
      · rw [hm, whole_snoc] at hs
        rw [ed] at hs ⊢
        rw [kLen_snoc, flen_all _ (Nat.le_refl _)]; exact hs
      · intro l' s' e
        rw [ed] at e
        have := (List.append_inj' e rfl).2
        simp at this
        rw [this]; exact Nat.le_refl _
      · intro l' s' e
        rw [ed] at e
        have := (List.append_inj' e rfl).2
        simp at this
        right; rw [← this]; exact hne
      · intro s' e; exact .inr hpos
      · intro e; rw [ed] at e; simp at e
      · rw [hnx]; exact h.le
      · rw [hnx]
        exact recs_post h.recs hcf.1 h.le hf1 hcf.2
      · have ht := h.top l s rfl
        rw [ed, safeOf_snoc, safeOf_snoc]; omega
/-- Trim, and how much is safe behind it -/
theorem trim_hold2 {S : Dk} {X : Jn} {m : Nat} (n : Nat) (h : Hold S X.segs m) (hd : S.down = false) (hx : X.down = false) (hs : X.settled ≤ X.segs.length - 1) (hn : n ≤ nextOf X.segs) :
    (∃ st S' m', trimJ X S n = (0, { X with segs := X.segs.drop (below n X.segs), settled := st }, S') ∧ st ≤ (X.segs.drop (below n X.segs)).length - 1 ∧ Hold S' (X.segs.drop (below n X.segs)) m' ∧ ((below n X.segs = 0 ∧ m' = m) ∨ m' = whole X.segs) ∧ S'.down = false ∧ Rest S S') ∨
    (S.arm ≠ 0 ∧ ∃ st S' m' i, trimJ X S n = (3, { X with settled := st, down := true }, S') ∧ st ≤ X.segs.length - 1 ∧ i ≤ below n X.segs ∧ Hold S' (X.segs.drop i) m' ∧ ((i = 0 ∧ m' = m) ∨ m' = whole X.segs) ∧ S'.down = true ∧ Rest S S') := by
  have hc := below_most n X.segs
  unfold trimJ
  rw [hx, if_neg (by decide), if_neg (by omega), hd, if_neg (by decide)]
  unfold dropJ
  obtain ⟨most, segs, st, dn⟩ := X
  simp only at *
  subst hx
  generalize hce : below n segs = c at *
  by_cases h0 : c = 0
  · subst h0
    rw [if_pos rfl]
    exact .inl ⟨st, S, m, by simp [toldJ], by simpa using hs, by simpa using h, .inl ⟨rfl, rfl⟩, hd, Rest.refl S⟩
  · rw [if_neg h0]
    rcases settle_hold (X := ⟨most, segs, st, false⟩) h hd hs with ⟨S1, h1, h2, h3, h4⟩ | ⟨hz, S1, h1, h2, h3, h4⟩
    · rw [h1]
      simp only [ne_eq, not_true_eq_false, if_false]
      have hR : segs.drop c ≠ [] := by
        intro he
        have := congrArg List.length he
        simp at this
        omega
      rcases drop_files (segs.take c) (segs.drop c) (whole segs) S1 hR (hold_take h2) h3 with ⟨S', g1, g2, g3, g4⟩ | ⟨hz, i, S', gi, g1, g2, g3, g4⟩
      · rw [g1]
        exact .inl ⟨segs.length - 1 - c, S', whole segs, by simp [toldJ], by simp; omega, g2, .inr rfl, g3, h4.trans g4⟩
      · rw [g1]
        refine .inr ⟨fun hq => hz (h4.calm hq), segs.length - 1, S', whole segs, i, by simp [toldJ], by omega, ?_, by rw [List.take_append_drop] at g2; exact g2, .inr rfl, g3, h4.trans g4⟩
        simp at gi; omega
    · rw [h1]
      simp only [ne_eq, show ¬ ((3 : Int) = 0) by decide, not_false_eq_true, if_true]
      exact .inr ⟨hz, st, S1, m, 0, by simp [toldJ], hs, by omega, by simpa using h2, .inl ⟨rfl, rfl⟩, h3, h4⟩

/-! ### Open -/
theorem jv_tail {S : Dk} {segs : List Sg} {k first : Nat} {A : List (List Int)} (h : Jv S segs k first A) : ∀ b ∈ recsOf segs, b.length ≤ 1048576 := fun b hb => by have := (h.short' b hb).1; omega
/-- opened without a fall -/
theorem jv_calm {S : Dk} {segs : List Sg} {k first : Nat} {A : List (List Int)} (h : Jv S segs k first A) (hd : S.down = false) : openJ (startS S) = (0, segs, startS S) ∧ Jv (startS S) segs k first A ∧ (startS S).down = false ∧ (startS S).arm = 0 ∧ (startS S).size = S.size := by
  obtain ⟨a, b, c, d⟩ := start_up hd
  have h1 := h.fs a
  exact ⟨open_hold h1.hold b (jv_tail h1) h1.tail, h1, b, c, d⟩
/-- opened behind a fall -/
theorem jv_fall {S S2 : Dk} {segs : List Sg} {k first : Nat} {A : List (List Int)} (keep : List Int) (h : Jv S segs k first A) (hfs : S2.fs = (crashS S keep).fs) (hd : S2.down = false) (ha : S2.arm = 0) :
    ∃ segs2 k2 S3, openJ S2 = (0, segs2, S3) ∧ Jv S3 segs2 k2 first (A.take (nextOf segs2)) ∧ safeOf segs k ≤ nextOf segs2 ∧ nextOf segs2 ≤ nextOf segs ∧ safeOf segs2 k2 = nextOf segs2 ∧ S3.down = false ∧ S3.arm = 0 ∧ S3.size = S2.size := by
  have hshort : ∀ n, ∀ b ∈ A.take n, b.length ≤ 300 := fun n b hb => h.short b (List.mem_of_mem_take hb)
  rcases snoc_of segs with rfl | ⟨l, s, rfl⟩
  · have hf : S2.fs = [] := by
      rw [hfs]
      have : S.fs = [] := by rw [h.hold.fs]; rfl
      show fallL keep 0 S.fs = []
      rw [this]; rfl
    have hh : Hold S2 [] 0 := ⟨hf, trivial, fun s hs => by cases hs⟩
    refine ⟨[], 0, S2, open_hold hh hd (fun b hb => by simp [recsOf] at hb) (fun l s e => by simp at e), ⟨hh, fun l s e => by simp at e, fun l s e => by simp at e, fun s e => by simp at e, h.nil, h.beg, Nat.zero_le _, by rw [h.recs]; simp [nextOf], hshort _⟩, Nat.le_refl _, Nat.le_refl _, rfl, hd, ha, rfl⟩
  · have hSf : S.fs = l.map fullG ++ [fileG s (flen s.recs k)] := by rw [h.hold.fs, kLen_snoc, filesG_snoc]
    have hch := h.hold.ch
    have hbs : ∀ b ∈ s.recs, b.length ≤ 1048576 := fun b hb => jv_tail h b (List.mem_flatMap.2 ⟨s, by simp, hb⟩)
    obtain ⟨t, j, hT, hcf⟩ := crash_files keep hSf hch (h.top l s rfl) hbs
    rw [hcf] at hfs
    have hin := ch_inner hch
    have hfi := h.beg
    have hap : recsOf (l ++ [s]) = recsOf l ++ s.recs := by simp [recsOf]
    have hnl : l ≠ [] → nextOf l = s.first := by
      intro hl
      rcases snoc_of l with e | ⟨l', x, e⟩
      · exact absurd e hl
      · subst e
        rw [next_snoc]
        have : ∀ (l' : List Sg), Ch (l' ++ [x] ++ [s]) → s.first = x.first + x.recs.length := by
          intro l'
          induction l' with
          | nil => intro h; exact h.1
          | cons a r ih => intro h; exact ih (ch_tail h)
        exact (this l' hch).symm
    -- what is left when the last one is gone
    have gone : k = 0 → l ≠ [] ∨ s.first = 0 → ∀ S3 : Dk, Hold S3 l (whole l) → Jv S3 l (match l.getLast? with | none => 0 | some x => x.recs.length) first (A.take (nextOf l)) ∧ safeOf (l ++ [s]) k ≤ nextOf l ∧ nextOf l ≤ nextOf (l ++ [s]) ∧ safeOf l (match l.getLast? with | none => 0 | some x => x.recs.length) = nextOf l := by
      intro hk0 hl0 S3 h3
      have hle : nextOf l ≤ nextOf (l ++ [s]) := by
        rw [next_snoc]
        by_cases hl : l = []
        · rw [hl]; simp [nextOf]
        · rw [hnl hl]; omega
      have hfl : l ≠ [] → firstOf l = first := fun hl => by rw [← hfi, firstOf_app, if_neg hl]
      have hcl := count_first h3.ch
      refine ⟨⟨?_, ?_, ?_, ?_, ?_, ?_, ?_, ?_, hshort _⟩, ?_, hle, ?_⟩
      · rcases snoc_of l with e | ⟨l', x, e⟩
        · subst e; exact h3
        · subst e
          rw [whole_snoc] at h3
          rw [kLen_snoc]
          simp only [List.getLast?_append, List.getLast?_singleton, Option.some_or]
          rw [flen_all _ (Nat.le_refl _)]; exact h3
      · intro l' x e; subst e; simp
      · intro l' x e; right; subst e; exact hin x (by simp)
      · intro x e; right; subst e; simp; exact List.length_pos_iff.2 (hin x (by simp))
      · intro e
        rw [← hfi, e]
        rcases hl0 with h1 | h1
        · exact absurd e h1
        · simp [firstOf]; exact h1
      · by_cases hl : l = []
        · rw [← hfi, hl]
          rcases hl0 with h1 | h1
          · exact absurd hl h1
          · simp [firstOf]; exact h1.symm
        · exact hfl hl
      · rw [List.length_take]; have := h.le; omega
      · rw [List.take_take, Nat.min_self]
        by_cases hl : l = []
        · subst hl; simp [recsOf, nextOf]
        · exact recs_pre h.recs hap (by rw [hcl.1, hfl hl]) hle
      · rw [safeOf_snoc, hk0]
        by_cases hl : l = []
        · rcases hl0 with h1 | h1
          · exact absurd hl h1
          · rw [h1]; omega
        · rw [hnl hl]; omega
      · rcases snoc_of l with e | ⟨l', x, e⟩
        · subst e; rfl
        · subst e
          rw [safeOf_snoc, next_snoc]
          simp
    by_cases ht0 : t.length = 0
    · rw [if_pos ht0, List.append_nil] at hfs
      have hj0 : j = 0 := flen_zero hT.top (by have := hT.len; omega)
      have hk0 : k = 0 := by have := hT.le; omega
      have hl0 : l ≠ [] ∨ s.first = 0 := by
        by_cases hl : l = []
        · right
          subst hl
          rcases h.base s rfl with h1 | h1
          · exact h1
          · omega
        · exact .inl hl
      have hh : Hold S2 l (whole l) := ⟨by
        rw [hfs]
        rcases snoc_of l with e | ⟨l', x, e⟩
        · subst e; rfl
        · rw [e, whole_snoc, fullG_all], ch_init hch, fun x hx => h.hold.low x (by simp [hx])⟩
      obtain ⟨g1, g2, g3, g4⟩ := gone hk0 hl0 S2 hh
      exact ⟨l, _, S2, open_hold hh hd (jv_tail g1) g1.tail, g1, g2, g3, g4, hd, ha, rfl⟩
    · rw [if_neg ht0] at hfs
      obtain ⟨S3, o1, o2, o3, o4, o5⟩ := open_torn hfs hd ha hch h.hold.low (jv_tail h) hT
      by_cases hA : l ≠ [] ∧ j = 0
      · have hm : mendS l s j = l := by unfold mendS; rw [if_pos hA]
        rw [hm] at o1 o2
        have hk0 : k = 0 := by have := hT.le; omega
        obtain ⟨g1, g2, g3, g4⟩ := gone hk0 (.inl hA.1) S3 o2
        exact ⟨l, _, S3, o1, g1, g2, g3, g4, o3, o4, o5⟩
      · have hm : mendS l s j = l ++ [⟨s.first, s.recs.take j⟩] := by unfold mendS; rw [if_neg hA]
        rw [hm] at o1 o2
        have htop := hT.top
        have hn2 : nextOf (l ++ [(⟨s.first, s.recs.take j⟩ : Sg)]) = s.first + j := by
          rw [next_snoc, List.length_take, Nat.min_eq_left htop]
        have hle2 : s.first + j ≤ nextOf (l ++ [s]) := by rw [next_snoc]; omega
        have hcl := count_first o2.ch
        have hf2 : firstOf (l ++ [(⟨s.first, s.recs.take j⟩ : Sg)]) = first := by rw [← hfi, firstOf_app, firstOf_app]
        rw [hn2, hf2] at hcl
        have hjj : j ≤ (s.recs.take j).length := by rw [List.length_take]; omega
        refine ⟨_, j, S3, o1, ⟨?_, ?_, ?_, ?_, ?_, hf2, ?_, ?_, hshort _⟩, ?_, ?_, ?_, o3, o4, o5⟩
        · rw [whole_flen] at o2
          rw [kLen_snoc]
          have : flen (s.recs.take j) j = flen s.recs j := by unfold flen; rw [List.take_take, Nat.min_self]
          rw [this]; exact o2
        · intro l' x e
          have := (List.append_inj' e rfl).2
          simp at this
          rw [← this]; exact hjj
        · intro l' x e
          have e1 := (List.append_inj' e rfl).1
          have := (List.append_inj' e rfl).2
          simp at this
          by_cases hl : l = []
          · left; rw [← e1, hl]
          · right
            rw [← this]
            intro h0
            have := congrArg List.length h0
            simp only [List.length_take, List.length_nil] at this
            exact hA ⟨hl, by omega⟩
        · intro x e
          have hl : l = [] := by have := congrArg List.length e; simp at this; exact this
          subst hl
          simp at e
          rw [← e]
          rcases h.base s rfl with h1 | h1
          · exact .inl h1
          · right; have := hT.le; omega
        · intro e; simp at e
        · rw [hn2, List.length_take]; have := h.le; omega
        · rw [hn2, List.take_take, Nat.min_self]
          refine recs_pre (segs := l ++ [s]) (r := s.recs.drop j) h.recs ?_ hcl.1 hle2
          simp [recsOf]
        · rw [safeOf_snoc, hn2]; have := hT.le; omega
        · rw [hn2]; exact hle2
        · rw [safeOf_snoc, hn2]
end Go.Proofs.YthikiahhochjmaaGreatDoor
