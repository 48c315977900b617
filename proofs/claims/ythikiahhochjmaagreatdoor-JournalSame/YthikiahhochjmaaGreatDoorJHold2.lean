/- Plain facts of a journal over a disk: Append, Sync and Trim, hit or not. -/
import Derived.Test.YthikiahhochjmaaGreatDoorJHold
namespace Go.Proofs.YthikiahhochjmaaGreatDoor
set_option linter.unusedVariables false
set_option linter.unusedSimpArgs false

theorem append_any {S : Dk} (f : Nat) (b : List Int) (hd : S.down = false) :
    appendC S (nameS f) b = (if fullB S (nameS f) b then 4 else if hitB S then 3 else 0) ∧ appendS S (nameS f) b = if fullB S (nameS f) b then S else hitS (appS S (nameS f) b) := by
  unfold appendC appendS
  rw [refuse_name hd]
  exact ⟨by simp, by simp⟩
theorem full_why {S : Dk} {f : Nat} {b : List Int} (h : fullB S (nameS f) b = true) : S.size < used S.fs + b.length ∨ 64 ≤ S.fs.length := by
  simp [fullB] at h
  rcases h with h | h
  · exact .inl h
  · exact .inr h.2
/-- the segments with one record more -/
def growS (X : Jn) (b : List Int) : List Sg := if fullX X then X.segs ++ [⟨nextOf X.segs, [b]⟩] else (moreX X b).segs
theorem grow_more {X : Jn} {l : List Sg} {s : Sg} (h : X.segs = l ++ [s]) (hf : fullX X = false) (b : List Int) : growS X b = l ++ [⟨s.first, s.recs ++ [b]⟩] := by
  unfold growS moreX; rw [hf, h]; simp
theorem grow_full {X : Jn} (hf : fullX X = true) (b : List Int) : growS X b = X.segs ++ [⟨nextOf X.segs, [b]⟩] := by
  unfold growS; rw [if_pos hf]
/-- which segments are on the disk behind it, and how much of the last one is safe -/
def Mk (X : Jn) (b : List Int) (m : Nat) (segs' : List Sg) (m' : Nat) : Prop :=
  (segs' = X.segs ∧ (m' = m ∨ m' = whole X.segs)) ∨ (fullX X = false ∧ segs' = growS X b ∧ m' = m) ∨ (fullX X = true ∧ segs' = growS X b ∧ m' = 0)
theorem appS_eq (S : Dk) (n : Nm) (b : List Int) : (appS S n b).size = S.size ∧ (appS S n b).arm = S.arm ∧ (appS S n b).down = S.down := ⟨rfl, rfl, rfl⟩

theorem more_hold {S : Dk} {X : Jn} {m : Nat} {l : List Sg} {s : Sg} (b : List Int) (hx : X.segs = l ++ [s]) (hf : fullX X = false) (h : Hold S X.segs m) : Hold (appS S (nameS s.first) (packB b)) (growS X b) m := by
  rw [grow_more hx hf]
  have h1 := h.fs
  have h2 := h.ch
  rw [hx] at h1 h2
  rw [filesG_snoc] at h1
  have h3 := h.low s (by rw [hx]; simp)
  refine ⟨by rw [app_last b h1 h2 (by omega), filesG_snoc], ch_last h2, ?_⟩
  intro x hxm
  rcases List.mem_append.1 hxm with hm | hm
  · exact h.low x (by rw [hx]; simp [hm])
  · simp at hm; rw [hm]; exact h3
theorem hold_fs {S S' : Dk} {segs : List Sg} {m : Nat} (h : Hold S segs m) (e : S'.fs = S.fs) : Hold S' segs m := ⟨by rw [e, h.fs], h.ch, h.low⟩
theorem next_above {segs : List Sg} (h : Ch segs) (hl : ∀ l s, segs = l ++ [s] → s.recs ≠ []) : ∀ s ∈ segs, s.first < nextOf segs := by
  rcases snoc_of segs with rfl | ⟨l, t, rfl⟩
  · intro s hs; cases hs
  · intro s hs
    have h1 := ch_le h s hs
    have h2 : 0 < t.recs.length := List.length_pos_iff.2 (hl l t rfl)
    rw [next_snoc]; omega
theorem push_hold {S : Dk} {X : Jn} (b : List Int) (hf : fullX X = true) (hm : 1 ≤ X.most) (hn : nextOf X.segs < 1000000000) (h : Hold S X.segs (whole X.segs)) :
    getK Fl.n (nameS (nextOf X.segs)) S.fs = none ∧ Hold (appS S (nameS (nextOf X.segs)) (packB b)) (growS X b) 0 := by
  rw [grow_full hf]
  have hl : ∀ l s, X.segs = l ++ [s] → s.recs ≠ [] := by
    intro l s e
    have : X.most ≤ s.recs.length := by
      unfold fullX at hf; rw [e] at hf; simpa using hf
    intro h0; rw [h0] at this; simp at this; omega
  obtain ⟨g1, g2⟩ := app_new b h.fs (next_above h.ch hl) (by omega)
  refine ⟨g1, ?_, ?_, ?_⟩
  · rw [g2, filesG_snoc]
    congr 1
    rcases snoc_of X.segs with e | ⟨l, s, e⟩
    · rw [e]; rfl
    · rw [e, whole_snoc, ← fullG_all]
  · rcases snoc_of X.segs with e | ⟨l, s, e⟩
    · rw [e]; trivial
    · have := h.ch
      rw [e] at this ⊢
      rw [next_snoc]
      exact ch_snoc this (hl l s e)
  · intro x hx
    rcases List.mem_append.1 hx with hx | hx
    · exact h.low x hx
    · simp at hx; rw [hx]; exact hn

theorem lay_hold {S : Dk} {X : Jn} {m : Nat} (b : List Int) (h : Hold S X.segs m) (hd : S.down = false) (hs : X.settled ≤ X.segs.length - 1) (hm : 1 ≤ X.most) (hn : nextOf X.segs < 1000000000) :
    (∃ st S' m', layJ X S b = (0, { X with segs := growS X b, settled := st }, S') ∧ st ≤ (growS X b).length - 1 ∧ Hold S' (growS X b) m' ∧ Mk X b m (growS X b) m' ∧ S'.down = false ∧ Rest S S') ∨
    (∃ st S' m', layJ X S b = (4, { X with settled := st }, S') ∧ st ≤ X.segs.length - 1 ∧ Hold S' X.segs m' ∧ (m' = m ∨ m' = whole X.segs) ∧ S'.down = false ∧ Rest S S' ∧ (S.size < used S.fs + (b.length + 10) ∨ 64 ≤ S.fs.length)) ∨
    (S.arm ≠ 0 ∧ ∃ st S' m' segs', layJ X S b = (3, { X with settled := st }, S') ∧ st ≤ X.segs.length - 1 ∧ Hold S' segs' m' ∧ Mk X b m segs' m' ∧ S'.down = true ∧ Rest S S') := by
  unfold layJ
  rw [hd]
  simp only [Bool.false_eq_true, if_false, if_neg (show ¬ 4294967296 ≤ nextOf X.segs by omega)]
  cases hf : fullX X
  · simp only [Bool.false_eq_true, if_false]
    obtain ⟨l, s, hx⟩ : ∃ l s, X.segs = l ++ [s] := by
      rcases snoc_of X.segs with e | ⟨l, s, e⟩
      · unfold fullX at hf; rw [e] at hf; cases hf
      · exact ⟨l, s, e⟩
    have e0 : lastF X.segs = s.first := by rw [hx, lastF_end]
    obtain ⟨e1, e2⟩ := append_any s.first (packB b) hd
    have hh := more_hold b hx hf h
    have e3 : moreX X b = { X with segs := growS X b, settled := X.settled } := by unfold growS; rw [hf]; rfl
    have e4 : (growS X b).length = X.segs.length := by rw [grow_more hx hf, hx]; simp
    rw [e0, e1, e2]
    cases hfb : fullB S (nameS s.first) (packB b)
    · simp only [Bool.false_eq_true, if_false]
      cases hb : hitB S
      · refine .inl ⟨X.settled, hitS (appS S (nameS s.first) (packB b)), m, by simp [e3], by omega, hold_fs hh (hitS_files _), .inr (.inl ⟨hf, rfl, rfl⟩), ?_, ?_⟩
        · rw [hitS_down (show (appS S (nameS s.first) (packB b)).down = false from hd)]; exact hb
        · exact ⟨hitS_room _, fun h0 => hitS_calm h0⟩
      · refine .inr (.inr ⟨hitB_arm hb, X.settled, hitS (appS S (nameS s.first) (packB b)), m, growS X b, by simp, hs, hold_fs hh (hitS_files _), .inr (.inl ⟨hf, rfl, rfl⟩), ?_, ?_⟩)
        · rw [hitS_down (show (appS S (nameS s.first) (packB b)).down = false from hd)]; exact hb
        · exact ⟨hitS_room _, fun h0 => hitS_calm h0⟩
    · simp only [if_true]
      refine .inr (.inl ⟨X.settled, S, m, by simp, hs, h, .inl rfl, hd, Rest.refl S, ?_⟩)
      have := full_why hfb
      rw [packB_len] at this
      exact this
  · simp only [if_true]
    unfold beginJ
    rcases settle_hold h hd hs with ⟨S1, h1, h2, h3, h4⟩ | ⟨h0, S1, h1, h2, h3, h4⟩
    · rw [h1]
      simp only [ne_eq, not_true_eq_false, if_false]
      obtain ⟨g1, g2⟩ := push_hold b hf hm hn h2
      obtain ⟨e1, e2⟩ := append_any (nextOf X.segs) (packB b) h3
      rw [e1, e2]
      have e3 : pushX { X with settled := X.segs.length - 1 } b = { X with segs := growS X b, settled := X.segs.length - 1 } := by rw [grow_full hf]; rfl
      have e4 : (growS X b).length = X.segs.length + 1 := by rw [grow_full hf]; simp
      cases hfb : fullB S1 (nameS (nextOf X.segs)) (packB b)
      · simp only [Bool.false_eq_true, if_false]
        cases hb : hitB S1
        · refine .inl ⟨X.segs.length - 1, hitS (appS S1 (nameS (nextOf X.segs)) (packB b)), 0, by simp [e3], by omega, hold_fs g2 (hitS_files _), .inr (.inr ⟨hf, rfl, rfl⟩), ?_, ?_⟩
          · rw [hitS_down (show (appS S1 (nameS (nextOf X.segs)) (packB b)).down = false from h3)]; exact hb
          · exact h4.trans ⟨hitS_room _, fun h0 => hitS_calm h0⟩
        · refine .inr (.inr ⟨fun h0 => hitB_arm hb (h4.calm h0), X.segs.length - 1, hitS (appS S1 (nameS (nextOf X.segs)) (packB b)), 0, growS X b, by simp, by omega, hold_fs g2 (hitS_files _), .inr (.inr ⟨hf, rfl, rfl⟩), ?_, ?_⟩)
          · rw [hitS_down (show (appS S1 (nameS (nextOf X.segs)) (packB b)).down = false from h3)]; exact hb
          · exact h4.trans ⟨hitS_room _, fun h0 => hitS_calm h0⟩
      · simp only [if_true]
        refine .inr (.inl ⟨X.segs.length - 1, S1, whole X.segs, by simp, by omega, h2, .inr rfl, h3, h4, ?_⟩)
        have := full_why hfb
        rw [packB_len, h2.fs, used_filesG, filesG_len, h4.size] at this
        rw [h.fs, used_filesG, filesG_len]
        exact this
    · rw [h1]
      simp only [ne_eq, show ¬ ((3 : Int) = 0) by decide, not_false_eq_true, if_true]
      exact .inr (.inr ⟨h0, X.settled, S1, m, X.segs, by simp, hs, h2, .inl ⟨rfl, .inl rfl⟩, h3, h4⟩)

/-- Append -/
theorem append_hold {S : Dk} {X : Jn} {m : Nat} (b : List Int) (h : Hold S X.segs m) (hd : S.down = false) (hx : X.down = false) (hs : X.settled ≤ X.segs.length - 1) (hm : 1 ≤ X.most) (hn : nextOf X.segs < 1000000000) (hb : b.length ≤ 1048576) :
    (∃ st S' m', appendJ X S b = (0, { X with segs := growS X b, settled := st }, S') ∧ st ≤ (growS X b).length - 1 ∧ Hold S' (growS X b) m' ∧ Mk X b m (growS X b) m' ∧ S'.down = false ∧ Rest S S') ∨
    (∃ st S' m', appendJ X S b = (4, { X with settled := st }, S') ∧ st ≤ X.segs.length - 1 ∧ Hold S' X.segs m' ∧ (m' = m ∨ m' = whole X.segs) ∧ S'.down = false ∧ Rest S S' ∧ (S.size < used S.fs + (b.length + 10) ∨ 64 ≤ S.fs.length)) ∨
    (S.arm ≠ 0 ∧ ∃ st S' m' segs', appendJ X S b = (3, { X with settled := st, down := true }, S') ∧ st ≤ X.segs.length - 1 ∧ Hold S' segs' m' ∧ Mk X b m segs' m' ∧ S'.down = true ∧ Rest S S') := by
  unfold appendJ
  rw [hx, if_neg (by decide), if_neg (by omega)]
  obtain ⟨most, segs, st, dn⟩ := X
  simp only at hx
  subst hx
  rcases lay_hold b h hd hs hm hn with ⟨st', S', m', e, r⟩ | ⟨st', S', m', e, r⟩ | ⟨h0, st', S', m', segs', e, r⟩
  · exact .inl ⟨st', S', m', by rw [e]; simp [toldJ], r⟩
  · exact .inr (.inl ⟨st', S', m', by rw [e]; simp [toldJ], r⟩)
  · exact .inr (.inr ⟨h0, st', S', m', segs', by rw [e]; simp [toldJ], r⟩)

/-! ### Trim -/
theorem below_most (n : Nat) : ∀ l : List Sg, below n l ≤ l.length - 1
  | [] => by simp [below]
  | [_] => by simp [below]
  | a :: b :: r => by
    have := below_most n (b :: r)
    simp only [below]
    split
    · simp only [List.length_cons] at *; omega
    · omega
theorem remove_there {S : Dk} {f : Nat} {g : Fl} (hd : S.down = false) (hg : getK Fl.n (nameS f) S.fs = some g) :
    removeC S (nameS f) = (if hitB S then 3 else 0) ∧ removeS S (nameS f) = if hitB S then hitS S else { hitS S with fs := delK Fl.n (nameS f) S.fs } := by
  unfold removeC removeS
  rw [refuse_name hd, hg]
  exact ⟨by simp, by simp⟩
theorem filesG_cons (a : Sg) {l : List Sg} (h : l ≠ []) (m : Nat) : filesG (a :: l) m = fullG a :: filesG l m := by
  rcases snoc_of l with rfl | ⟨x, y, rfl⟩
  · exact absurd rfl h
  · rw [← List.cons_append, filesG_snoc, filesG_snoc]; rfl
theorem filesG_rise {l : List Sg} (h : Ch l) (hb : ∀ s ∈ l, s.first < 1000000000) (m : Nat) : Rise Fl.n (filesG l m) := by
  rcases snoc_of l with rfl | ⟨x, y, rfl⟩
  · exact List.Pairwise.nil
  · rw [filesG_snoc]; exact rise_snoc h (by have := hb y (by simp); omega) rfl
theorem drop_files : ∀ (A R : List Sg) (m : Nat) (S : Dk), R ≠ [] → Hold S (A ++ R) m → S.down = false →
    (∃ S', dropF A S = (0, S') ∧ Hold S' R m ∧ S'.down = false ∧ Rest S S') ∨ (S.arm ≠ 0 ∧ ∃ i S', i ≤ A.length ∧ dropF A S = (3, S') ∧ Hold S' ((A ++ R).drop i) m ∧ S'.down = true ∧ Rest S S')
  | [], R, m, S, hR, h, hd => .inl ⟨S, rfl, h, hd, Rest.refl S⟩
  | a :: A, R, m, S, hR, h, hd => by
    have hne : A ++ R ≠ [] := by simp [hR]
    have hf : S.fs = [] ++ fullG a :: filesG (A ++ R) m := by rw [h.fs, List.cons_append, filesG_cons a hne]; rfl
    have hr : Rise Fl.n ([] ++ fullG a :: filesG (A ++ R) m) := by rw [← hf, h.fs]; exact filesG_rise h.ch h.low m
    have hg : getK Fl.n (nameS a.first) S.fs = some (fullG a) := by rw [hf]; exact getK_mid (x := fullG a) hr
    obtain ⟨e1, e2⟩ := remove_there hd hg
    simp only [dropF]
    rw [e1, e2]
    cases hh : hitB S
    · simp only [Bool.false_eq_true, if_false, ne_eq, not_true_eq_false]
      have ed : delK Fl.n (nameS a.first) S.fs = filesG (A ++ R) m := by rw [hf]; exact delK_mid (x := fullG a) hr
      rw [ed]
      have h1 : Hold ({ hitS S with fs := filesG (A ++ R) m } : Dk) (A ++ R) m := ⟨rfl, ch_tail h.ch, fun s hs => h.low s (by simp only [List.cons_append]; exact List.mem_cons_of_mem _ hs)⟩
      have hrest : Rest S ({ hitS S with fs := filesG (A ++ R) m } : Dk) := ⟨hitS_room S, hitS_calm⟩
      rcases drop_files A R m _ hR h1 (by show (hitS S).down = false; rw [hitS_down hd, hh]) with ⟨S', g1, g2, g3, g4⟩ | ⟨h0, i, S', gi, g1, g2, g3, g4⟩
      · exact .inl ⟨S', g1, g2, g3, hrest.trans g4⟩
      · exact .inr ⟨fun hz => h0 (hitS_calm hz), i + 1, S', by simp; omega, g1, by simpa using g2, g3, hrest.trans g4⟩
    · simp only [if_true]
      refine .inr ⟨hitB_arm hh, 0, hitS S, by omega, by simp, hold_fs (by simpa using h) (hitS_files S), by rw [hitS_down hd, hh], Rest.hit S⟩
theorem hold_take {S : Dk} {segs : List Sg} {m c : Nat} (h : Hold S segs m) : Hold S (segs.take c ++ segs.drop c) m := by rw [List.take_append_drop]; exact h
theorem whole_drop {segs : List Sg} {c : Nat} (hc : c ≤ segs.length - 1) : whole (segs.drop c) = whole segs := by
  rcases snoc_of segs with rfl | ⟨l, s, rfl⟩
  · simp
  · have : c ≤ l.length := by simpa using hc
    rw [List.drop_append_of_le_length this, whole_snoc, whole_snoc]
theorem nextOf_drop {segs : List Sg} {c : Nat} (hc : c ≤ segs.length - 1) : nextOf (segs.drop c) = nextOf segs := by
  rcases snoc_of segs with rfl | ⟨l, s, rfl⟩
  · simp
  · have : c ≤ l.length := by simpa using hc
    rw [List.drop_append_of_le_length this, next_snoc, next_snoc]
/-- Trim -/
theorem trim_hold {S : Dk} {X : Jn} {m : Nat} (n : Nat) (h : Hold S X.segs m) (hd : S.down = false) (hx : X.down = false) (hs : X.settled ≤ X.segs.length - 1) (hn : n ≤ nextOf X.segs) :
    (∃ st S' m', trimJ X S n = (0, { X with segs := X.segs.drop (below n X.segs), settled := st }, S') ∧ st ≤ (X.segs.drop (below n X.segs)).length - 1 ∧ Hold S' (X.segs.drop (below n X.segs)) m' ∧ (m' = m ∨ m' = whole X.segs) ∧ S'.down = false ∧ Rest S S') ∨
    (S.arm ≠ 0 ∧ ∃ st S' m' i, trimJ X S n = (3, { X with settled := st, down := true }, S') ∧ st ≤ X.segs.length - 1 ∧ i ≤ below n X.segs ∧ Hold S' (X.segs.drop i) m' ∧ (m' = m ∨ m' = whole X.segs) ∧ S'.down = true ∧ Rest S S') := by
  have hc := below_most n X.segs
  unfold trimJ
  rw [hx, if_neg (by decide), if_neg (by omega), hd, if_neg (by decide)]
  unfold dropJ
  obtain ⟨most, segs, st, dn⟩ := X
  simp only at *
  subst hx
  generalize hce : below n segs = c at *
  by_cases h0 : c = 0
  · subst h0
    rw [if_pos rfl]
    exact .inl ⟨st, S, m, by simp [toldJ], by simpa using hs, by simpa using h, .inl rfl, hd, Rest.refl S⟩
  · rw [if_neg h0]
    rcases settle_hold (X := ⟨most, segs, st, false⟩) h hd hs with ⟨S1, h1, h2, h3, h4⟩ | ⟨hz, S1, h1, h2, h3, h4⟩
    · rw [h1]
      simp only [ne_eq, not_true_eq_false, if_false]
      have hR : segs.drop c ≠ [] := by
        intro he
        have := congrArg List.length he
        simp at this
        omega
      rcases drop_files (segs.take c) (segs.drop c) (whole segs) S1 hR (hold_take h2) h3 with ⟨S', g1, g2, g3, g4⟩ | ⟨hz, i, S', gi, g1, g2, g3, g4⟩
      · rw [g1]
        exact .inl ⟨segs.length - 1 - c, S', whole segs, by simp [toldJ], by simp; omega, g2, .inr rfl, g3, h4.trans g4⟩
      · rw [g1]
        refine .inr ⟨fun hq => hz (h4.calm hq), segs.length - 1, S', whole segs, i, by simp [toldJ], by omega, ?_, by rw [List.take_append_drop] at g2; exact g2, .inr rfl, g3, h4.trans g4⟩
        simp at gi; omega
    · rw [h1]
      simp only [ne_eq, show ¬ ((3 : Int) = 0) by decide, not_false_eq_true, if_true]
      exact .inr ⟨hz, st, S1, m, 0, by simp [toldJ], hs, by omega, by simpa using h2, .inl rfl, h3, h4⟩
/-- Sync -/
theorem sync_hold {S : Dk} {X : Jn} {m : Nat} (h : Hold S X.segs m) (hd : S.down = false) (hx : X.down = false) (hs : X.settled ≤ X.segs.length - 1) :
    (∃ S', syncJ X S = (0, { X with settled := X.segs.length - 1 }, S') ∧ Hold S' X.segs (whole X.segs) ∧ S'.down = false ∧ Rest S S') ∨ (S.arm ≠ 0 ∧ ∃ S', syncJ X S = (3, { X with down := true }, S') ∧ Hold S' X.segs m ∧ S'.down = true ∧ Rest S S') := by
  unfold syncJ
  rw [hx, if_neg (by decide), hd, if_neg (by decide)]
  obtain ⟨most, segs, st, dn⟩ := X
  simp only at hx
  subst hx
  rcases settle_hold h hd hs with ⟨S', e, r⟩ | ⟨h0, S', e, r⟩
  · exact .inl ⟨S', by rw [e]; simp [toldJ], r⟩
  · exact .inr ⟨h0, S', by rw [e]; simp [toldJ], r⟩
end Go.Proofs.YthikiahhochjmaaGreatDoor
