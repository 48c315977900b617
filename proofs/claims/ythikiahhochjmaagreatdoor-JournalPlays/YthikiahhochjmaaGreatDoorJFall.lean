/- What a fall leaves of a journal, and what Open finds and mends behind it. -/
import Derived.Test.YthikiahhochjmaaGreatDoorJFound
namespace Go.Proofs.YthikiahhochjmaaGreatDoor
set_option linter.unusedVariables false
set_option linter.unusedSimpArgs false

/-- how many bytes the first k records have -/
def flen (l : List (List Int)) (k : Nat) : Nat := (frames (l.take k)).length
theorem flen_succ (l : List (List Int)) (k : Nat) (h : k < l.length) : flen l (k + 1) = flen l k + ((l.getD k []).length + 10) := by
  unfold flen
  rw [List.take_succ_eq_append_getElem h, frames_append, List.length_append]
  simp [frames, packB_len, h]
theorem flen_all (l : List (List Int)) {k : Nat} (h : l.length ≤ k) : flen l k = (frames l).length := by unfold flen; rw [List.take_of_length_le h]
theorem flen_mono (l : List (List Int)) : ∀ {j k : Nat}, j ≤ k → flen l j ≤ flen l k := by
  intro j k h
  induction k with
  | zero => rw [show j = 0 by omega]; exact Nat.le_refl _
  | succ k ih =>
    by_cases e : j = k + 1
    · rw [e]; exact Nat.le_refl _
    · by_cases hk : k < l.length
      · rw [flen_succ l k hk]; have := ih (by omega); omega
      · rw [flen_all l (k := k + 1) (by omega), ← flen_all l (k := k) (by omega)]; exact ih (by omega)
theorem flen_less (l : List (List Int)) {j k : Nat} (h : j < k) (hj : j < l.length) : flen l j + 10 ≤ flen l k := by
  have h1 := flen_mono l (show j + 1 ≤ k from h)
  rw [flen_succ l j hj] at h1
  omega
/-- a beginning of frames: whole ones, and of one a beginning -/
theorem frames_cut : ∀ (l : List (List Int)) (q : Nat), q < (frames l).length → ∃ j p, j < l.length ∧ (frames l).take q = frames (l.take j) ++ (packB (l.getD j [])).take p ∧ p < (packB (l.getD j [])).length ∧ q = flen l j + p
  | [], q, h => by simp [frames] at h
  | b :: l, q, h => by
    rw [frames_cons] at h ⊢
    by_cases hq : q < (packB b).length
    · refine ⟨0, q, by simp, ?_, by simpa using hq, by simp [flen, frames]⟩
      rw [List.take_append_of_le_length (by omega)]
      simp [frames]
    · rw [List.length_append] at h
      obtain ⟨j, p, h1, h2, h3, h4⟩ := frames_cut l (q - (packB b).length) (by omega)
      refine ⟨j + 1, p, by simp; omega, ?_, by simpa using h3, ?_⟩
      · rw [List.take_append, List.take_of_length_le (by omega), h2]
        simp [frames_cons]
      · simp only [flen, List.take_succ_cons, frames_cons, List.length_append] at h4 ⊢
        omega
/-- files that are safe and not empty bear a fall -/
theorem fall_same (keep : List Int) : ∀ (l r : List Fl) (k : Nat), (∀ f ∈ l, f.s = f.d.length ∧ f.d ≠ []) → fallL keep k (l ++ r) = l ++ fallL keep (k + l.length) r
  | [], r, k, _ => by simp
  | f :: l, r, k, h => by
    obtain ⟨h1, h2⟩ := h f (by simp)
    have e : fallD f (turnK keep k) = f.d := by
      have := keepN_le f (turnK keep k)
      unfold fallD
      rw [if_pos (by omega)]
    have ef : fallF f (turnK keep k) = f := by unfold fallF; rw [e, ← h1]
    simp only [List.cons_append, fallL]
    rw [e, if_neg (by intro h0; exact h2 (List.eq_nil_of_length_eq_zero h0)), ef, fall_same keep l r (k + 1) (fun g hg => h g (by simp [hg]))]
    simp only [List.length_cons, List.cons_append]
    congr 3
    omega
theorem frames_none {l : List (List Int)} (h : frames l = []) : l = [] := by
  cases l with
  | nil => rfl
  | cons b r => have := congrArg List.length h; rw [frames_cons, List.length_append, packB_len] at this; simp at this
theorem full_inner {l : List Sg} (h : ∀ s ∈ l, s.recs ≠ []) : ∀ f ∈ l.map fullG, f.s = f.d.length ∧ f.d ≠ [] := by
  intro f hf
  obtain ⟨s, hs, rfl⟩ := List.mem_map.1 hf
  exact ⟨rfl, fun e => h s hs (frames_none e)⟩
/-- the last file's bytes behind a fall: so many whole records, and what is torn -/
structure Torn (s : Sg) (k : Nat) (t : List Int) (j : Nat) : Prop where
  le : k ≤ j
  top : j ≤ s.recs.length
  scan : scanT t = (s.recs.take j, flen s.recs j, 0)
  pre : t.take (flen s.recs j) = frames (s.recs.take j)
  len : flen s.recs j ≤ t.length
theorem fall_last {s : Sg} {k : Nat} (x : Int) (hk : k ≤ s.recs.length) (hb : ∀ b ∈ s.recs, b.length ≤ 1048576) : ∃ j, Torn s k (fallD (fileG s (flen s.recs k)) x) j := by
  have hkm : flen s.recs k ≤ (frames s.recs).length := by rw [← flen_all s.recs (Nat.le_refl _)]; exact flen_mono _ hk
  unfold fallD
  have hkn := keepN_le (fileG s (flen s.recs k)) x
  simp only [fileG] at hkn
  by_cases hw : keepN (fileG s (flen s.recs k)) x = (fileG s (flen s.recs k)).d.length - (fileG s (flen s.recs k)).s
  · rw [if_pos hw]
    refine ⟨s.recs.length, hk, Nat.le_refl _, ?_, ?_, by rw [flen_all _ (Nat.le_refl _)]; exact Nat.le_refl _⟩
    · rw [List.take_of_length_le (Nat.le_refl _), flen_all _ (Nat.le_refl _)]; exact scan_all s.recs hb
    · rw [List.take_of_length_le (Nat.le_refl _ : s.recs.length ≤ _), flen_all _ (Nat.le_refl _)]; exact List.take_of_length_le (Nat.le_refl _)
  · rw [if_neg hw]
    simp only [fileG] at hw ⊢
    obtain ⟨j, p, h1, h2, h3, h4⟩ := frames_cut s.recs (flen s.recs k + keepN ⟨nameS s.first, frames s.recs, flen s.recs k⟩ x) (by omega)
    have hkj : k ≤ j := by
      rcases Nat.lt_or_ge j k with h | h
      · have h5 := flen_mono s.recs (show j + 1 ≤ k from h)
        rw [flen_succ s.recs j h1] at h5
        rw [packB_len] at h3
        omega
      · exact h
    refine ⟨j, hkj, by omega, ?_, ?_, ?_⟩
    · rw [h2, List.append_assoc]
      exact scan_torn (s.recs.take j) (s.recs.getD j []) p _ (fun b hb' => hb b (List.mem_of_mem_take hb')) (hb _ (by simp [h1])) h3
    · rw [h2, List.append_assoc]; exact List.take_left' rfl
    · rw [List.length_append, h2, List.length_append]; unfold flen; omega

theorem ch_inner : ∀ {l : List Sg} {s : Sg}, Ch (l ++ [s]) → ∀ x ∈ l, x.recs ≠ []
  | [], s, _, x, hx => by cases hx
  | [a], s, h, x, hx => by simp at hx; subst hx; exact h.2.1
  | a :: b :: r, s, h, x, hx => by
    rcases List.mem_cons.1 hx with rfl | hx
    · exact h.2.1
    · exact ch_inner (l := b :: r) h.2.2 x hx
/-- all files behind a fall -/
theorem crash_files {S : Dk} {l : List Sg} {s : Sg} {k : Nat} (keep : List Int) (hfs : S.fs = l.map fullG ++ [fileG s (flen s.recs k)]) (h : Ch (l ++ [s])) (hk : k ≤ s.recs.length) (hb : ∀ b ∈ s.recs, b.length ≤ 1048576) :
    ∃ t j, Torn s k t j ∧ (crashS S keep).fs = l.map fullG ++ (if t.length = 0 then [] else [⟨nameS s.first, t, t.length⟩]) := by
  obtain ⟨j, hj⟩ := fall_last (turnK keep (0 + (l.map fullG).length)) hk hb
  refine ⟨_, j, hj, ?_⟩
  show fallL keep 0 S.fs = _
  rw [hfs, fall_same keep _ _ 0 (full_inner (ch_inner h))]
  simp only [fallL]
  split
  · rfl
  · rfl
theorem start_files {S : Dk} (h : ∀ f ∈ S.fs, f.s = f.d.length ∧ f.d ≠ []) : (startS S).fs = S.fs ∧ (startS S).down = false ∧ (startS S).arm = 0 ∧ (startS S).size = S.size := by
  unfold startS
  split
  · refine ⟨?_, rfl, rfl, rfl⟩
    show fallL [] 0 S.fs = S.fs
    have := fall_same [] S.fs [] 0 h
    rw [List.append_nil] at this
    rw [this]; simp [fallL]
  · exact ⟨rfl, rfl, rfl, rfl⟩
theorem start_up {S : Dk} (h : S.down = false) : (startS S).fs = S.fs ∧ (startS S).down = false ∧ (startS S).arm = 0 ∧ (startS S).size = S.size := by
  unfold startS; rw [h]; exact ⟨rfl, rfl, rfl, rfl⟩

/-- what Open makes of segments of which the last is torn -/
def mendS (l : List Sg) (s : Sg) (j : Nat) : List Sg := if l ≠ [] ∧ j = 0 then l else l ++ [⟨s.first, s.recs.take j⟩]
theorem flen_zero {l : List (List Int)} {j : Nat} (hj : j ≤ l.length) (h : flen l j = 0) : j = 0 := by
  rcases Nat.eq_zero_or_pos j with h0 | h0
  · exact h0
  · have := flen_less l h0 (by omega); omega
theorem whole_flen (l : List Sg) (s : Sg) (j : Nat) : whole (l ++ [⟨s.first, s.recs.take j⟩]) = flen s.recs j := by rw [whole_snoc]; rfl
theorem open_torn {S : Dk} {l : List Sg} {s : Sg} {k j : Nat} {t : List Int} (hfs : S.fs = l.map fullG ++ [⟨nameS s.first, t, t.length⟩]) (hd : S.down = false) (ha : S.arm = 0) (h : Ch (l ++ [s])) (hlow : ∀ x ∈ l ++ [s], x.first < 1000000000) (hb : ∀ b ∈ recsOf (l ++ [s]), b.length ≤ 1048576) (ht : Torn s k t j) :
    ∃ S', openJ S = (0, mendS l s j, S') ∧ Hold S' (mendS l s j) (whole (mendS l s j)) ∧ S'.down = false ∧ S'.arm = 0 ∧ S'.size = S.size := by
  have hs1 : s.first < 1000000000 := hlow s (by simp)
  have hr : Rise Fl.n S.fs := by rw [hfs]; exact rise_snoc h (by omega) rfl
  have hgl : ∀ x ∈ l, ∃ m, getK Fl.n (nameS x.first) S.fs = some (fileG x m) := fun x hx => ⟨(frames x.recs).length, getK_of_mem (x := fullG x) hr (by rw [hfs]; exact List.mem_append_left _ (List.mem_map.2 ⟨x, hx, rfl⟩))⟩
  have hgs : getK Fl.n (nameS s.first) S.fs = some ⟨nameS s.first, t, t.length⟩ := getK_of_mem (x := ⟨nameS s.first, t, t.length⟩) hr (by rw [hfs]; simp)
  have hnc : namesC S = 0 := by unfold namesC; rw [hd]; rfl
  have hn : namesL S = l.map (fun x => nameS x.first) ++ [nameS s.first] := by
    unfold namesL; rw [hd, hfs]
    simp [fullG, fileG, Function.comp_def]
  have hread : readG S s.first = (0, s.recs.take j, flen s.recs j, t.length - flen s.recs j) := by
    have e1 : readC S (nameS s.first) = 0 := by unfold readC; rw [refuse_name hd, hgs]; rfl
    have e2 : readD S (nameS s.first) = t := by unfold readD; rw [refuse_name hd, hgs]; rfl
    unfold readG
    rw [e1, e2, ht.scan]
    simp
  have hfol : l = [] ∨ ∀ en : Nat × Nat, en.2 = 0 → follows s.first l en = true := by
    rcases snoc_of l with e | ⟨l', x, e⟩
    · exact .inl e
    · right
      intro en he
      unfold follows
      rw [he, e, next_snoc]
      rw [e] at h
      have : ∀ (l' : List Sg), Ch (l' ++ [x] ++ [s]) → s.first = x.first + x.recs.length := by
        intro l'
        induction l' with
        | nil => intro h; exact h.1
        | cons a r ih => intro h; exact ih (ch_tail h)
      simp [this l' h]
  have hfind : findJ S = (0, l ++ [⟨s.first, s.recs.take j⟩], (flen s.recs j, t.length - flen s.recs j)) := by
    unfold findJ
    rw [hnc, hn, find_files hd l [] [nameS s.first] (0, 0) (by simpa using ch_init h) hgl (fun x hx => ⟨hlow x (by simp [hx]), fun b hbx => hb b (List.mem_flatMap.2 ⟨x, by simp [hx], hbx⟩)⟩) (.inl rfl)]
    rw [List.nil_append]
    have hen : l = [] ∨ (match l.getLast? with | none => ((0, 0) : Nat × Nat) | some s => ((frames s.recs).length, 0)).2 = 0 := by
      right
      cases l.getLast? <;> rfl
    rw [find_more (by omega) (by
      rcases hfol with h1 | h1
      · exact .inl h1
      · right
        refine h1 _ ?_
        cases l.getLast? <;> rfl) hread]
    simp [findF]
  unfold openJ
  rw [hfind]
  simp only [ne_eq, not_true_eq_false, if_false]
  unfold mendJ
  obtain ⟨hh1, hh2⟩ := hit_none ha
  have hrm := remove_there hd hgs
  rw [hh1, hh2] at hrm
  simp only [Bool.false_eq_true, if_false] at hrm
  have hlast : lastF (l ++ [⟨s.first, s.recs.take j⟩]) = s.first := lastF_end l _
  rw [hlast]
  have hchn : Ch (l ++ [⟨s.first, s.recs.take j⟩]) := ch_last h
  have hlown : ∀ x ∈ l ++ [(⟨s.first, s.recs.take j⟩ : Sg)], x.first < 1000000000 := fun x hx => by
    rcases List.mem_append.1 hx with hx | hx
    · exact hlow x (by simp [hx])
    · simp at hx; rw [hx]; exact hs1
  by_cases hA : l ≠ [] ∧ j = 0
  · obtain ⟨hl, rfl⟩ := hA
    have hm : mendS l s 0 = l := by unfold mendS; rw [if_pos ⟨hl, rfl⟩]
    have hlen : 1 < (l ++ [(⟨s.first, s.recs.take 0⟩ : Sg)]).length := by
      have := List.length_pos_iff.2 hl
      simp; omega
    simp only
    rw [if_pos ⟨hlen, by simp [flen, frames]⟩, hrm.1, hrm.2, List.dropLast_concat, hm]
    refine ⟨_, rfl, ⟨?_, ch_init h, fun x hx => hlow x (by simp [hx])⟩, hd, ha, rfl⟩
    show delK Fl.n (nameS s.first) S.fs = _
    have hr' := hr
    rw [hfs] at hr' ⊢
    have hdm := delK_mid (key := Fl.n) (X := l.map fullG) (Y := []) (x := ⟨nameS s.first, t, t.length⟩) hr'
    rw [show (⟨nameS s.first, t, t.length⟩ : Fl).n = nameS s.first from rfl] at hdm
    rw [hdm, List.append_nil]
    rcases snoc_of l with e | ⟨l', x, e⟩
    · exact absurd e hl
    · rw [e, whole_snoc, fullG_all]
  · have hm : mendS l s j = l ++ [⟨s.first, s.recs.take j⟩] := by unfold mendS; rw [if_neg hA]
    simp only
    rw [if_neg (by
      rintro ⟨h1, h2⟩
      refine hA ⟨?_, flen_zero ht.top h2⟩
      intro e; rw [e] at h1; simp at h1), hm]
    have hwh := whole_flen l s j
    rw [hwh]
    have hl := ht.len
    by_cases hB : 0 < t.length - flen s.recs j
    · rw [if_pos hB]
      have hcc : cutC S (nameS s.first) ((flen s.recs j : Nat) : Int) = 0 := by
        unfold cutC
        rw [refuse_name hd, hgs, hh1]
        simp only [ne_eq, not_true_eq_false, if_false]
        rw [if_neg (by omega)]; rfl
      have hcs : cutS S (nameS s.first) ((flen s.recs j : Nat) : Int) = { S with fs := putK Fl.n ⟨nameS s.first, t.take (flen s.recs j), flen s.recs j⟩ S.fs } := by
        unfold cutS
        rw [refuse_name hd, hgs, hh1, hh2]
        simp only [ne_eq, not_true_eq_false, if_false]
        rw [if_neg (by omega)]
        simp
      rw [hcc, hcs]
      refine ⟨_, rfl, ⟨?_, hchn, hlown⟩, hd, ha, rfl⟩
      show putK Fl.n _ S.fs = _
      have hr' := hr
      rw [hfs] at hr' ⊢
      rw [putK_mid (x' := ⟨nameS s.first, t.take (flen s.recs j), flen s.recs j⟩) hr' rfl, filesG_snoc, ht.pre]
      rfl
    · rw [if_neg hB]
      refine ⟨S, rfl, ⟨?_, hchn, hlown⟩, hd, ha, rfl⟩
      rw [hfs, filesG_snoc]
      have e : t = frames (s.recs.take j) := by rw [← ht.pre, List.take_of_length_le (by omega)]
      have e2 : t.length = flen s.recs j := by omega
      rw [e2]
      unfold fileG
      simp only
      rw [← e]
end Go.Proofs.YthikiahhochjmaaGreatDoor
