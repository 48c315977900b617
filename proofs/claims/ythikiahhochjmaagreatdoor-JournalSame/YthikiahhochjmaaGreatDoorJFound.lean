/- What Open finds on a disk that holds segments and nothing else. -/
import Derived.Test.YthikiahhochjmaaGreatDoorJEven
namespace Go.Proofs.YthikiahhochjmaaGreatDoor
set_option linter.unusedVariables false
set_option linter.unusedSimpArgs false

theorem scan_all (l : List (List Int)) (h : ∀ b ∈ l, b.length ≤ 1048576) : scanT (frames l) = (l, (frames l).length, 0) := by
  have := scan_frames l [] h
  rw [List.append_nil, scan_end (b := []) (by left; rfl)] at this
  simpa using this
theorem hold_get {S : Dk} {segs : List Sg} {m : Nat} (h : Hold S segs m) : ∀ s ∈ segs, ∃ k, getK Fl.n (nameS s.first) S.fs = some (fileG s k) := by
  intro s hs
  have hr : Rise Fl.n S.fs := by rw [h.fs]; exact filesG_rise h.ch h.low m
  rcases snoc_of segs with rfl | ⟨l, t, rfl⟩
  · cases hs
  · rcases List.mem_append.1 hs with hs | hs
    · exact ⟨(frames s.recs).length, getK_of_mem (x := fullG s) hr (by rw [h.fs, filesG_snoc]; exact List.mem_append_left _ (List.mem_map.2 ⟨s, hs, rfl⟩))⟩
    · simp at hs
      subst hs
      exact ⟨m, getK_of_mem (x := fileG s m) hr (by rw [h.fs, filesG_snoc]; simp)⟩
/-- a segment's file is read -/
theorem read_file {S : Dk} {s : Sg} {k : Nat} (hd : S.down = false) (hg : getK Fl.n (nameS s.first) S.fs = some (fileG s k)) (hb : ∀ b ∈ s.recs, b.length ≤ 1048576) :
    readG S s.first = (0, s.recs, (frames s.recs).length, 0) := by
  have e1 : readC S (nameS s.first) = 0 := by unfold readC; rw [refuse_name hd, hg]; rfl
  have e2 : readD S (nameS s.first) = frames s.recs := by unfold readD; rw [refuse_name hd, hg]; rfl
  unfold readG
  rw [e1, e2, scan_all s.recs hb]
  simp
theorem find_more {S : Dk} {f : Nat} {r : List Nm} {all : List Sg} {en : Nat × Nat} {recs : List (List Int)} {a b : Nat} (hf : f < 10000000000) (h0 : all = [] ∨ follows f all en = true) (hr : readG S f = (0, recs, a, b)) :
    findF S (nameS f :: r) all en = findF S r (all ++ [⟨f, recs⟩]) (a, b) := by
  simp only [findF]
  rw [mark_nameS, num_nameS f hf]
  simp only [if_true]
  rw [hr]
  have : ¬ (0 < all.length ∧ follows f all en = false) := by
    rintro ⟨h1, h2⟩
    rcases h0 with h | h
    · rw [h] at h1; simp at h1
    · rw [h] at h2; cases h2
  simp [this]
/-- all of them are found -/
theorem find_files {S : Dk} (hd : S.down = false) : ∀ (B A : List Sg) (r : List Nm) (en : Nat × Nat), Ch (A ++ B) → (∀ s ∈ B, ∃ k, getK Fl.n (nameS s.first) S.fs = some (fileG s k)) → (∀ s ∈ B, s.first < 1000000000 ∧ ∀ b ∈ s.recs, b.length ≤ 1048576) → (A = [] ∨ en.2 = 0) →
    findF S (B.map (fun s => nameS s.first) ++ r) A en = findF S r (A ++ B) (match B.getLast? with | none => en | some s => ((frames s.recs).length, 0))
  | [], A, r, en, _, _, _, _ => by simp
  | s :: B, A, r, en, hc, hg, hb, he => by
    obtain ⟨k, hk⟩ := hg s (by simp)
    obtain ⟨h1, h2⟩ := hb s (by simp)
    have hfol : A = [] ∨ follows s.first A en = true := by
      rcases he with he | he
      · exact .inl he
      · rcases snoc_of A with rfl | ⟨l, t, rfl⟩
        · exact .inl rfl
        · right
          unfold follows
          rw [he, next_snoc]
          have : ∀ (l : List Sg), Ch (l ++ [t] ++ s :: B) → s.first = t.first + t.recs.length := by
            intro l
            induction l with
            | nil => intro h; exact h.1
            | cons a l ih => intro h; exact ih (ch_tail h)
          simp [this l hc]
    simp only [List.map_cons, List.cons_append]
    rw [find_more (by omega) hfol (read_file hd hk h2)]
    have e : (⟨s.first, s.recs⟩ : Sg) = s := rfl
    rw [e, find_files hd B (A ++ [s]) r _ (by simpa using hc) (fun x hx => hg x (by simp [hx])) (fun x hx => hb x (by simp [hx])) (.inr rfl)]
    congr 1
    · simp
    · cases B with
      | nil => simp
      | cons b B =>
        rw [List.getLast?_cons_cons]
        cases h : (b :: B).getLast? with
        | none => simp at h
        | some t => rfl
/-- Open, where nothing is to be mended -/
theorem open_hold {S : Dk} {segs : List Sg} {m : Nat} (h : Hold S segs m) (hd : S.down = false) (hb : ∀ b ∈ recsOf segs, b.length ≤ 1048576) (hl : ∀ l s, segs = l ++ [s] → l = [] ∨ s.recs ≠ []) : openJ S = (0, segs, S) := by
  have hn : namesL S = segs.map (fun s => nameS s.first) ++ [] := by unfold namesL; rw [hd, h.fs, List.append_nil]; exact filesG_names _ _
  have hnc : namesC S = 0 := by unfold namesC; rw [hd]; rfl
  have hf := find_files hd segs [] [] (0, 0) h.ch (hold_get h) (fun s hs => ⟨h.low s hs, fun b hbs => hb b (List.mem_flatMap.2 ⟨s, hs, hbs⟩)⟩) (.inl rfl)
  have hj : findJ S = (0, segs, (match segs.getLast? with | none => (0, 0) | some s => ((frames s.recs).length, 0))) := by
    unfold findJ
    rw [hnc, hn, hf]
    simp [findF]
  unfold openJ
  rw [hj]
  simp only [ne_eq, not_true_eq_false, if_false]
  unfold mendJ
  rcases snoc_of segs with rfl | ⟨l, s, rfl⟩
  · simp
  · simp only [List.getLast?_append, List.getLast?_singleton, Option.some_or]
    rw [if_neg, if_neg (by simp)]
    rintro ⟨h1, h2⟩
    rcases hl l s rfl with h0 | h0
    · rw [h0] at h1; simp at h1
    · cases hr : s.recs with
      | nil => exact h0 hr
      | cons b r => rw [hr] at h2; simp only [frames_cons, List.length_append, packB_len] at h2; omega
end Go.Proofs.YthikiahhochjmaaGreatDoor
