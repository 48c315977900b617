/- Plain facts of a journal over a disk: which files there are, what each call makes of them. -/
import Derived.Test.YthikiahhochjmaaGreatDoorJInv
namespace Go.Proofs.YthikiahhochjmaaGreatDoor
set_option linter.unusedVariables false
set_option linter.unusedSimpArgs false

/-- a segment's file, so much of it safe -/
def fileG (s : Sg) (m : Nat) : Fl := ⟨nameS s.first, frames s.recs, m⟩
def fullG (s : Sg) : Fl := fileG s (frames s.recs).length
def filesG (segs : List Sg) (m : Nat) : List Fl := segs.dropLast.map fullG ++ (segs.getLast?.map (fun s => fileG s m)).toList
theorem filesG_snoc (l : List Sg) (s : Sg) (m : Nat) : filesG (l ++ [s]) m = l.map fullG ++ [fileG s m] := by simp [filesG]
theorem next_snoc (l : List Sg) (s : Sg) : nextOf (l ++ [s]) = s.first + s.recs.length := by simp [nextOf]
theorem lastF_end (l : List Sg) (s : Sg) : lastF (l ++ [s]) = s.first := by simp [lastF]
theorem snoc_of {α : Type} (l : List α) : l = [] ∨ ∃ a b, l = a ++ [b] := by
  rcases List.eq_nil_or_concat l with h | ⟨a, b, h⟩
  · exact .inl h
  · exact .inr ⟨a, b, by simpa using h⟩

/-- segments that follow one another; but the last none is empty -/
def Ch : List Sg → Prop
  | a :: b :: r => b.first = a.first + a.recs.length ∧ a.recs ≠ [] ∧ Ch (b :: r)
  | _ => True
theorem ch_tail {a : Sg} {l : List Sg} (h : Ch (a :: l)) : Ch l := by
  cases l with
  | nil => trivial
  | cons b r => exact h.2.2
theorem ch_drop {l : List Sg} (h : Ch l) : ∀ c, Ch (l.drop c) := by
  intro c
  induction c generalizing l with
  | zero => exact h
  | succ c ih =>
    cases l with
    | nil => trivial
    | cons a l => exact ih (ch_tail h)
theorem ch_last {l : List Sg} {s : Sg} {rs : List (List Int)} (h : Ch (l ++ [s])) : Ch (l ++ [⟨s.first, rs⟩]) := by
  induction l with
  | nil => trivial
  | cons a l ih =>
    cases l with
    | nil => exact ⟨h.1, h.2.1, trivial⟩
    | cons b r => exact ⟨h.1, h.2.1, ih h.2.2⟩
theorem ch_snoc {l : List Sg} {s : Sg} {rs : List (List Int)} (h : Ch (l ++ [s])) (hs : s.recs ≠ []) : Ch (l ++ [s] ++ [⟨s.first + s.recs.length, rs⟩]) := by
  induction l with
  | nil => exact ⟨rfl, hs, trivial⟩
  | cons a l ih =>
    cases l with
    | nil => exact ⟨h.1, h.2.1, rfl, hs, trivial⟩
    | cons b r => exact ⟨h.1, h.2.1, ih h.2.2⟩
theorem ch_init {l : List Sg} {s : Sg} (h : Ch (l ++ [s])) : Ch l := by
  induction l with
  | nil => trivial
  | cons a l ih =>
    cases l with
    | nil => trivial
    | cons b r => exact ⟨h.1, h.2.1, ih h.2.2⟩
theorem ch_lt {a : Sg} {l : List Sg} (h : Ch (a :: l)) : ∀ x ∈ l, a.first < x.first := by
  induction l generalizing a with
  | nil => intro x hx; cases hx
  | cons b r ih =>
    intro x hx
    have hp : 0 < a.recs.length := List.length_pos_iff.2 h.2.1
    have h1 := h.1
    rcases List.mem_cons.1 hx with rfl | hx
    · omega
    · have := ih h.2.2 x hx; omega
theorem ch_pair {l : List Sg} (h : Ch l) : l.Pairwise (fun x y => x.first < y.first) := by
  induction l with
  | nil => exact List.Pairwise.nil
  | cons a l ih => exact List.pairwise_cons.2 ⟨ch_lt h, ih (ch_tail h)⟩
theorem ch_le {l : List Sg} {s : Sg} (h : Ch (l ++ [s])) : ∀ x ∈ l ++ [s], x.first ≤ s.first := by
  intro x hx
  rcases List.mem_append.1 hx with hx | hx
  · have := (List.pairwise_append.1 (ch_pair h)).2.2 x hx s (by simp); omega
  · simp at hx; rw [hx]; omega
/-- how many records there are -/
theorem ch_count {a : Sg} {l : List Sg} (h : Ch (a :: l)) : a.first + (recsOf (a :: l)).length = nextOf (a :: l) := by
  induction l generalizing a with
  | nil => simp [recsOf, nextOf]
  | cons b r ih =>
    have := ih h.2.2
    have h1 := h.1
    have e1 : nextOf (a :: b :: r) = nextOf (b :: r) := by simp [nextOf, List.getLast?_cons_cons]
    rw [e1, ← this, h1]
    simp only [recsOf, List.flatMap_cons, List.length_append]
    omega
theorem used_files {l : List Sg} {g : Sg → Fl} (hg : ∀ s, (g s).d = frames s.recs) : used (l.map g) = (frames (recsOf l)).length := by
  induction l with
  | nil => rfl
  | cons a l ih => rw [List.map_cons, used_cons, ih, hg]; simp [recsOf, frames_append]
theorem used_filesG (segs : List Sg) (m : Nat) : used (filesG segs m) = (frames (recsOf segs)).length := by
  rcases snoc_of segs with rfl | ⟨l, s, rfl⟩
  · rfl
  · rw [filesG_snoc, used_append, used_files (fun _ => rfl)]
    simp [used, fileG, recsOf, frames_append]
theorem filesG_len (segs : List Sg) (m : Nat) : (filesG segs m).length = segs.length := by
  rcases snoc_of segs with rfl | ⟨l, s, rfl⟩
  · rfl
  · rw [filesG_snoc]; simp
theorem filesG_names (segs : List Sg) (m : Nat) : (filesG segs m).map Fl.n = segs.map (fun s => nameS s.first) := by
  rcases snoc_of segs with rfl | ⟨l, s, rfl⟩
  · rfl
  · rw [filesG_snoc]; simp [fileG, fullG]
theorem rise_of {l : List Sg} {g : Sg → Fl} (hg : ∀ s, (g s).n = nameS s.first) (h : Ch l) (hb : ∀ s ∈ l, s.first < 10000000000) : Rise Fl.n (l.map g) := by
  unfold Rise
  rw [List.pairwise_map]
  exact List.Pairwise.imp_of_mem (fun {a b} ha hbm hab => by rw [hg, hg]; exact nameS_before hab (hb b hbm)) (ch_pair h)
theorem rise_snoc {l : List Sg} {s : Sg} {f : Fl} (h : Ch (l ++ [s])) (hb : s.first < 10000000000) (hf : f.n = nameS s.first) : Rise Fl.n (l.map fullG ++ f :: []) := by
  have h0 : Rise Fl.n ((l ++ [s]).map fullG) := rise_of (fun _ => rfl) h (fun x hx => by have := ch_le h x hx; omega)
  rw [List.map_append] at h0
  exact Rise.swap (x := fullG s) h0 hf

/-! ### Append -/
theorem fileOf_last {S : Dk} {l : List Sg} {s : Sg} {m : Nat} (hfs : S.fs = l.map fullG ++ [fileG s m]) (h : Ch (l ++ [s])) (hb : s.first < 10000000000) :
    getK Fl.n (nameS s.first) S.fs = some (fileG s m) := by
  rw [hfs]
  exact getK_mid (x := fileG s m) (Y := []) (rise_snoc h hb rfl)
theorem app_last {S : Dk} {l : List Sg} {s : Sg} {m : Nat} (b : List Int) (hfs : S.fs = l.map fullG ++ [fileG s m]) (h : Ch (l ++ [s])) (hb : s.first < 10000000000) :
    (appS S (nameS s.first) (packB b)).fs = l.map fullG ++ [fileG ⟨s.first, s.recs ++ [b]⟩ m] := by
  have e1 : fileOf S (nameS s.first) = fileG s m := by unfold fileOf; rw [fileOf_last hfs h hb]; rfl
  unfold appS
  rw [e1, hfs]
  simp only
  rw [putK_mid (x := fileG s m) (x' := ⟨nameS s.first, (fileG s m).d ++ packB b, (fileG s m).s⟩) (rise_snoc h hb rfl) rfl]
  simp [fileG, frames_snoc]
theorem insK_end {x : Fl} : ∀ {l : List Fl}, (∀ y ∈ l, bytesBefore (Fl.n y) (Fl.n x) = true) → insK Fl.n x l = l ++ [x]
  | [], _ => rfl
  | y :: r, h => by
    simp only [insK, before_anti (h y (by simp)), Bool.false_eq_true, if_false, List.cons_append]
    rw [insK_end (fun z hz => h z (by simp [hz]))]
theorem filesG_mem {segs : List Sg} {m : Nat} {f : Fl} (h : f ∈ filesG segs m) : ∃ s ∈ segs, f.n = nameS s.first := by
  have : f.n ∈ (filesG segs m).map Fl.n := List.mem_map.2 ⟨f, h, rfl⟩
  rw [filesG_names] at this
  obtain ⟨s, hs, e⟩ := List.mem_map.1 this
  exact ⟨s, hs, e.symm⟩
theorem app_new {S : Dk} {segs : List Sg} {m f : Nat} (b : List Int) (hfs : S.fs = filesG segs m) (hl : ∀ s ∈ segs, s.first < f) (hb : f < 10000000000) :
    getK Fl.n (nameS f) S.fs = none ∧ (appS S (nameS f) (packB b)).fs = filesG segs m ++ [fileG ⟨f, [b]⟩ 0] := by
  have hn : ∀ e ∈ filesG segs m, bytesBefore (Fl.n e) (nameS f) = true := by
    intro e he
    obtain ⟨s, hs, e1⟩ := filesG_mem he
    rw [e1]; exact nameS_before (hl s hs) hb
  have hg : getK Fl.n (nameS f) S.fs = none := by
    unfold getK
    rw [List.find?_eq_none, hfs]
    intro y hy
    simpa using before_ne (hn y hy)
  refine ⟨hg, ?_⟩
  have e1 : fileOf S (nameS f) = ⟨nameS f, [], 0⟩ := by unfold fileOf; rw [hg]; rfl
  unfold appS putK
  rw [e1, hfs]
  simp only
  rw [delK_none (fun e he => before_ne (hn e he)), insK_end hn]
  simp [fileG, frames_one]

/-! ### Sync -/
theorem hitS_room (S : Dk) : (hitS S).size = S.size := (hitS_fs' S).2
theorem hitS_files (S : Dk) : (hitS S).fs = S.fs := (hitS_fs' S).1
theorem hitS_calm {S : Dk} (h : S.arm = 0) : (hitS S).arm = 0 := by rw [(hit_none h).2, h]
theorem sync_there {S : Dk} {f : Nat} {g : Fl} (hd : S.down = false) (hg : getK Fl.n (nameS f) S.fs = some g) :
    syncC S (nameS f) = (if hitB S then 3 else 0) ∧ syncS S (nameS f) = if hitB S then hitS S else { hitS S with fs := putK Fl.n ⟨nameS f, g.d, g.d.length⟩ S.fs } := by
  unfold syncC syncS
  rw [refuse_name hd, hg]
  exact ⟨by simp, by simp⟩
theorem hitB_arm {S : Dk} (h : hitB S = true) : S.arm ≠ 0 := by simp [hitB] at h; omega
/-- what a call leaves of the disk beside its files -/
structure Rest (S S' : Dk) : Prop where
  size : S'.size = S.size
  calm : S.arm = 0 → S'.arm = 0
theorem Rest.refl (S : Dk) : Rest S S := ⟨rfl, id⟩
theorem Rest.trans {a b c : Dk} (h : Rest a b) (g : Rest b c) : Rest a c := ⟨g.size.trans h.size, fun x => g.calm (h.calm x)⟩
theorem Rest.hit (S : Dk) : Rest S (hitS S) := ⟨hitS_room S, hitS_calm⟩
theorem settle_files : ∀ (B : List Sg) (A : List Sg) (s : Sg) (m : Nat) (S : Dk), S.fs = (A ++ B).map fullG ++ [fileG s m] → Ch (A ++ B ++ [s]) → s.first < 10000000000 → S.down = false →
    (∃ S', settleF (B ++ [s]) S = (0, S') ∧ S'.fs = (A ++ B ++ [s]).map fullG ∧ S'.down = false ∧ Rest S S') ∨ (S.arm ≠ 0 ∧ ∃ S', settleF (B ++ [s]) S = (3, S') ∧ S'.fs = S.fs ∧ S'.down = true ∧ Rest S S')
  | [], A, s, m, S, hfs, hc, hb, hd => by
    rw [List.append_nil] at hfs hc
    have hg := fileOf_last hfs hc hb
    obtain ⟨e1, e2⟩ := sync_there hd hg
    simp only [List.nil_append, settleF]
    rw [e1, e2]
    cases hh : hitB S
    · simp only [Bool.false_eq_true, if_false, ne_eq, not_true_eq_false]
      refine .inl ⟨_, rfl, ?_, ?_, ?_⟩
      · show putK Fl.n (fullG s) S.fs = _
        rw [hfs, putK_mid (x := fileG s m) (x' := fullG s) (rise_snoc hc hb rfl) rfl]
        simp
      · show (hitS S).down = false
        rw [hitS_down hd, hh]
      · exact ⟨hitS_room S, hitS_calm⟩
    · simp only [if_true]
      refine .inr ⟨hitB_arm hh, hitS S, by simp, hitS_files S, by rw [hitS_down hd, hh], Rest.hit S⟩
  | b :: B, A, s, m, S, hfs, hc, hb, hd => by
    have hle := ch_le hc
    have hbb : b.first < 10000000000 := by have := hle b (by simp); omega
    have hr : Rise Fl.n (A.map fullG ++ fullG b :: (B.map fullG ++ [fileG s m])) := by
      have := rise_snoc (f := fileG s m) hc hb rfl
      simpa [List.map_append] using this
    have hfs2 : S.fs = A.map fullG ++ fullG b :: (B.map fullG ++ [fileG s m]) := by rw [hfs]; simp
    have hg : getK Fl.n (nameS b.first) S.fs = some (fullG b) := by rw [hfs2]; exact getK_mid (x := fullG b) hr
    obtain ⟨e1, e2⟩ := sync_there hd hg
    simp only [List.cons_append, settleF]
    rw [e1, e2]
    cases hh : hitB S
    · simp only [Bool.false_eq_true, if_false, ne_eq, not_true_eq_false]
      have ef : ({ hitS S with fs := putK Fl.n ⟨nameS b.first, (fullG b).d, (fullG b).d.length⟩ S.fs } : Dk) = hitS S := by
        have : putK Fl.n ⟨nameS b.first, (fullG b).d, (fullG b).d.length⟩ S.fs = (hitS S).fs := by
          rw [hitS_files, hfs2, putK_mid (x := fullG b) (x' := ⟨nameS b.first, (fullG b).d, (fullG b).d.length⟩) hr rfl]; rfl
        rw [this]
      rw [ef]
      have ih := settle_files B (A ++ [b]) s m (hitS S) (by rw [hitS_files, hfs]; simp) (by simpa using hc) hb (by rw [hitS_down hd, hh])
      rcases ih with ⟨S', h1, h2, h3, h4⟩ | ⟨h0, S', h1, h2, h3, h4⟩
      · exact .inl ⟨S', h1, by rw [h2]; simp, h3, (Rest.hit S).trans h4⟩
      · exact .inr ⟨fun h => h0 (hitS_calm h), S', h1, by rw [h2, hitS_files], h3, (Rest.hit S).trans h4⟩
    · simp only [if_true]
      refine .inr ⟨hitB_arm hh, hitS S, by simp, hitS_files S, by rw [hitS_down hd, hh], Rest.hit S⟩

/-! ### A journal that holds what its disk holds -/
structure Hold (S : Dk) (segs : List Sg) (m : Nat) : Prop where
  fs : S.fs = filesG segs m
  ch : Ch segs
  low : ∀ s ∈ segs, s.first < 1000000000
theorem fullG_all (l : List Sg) (s : Sg) : (l ++ [s]).map fullG = filesG (l ++ [s]) (frames s.recs).length := by rw [filesG_snoc]; simp [fullG]
/-- all is safe -/
def whole (segs : List Sg) : Nat := match segs.getLast? with | none => 0 | some s => (frames s.recs).length
theorem whole_snoc (l : List Sg) (s : Sg) : whole (l ++ [s]) = (frames s.recs).length := by simp [whole]
theorem settle_hold {S : Dk} {X : Jn} {m : Nat} (h : Hold S X.segs m) (hd : S.down = false) (hs : X.settled ≤ X.segs.length - 1) :
    (∃ S', settleJ X S = (0, { X with settled := X.segs.length - 1 }, S') ∧ Hold S' X.segs (whole X.segs) ∧ S'.down = false ∧ Rest S S') ∨ (S.arm ≠ 0 ∧ ∃ S', settleJ X S = (3, X, S') ∧ Hold S' X.segs m ∧ S'.down = true ∧ Rest S S') := by
  obtain ⟨most, segs, st, dn⟩ := X
  simp only at *
  unfold settleJ
  simp only
  rcases snoc_of segs with rfl | ⟨l, s, rfl⟩
  · have : st = 0 := by simpa using hs
    subst this
    refine .inl ⟨S, by simp [settleF], ⟨h.fs, h.ch, h.low⟩, hd, Rest.refl S⟩
  · have hst : st ≤ l.length := by simpa using hs
    have e1 : (l ++ [s]).drop st = l.drop st ++ [s] := by rw [List.drop_append_of_le_length hst]
    have hf := h.fs
    rw [filesG_snoc] at hf
    have := settle_files (l.drop st) (l.take st) s m S (by rw [hf, List.take_append_drop]) (by rw [List.take_append_drop]; exact h.ch) (by have := h.low s (by simp); omega) hd
    rw [List.take_append_drop] at this
    rw [e1]
    rcases this with ⟨S', h1, h2, h3, h4⟩ | ⟨h0, S', h1, h2, h3, h4⟩
    · rw [h1]
      refine .inl ⟨S', by simp, ⟨by rw [h2, fullG_all, whole_snoc], h.ch, h.low⟩, h3, h4⟩
    · rw [h1]
      refine .inr ⟨h0, S', by simp, ⟨by rw [h2, h.fs], h.ch, h.low⟩, h3, h4⟩
end Go.Proofs.YthikiahhochjmaaGreatDoor
