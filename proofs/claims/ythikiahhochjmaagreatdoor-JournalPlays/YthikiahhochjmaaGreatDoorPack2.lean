/- Plain facts of a journal over a disk: which files there are, what each call makes of them. Plain facts of a journal over a disk: Append, Sync and Trim, hit or not. Small helpers that all walks over this program share: endings, worlds that turn at some blocks alone, rows of numbers, appending to a row of one's own, cutting a row. Slices that own their rows; elements that are read; rows of any size appended, cut, written. Slices that own their rows; the map of a disk told by a list of its entries; a disk in memory. The smaller calls of disk: names, what is hit, a new disk. -/
import Derived.Test.YthikiahhochjmaaGreatDoorPack1
import Derived.Test.YthikiahhochjmaaGreatDoorChecked
import Derived.WalkKit
import Derived.WalkLawsBesides
import Derived.Deep.QuietTactic
import Derived.BigQuiet
import Derived.Maps.OwnOps
import Derived.ArgAppend
import Derived.Maps.OwnSet
import Derived.Maps.RangeWalk
import Derived.Sort.KeysCollected
import Derived.Sort.OwnSorted
namespace Go.Proofs.YthikiahhochjmaaGreatDoor
set_option linter.unusedVariables false
set_option linter.unusedSimpArgs false

/-- a segment's file, so much of it safe -/
def fileG (s : Sg) (m : Nat) : Fl := ⟨nameS s.first, frames s.recs, m⟩
def fullG (s : Sg) : Fl := fileG s (frames s.recs).length
def filesG (segs : List Sg) (m : Nat) : List Fl := segs.dropLast.map fullG ++ (segs.getLast?.map (fun s => fileG s m)).toList
theorem filesG_snoc (l : List Sg) (s : Sg) (m : Nat) : filesG (l ++ [s]) m = l.map fullG ++ [fileG s m] := by simp [filesG]
theorem next_snoc (l : List Sg) (s : Sg) : nextOf (l ++ [s]) = s.first + s.recs.length := by simp [nextOf]
theorem lastF_end (l : List Sg) (s : Sg) : lastF (l ++ [s]) = s.first := by simp [lastF]
theorem snoc_of {α : Type} (l : List α) : l = [] ∨ ∃ a b, l = a ++ [b] := by
  rcases List.eq_nil_or_concat l with h | ⟨a, b, h⟩
  · exact .inl h
  · exact .inr ⟨a, b, by simpa using h⟩

/-- segments that follow one another; but the last none is empty -/
def Ch : List Sg → Prop
  | a :: b :: r => b.first = a.first + a.recs.length ∧ a.recs ≠ [] ∧ Ch (b :: r)
  | _ => True
theorem ch_tail {a : Sg} {l : List Sg} (h : Ch (a :: l)) : Ch l := by
  cases l with
  | nil => trivial
  | cons b r => exact h.2.2
theorem ch_drop {l : List Sg} (h : Ch l) : ∀ c, Ch (l.drop c) := by
  intro c
  induction c generalizing l with
  | zero => exact h
  | succ c ih =>
    cases l with
    | nil => trivial
    | cons a l => exact ih (ch_tail h)
theorem ch_last {l : List Sg} {s : Sg} {rs : List (List Int)} (h : Ch (l ++ [s])) : Ch (l ++ [⟨s.first, rs⟩]) := by
  induction l with
  | nil => trivial
  | cons a l ih =>
    cases l with
    | nil => exact ⟨h.1, h.2.1, trivial⟩
    | cons b r => exact ⟨h.1, h.2.1, ih h.2.2⟩
theorem ch_snoc {l : List Sg} {s : Sg} {rs : List (List Int)} (h : Ch (l ++ [s])) (hs : s.recs ≠ []) : Ch (l ++ [s] ++ [⟨s.first + s.recs.length, rs⟩]) := by
  induction l with
  | nil => exact ⟨rfl, hs, trivial⟩
  | cons a l ih =>
    cases l with
    | nil => exact ⟨h.1, h.2.1, rfl, hs, trivial⟩
    | cons b r => exact ⟨h.1, h.2.1, ih h.2.2⟩
theorem ch_init {l : List Sg} {s : Sg} (h : Ch (l ++ [s])) : Ch l := by
  induction l with
  | nil => trivial
  | cons a l ih =>
    cases l with
    | nil => trivial
    | cons b r => exact ⟨h.1, h.2.1, ih h.2.2⟩
theorem ch_lt {a : Sg} {l : List Sg} (h : Ch (a :: l)) : ∀ x ∈ l, a.first < x.first := by
  induction l generalizing a with
  | nil => intro x hx; cases hx
  | cons b r ih =>
    intro x hx
    have hp : 0 < a.recs.length := List.length_pos_iff.2 h.2.1
    have h1 := h.1
    rcases List.mem_cons.1 hx with rfl | hx
    · omega
    · have := ih h.2.2 x hx; omega
theorem ch_pair {l : List Sg} (h : Ch l) : l.Pairwise (fun x y => x.first < y.first) := by
  induction l with
  | nil => exact List.Pairwise.nil
  | cons a l ih => exact List.pairwise_cons.2 ⟨ch_lt h, ih (ch_tail h)⟩
theorem ch_le {l : List Sg} {s : Sg} (h : Ch (l ++ [s])) : ∀ x ∈ l ++ [s], x.first ≤ s.first := by
  intro x hx
  rcases List.mem_append.1 hx with hx | hx
  · have := (List.pairwise_append.1 (ch_pair h)).2.2 x hx s (by simp); omega
  · simp at hx; rw [hx]; omega
/-- how many records there are -/
theorem ch_count {a : Sg} {l : List Sg} (h : Ch (a :: l)) : a.first + (recsOf (a :: l)).length = nextOf (a :: l) := by
  induction l generalizing a with
  | nil => simp [recsOf, nextOf]
  | cons b r ih =>
    have := ih h.2.2
    have h1 := h.1
    have e1 : nextOf (a :: b :: r) = nextOf (b :: r) := by simp [nextOf, List.getLast?_cons_cons]
    rw [e1, ← this, h1]
    simp only [recsOf, List.flatMap_cons, List.length_append]
    omega
theorem used_files {l : List Sg} {g : Sg → Fl} (hg : ∀ s, (g s).d = frames s.recs) : used (l.map g) = (frames (recsOf l)).length := by
  induction l with
  | nil => rfl
  | cons a l ih => rw [List.map_cons, used_cons, ih, hg]; simp [recsOf, frames_append]
theorem used_filesG (segs : List Sg) (m : Nat) : used (filesG segs m) = (frames (recsOf segs)).length := by
  rcases snoc_of segs with rfl | ⟨l, s, rfl⟩
  · rfl
  · rw [filesG_snoc, used_append, used_files (fun _ => rfl)]
    simp [used, fileG, recsOf, frames_append]
theorem filesG_len (segs : List Sg) (m : Nat) : (filesG segs m).length = segs.length := by
  rcases snoc_of segs with rfl | ⟨l, s, rfl⟩
  · rfl
  · rw [filesG_snoc]; simp
theorem filesG_names (segs : List Sg) (m : Nat) : (filesG segs m).map Fl.n = segs.map (fun s => nameS s.first) := by
  rcases snoc_of segs with rfl | ⟨l, s, rfl⟩
  · rfl
  · rw [filesG_snoc]; simp [fileG, fullG]
theorem rise_of {l : List Sg} {g : Sg → Fl} (hg : ∀ s, (g s).n = nameS s.first) (h : Ch l) (hb : ∀ s ∈ l, s.first < 10000000000) : Rise Fl.n (l.map g) := by
  unfold Rise
  rw [List.pairwise_map]
  exact List.Pairwise.imp_of_mem (fun {a b} ha hbm hab => by rw [hg, hg]; exact nameS_before hab (hb b hbm)) (ch_pair h)
theorem rise_snoc {l : List Sg} {s : Sg} {f : Fl} (h : Ch (l ++ [s])) (hb : s.first < 10000000000) (hf : f.n = nameS s.first) : Rise Fl.n (l.map fullG ++ f :: []) := by
  have h0 : Rise Fl.n ((l ++ [s]).map fullG) := rise_of (fun _ => rfl) h (fun x hx => by have := ch_le h x hx; omega)
  rw [List.map_append] at h0
  exact Rise.swap (x := fullG s) h0 hf

/-! ### Append -/
theorem fileOf_last {S : Dk} {l : List Sg} {s : Sg} {m : Nat} (hfs : S.fs = l.map fullG ++ [fileG s m]) (h : Ch (l ++ [s])) (hb : s.first < 10000000000) :
    getK Fl.n (nameS s.first) S.fs = some (fileG s m) := by
  rw [hfs]
  exact getK_mid (x := fileG s m) (Y := []) (rise_snoc h hb rfl)
theorem app_last {S : Dk} {l : List Sg} {s : Sg} {m : Nat} (b : List Int) (hfs : S.fs = l.map fullG ++ [fileG s m]) (h : Ch (l ++ [s])) (hb : s.first < 10000000000) :
    (appS S (nameS s.first) (packB b)).fs = l.map fullG ++ [fileG ⟨s.first, s.recs ++ [b]⟩ m] := by
  have e1 : fileOf S (nameS s.first) = fileG s m := by unfold fileOf; rw [fileOf_last hfs h hb]; rfl
  unfold appS
  rw [e1, hfs]
  simp only
  rw [putK_mid (x := fileG s m) (x' := ⟨nameS s.first, (fileG s m).d ++ packB b, (fileG s m).s⟩) (rise_snoc h hb rfl) rfl]
  simp [fileG, frames_snoc]
theorem insK_end {x : Fl} : ∀ {l : List Fl}, (∀ y ∈ l, bytesBefore (Fl.n y) (Fl.n x) = true) → insK Fl.n x l = l ++ [x]
  | [], _ => rfl
  | y :: r, h => by
    simp only [insK, before_anti (h y (by simp)), Bool.false_eq_true, if_false, List.cons_append]
    rw [insK_end (fun z hz => h z (by simp [hz]))]
theorem filesG_mem {segs : List Sg} {m : Nat} {f : Fl} (h : f ∈ filesG segs m) : ∃ s ∈ segs, f.n = nameS s.first := by
  have : f.n ∈ (filesG segs m).map Fl.n := List.mem_map.2 ⟨f, h, rfl⟩
  rw [filesG_names] at this
  obtain ⟨s, hs, e⟩ := List.mem_map.1 this
  exact ⟨s, hs, e.symm⟩
theorem app_new {S : Dk} {segs : List Sg} {m f : Nat} (b : List Int) (hfs : S.fs = filesG segs m) (hl : ∀ s ∈ segs, s.first < f) (hb : f < 10000000000) :
    getK Fl.n (nameS f) S.fs = none ∧ (appS S (nameS f) (packB b)).fs = filesG segs m ++ [fileG ⟨f, [b]⟩ 0] := by
  have hn : ∀ e ∈ filesG segs m, bytesBefore (Fl.n e) (nameS f) = true := by
    intro e he
    obtain ⟨s, hs, e1⟩ := filesG_mem he
    rw [e1]; exact nameS_before (hl s hs) hb
  have hg : getK Fl.n (nameS f) S.fs = none := by
    unfold getK
    rw [List.find?_eq_none, hfs]
    intro y hy
    simpa using before_ne (hn y hy)
  refine ⟨hg, ?_⟩
  have e1 : fileOf S (nameS f) = ⟨nameS f, [], 0⟩ := by unfold fileOf; rw [hg]; rfl
  unfold appS putK
  rw [e1, hfs]
  simp only
  rw [delK_none (fun e he => before_ne (hn e he)), insK_end hn]
  simp [fileG, frames_one]

/-! ### Sync -/
theorem hitS_room (S : Dk) : (hitS S).size = S.size := (hitS_fs' S).2
theorem hitS_files (S : Dk) : (hitS S).fs = S.fs := (hitS_fs' S).1
theorem hitS_calm {S : Dk} (h : S.arm = 0) : (hitS S).arm = 0 := by rw [(hit_none h).2, h]
theorem sync_there {S : Dk} {f : Nat} {g : Fl} (hd : S.down = false) (hg : getK Fl.n (nameS f) S.fs = some g) :
    syncC S (nameS f) = (if hitB S then 3 else 0) ∧ syncS S (nameS f) = if hitB S then hitS S else { hitS S with fs := putK Fl.n ⟨nameS f, g.d, g.d.length⟩ S.fs } := by
  unfold syncC syncS
  rw [refuse_name hd, hg]
  exact ⟨by simp, by simp⟩
theorem hitB_arm {S : Dk} (h : hitB S = true) : S.arm ≠ 0 := by simp [hitB] at h; omega
/-- what a call leaves of the disk beside its files -/
structure Rest (S S' : Dk) : Prop where
  size : S'.size = S.size
  calm : S.arm = 0 → S'.arm = 0
theorem Rest.refl (S : Dk) : Rest S S := ⟨rfl, id⟩
theorem Rest.trans {a b c : Dk} (h : Rest a b) (g : Rest b c) : Rest a c := ⟨g.size.trans h.size, fun x => g.calm (h.calm x)⟩
theorem Rest.hit (S : Dk) : Rest S (hitS S) := ⟨hitS_room S, hitS_calm⟩
theorem settle_files : ∀ (B : List Sg) (A : List Sg) (s : Sg) (m : Nat) (S : Dk), S.fs = (A ++ B).map fullG ++ [fileG s m] → Ch (A ++ B ++ [s]) → s.first < 10000000000 → S.down = false →
    (∃ S', settleF (B ++ [s]) S = (0, S') ∧ S'.fs = (A ++ B ++ [s]).map fullG ∧ S'.down = false ∧ Rest S S') ∨ (S.arm ≠ 0 ∧ ∃ S', settleF (B ++ [s]) S = (3, S') ∧ S'.fs = S.fs ∧ S'.down = true ∧ Rest S S')
  | [], A, s, m, S, hfs, hc, hb, hd => by
    rw [List.append_nil] at hfs hc
    have hg := fileOf_last hfs hc hb
    obtain ⟨e1, e2⟩ := sync_there hd hg
    simp only [List.nil_append, settleF]
    rw [e1, e2]
    cases hh : hitB S
    · simp only [Bool.false_eq_true, if_false, ne_eq, not_true_eq_false]
      refine .inl ⟨_, rfl, ?_, ?_, ?_⟩
      · show putK Fl.n (fullG s) S.fs = _
        rw [hfs, putK_mid (x := fileG s m) (x' := fullG s) (rise_snoc hc hb rfl) rfl]
        simp
      · show (hitS S).down = false
        rw [hitS_down hd, hh]
      · exact ⟨hitS_room S, hitS_calm⟩
    · simp only [if_true]
      refine .inr ⟨hitB_arm hh, hitS S, by simp, hitS_files S, by rw [hitS_down hd, hh], Rest.hit S⟩
  | b :: B, A, s, m, S, hfs, hc, hb, hd => by
    have hle := ch_le hc
    have hbb : b.first < 10000000000 := by have := hle b (by simp); omega
    have hr : Rise Fl.n (A.map fullG ++ fullG b :: (B.map fullG ++ [fileG s m])) := by
      have := rise_snoc (f := fileG s m) hc hb rfl
      simpa [List.map_append] using this
    have hfs2 : S.fs = A.map fullG ++ fullG b :: (B.map fullG ++ [fileG s m]) := by rw [hfs]; simp
    have hg : getK Fl.n (nameS b.first) S.fs = some (fullG b) := by rw [hfs2]; exact getK_mid (x := fullG b) hr
    obtain ⟨e1, e2⟩ := sync_there hd hg
    simp only [List.cons_append, settleF]
    rw [e1, e2]
    cases hh : hitB S
    · simp only [Bool.false_eq_true, if_false, ne_eq, not_true_eq_false]
      have ef : ({ hitS S with fs := putK Fl.n ⟨nameS b.first, (fullG b).d, (fullG b).d.length⟩ S.fs } : Dk) = hitS S := by
        have : putK Fl.n ⟨nameS b.first, (fullG b).d, (fullG b).d.length⟩ S.fs = (hitS S).fs := by
          rw [hitS_files, hfs2, putK_mid (x := fullG b) (x' := ⟨nameS b.first, (fullG b).d, (fullG b).d.length⟩) hr rfl]; rfl
        rw [this]
      rw [ef]
      have ih := settle_files B (A ++ [b]) s m (hitS S) (by rw [hitS_files, hfs]; simp) (by simpa using hc) hb (by rw [hitS_down hd, hh])
      rcases ih with ⟨S', h1, h2, h3, h4⟩ | ⟨h0, S', h1, h2, h3, h4⟩
      · exact .inl ⟨S', h1, by rw [h2]; simp, h3, (Rest.hit S).trans h4⟩
      · exact .inr ⟨fun h => h0 (hitS_calm h), S', h1, by rw [h2, hitS_files], h3, (Rest.hit S).trans h4⟩
    · simp only [if_true]
      refine .inr ⟨hitB_arm hh, hitS S, by simp, hitS_files S, by rw [hitS_down hd, hh], Rest.hit S⟩

/-! ### A journal that holds what its disk holds -/
structure Hold (S : Dk) (segs : List Sg) (m : Nat) : Prop where
  fs : S.fs = filesG segs m
  ch : Ch segs
  low : ∀ s ∈ segs, s.first < 1000000000
theorem fullG_all (l : List Sg) (s : Sg) : (l ++ [s]).map fullG = filesG (l ++ [s]) (frames s.recs).length := by rw [filesG_snoc]; simp [fullG]
/-- all is safe -/
def whole (segs : List Sg) : Nat := match segs.getLast? with | none => 0 | some s => (frames s.recs).length
theorem whole_snoc (l : List Sg) (s : Sg) : whole (l ++ [s]) = (frames s.recs).length := by simp [whole]
theorem settle_hold {S : Dk} {X : Jn} {m : Nat} (h : Hold S X.segs m) (hd : S.down = false) (hs : X.settled ≤ X.segs.length - 1) :
    (∃ S', settleJ X S = (0, { X with settled := X.segs.length - 1 }, S') ∧ Hold S' X.segs (whole X.segs) ∧ S'.down = false ∧ Rest S S') ∨ (S.arm ≠ 0 ∧ ∃ S', settleJ X S = (3, X, S') ∧ Hold S' X.segs m ∧ S'.down = true ∧ Rest S S') := by
  obtain ⟨most, segs, st, dn⟩ := X
  simp only at *
  unfold settleJ
  simp only
  rcases snoc_of segs with rfl | ⟨l, s, rfl⟩
  · have : st = 0 := by simpa using hs
    subst this
    refine .inl ⟨S, by simp [settleF], ⟨h.fs, h.ch, h.low⟩, hd, Rest.refl S⟩
  · have hst : st ≤ l.length := by simpa using hs
    have e1 : (l ++ [s]).drop st = l.drop st ++ [s] := by rw [List.drop_append_of_le_length hst]
    have hf := h.fs
    rw [filesG_snoc] at hf
    have := settle_files (l.drop st) (l.take st) s m S (by rw [hf, List.take_append_drop]) (by rw [List.take_append_drop]; exact h.ch) (by have := h.low s (by simp); omega) hd
    rw [List.take_append_drop] at this
    rw [e1]
    rcases this with ⟨S', h1, h2, h3, h4⟩ | ⟨h0, S', h1, h2, h3, h4⟩
    · rw [h1]
      refine .inl ⟨S', by simp, ⟨by rw [h2, fullG_all, whole_snoc], h.ch, h.low⟩, h3, h4⟩
    · rw [h1]
      refine .inr ⟨h0, S', by simp, ⟨by rw [h2, h.fs], h.ch, h.low⟩, h3, h4⟩
end Go.Proofs.YthikiahhochjmaaGreatDoor


namespace Go.Proofs.YthikiahhochjmaaGreatDoor
set_option linter.unusedVariables false
set_option linter.unusedSimpArgs false

theorem append_any {S : Dk} (f : Nat) (b : List Int) (hd : S.down = false) :
    appendC S (nameS f) b = (if fullB S (nameS f) b then 4 else if hitB S then 3 else 0) ∧ appendS S (nameS f) b = if fullB S (nameS f) b then S else hitS (appS S (nameS f) b) := by
  unfold appendC appendS
  rw [refuse_name hd]
  exact ⟨by simp, by simp⟩
theorem full_why {S : Dk} {f : Nat} {b : List Int} (h : fullB S (nameS f) b = true) : S.size < used S.fs + b.length ∨ 64 ≤ S.fs.length := by
  simp [fullB] at h
  rcases h with h | h
  · exact .inl h
  · exact .inr h.2
/-- the segments with one record more -/
def growS (X : Jn) (b : List Int) : List Sg := if fullX X then X.segs ++ [⟨nextOf X.segs, [b]⟩] else (moreX X b).segs
theorem grow_more {X : Jn} {l : List Sg} {s : Sg} (h : X.segs = l ++ [s]) (hf : fullX X = false) (b : List Int) : growS X b = l ++ [⟨s.first, s.recs ++ [b]⟩] := by
  unfold growS moreX; rw [hf, h]; simp
theorem grow_full {X : Jn} (hf : fullX X = true) (b : List Int) : growS X b = X.segs ++ [⟨nextOf X.segs, [b]⟩] := by
  unfold growS; rw [if_pos hf]
/-- which segments are on the disk behind it, and how much of the last one is safe -/
def Mk (X : Jn) (b : List Int) (m : Nat) (segs' : List Sg) (m' : Nat) : Prop :=
  (segs' = X.segs ∧ (m' = m ∨ m' = whole X.segs)) ∨ (fullX X = false ∧ segs' = growS X b ∧ m' = m) ∨ (fullX X = true ∧ segs' = growS X b ∧ m' = 0)
theorem appS_eq (S : Dk) (n : Nm) (b : List Int) : (appS S n b).size = S.size ∧ (appS S n b).arm = S.arm ∧ (appS S n b).down = S.down := ⟨rfl, rfl, rfl⟩

theorem more_hold {S : Dk} {X : Jn} {m : Nat} {l : List Sg} {s : Sg} (b : List Int) (hx : X.segs = l ++ [s]) (hf : fullX X = false) (h : Hold S X.segs m) : Hold (appS S (nameS s.first) (packB b)) (growS X b) m := by
  rw [grow_more hx hf]
  have h1 := h.fs
  have h2 := h.ch
  rw [hx] at h1 h2
  rw [filesG_snoc] at h1
  have h3 := h.low s (by rw [hx]; simp)
  refine ⟨by rw [app_last b h1 h2 (by omega), filesG_snoc], ch_last h2, ?_⟩
  intro x hxm
  rcases List.mem_append.1 hxm with hm | hm
  · exact h.low x (by rw [hx]; simp [hm])
  · simp at hm; rw [hm]; exact h3
theorem hold_fs {S S' : Dk} {segs : List Sg} {m : Nat} (h : Hold S segs m) (e : S'.fs = S.fs) : Hold S' segs m := ⟨by rw [e, h.fs], h.ch, h.low⟩
theorem next_above {segs : List Sg} (h : Ch segs) (hl : ∀ l s, segs = l ++ [s] → s.recs ≠ []) : ∀ s ∈ segs, s.first < nextOf segs := by
  rcases snoc_of segs with rfl | ⟨l, t, rfl⟩
  · intro s hs; cases hs
  · intro s hs
    have h1 := ch_le h s hs
    have h2 : 0 < t.recs.length := List.length_pos_iff.2 (hl l t rfl)
    rw [next_snoc]; omega
theorem push_hold {S : Dk} {X : Jn} (b : List Int) (hf : fullX X = true) (hm : 1 ≤ X.most) (hn : nextOf X.segs < 1000000000) (h : Hold S X.segs (whole X.segs)) :
    getK Fl.n (nameS (nextOf X.segs)) S.fs = none ∧ Hold (appS S (nameS (nextOf X.segs)) (packB b)) (growS X b) 0 := by
  rw [grow_full hf]
  have hl : ∀ l s, X.segs = l ++ [s] → s.recs ≠ [] := by
    intro l s e
    have : X.most ≤ s.recs.length := by
      unfold fullX at hf; rw [e] at hf; simpa using hf
    intro h0; rw [h0] at this; simp at this; omega
  obtain ⟨g1, g2⟩ := app_new b h.fs (next_above h.ch hl) (by omega)
  refine ⟨g1, ?_, ?_, ?_⟩
  · rw [g2, filesG_snoc]
    congr 1
    rcases snoc_of X.segs with e | ⟨l, s, e⟩
    · rw [e]; rfl
    · rw [e, whole_snoc, ← fullG_all]
  · rcases snoc_of X.segs with e | ⟨l, s, e⟩
    · rw [e]; trivial
    · have := h.ch
      rw [e] at this ⊢
      rw [next_snoc]
      exact ch_snoc this (hl l s e)
  · intro x hx
    rcases List.mem_append.1 hx with hx | hx
    · exact h.low x hx
    · simp at hx; rw [hx]; exact hn

theorem lay_hold {S : Dk} {X : Jn} {m : Nat} (b : List Int) (h : Hold S X.segs m) (hd : S.down = false) (hs : X.settled ≤ X.segs.length - 1) (hm : 1 ≤ X.most) (hn : nextOf X.segs < 1000000000) :
    (∃ st S' m', layJ X S b = (0, { X with segs := growS X b, settled := st }, S') ∧ st ≤ (growS X b).length - 1 ∧ Hold S' (growS X b) m' ∧ Mk X b m (growS X b) m' ∧ S'.down = false ∧ Rest S S') ∨
    (∃ st S' m', layJ X S b = (4, { X with settled := st }, S') ∧ st ≤ X.segs.length - 1 ∧ Hold S' X.segs m' ∧ (m' = m ∨ m' = whole X.segs) ∧ S'.down = false ∧ Rest S S' ∧ (S.size < used S.fs + (b.length + 10) ∨ 64 ≤ S.fs.length)) ∨
    (S.arm ≠ 0 ∧ ∃ st S' m' segs', layJ X S b = (3, { X with settled := st }, S') ∧ st ≤ X.segs.length - 1 ∧ Hold S' segs' m' ∧ Mk X b m segs' m' ∧ S'.down = true ∧ Rest S S') := by
  unfold layJ
  rw [hd]
  simp only [Bool.false_eq_true, if_false, if_neg (show ¬ 4294967296 ≤ nextOf X.segs by omega)]
  cases hf : fullX X
  · simp only [Bool.false_eq_true, if_false]
    obtain ⟨l, s, hx⟩ : ∃ l s, X.segs = l ++ [s] := by
      rcases snoc_of X.segs with e | ⟨l, s, e⟩
      · unfold fullX at hf; rw [e] at hf; cases hf
      · exact ⟨l, s, e⟩
    have e0 : lastF X.segs = s.first := by rw [hx, lastF_end]
    obtain ⟨e1, e2⟩ := append_any s.first (packB b) hd
    have hh := more_hold b hx hf h
    have e3 : moreX X b = { X with segs := growS X b, settled := X.settled } := by unfold growS; rw [hf]; rfl
    have e4 : (growS X b).length = X.segs.length := by rw [grow_more hx hf, hx]; simp
    rw [e0, e1, e2]
    cases hfb : fullB S (nameS s.first) (packB b)
    · simp only [Bool.false_eq_true, if_false]
      cases hb : hitB S
      · refine .inl ⟨X.settled, hitS (appS S (nameS s.first) (packB b)), m, by simp [e3], by omega, hold_fs hh (hitS_files _), .inr (.inl ⟨hf, rfl, rfl⟩), ?_, ?_⟩
        · rw [hitS_down (show (appS S (nameS s.first) (packB b)).down = false from hd)]; exact hb
        · exact ⟨hitS_room _, fun h0 => hitS_calm h0⟩
      · refine .inr (.inr ⟨hitB_arm hb, X.settled, hitS (appS S (nameS s.first) (packB b)), m, growS X b, by simp, hs, hold_fs hh (hitS_files _), .inr (.inl ⟨hf, rfl, rfl⟩), ?_, ?_⟩)
        · rw [hitS_down (show (appS S (nameS s.first) (packB b)).down = false from hd)]; exact hb
        · exact ⟨hitS_room _, fun h0 => hitS_calm h0⟩
    · simp only [if_true]
      refine .inr (.inl ⟨X.settled, S, m, by simp, hs, h, .inl rfl, hd, Rest.refl S, ?_⟩)
      have := full_why hfb
      rw [packB_len] at this
      exact this
  · simp only [if_true]
    unfold beginJ
    rcases settle_hold h hd hs with ⟨S1, h1, h2, h3, h4⟩ | ⟨h0, S1, h1, h2, h3, h4⟩
    · rw [h1]
      simp only [ne_eq, not_true_eq_false, if_false]
      obtain ⟨g1, g2⟩ := push_hold b hf hm hn h2
      obtain ⟨e1, e2⟩ := append_any (nextOf X.segs) (packB b) h3
      rw [e1, e2]
      have e3 : pushX { X with settled := X.segs.length - 1 } b = { X with segs := growS X b, settled := X.segs.length - 1 } := by rw [grow_full hf]; rfl
      have e4 : (growS X b).length = X.segs.length + 1 := by rw [grow_full hf]; simp
      cases hfb : fullB S1 (nameS (nextOf X.segs)) (packB b)
      · simp only [Bool.false_eq_true, if_false]
        cases hb : hitB S1
        · refine .inl ⟨X.segs.length - 1, hitS (appS S1 (nameS (nextOf X.segs)) (packB b)), 0, by simp [e3], by omega, hold_fs g2 (hitS_files _), .inr (.inr ⟨hf, rfl, rfl⟩), ?_, ?_⟩
          · rw [hitS_down (show (appS S1 (nameS (nextOf X.segs)) (packB b)).down = false from h3)]; exact hb
          · exact h4.trans ⟨hitS_room _, fun h0 => hitS_calm h0⟩
        · refine .inr (.inr ⟨fun h0 => hitB_arm hb (h4.calm h0), X.segs.length - 1, hitS (appS S1 (nameS (nextOf X.segs)) (packB b)), 0, growS X b, by simp, by omega, hold_fs g2 (hitS_files _), .inr (.inr ⟨hf, rfl, rfl⟩), ?_, ?_⟩)
          · rw [hitS_down (show (appS S1 (nameS (nextOf X.segs)) (packB b)).down = false from h3)]; exact hb
          · exact h4.trans ⟨hitS_room _, fun h0 => hitS_calm h0⟩
      · simp only [if_true]
        refine .inr (.inl ⟨X.segs.length - 1, S1, whole X.segs, by simp, by omega, h2, .inr rfl, h3, h4, ?_⟩)
        have := full_why hfb
        rw [packB_len, h2.fs, used_filesG, filesG_len, h4.size] at this
        rw [h.fs, used_filesG, filesG_len]
        exact this
    · rw [h1]
      simp only [ne_eq, show ¬ ((3 : Int) = 0) by decide, not_false_eq_true, if_true]
      exact .inr (.inr ⟨h0, X.settled, S1, m, X.segs, by simp, hs, h2, .inl ⟨rfl, .inl rfl⟩, h3, h4⟩)

/-- Append -/
theorem append_hold {S : Dk} {X : Jn} {m : Nat} (b : List Int) (h : Hold S X.segs m) (hd : S.down = false) (hx : X.down = false) (hs : X.settled ≤ X.segs.length - 1) (hm : 1 ≤ X.most) (hn : nextOf X.segs < 1000000000) (hb : b.length ≤ 1048576) :
    (∃ st S' m', appendJ X S b = (0, { X with segs := growS X b, settled := st }, S') ∧ st ≤ (growS X b).length - 1 ∧ Hold S' (growS X b) m' ∧ Mk X b m (growS X b) m' ∧ S'.down = false ∧ Rest S S') ∨
    (∃ st S' m', appendJ X S b = (4, { X with settled := st }, S') ∧ st ≤ X.segs.length - 1 ∧ Hold S' X.segs m' ∧ (m' = m ∨ m' = whole X.segs) ∧ S'.down = false ∧ Rest S S' ∧ (S.size < used S.fs + (b.length + 10) ∨ 64 ≤ S.fs.length)) ∨
    (S.arm ≠ 0 ∧ ∃ st S' m' segs', appendJ X S b = (3, { X with settled := st, down := true }, S') ∧ st ≤ X.segs.length - 1 ∧ Hold S' segs' m' ∧ Mk X b m segs' m' ∧ S'.down = true ∧ Rest S S') := by
  unfold appendJ
  rw [hx, if_neg (by decide), if_neg (by omega)]
  obtain ⟨most, segs, st, dn⟩ := X
  simp only at hx
  subst hx
  rcases lay_hold b h hd hs hm hn with ⟨st', S', m', e, r⟩ | ⟨st', S', m', e, r⟩ | ⟨h0, st', S', m', segs', e, r⟩
  · exact .inl ⟨st', S', m', by rw [e]; simp [toldJ], r⟩
  · exact .inr (.inl ⟨st', S', m', by rw [e]; simp [toldJ], r⟩)
  · exact .inr (.inr ⟨h0, st', S', m', segs', by rw [e]; simp [toldJ], r⟩)

/-! ### Trim -/
theorem below_most (n : Nat) : ∀ l : List Sg, below n l ≤ l.length - 1
  | [] => by simp [below]
  | [_] => by simp [below]
  | a :: b :: r => by
    have := below_most n (b :: r)
    simp only [below]
    split
    · simp only [List.length_cons] at *; omega
    · omega
theorem remove_there {S : Dk} {f : Nat} {g : Fl} (hd : S.down = false) (hg : getK Fl.n (nameS f) S.fs = some g) :
    removeC S (nameS f) = (if hitB S then 3 else 0) ∧ removeS S (nameS f) = if hitB S then hitS S else { hitS S with fs := delK Fl.n (nameS f) S.fs } := by
  unfold removeC removeS
  rw [refuse_name hd, hg]
  exact ⟨by simp, by simp⟩
theorem filesG_cons (a : Sg) {l : List Sg} (h : l ≠ []) (m : Nat) : filesG (a :: l) m = fullG a :: filesG l m := by
  rcases snoc_of l with rfl | ⟨x, y, rfl⟩
  · exact absurd rfl h
  · rw [← List.cons_append, filesG_snoc, filesG_snoc]; rfl
theorem filesG_rise {l : List Sg} (h : Ch l) (hb : ∀ s ∈ l, s.first < 1000000000) (m : Nat) : Rise Fl.n (filesG l m) := by
  rcases snoc_of l with rfl | ⟨x, y, rfl⟩
  · exact List.Pairwise.nil
  · rw [filesG_snoc]; exact rise_snoc h (by have := hb y (by simp); omega) rfl
theorem drop_files : ∀ (A R : List Sg) (m : Nat) (S : Dk), R ≠ [] → Hold S (A ++ R) m → S.down = false →
    (∃ S', dropF A S = (0, S') ∧ Hold S' R m ∧ S'.down = false ∧ Rest S S') ∨ (S.arm ≠ 0 ∧ ∃ i S', i ≤ A.length ∧ dropF A S = (3, S') ∧ Hold S' ((A ++ R).drop i) m ∧ S'.down = true ∧ Rest S S')
  | [], R, m, S, hR, h, hd => .inl ⟨S, rfl, h, hd, Rest.refl S⟩
  | a :: A, R, m, S, hR, h, hd => by
    have hne : A ++ R ≠ [] := by simp [hR]
    have hf : S.fs = [] ++ fullG a :: filesG (A ++ R) m := by rw [h.fs, List.cons_append, filesG_cons a hne]; rfl
    have hr : Rise Fl.n ([] ++ fullG a :: filesG (A ++ R) m) := by rw [← hf, h.fs]; exact filesG_rise h.ch h.low m
    have hg : getK Fl.n (nameS a.first) S.fs = some (fullG a) := by rw [hf]; exact getK_mid (x := fullG a) hr
    obtain ⟨e1, e2⟩ := remove_there hd hg
    simp only [dropF]
    rw [e1, e2]
    cases hh : hitB S
    · simp only [Bool.false_eq_true, if_false, ne_eq, not_true_eq_false]
      have ed : delK Fl.n (nameS a.first) S.fs = filesG (A ++ R) m := by rw [hf]; exact delK_mid (x := fullG a) hr
      rw [ed]
      have h1 : Hold ({ hitS S with fs := filesG (A ++ R) m } : Dk) (A ++ R) m := ⟨rfl, ch_tail h.ch, fun s hs => h.low s (by simp only [List.cons_append]; exact List.mem_cons_of_mem _ hs)⟩
      have hrest : Rest S ({ hitS S with fs := filesG (A ++ R) m } : Dk) := ⟨hitS_room S, hitS_calm⟩
      rcases drop_files A R m _ hR h1 (by show (hitS S).down = false; rw [hitS_down hd, hh]) with ⟨S', g1, g2, g3, g4⟩ | ⟨h0, i, S', gi, g1, g2, g3, g4⟩
      · exact .inl ⟨S', g1, g2, g3, hrest.trans g4⟩
      · exact .inr ⟨fun hz => h0 (hitS_calm hz), i + 1, S', by simp; omega, g1, by simpa using g2, g3, hrest.trans g4⟩
    · simp only [if_true]
      refine .inr ⟨hitB_arm hh, 0, hitS S, by omega, by simp, hold_fs (by simpa using h) (hitS_files S), by rw [hitS_down hd, hh], Rest.hit S⟩
theorem hold_take {S : Dk} {segs : List Sg} {m c : Nat} (h : Hold S segs m) : Hold S (segs.take c ++ segs.drop c) m := by rw [List.take_append_drop]; exact h
theorem whole_drop {segs : List Sg} {c : Nat} (hc : c ≤ segs.length - 1) : whole (segs.drop c) = whole segs := by
  rcases snoc_of segs with rfl | ⟨l, s, rfl⟩
  · simp
  · have : c ≤ l.length := by simpa using hc
    rw [List.drop_append_of_le_length this, whole_snoc, whole_snoc]
theorem nextOf_drop {segs : List Sg} {c : Nat} (hc : c ≤ segs.length - 1) : nextOf (segs.drop c) = nextOf segs := by
  rcases snoc_of segs with rfl | ⟨l, s, rfl⟩
  · simp
  · have : c ≤ l.length := by simpa using hc
    rw [List.drop_append_of_le_length this, next_snoc, next_snoc]
/-- Trim -/
theorem trim_hold {S : Dk} {X : Jn} {m : Nat} (n : Nat) (h : Hold S X.segs m) (hd : S.down = false) (hx : X.down = false) (hs : X.settled ≤ X.segs.length - 1) (hn : n ≤ nextOf X.segs) :
    (∃ st S' m', trimJ X S n = (0, { X with segs := X.segs.drop (below n X.segs), settled := st }, S') ∧ st ≤ (X.segs.drop (below n X.segs)).length - 1 ∧ Hold S' (X.segs.drop (below n X.segs)) m' ∧ (m' = m ∨ m' = whole X.segs) ∧ S'.down = false ∧ Rest S S') ∨
    (S.arm ≠ 0 ∧ ∃ st S' m' i, trimJ X S n = (3, { X with settled := st, down := true }, S') ∧ st ≤ X.segs.length - 1 ∧ i ≤ below n X.segs ∧ Hold S' (X.segs.drop i) m' ∧ (m' = m ∨ m' = whole X.segs) ∧ S'.down = true ∧ Rest S S') := by
  have hc := below_most n X.segs
  unfold trimJ
  rw [hx, if_neg (by decide), if_neg (by omega), hd, if_neg (by decide)]
  unfold dropJ
  obtain ⟨most, segs, st, dn⟩ := X
  simp only at *
  subst hx
  generalize hce : below n segs = c at *
  by_cases h0 : c = 0
  · subst h0
    rw [if_pos rfl]
    exact .inl ⟨st, S, m, by simp [toldJ], by simpa using hs, by simpa using h, .inl rfl, hd, Rest.refl S⟩
  · rw [if_neg h0]
    rcases settle_hold (X := ⟨most, segs, st, false⟩) h hd hs with ⟨S1, h1, h2, h3, h4⟩ | ⟨hz, S1, h1, h2, h3, h4⟩
    · rw [h1]
      simp only [ne_eq, not_true_eq_false, if_false]
      have hR : segs.drop c ≠ [] := by
        intro he
        have := congrArg List.length he
        simp at this
        omega
      rcases drop_files (segs.take c) (segs.drop c) (whole segs) S1 hR (hold_take h2) h3 with ⟨S', g1, g2, g3, g4⟩ | ⟨hz, i, S', gi, g1, g2, g3, g4⟩
      · rw [g1]
        exact .inl ⟨segs.length - 1 - c, S', whole segs, by simp [toldJ], by simp; omega, g2, .inr rfl, g3, h4.trans g4⟩
      · rw [g1]
        refine .inr ⟨fun hq => hz (h4.calm hq), segs.length - 1, S', whole segs, i, by simp [toldJ], by omega, ?_, by rw [List.take_append_drop] at g2; exact g2, .inr rfl, g3, h4.trans g4⟩
        simp at gi; omega
    · rw [h1]
      simp only [ne_eq, show ¬ ((3 : Int) = 0) by decide, not_false_eq_true, if_true]
      exact .inr ⟨hz, st, S1, m, 0, by simp [toldJ], hs, by omega, by simpa using h2, .inl rfl, h3, h4⟩
/-- Sync -/
theorem sync_hold {S : Dk} {X : Jn} {m : Nat} (h : Hold S X.segs m) (hd : S.down = false) (hx : X.down = false) (hs : X.settled ≤ X.segs.length - 1) :
    (∃ S', syncJ X S = (0, { X with settled := X.segs.length - 1 }, S') ∧ Hold S' X.segs (whole X.segs) ∧ S'.down = false ∧ Rest S S') ∨ (S.arm ≠ 0 ∧ ∃ S', syncJ X S = (3, { X with down := true }, S') ∧ Hold S' X.segs m ∧ S'.down = true ∧ Rest S S') := by
  unfold syncJ
  rw [hx, if_neg (by decide), hd, if_neg (by decide)]
  obtain ⟨most, segs, st, dn⟩ := X
  simp only at hx
  subst hx
  rcases settle_hold h hd hs with ⟨S', e, r⟩ | ⟨h0, S', e, r⟩
  · exact .inl ⟨S', by rw [e]; simp [toldJ], r⟩
  · exact .inr ⟨h0, S', by rw [e]; simp [toldJ], r⟩
end Go.Proofs.YthikiahhochjmaaGreatDoor


namespace Go.Proofs.YthikiahhochjmaaGreatDoor
open Go.RowKit
set_option linter.unusedVariables false
set_option linter.unusedSimpArgs false

theorem hide {p : Prop} (h : p) : Hid p := h
theorem unhide {p : Prop} (h : Hid p) : p := h
theorem ret_int {k : IntKind} {a b : Int} (h : a = b) : Ending.returned (.int k a) = .returned (.int k b) := by rw [h]
theorem ret_bool {a b : Bool} (h : a = b) : Ending.returned (.bool a) = .returned (.bool b) := by rw [h]

/-- whatever block is none of F is as it was -/
structure Turn (F : Nat → Prop) (w w' : World) : Prop where
  os : w'.os = w.os
  tape : w'.tape = w.tape
  output : w'.output = w.output
  size : w.heap.size ≤ w'.heap.size
  block : ∀ k, k < w.heap.size → ¬ F k → w'.heap[k]? = w.heap[k]?

theorem Turn.refl (F : Nat → Prop) (w : World) : Turn F w w := ⟨rfl, rfl, rfl, Nat.le_refl _, fun _ _ _ => rfl⟩
theorem Turn.trans {F G : Nat → Prop} {a b c : World} (h : Turn F a b) (k : Turn G b c) (hG : ∀ j, G j → F j ∨ a.heap.size ≤ j) : Turn F a c :=
  ⟨k.os.trans h.os, k.tape.trans h.tape, k.output.trans h.output, Nat.le_trans h.size k.size, fun i hi hn => (k.block i (Nat.lt_of_lt_of_le hi h.size) (fun hg => by rcases hG i hg with h' | h'; exact hn h'; omega)).trans (h.block i hi hn)⟩
theorem Turn.then {F : Nat → Prop} {a b c : World} (h : Turn F a b) (k : Turn F b c) : Turn F a c := h.trans k (fun _ => .inl)
theorem Turn.mono {F G : Nat → Prop} {w w' : World} (h : Turn F w w') (hG : ∀ j, F j → G j) : Turn G w w' := ⟨h.os, h.tape, h.output, h.size, fun k hk hn => h.block k hk (fun hf => hn (hG k hf))⟩
theorem Turn.grown {F : Nat → Prop} {w w' : World} {row : Option Nat} (hg : w.grownBy w' row) (hr : ∀ k, row = some k → F k) : Turn F w w' :=
  ⟨hg.os, hg.tape, hg.output, hg.size, fun k hk hn => hg.block k hk (fun e => hn (hr k e.symm))⟩
theorem Turn.alloc {F : Nat → Prop} {a w : World} (h : Turn F a w) (o : Obj) : Turn F a (w.alloc o) :=
  h.trans (G := fun _ => False) (Turn.grown (World.grownBy_alloc w o none) (fun k e => by cases e)) (fun _ hf => hf.elim)
theorem Turn.drew {F : Nat → Prop} {a w : World} (h : Turn F a w) : Turn F a w.drew := ⟨h.os, h.tape, h.output, h.size, h.block⟩
theorem Turn.drewN {F : Nat → Prop} {a w : World} (h : Turn F a w) (n : Nat) : Turn F a (w.drewN n) := by
  induction n with
  | zero => exact h
  | succ n ih => exact ih.drew
theorem Turn.setCell {F : Nat → Prop} {a w : World} (h : Turn F a w) {p : Addr} (hp : F p.block ∨ a.heap.size ≤ p.block) (u : Value) : Turn F a (w.setCell p u) :=
  h.trans (G := fun j => j = p.block) ⟨rfl, rfl, rfl, by simp [World.setCell], fun k hk hn => Below.heap_setCell _ _ _ _ hn⟩ (fun j hj => by subst hj; exact hp)
theorem Turn.below {F : Nat → Prop} {w w' : World} {B : Nat} (h : Turn F w w') (hF : ∀ k, F k → B ≤ k) (hB : B ≤ w.heap.size) : Below B w w' :=
  ⟨h.os, h.tape, h.output, h.size, fun k hk => h.block k (by omega) (fun hf => by have := hF k hf; omega)⟩
theorem Turn.of_below {F : Nat → Prop} {w w' : World} (h : Below w.heap.size w w') : Turn F w w' := ⟨h.os, h.tape, h.output, h.size, fun k hk _ => h.block k hk⟩
theorem Turn.cell {F : Nat → Prop} {w w' : World} (h : Turn F w w') {a : Addr} {v : Value} (hk : w.cell? a = some v) (hn : ¬ F a.block) : w'.cell? a = some v :=
  (World.cell?_of_block (w := w) (h.block a.block (World.block_lt_of_cell? _ _ hk) hn)).trans hk

theorem below_then {w w1 w2 : World} (h : Below w.heap.size w w1) (k : Below w1.heap.size w1 w2) : Below w.heap.size w w2 :=
  ⟨k.os.trans h.os, k.tape.trans h.tape, k.output.trans h.output, Nat.le_trans h.size k.size, fun i hi => (k.block i (Nat.lt_of_lt_of_le hi h.size)).trans (h.block i hi)⟩

/-- the cells from (b, off) on hold these numbers -/
def Cells (k : IntKind) (w : World) (b off : Nat) (zs : List Int) : Prop :=
  ∀ i, i < zs.length → w.cell? ⟨b, off + i, none⟩ = some (.int k (zs.getD i 0))

theorem Cells.turn {F : Nat → Prop} {k : IntKind} {w w' : World} {b off : Nat} {zs : List Int} (h : Cells k w b off zs) (ht : Turn F w w') (hb : ¬ F b) : Cells k w' b off zs :=
  fun i hi => ht.cell (h i hi) hb

/-- a slice value whose elements are these numbers: one without elements, or an address in a block of B with such cells -/
def Row (k : IntKind) (B : Nat → Prop) (w : World) (v : Value) (zs : List Int) : Prop :=
  (∃ a c, v = .slice a 0 c ∧ (a = none → c = 0) ∧ c ≤ maxLen ∧ zs = []) ∨ ∃ b off c, v = .slice (some ⟨b, off, none⟩) zs.length c ∧ zs.length ≤ c ∧ c ≤ maxLen ∧ B b ∧ Cells k w b off zs

def any : Nat → Prop := fun _ => True

theorem Row.slice {k : IntKind} {B : Nat → Prop} {w : World} {v : Value} {zs : List Int} (h : Row k B w v zs) : ∃ a c, v = .slice a zs.length c := by
  rcases h with ⟨_, _, rfl, _, _, rfl⟩ | ⟨b, off, c, rfl, _⟩
  · exact ⟨_, _, rfl⟩
  · exact ⟨_, _, rfl⟩
theorem Row.len {k : IntKind} {B : Nat → Prop} {w : World} {v : Value} {zs : List Int} (h : Row k B w v zs) : zs.length ≤ maxLen := by
  rcases h with ⟨_, _, rfl, _, _, rfl⟩ | ⟨b, off, c, rfl, h1, h2, _⟩
  · exact Nat.zero_le _
  · omega
theorem Row.mono {k : IntKind} {B B' : Nat → Prop} {w : World} {v : Value} {zs : List Int} (h : Row k B w v zs) (hb : ∀ b, B b → B' b) : Row k B' w v zs := by
  rcases h with h | ⟨b, off, c, rfl, h1, h2, h3, h4⟩
  · exact .inl h
  · exact .inr ⟨b, off, c, rfl, h1, h2, hb b h3, h4⟩
/-- .. where the row's block is told to be one of the world's -/
theorem Row.lt {k : IntKind} {B : Nat → Prop} {w : World} {v : Value} {zs : List Int} (h : Row k B w v zs) : Row k (fun b => B b ∧ b < w.heap.size) w v zs := by
  rcases h with h | ⟨b, off, c, rfl, h1, h2, h3, h4⟩
  · exact .inl h
  · by_cases h0 : zs.length = 0
    · obtain rfl := List.eq_nil_of_length_eq_zero h0
      exact .inl ⟨_, _, rfl, (fun h => by cases h), h2, rfl⟩
    · exact .inr ⟨b, off, c, rfl, h1, h2, ⟨h3, World.block_lt_of_cell? _ _ (h4 0 (by omega))⟩, h4⟩
theorem Row.turn {k : IntKind} {B F : Nat → Prop} {w w' : World} {v : Value} {zs : List Int} (h : Row k B w v zs) (ht : Turn F w w') (hn : ∀ b, B b → ¬ F b) : Row k B w' v zs := by
  rcases h with h | ⟨b, off, c, rfl, h1, h2, h3, h4⟩
  · exact .inl h
  · exact .inr ⟨b, off, c, rfl, h1, h2, h3, h4.turn ht (hn b h3)⟩
theorem Row.below {k : IntKind} {B : Nat → Prop} {w w' : World} {v : Value} {zs : List Int} (h : Row k B w v zs) (hb : Below w.heap.size w w') : Row k B w' v zs :=
  h.turn (F := fun _ => False) (Turn.of_below hb) (fun _ _ h => h)
theorem row_none (k : IntKind) (B : Nat → Prop) (w : World) : Row k B w (.slice none 0 0) [] := .inl ⟨none, 0, rfl, fun _ => rfl, Nat.zero_le _, rfl⟩

theorem own_base {w : World} {base : Nat} {e : TypeId} {size : Nat} {v : Value} {n : Nat} {xs : List Value} (h : w.ownsRow base e size v n xs) : ∀ g, v.ownBlock = some g → base ≤ g := by
  intro g hg
  rcases h.2 with ⟨rfl, _⟩ | ⟨g', cap, cur, rfl, hb, _⟩
  · simp [Value.ownBlock] at hg
  · simp [Value.ownBlock] at hg; omega
theorem row_of_owns {w : World} {base : Nat} {e : TypeId} {v : Value} {n : Nat} {k : IntKind} {ys : List Int} (h : w.ownsRow base e 1 v n (ys.map (Value.int k))) : Row k (fun b => base ≤ b) w v ys := by
  have hl : ys.length = n := by have := h.1; simpa using this
  rcases h.2 with ⟨rfl, h0⟩ | ⟨g, cap, cur, rfl, hb, hg, hn, hm, hs, ht⟩
  · have : ys = [] := List.eq_nil_of_length_eq_zero (by omega)
    exact .inl ⟨none, 0, rfl, fun _ => rfl, Nat.zero_le _, this⟩
  · subst hl
    refine .inr ⟨g, 0, cap, rfl, hn, hm, hb, fun i hi => ?_⟩
    have := h.cellAt i (by omega)
    rw [Nat.zero_add, this]
    simp [hi]

/-- a block whose cells may be written -/
def Free (w : World) (b : Nat) : Prop := ∃ cur T, w.heap[b]? = some (.cells cur T (0, 0))
theorem Free.turn {F : Nat → Prop} {w w' : World} {b : Nat} (h : Free w b) (ht : Turn F w w') (hb : ¬ F b) : Free w' b := by
  obtain ⟨cur, T, hc⟩ := h
  exact ⟨cur, T, (ht.block b (Array.getElem?_eq_some_iff.1 hc).1 hb).trans hc⟩
theorem row_of_owns_free {w : World} {base : Nat} {e : TypeId} {v : Value} {n : Nat} {k : IntKind} {ys : List Int} (h : w.ownsRow base e 1 v n (ys.map (Value.int k))) : Row k (fun b => base ≤ b ∧ Free w b) w v ys := by
  have hl : ys.length = n := by have := h.1; simpa using this
  rcases h.2 with ⟨rfl, h0⟩ | ⟨g, cap, cur, rfl, hb, hg, hn, hm, hs, ht⟩
  · have : ys = [] := List.eq_nil_of_length_eq_zero (by omega)
    exact .inl ⟨none, 0, rfl, fun _ => rfl, Nat.zero_le _, this⟩
  · subst hl
    refine .inr ⟨g, 0, cap, rfl, hn, hm, ⟨hb, cur, e, hg⟩, fun i hi => ?_⟩
    have := h.cellAt i (by omega)
    rw [Nat.zero_add, this]
    simp [hi]
/-- a row's block may go on as one that may be written -/
theorem Row.free {k : IntKind} {B F : Nat → Prop} {w w' : World} {v : Value} {zs : List Int} (h : Row k (fun b => B b ∧ Free w b) w v zs) (ht : Turn F w w') (hn : ∀ b, B b → ¬ F b) : Row k (fun b => B b ∧ Free w' b) w' v zs := by
  rcases h with h | ⟨b, off, c, rfl, h1, h2, h3, h4⟩
  · exact .inl h
  · exact .inr ⟨b, off, c, rfl, h1, h2, ⟨h3.1, h3.2.turn ht (hn b h3.1)⟩, h4.turn ht (hn b h3.1)⟩

theorem one_new (w : World) (T : TypeId) (x : Value) : ∀ (j : Nat) (u : Value), [x][j]? = some u → (w.alloc (.cells #[x] T)).cell? (Addr.add ⟨w.heap.size, 0, none⟩ j) = some u := by
  intro j u hu
  match j, hu with
  | 0, hu => simp at hu; subst hu; simp [Addr.add]
  | j + 1, hu => simp at hu

theorem getD_map {k : IntKind} {zs : List Int} {j : Nat} {u : Value} (hu : (zs.map (Value.int k))[j]? = some u) : j < zs.length ∧ u = .int k (zs.getD j 0) := by
  have hj : j < zs.length := by have := (List.getElem?_eq_some_iff.1 hu).1; simpa using this
  refine ⟨hj, ?_⟩
  rw [List.getElem?_map] at hu
  simp [hj] at hu
  subst hu
  simp [hj]

theorem below_grown {w w1 : World} {base : Nat} {row : Option Nat} (hg : w.grownBy w1 row) (hb : base ≤ w.heap.size) (hr : ∀ k, row = some k → base ≤ k) : Below base w w1 := (Below.refl _ _).grown hg hb hr

/-- append of a row onto a row of one's own -/
theorem append_row {P : Program} {w : World} {base : Nat} {t ty e : TypeId} {i : TypeInfo} {z : Value} {k : IntKind} {bytes : Nat} {B : Nat → Prop} (ht : P.underlying t = some (.slice e)) (hi : P.info? e = some i) (hz : i.zero = some z) (hsize : i.size = 1) (hby : i.bytes = bytes) (hzs : z.cells.size = 1)
    {v x : Value} {xs zs : List Int} (hown : w.ownsRow base e 1 v xs.length (xs.map (Value.int k))) (hx : Row k B w x zs) (hm : xs.length + zs.length ≤ maxLen) (hb : (xs.length + zs.length) * bytes ≤ 140737488355328) (hbase : base ≤ w.heap.size) :
    ∃ v' w', (Builtin.append_ #[t, t] ty #[v, x]).run P w = .ok v' w' ∧ w'.ownsRow base e 1 v' (xs ++ zs).length ((xs ++ zs).map (Value.int k)) ∧ Below base w w' := by
  have key : ∀ (a : Addr) (c : Nat), (∀ j u, (zs.map (Value.int k))[j]? = some u → w.cell? (a.add j) = some u) → ∃ v' w', (Builtin.append_ #[t, t] ty #[v, .slice (some a) zs.length c]).run P w = .ok v' w' ∧ w'.ownsRow base e 1 v' (xs ++ zs).length ((xs ++ zs).map (Value.int k)) ∧ Below base w w' := by
    intro a c hc
    obtain ⟨v', w', hr, r1, r2, _⟩ := run_append_own (P := P) w base t ty e i z 1 bytes ht hi hz hsize hby hzs (by omega) v xs.length (xs.map (Value.int k)) hown a zs.length c (zs.map (Value.int k)) (by simp) hc (ints_oneCell _ _) hm hb hbase
    exact ⟨v', w', hr, by rw [List.length_append, List.map_append]; exact r1, below_grown r2 hbase (own_base hown)⟩
  rcases hx with ⟨a, c, rfl, hn, _, rfl⟩ | ⟨b, off, c, rfl, h1, h2, h3, h4⟩
  · cases a with
    | none =>
      obtain rfl := hn rfl
      exact ⟨v, w, run_append_owned_none (P := P) w base t ty e i 1 ht hi v _ _ hown, by simpa using hown, Below.refl _ _⟩
    | some a => exact key a c (fun j u hu => by simp at hu)
  · refine key _ c (fun j u hu => ?_)
    obtain ⟨hj, rfl⟩ := getD_map hu
    rw [Addr.add_lit]
    exact h4 j hj

/-- append, of which the run is known, in a list of operations -/
theorem list_append_run {P : Program} {ops : Array Oper} {rest : List Oper} {o : Oper} {a : Act} {w : World} {Q : Exit → Act → World → Prop}
    (hg : o.guard = none) (s x : Operand) (t : TypeId) (hop : o.op = Op.call { callee := Callee.builtin Builtin.append, args := #[s, x], argTypes := #[t, t] }) (v xv v' : Value) (w' : World) (hs : a.eval s = v) (hx : a.eval x = xv)
    (hrun : (Builtin.append_ #[t, t] o.type #[v, xv]).run P w = .ok v' w') (hK : wpList P ops Q rest (a.put o.dst v') w') : wpList P ops Q (o :: rest) a w := by
  refine wpList_plain hg fun K' hK' => ?_
  unfold Oper.wp
  simp [execOp, hop, resolve, invoke, builtin, hs, hx, hrun, Result.andThen]
  exact hK' _ _ hK

/-- a row from a place on -/
theorem cut_from {P : Program} {w : World} {t e : TypeId} {i : TypeInfo} {k ki : IntKind} {B : Nat → Prop} {x : Value} {zs : List Int} (ht : P.underlying t = some (.slice e)) (hi : P.info? e = some i) (hs : i.size = 1) (h : Row k B w x zs) (n : Nat) (hn : n ≤ zs.length) :
    ∃ x', (∀ u : World, (Instr.slice t x (some (.int ki (n : Int))) none none).run P u = .ok x' u) ∧ Row k B w x' (zs.drop n) := by
  rcases h with ⟨a, c, rfl, hnil, hc, rfl⟩ | ⟨b, off, c, rfl, h1, h2, h3, h4⟩
  · obtain rfl : n = 0 := by simpa using hn
    refine ⟨.slice a 0 c, fun u => ?_, .inl ⟨a, c, rfl, hnil, hc, by simp⟩⟩
    cases a with
    | none => obtain rfl := hnil rfl; simp [Instr.slice, run_underlying ht, Instr.sliceBounds, Instr.sliceBound, asIntOf, sizeOf, typeInfo, hi, Result.andThen]
    | some a =>
      by_cases hc0 : c = 0
      · subst hc0; simp [Instr.slice, run_underlying ht, Instr.sliceBounds, Instr.sliceBound, asIntOf, sizeOf, typeInfo, hi, Result.andThen]
      · simp [Instr.slice, run_underlying ht, Instr.sliceBounds, Instr.sliceBound, asIntOf, sizeOf, typeInfo, hi, Result.andThen, hc0, Addr.add]
  · have hle : (n : Int) ≤ (zs.length : Int) := by omega
    by_cases hc : c = n
    · subst hc
      have hz : zs.drop c = [] := List.drop_of_length_le (by omega)
      rw [hz]
      refine ⟨.slice (some ⟨b, off, none⟩) 0 0, fun u => ?_, .inl ⟨_, _, rfl, (fun h => by cases h), Nat.zero_le _, rfl⟩⟩
      have : zs.length = c := by omega
      simp [Instr.slice, run_underlying ht, Instr.sliceBounds, Instr.sliceBound, asIntOf, sizeOf, typeInfo, hi, Result.andThen, this]
    · refine ⟨.slice (some ⟨b, off + n, none⟩) (zs.length - n) (c - n), fun u => ?_, .inr ⟨b, off + n, c - n, by simp, by simp; omega, by omega, h3, fun j hj => ?_⟩⟩
      · simp [Instr.slice, run_underlying ht, Instr.sliceBounds, Instr.sliceBound, asIntOf, sizeOf, typeInfo, hi, Result.andThen, hc, hs, Addr.add_lit, hle, hn]
      · simp at hj
        rw [Nat.add_assoc, h4 (n + j) (by omega)]
        simp [List.getD_eq_getElem?_getD]

/-- a row up to a place -/
theorem cut_to {P : Program} {w : World} {t e : TypeId} {i : TypeInfo} {k ki : IntKind} {B : Nat → Prop} {x : Value} {zs : List Int} (ht : P.underlying t = some (.slice e)) (hi : P.info? e = some i) (hs : i.size = 1) (h : Row k B w x zs) (n : Nat) (hn : n ≤ zs.length) :
    ∃ x', (∀ u : World, (Instr.slice t x none (some (.int ki (n : Int))) none).run P u = .ok x' u) ∧ Row k B w x' (zs.take n) := by
  rcases h with ⟨a, c, rfl, hnil, hc, rfl⟩ | ⟨b, off, c, rfl, h1, h2, h3, h4⟩
  · obtain rfl : n = 0 := by simpa using hn
    refine ⟨.slice a 0 c, fun u => ?_, .inl ⟨a, c, rfl, hnil, hc, by simp⟩⟩
    cases a with
    | none => obtain rfl := hnil rfl; simp [Instr.slice, run_underlying ht, Instr.sliceBounds, Instr.sliceBound, asIntOf, sizeOf, typeInfo, hi, Result.andThen]
    | some a =>
      by_cases hc0 : c = 0
      · subst hc0; simp [Instr.slice, run_underlying ht, Instr.sliceBounds, Instr.sliceBound, asIntOf, sizeOf, typeInfo, hi, Result.andThen]
      · simp [Instr.slice, run_underlying ht, Instr.sliceBounds, Instr.sliceBound, asIntOf, sizeOf, typeInfo, hi, Result.andThen, hc0, Addr.add]
  · have hle : n ≤ c := by omega
    refine ⟨.slice (some ⟨b, off, none⟩) n c, fun u => ?_, .inr ⟨b, off, c, by simp; omega, by simp; omega, h2, h3, fun j hj => ?_⟩⟩
    · simp [Instr.slice, run_underlying ht, Instr.sliceBounds, Instr.sliceBound, asIntOf, sizeOf, typeInfo, hi, Result.andThen, Addr.add, hle]
    · simp at hj
      rw [h4 j (by omega)]
      simp [List.getD_eq_getElem?_getD, List.getElem?_take, show j < n by omega]

/-- a row from a place up to another -/
theorem cut_mid {P : Program} {w : World} {t e : TypeId} {i : TypeInfo} {k : IntKind} {B : Nat → Prop} {x : Value} {zs : List Int} (ht : P.underlying t = some (.slice e)) (hi : P.info? e = some i) (hs : i.size = 1) (h : Row k B w x zs) (m n : Nat) (hn : m + n ≤ zs.length) :
    ∃ x', (∀ u : World, (Instr.slice t x (some (.int .i64 (m : Int))) (some (.int .i64 ((m + n : Nat) : Int))) none).run P u = .ok x' u) ∧ Row k B w x' ((zs.drop m).take n) := by
  rcases h with ⟨a, c, rfl, hnil, hc, rfl⟩ | ⟨b, off, c, rfl, h1, h2, h3, h4⟩
  · obtain ⟨rfl, rfl⟩ : m = 0 ∧ n = 0 := by simp at hn; omega
    refine ⟨.slice a 0 c, fun u => ?_, .inl ⟨a, c, rfl, hnil, hc, by simp⟩⟩
    cases a with
    | none => obtain rfl := hnil rfl; simp [Instr.slice, run_underlying ht, Instr.sliceBounds, Instr.sliceBound, asIntOf, sizeOf, typeInfo, hi, Result.andThen]
    | some a =>
      by_cases hc0 : c = 0
      · subst hc0; simp [Instr.slice, run_underlying ht, Instr.sliceBounds, Instr.sliceBound, asIntOf, sizeOf, typeInfo, hi, Result.andThen]
      · simp [Instr.slice, run_underlying ht, Instr.sliceBounds, Instr.sliceBound, asIntOf, sizeOf, typeInfo, hi, Result.andThen, Addr.add]
  · have hle : m + n ≤ c := by omega
    have hle2 : (m : Int) + n ≤ (c : Int) := by omega
    have hle3 : m ≤ m + n := by omega
    by_cases hc : c = m
    · subst hc
      obtain rfl : n = 0 := by omega
      rw [List.take_zero]
      refine ⟨.slice (some ⟨b, off, none⟩) 0 0, fun u => ?_, .inl ⟨_, _, rfl, (fun h => by cases h), Nat.zero_le _, rfl⟩⟩
      simp [Instr.slice, run_underlying ht, Instr.sliceBounds, Instr.sliceBound, asIntOf, sizeOf, typeInfo, hi, Result.andThen]
    · have hln : ((zs.drop m).take n).length = n := by simp; omega
      refine ⟨.slice (some ⟨b, off + m, none⟩) n (c - m), fun u => ?_, .inr ⟨b, off + m, c - m, by rw [hln], by rw [hln]; omega, by omega, h3, fun j hj => ?_⟩⟩
      · have hsub : m + n - m = n := by omega
        have h0 : (0 : Int) ≤ (m : Int) + n := by omega
        have hto : ((m : Int) + n).toNat = m + n := by omega
        simp [Instr.slice, run_underlying ht, Instr.sliceBounds, Instr.sliceBound, asIntOf, sizeOf, typeInfo, hi, Result.andThen, hc, hs, Addr.add_lit, hle2, hsub, h0, hto]
      · rw [hln] at hj
        rw [Nat.add_assoc, h4 (m + j) (by omega)]
        simp [List.getD_eq_getElem?_getD, List.getElem?_take, hj]

theorem getD_byte {zs : List Int} (h : Bytes zs) {j : Nat} (hj : j < zs.length) : 0 ≤ zs.getD j 0 ∧ zs.getD j 0 < 256 := h _ (by simp [hj])
theorem drop_cons (zs : List Int) (k : Nat) (h : k < zs.length) : zs.drop k = zs.getD k 0 :: zs.drop (k + 1) := by
  rw [List.drop_eq_getElem_cons h]; simp [h]
theorem Bytes.drop {zs : List Int} (h : Bytes zs) (n : Nat) : Bytes (zs.drop n) := fun x hx => h x (List.mem_of_mem_drop hx)
theorem Bytes.take {zs : List Int} (h : Bytes zs) (n : Nat) : Bytes (zs.take n) := fun x hx => h x (List.mem_of_mem_take hx)
theorem Bytes.append {xs zs : List Int} (h : Bytes xs) (h' : Bytes zs) : Bytes (xs ++ zs) := fun x hx => (List.mem_append.1 hx).elim (h x) (h' x)

theorem info_u8 : (Tryz.prog.info? 5).map (fun i => (i.zero, i.size, i.bytes)) = some (some (.int .u8 0), 1, 1) := by kernel_rfl
end Go.Proofs.YthikiahhochjmaaGreatDoor


namespace Go.Proofs.YthikiahhochjmaaGreatDoor
open Go.RowKit Go.Maps
set_option linter.unusedVariables false
set_option linter.unusedSimpArgs false

theorem Turn.undrew {F : Nat → Prop} {w w' : World} (h : Turn F w.drew w') : Turn F w w' := ⟨h.os, h.tape, h.output, h.size, h.block⟩
theorem Turn.same {F : Nat → Prop} {w w' : World} (h : Turn F w w') {k : Nat} {o : Obj} (hk : w.heap[k]? = some o) (hn : ¬ F k) : w'.heap[k]? = some o :=
  (h.block k (Array.getElem?_eq_some_iff.1 hk).1 hn).trans hk
/-- a slice that owns its row from a place on, its spare room too -/
def OwnSl (w : World) (e : TypeId) (s : Nat) (v : Value) (n : Nat) (xs : List Value) : Prop :=
  xs.length = n * s ∧ ((v = .slice none 0 0 ∧ n = 0) ∨
    ∃ g off cap cur, v = .slice (some ⟨g, off, none⟩) n cap ∧ w.heap[g]? = some (.cells cur e (0, 0)) ∧ n ≤ cap ∧ cap ≤ maxLen ∧ off + cap * s ≤ cur.size ∧ (cur.toList.drop off).take (n * s) = xs)

theorem OwnSl.lt {w : World} {e : TypeId} {s : Nat} {v : Value} {n : Nat} {xs : List Value} (h : OwnSl w e s v n xs) : ∀ k, v.ownBlock = some k → ∃ cur, w.heap[k]? = some (.cells cur e (0, 0)) := by
  intro k hk
  rcases h.2 with ⟨rfl, _⟩ | ⟨g, off, cap, cur, rfl, hg, _⟩
  · simp [Value.ownBlock] at hk
  · simp [Value.ownBlock] at hk
    subst hk
    exact ⟨cur, hg⟩
theorem OwnSl.kept {w w' : World} {e : TypeId} {s : Nat} {v : Value} {n : Nat} {xs : List Value} (h : OwnSl w e s v n xs) (hb : ∀ k, v.ownBlock = some k → w'.heap[k]? = w.heap[k]?) : OwnSl w' e s v n xs := by
  refine ⟨h.1, ?_⟩
  rcases h.2 with hn | ⟨g, off, cap, cur, rfl, hg, rest⟩
  · exact .inl hn
  · exact .inr ⟨g, off, cap, cur, rfl, (hb g rfl).trans hg, rest⟩
theorem OwnSl.turn {F : Nat → Prop} {w w' : World} {e : TypeId} {s : Nat} {v : Value} {n : Nat} {xs : List Value} (h : OwnSl w e s v n xs) (ht : Turn F w w') (hn : ∀ k, v.ownBlock = some k → ¬ F k) : OwnSl w' e s v n xs :=
  h.kept (fun k hk => by obtain ⟨cur, hc⟩ := h.lt k hk; exact ht.block k (Array.getElem?_eq_some_iff.1 hc).1 (hn k hk))
theorem OwnSl.of_owns {w : World} {base : Nat} {e : TypeId} {s : Nat} {v : Value} {n : Nat} {xs : List Value} (h : w.ownsRow base e s v n xs) : OwnSl w e s v n xs := by
  refine ⟨h.1, ?_⟩
  rcases h.2 with hn | ⟨g, cap, cur, hv, _, hg, h1, h2, h3, h4⟩
  · exact .inl hn
  · exact .inr ⟨g, 0, cap, cur, hv, hg, h1, h2, by omega, by simpa using h4⟩
theorem OwnSl.cells {w : World} {e : TypeId} {s n g off cap : Nat} {xs : List Value} (h : OwnSl w e s (.slice (some ⟨g, off, none⟩) n cap) n xs) : ∀ j u, xs[j]? = some u → w.cell? ⟨g, off + j, none⟩ = some u := by
  intro j u hu
  rcases h.2 with ⟨hv, _⟩ | ⟨g', off', cap', cur, hv, hg, _, _, _, ht⟩
  · simp at hv
  · simp only [Value.slice.injEq, Option.some.injEq, Addr.mk.injEq, and_true, true_and] at hv
    obtain ⟨⟨rfl, rfl⟩, rfl⟩ := hv
    rw [cell_of_row w g (off + j) cur e (0, 0) hg]
    rw [← ht, List.getElem?_take, List.getElem?_drop] at hu
    split at hu
    · simpa using hu
    · cases hu

theorem cell_some {w : World} {g j : Nat} {cur : Array Value} {e : TypeId} (hg : w.heap[g]? = some (.cells cur e (0, 0))) (hj : j < cur.size) : (w.cell? ⟨g, j, none⟩).isSome = true ∧ w.frozen? ⟨g, j, none⟩ = false := by
  rw [cell_of_row w g j cur e (0, 0) hg]
  refine ⟨by simp [hj], ?_⟩
  simp [World.frozen?, hg]

/-- a write of neighbouring cells into a row -/
theorem heap_setCells {g : Nat} {e : TypeId} : ∀ (vs : List Value) (o : Nat) (w : World) (cur : Array Value), w.heap[g]? = some (.cells cur e (0, 0)) → o + vs.length ≤ cur.size →
    ∃ cur', (w.setCells g o vs).heap[g]? = some (.cells cur' e (0, 0)) ∧ cur'.size = cur.size ∧ ∀ j, cur'[j]? = if o ≤ j ∧ j < o + vs.length then vs[j - o]? else cur[j]?
  | [], o, w, cur, h, _ => ⟨cur, h, rfl, fun j => by rw [if_neg (by simp)]⟩
  | v :: vs, o, w, cur, h, hl => by
    have h1 : (w.setCell ⟨g, o, none⟩ v).heap[g]? = some (.cells (cur.setIfInBounds o v) e (0, 0)) := by
      have hlt := (Array.getElem?_eq_some_iff.1 h).1
      have h' := (Array.getElem?_eq_some_iff.1 h).2
      show (w.heap.modify g _)[g]? = _
      rw [Array.getElem?_eq_getElem (by rw [Array.size_modify]; exact hlt), Array.getElem_modify_self, h']
      rfl
    obtain ⟨cur', a1, a2, a3⟩ := heap_setCells vs (o + 1) (w.setCell ⟨g, o, none⟩ v) _ h1 (by simp at hl ⊢; omega)
    refine ⟨cur', a1, by simpa using a2, fun j => ?_⟩
    rw [a3 j]
    simp at hl
    by_cases hj : j = o
    · subst hj
      rw [if_neg (by omega), if_pos (by simp)]
      simp [show j < cur.size by omega]
    · by_cases hj2 : o + 1 ≤ j ∧ j < o + 1 + vs.length
      · rw [if_pos hj2, if_pos (by simp; omega)]
        rw [show j - o = (j - (o + 1)) + 1 by omega, List.getElem?_cons_succ]
      · rw [if_neg hj2, if_neg (by simp; omega)]
        simp [show ¬ o = j by omega]

theorem grown_setCell (w : World) (p : Addr) (u : Value) : w.grownBy (w.setCell p u) (some p.block) :=
  ⟨rfl, rfl, rfl, by simp [World.setCell], fun k hk hn => Below.heap_setCell _ _ _ _ (fun e => hn (by rw [e]))⟩
theorem grown_setCells (g : Nat) : ∀ (vs : List Value) (o : Nat) (w : World), w.grownBy (w.setCells g o vs) (some g)
  | [], _, w => ⟨rfl, rfl, rfl, Nat.le_refl _, fun _ _ _ => rfl⟩
  | v :: vs, o, w => by
    have h1 := grown_setCell w ⟨g, o, none⟩ v
    have h2 := grown_setCells g vs (o + 1) (w.setCell ⟨g, o, none⟩ v)
    exact ⟨h2.os.trans h1.os, h2.tape.trans h1.tape, h2.output.trans h1.output, Nat.le_trans h1.size h2.size, fun k hk hn => (h2.block k (Nat.lt_of_lt_of_le hk h1.size) hn).trans (h1.block k hk hn)⟩

/-- append onto such a slice -/
theorem run_append_sl {P : Program} {w : World} {t ty e : TypeId} {i : TypeInfo} {z : Value} {size bytes : Nat} (ht : P.underlying t = some (.slice e)) (hi : P.info? e = some i) (hz : i.zero = some z)
    (hsize : i.size = size) (hby : i.bytes = bytes) (hzs : z.cells.size = size) (hsz : 0 < size) {v : Value} {n : Nat} {xs : List Value} (h : OwnSl w e size v n xs)
    (a : Addr) (m c : Nat) (news : List Value) (hl : news.length = m * size) (hnews : ∀ j u, news[j]? = some u → w.cell? (a.add j) = some u) (h1 : ∀ u ∈ news, u.oneCell' = true) (hm : n + m ≤ maxLen) (hb : (n + m) * bytes ≤ 140737488355328) (hm0 : 0 < m) :
    ∃ g off cap w', (Builtin.append_ #[t, t] ty #[v, .slice (some a) m c]).run P w = .ok (.slice (some ⟨g, off, none⟩) (n + m) cap) w' ∧ OwnSl w' e size (.slice (some ⟨g, off, none⟩) (n + m) cap) (n + m) (xs ++ news) ∧ w.grownBy w' v.ownBlock ∧ (v.ownBlock = some g ∨ w.heap.size ≤ g) := by
  have form : ∀ {w' : World} {v' : Value}, w'.ownsRow w.heap.size e size v' (n + m) (xs ++ news) → ∃ g off cap, v' = .slice (some ⟨g, off, none⟩) (n + m) cap ∧ w.heap.size ≤ g := by
    intro w' v' ho
    rcases ho.2 with ⟨_, h0⟩ | ⟨g, cap, cur, rfl, hb, _⟩
    · omega
    · exact ⟨g, 0, cap, rfl, hb⟩
  rcases h.2 with ⟨rfl, rfl⟩ | ⟨g, off, cap, cur, rfl, hg, hnc, hcm, hfit, htk⟩
  · obtain rfl : xs = [] := List.eq_nil_of_length_eq_zero (by simpa using h.1)
    obtain ⟨v', w', hrun, r1, r2, _⟩ := run_append_own (P := P) w w.heap.size t ty e i z size bytes ht hi hz hsize hby hzs hsz (.slice none 0 0) 0 [] (World.ownsRow_nil w _ e size) a m c news hl hnews h1 hm hb (Nat.le_refl _)
    obtain ⟨g, off, cap, rfl, hge⟩ := form r1
    exact ⟨g, off, cap, w', hrun, OwnSl.of_owns r1, r2, .inr hge⟩
  · by_cases hr : n + m ≤ cap
    · subst hsize
      have hsp : n * i.size + news.length ≤ cap * i.size := by rw [hl, ← Nat.add_mul]; exact Nat.mul_le_mul_right _ hr
      have hrun := run_append_room_cells (P := P) w t ty e i ht hi g off n cap a m c news hl hnews h1 hr (fun j hj => (cell_some hg (by omega)).1) (fun j hj => (cell_some hg (by omega)).2)
      obtain ⟨cur', c1, c2, c3⟩ := heap_setCells news (off + n * i.size) w cur hg (by omega)
      refine ⟨g, off, cap, _, hrun, ⟨by rw [List.length_append, h.1, hl, Nat.add_mul], .inr ⟨g, off, cap, cur', rfl, c1, hr, hcm, by omega, ?_⟩⟩, grown_setCells g _ _ w, .inl rfl⟩
      · apply List.ext_getElem?
        intro j
        have hxl := h.1
        rw [List.getElem?_take, List.getElem?_drop]
        split
        · rename_i hj
          rw [show cur'.toList[off + j]? = cur'[off + j]? by simp, c3]
          have htk' : ∀ q, q < n * i.size → cur[off + q]? = xs[q]? := by
            intro q hq
            rw [← htk, List.getElem?_take, if_pos hq, List.getElem?_drop]
            simp
          by_cases hj2 : j < n * i.size
          · rw [if_neg (by omega), List.getElem?_append_left (by omega), htk' j hj2]
          · rw [Nat.add_mul] at hj
            rw [if_pos (by omega), List.getElem?_append_right (by omega), hxl, show off + j - (off + n * i.size) = j - n * i.size by omega]
        · rename_i hj
          rw [Nat.add_mul] at hj
          rw [List.getElem?_eq_none (by rw [List.length_append]; omega)]
    · obtain ⟨v', w', hrun, r1, r2⟩ := run_append_arg_grows (P := P) w t ty e i z size bytes ht hi hz hsize hby hzs hsz ⟨g, off, none⟩ n cap xs h.1 (fun j u hj => by rw [Addr.add_lit]; exact h.cells j u hj) a m c news hl hnews (by omega) hm hb
      obtain ⟨g', off', cap', rfl, hge⟩ := form r1
      exact ⟨g', off', cap', w', hrun, OwnSl.of_owns r1, ⟨r2.os, r2.tape, r2.output, r2.size, fun k hk _ => r2.block k hk (by simp)⟩, .inr hge⟩


theorem OwnSl.neObj {w : World} {e e' : TypeId} {s : Nat} {v : Value} {n : Nat} {xs : List Value} {B : Nat} {cur : Array Value} (h : OwnSl w e s v n xs) (hB : w.heap[B]? = some (.cells cur e' (0, 0))) (he : e ≠ e') : ∀ j, v.ownBlock = some j → j ≠ B := by
  rintro j hj rfl
  obtain ⟨cur, hcur⟩ := h.lt j hj
  rw [hcur] at hB; cases hB; exact he rfl
theorem cell_obj {w : World} {g : Nat} {cur : Array Value} {e : TypeId} {fr : Nat × Nat} (hg : w.heap[g]? = some (.cells cur e fr)) (j : Nat) : w.cell? ⟨g, j, none⟩ = cur[j]? := cell_of_row w g j cur e fr hg
theorem frozen_obj {w : World} {g : Nat} {cur : Array Value} {e : TypeId} (hg : w.heap[g]? = some (.cells cur e (0, 0))) (j : Nat) : w.frozen? ⟨g, j, none⟩ = false := by simp [World.frozen?, hg]
theorem heap_alloc_new (w : World) (o : Obj) : (w.alloc o).heap[w.heap.size]? = some o := (MapKept.heap_alloc w o).1
theorem heap_setCell_obj {w : World} {g j : Nat} {cur : Array Value} {e : TypeId} (h : w.heap[g]? = some (.cells cur e (0, 0))) (v : Value) : (w.setCell ⟨g, j, none⟩ v).heap[g]? = some (.cells (cur.setIfInBounds j v) e (0, 0)) := by
  have hlt := (Array.getElem?_eq_some_iff.1 h).1
  have h' := (Array.getElem?_eq_some_iff.1 h).2
  show (w.heap.modify g _)[g]? = _
  rw [Array.getElem?_eq_getElem (by rw [Array.size_modify]; exact hlt), Array.getElem_modify_self, h']
  rfl
theorem row_of_sl {w : World} {e : TypeId} {v : Value} {k : IntKind} {ys : List Int} (h : OwnSl w e 1 v ys.length (ys.map (Value.int k))) : Row k (fun b => v.ownBlock = some b) w v ys := by
  rcases h.2 with ⟨rfl, h0⟩ | ⟨g, off, cap, cur, rfl, hg, hn, hm, hs, ht⟩
  · have : ys = [] := List.eq_nil_of_length_eq_zero h0
    exact .inl ⟨none, 0, rfl, fun _ => rfl, Nat.zero_le _, this⟩
  · refine .inr ⟨g, off, cap, rfl, hn, hm, rfl, fun i hi => ?_⟩
    refine h.cells i _ ?_
    simp [hi]

/-- elements that are read: so many, each of s cells -/
def Src (s : Nat) (w : World) (x : Value) (m : Nat) (news : List Value) : Prop :=
  news.length = m * s ∧ ((∃ a c, x = .slice a 0 c ∧ (a = none → c = 0) ∧ m = 0) ∨ ∃ a c, x = .slice (some a) m c ∧ 0 < m ∧ ∀ j u, news[j]? = some u → w.cell? (a.add j) = some u)

theorem Src.turn {F : Nat → Prop} {s : Nat} {w w' : World} {x : Value} {m : Nat} {news : List Value} (h : Src s w x m news) (t : Turn F w w') (hF : ∀ k, x.ownBlock = some k → ¬ F k) : Src s w' x m news := by
  refine ⟨h.1, ?_⟩
  rcases h.2 with h | ⟨a, c, rfl, h0, hc⟩
  · exact .inl h
  · refine .inr ⟨a, c, rfl, h0, fun j u hu => t.cell (hc j u hu) ?_⟩
    have : (a.add j).block = a.block := by unfold Addr.add; split <;> rfl
    rw [this]
    exact hF a.block rfl
theorem OwnSl.src {w : World} {e : TypeId} {s : Nat} {v : Value} {n : Nat} {xs : List Value} (h : OwnSl w e s v n xs) : Src s w v n xs := by
  refine ⟨h.1, ?_⟩
  have h' := h
  rcases h.2 with ⟨rfl, rfl⟩ | ⟨g, off, cap, cur, rfl, hg, hnc, hcm, hfit, htk⟩
  · exact .inl ⟨none, 0, rfl, fun _ => rfl, rfl⟩
  · by_cases h0 : n = 0
    · subst h0; exact .inl ⟨_, _, rfl, (fun h => by cases h), rfl⟩
    · exact .inr ⟨_, _, rfl, by omega, fun j u hu => by rw [Addr.add_lit]; exact h'.cells j u hu⟩
theorem src_row {k : IntKind} {B : Nat → Prop} {w : World} {x : Value} {zs : List Int} (h : Row k B w x zs) : Src 1 w x zs.length (zs.map (Value.int k)) := by
  refine ⟨by simp, ?_⟩
  rcases h with ⟨a, c, rfl, ha, _, rfl⟩ | ⟨b, off, c, rfl, h1, h2, h3, h4⟩
  · exact .inl ⟨a, c, rfl, ha, rfl⟩
  · by_cases h0 : zs.length = 0
    · exact .inl ⟨_, _, by rw [h0], (fun h => by cases h), h0⟩
    · refine .inr ⟨_, _, rfl, by omega, fun j u hu => ?_⟩
      obtain ⟨hj, rfl⟩ := getD_map hu
      rw [Addr.add_lit]
      exact h4 j hj

/-- append onto a slice of one's own -/
theorem append_src {P : Program} {w : World} {t ty e : TypeId} {i : TypeInfo} {z : Value} {s bytes : Nat} (ht : P.underlying t = some (.slice e)) (hi : P.info? e = some i) (hz : i.zero = some z)
    (hsize : i.size = s) (hby : i.bytes = bytes) (hzs : z.cells.size = s) (hs : 0 < s) {v x : Value} {n m : Nat} {xs news : List Value} (h : OwnSl w e s v n xs) (hx : Src s w x m news) (h1 : ∀ u ∈ news, u.oneCell' = true) (hm : n + m ≤ maxLen) (hb : (n + m) * bytes ≤ 140737488355328) :
    ∃ v' w', (Builtin.append_ #[t, t] ty #[v, x]).run P w = .ok v' w' ∧ OwnSl w' e s v' (n + m) (xs ++ news) ∧ Turn (fun j => v.ownBlock = some j) w w' ∧ (∀ j, v'.ownBlock = some j → v.ownBlock = some j ∨ w.heap.size ≤ j) := by
  rcases hx.2 with ⟨a, c, rfl, ha, rfl⟩ | ⟨a, c, rfl, h0, hc⟩
  · have hn : news = [] := List.eq_nil_of_length_eq_zero (by simpa using hx.1)
    subst hn
    refine ⟨v, w, ?_, by simpa using h, Turn.refl _ _, fun j hj => .inl hj⟩
    rcases h.2 with ⟨rfl, h0⟩ | ⟨g, off, cap, cur, rfl, hg, hnc, hcm, hfit, htk⟩
    · cases a <;> simp [Builtin.append_, run_underlying ht, sizeOf, typeInfo, hi, Builtin.lenOf, Builtin.firstCells, loadCells, loadCellsFrom, Result.andThen]
    · cases a <;> simp [Builtin.append_, run_underlying ht, sizeOf, typeInfo, hi, Builtin.lenOf, Builtin.firstCells, hnc, storeCells, loadCells, loadCellsFrom, Result.andThen]
  · obtain ⟨g, off', cap, w', hrun, q, gr, hl⟩ := run_append_sl (P := P) (w := w) (t := t) (ty := ty) ht hi hz hsize hby hzs hs h a m c news hx.1 hc h1 hm hb h0
    refine ⟨_, w', hrun, q, Turn.grown gr (fun j hj => hj), fun j hj => ?_⟩
    simp [Value.ownBlock] at hj
    subst hj
    exact hl

/-- elements from a place on -/
theorem cutS_from {P : Program} {w : World} {t e : TypeId} {i : TypeInfo} {ki : IntKind} {s : Nat} (ht : P.underlying t = some (.slice e)) (hi : P.info? e = some i) (hs : i.size = s) {v : Value} {n : Nat} {xs : List Value} (h : OwnSl w e s v n xs) (k : Nat) (hk : k ≤ n) :
    ∃ x, (∀ u : World, (Instr.slice t v (some (.int ki (k : Int))) none none).run P u = .ok x u) ∧ Src s w x (n - k) (xs.drop (k * s)) ∧ (∀ j, x.ownBlock = some j → v.ownBlock = some j) := by
  have hl : (xs.drop (k * s)).length = (n - k) * s := by rw [List.length_drop, h.1, Nat.sub_mul]
  have h' := h
  rcases h.2 with ⟨rfl, rfl⟩ | ⟨g, off, cap, cur, rfl, hg, hnc, hcm, hfit, htk⟩
  · obtain rfl : k = 0 := by omega
    refine ⟨.slice none 0 0, fun u => ?_, ⟨hl, .inl ⟨none, 0, rfl, fun _ => rfl, rfl⟩⟩, fun j hj => hj⟩
    simp [Instr.slice, run_underlying ht, Instr.sliceBounds, Instr.sliceBound, asIntOf, sizeOf, typeInfo, hi, Result.andThen]
  · have hle : (k : Int) ≤ (n : Int) := by omega
    by_cases hc : cap = k
    · subst hc
      obtain rfl : n = cap := by omega
      refine ⟨.slice (some ⟨g, off, none⟩) 0 0, fun u => ?_, ⟨hl, .inl ⟨_, _, rfl, (fun h => by cases h), by omega⟩⟩, fun j hj => hj⟩
      simp [Instr.slice, run_underlying ht, Instr.sliceBounds, Instr.sliceBound, asIntOf, sizeOf, typeInfo, hi, Result.andThen]
    · refine ⟨.slice (some ⟨g, off + k * s, none⟩) (n - k) (cap - k), fun u => ?_, ⟨hl, ?_⟩, fun j hj => hj⟩
      · simp [Instr.slice, run_underlying ht, Instr.sliceBounds, Instr.sliceBound, asIntOf, sizeOf, typeInfo, hi, Result.andThen, hc, hs, Addr.add_lit, hle, hk]
      · by_cases h0 : n - k = 0
        · exact .inl ⟨_, _, by rw [h0], (fun h => by cases h), h0⟩
        · refine .inr ⟨_, _, rfl, by omega, fun j u hu => ?_⟩
          rw [List.getElem?_drop] at hu
          rw [Addr.add_lit, Nat.add_assoc]
          exact h'.cells _ u hu
/-- elements up to a place -/
theorem cutS_to {P : Program} {w : World} {t e : TypeId} {i : TypeInfo} {ki : IntKind} {s : Nat} (ht : P.underlying t = some (.slice e)) (hi : P.info? e = some i) (hs : i.size = s) {v : Value} {n : Nat} {xs : List Value} (h : OwnSl w e s v n xs) (k : Nat) (hk : k ≤ n) :
    ∃ x, (∀ u : World, (Instr.slice t v none (some (.int ki (k : Int))) none).run P u = .ok x u) ∧ Src s w x k (xs.take (k * s)) ∧ (∀ j, x.ownBlock = some j → v.ownBlock = some j) := by
  have hl : (xs.take (k * s)).length = k * s := by rw [List.length_take, h.1]; exact Nat.min_eq_left (Nat.mul_le_mul_right _ hk)
  have h' := h
  rcases h.2 with ⟨rfl, rfl⟩ | ⟨g, off, cap, cur, rfl, hg, hnc, hcm, hfit, htk⟩
  · obtain rfl : k = 0 := by omega
    refine ⟨.slice none 0 0, fun u => ?_, ⟨hl, .inl ⟨none, 0, rfl, fun _ => rfl, rfl⟩⟩, fun j hj => hj⟩
    simp [Instr.slice, run_underlying ht, Instr.sliceBounds, Instr.sliceBound, asIntOf, sizeOf, typeInfo, hi, Result.andThen]
  · have hle : k ≤ cap := by omega
    refine ⟨.slice (some ⟨g, off, none⟩) k cap, fun u => ?_, ⟨hl, ?_⟩, fun j hj => hj⟩
    · by_cases hc0 : cap = 0
      · obtain rfl : k = 0 := by omega
        subst hc0
        simp [Instr.slice, run_underlying ht, Instr.sliceBounds, Instr.sliceBound, asIntOf, sizeOf, typeInfo, hi, Result.andThen, Addr.add]
      · simp [Instr.slice, run_underlying ht, Instr.sliceBounds, Instr.sliceBound, asIntOf, sizeOf, typeInfo, hi, Result.andThen, Addr.add, hle, hc0]
    · by_cases h0 : k = 0
      · exact .inl ⟨_, _, by rw [h0], (fun h => by cases h), h0⟩
      · refine .inr ⟨_, _, rfl, by omega, fun j u hu => ?_⟩
        rw [List.getElem?_take] at hu
        split at hu
        · rw [Addr.add_lit]; exact h'.cells _ u hu
        · cases hu
/-- a cell of a row written -/
theorem OwnSl.set {w : World} {e : TypeId} {s g off n cap : Nat} {xs : List Value} (h : OwnSl w e s (.slice (some ⟨g, off, none⟩) n cap) n xs) (j : Nat) (hj : j < n * s) (u : Value) : OwnSl (w.setCell ⟨g, off + j, none⟩ u) e s (.slice (some ⟨g, off, none⟩) n cap) n (xs.set j u) ∧ w.frozen? ⟨g, off + j, none⟩ = false := by
  rcases h.2 with ⟨hv, _⟩ | ⟨g', off', cap', cur, hv, hg, h1, h2, h3, h4⟩
  · simp at hv
  · simp only [Value.slice.injEq, Option.some.injEq, Addr.mk.injEq, and_true, true_and] at hv
    obtain ⟨⟨rfl, rfl⟩, rfl⟩ := hv
    refine ⟨⟨by rw [List.length_set]; exact h.1, .inr ⟨g, off, cap, cur.setIfInBounds (off + j) u, rfl, heap_setCell_obj hg u, h1, h2, by simpa using h3, ?_⟩⟩, frozen_obj hg _⟩
    have hns : n * s ≤ cap * s := Nat.mul_le_mul_right _ h1
    apply List.ext_getElem?
    intro q
    rw [List.getElem?_take, List.getElem?_drop, List.getElem?_set]
    have hq : ∀ q, q < n * s → cur.toList[off + q]? = xs[q]? := fun q hq => by rw [← h4, List.getElem?_take, if_pos hq, List.getElem?_drop]
    split
    · rename_i hlt
      rw [Array.getElem?_toList, Array.getElem?_setIfInBounds]
      by_cases hjq : j = q
      · subst hjq
        rw [if_pos rfl, if_pos (by omega), if_pos rfl, if_pos (by rw [h.1]; exact hj)]
      · rw [if_neg (by omega), if_neg hjq, ← hq q hlt]; simp
    · rename_i hlt
      rw [if_neg (by omega), List.getElem?_eq_none (by rw [h.1]; omega)]

/-- the cells of one file -/
def isSl (v : Value) : Prop := ∃ a n c, v = .slice a n c
end Go.Proofs.YthikiahhochjmaaGreatDoor


namespace Go.Proofs.YthikiahhochjmaaGreatDoor
open Go.RowKit Go.Maps
set_option linter.unusedVariables false

theorem Turn.map {F : Nat → Prop} {H : Type} {w w' : World} {P : Program} {k : TypeId} {R : Value → Option (DataW H × List MemPlace)} {b n : Nat} {D : DataW H} (h : Turn F w w') (ho : w.ownsMap P k R b n D) (hn : ¬ F b) : w'.ownsMap P k R b n D := by
  obtain ⟨es, clock, hb, F', hs, hD⟩ := ho
  exact ⟨es, clock, h.same hb hn, F', hs, hD⟩
theorem Turn.ranges {F : Nat → Prop} {H : Type} {w w' : World} {P : Program} {k : TypeId} {R : Value → Option (DataW H × List MemPlace)} {b r n cnt : Nat} {D : DataW H} {left : Lit → Bool} (h : Turn F w w') (ho : w.ranges P k R b r n D left cnt) (hb : ¬ F b) (hr : ¬ F r) : w'.ranges P k R b r n D left cnt := by
  obtain ⟨es, clock, since, seen, c0, h1, F', h2, h3, h4, rest⟩ := ho
  exact ⟨es, clock, since, seen, c0, h.same h1 hb, F', h2, h3, h.same h4 hr, rest⟩

/-- one entry of a disk's map: its name, the slice of its bytes, these, and how many are safe -/
structure Ent where
  n : Nm
  v : Value
  d : List Int
  s : Nat
def Ent.fl (e : Ent) : Fl := ⟨e.n, e.d, e.s⟩
def Ent.val (e : Ent) : Value := .agg #[e.v, .int .i64 (e.s : Int)]
def Ent.en (e : Ent) : Lit × DataW Value := (.string e.n, .held e.val)
/-- each value is told by itself -/
def rawR (v : Value) : Option (DataW Value × List MemPlace) := some (.held v, [])
def DD (E : List Ent) : DataW Value := .map (E.map Ent.en)

theorem DD_isMap (E : List Ent) : IsMap (DD E) := ⟨_, rfl⟩
theorem DD_size (E : List Ent) : Maps.size (DD E) = E.length := by simp [DD, Maps.size]
theorem DD_del (E : List Ent) (n : Nm) : (DD E).del (.string n) = DD (delK Ent.n n E) := by
  simp only [DD, DataW.del, delK, List.filter_map]
  congr 1
theorem ins_en (e : Ent) : ∀ E : List Ent, DataW.insert e.en (E.map Ent.en) = (insK Ent.n e E).map Ent.en
  | [] => rfl
  | y :: r => by
    simp only [List.map_cons, DataW.insert, insK]
    show (if bytesBefore e.n y.n then _ else _) = _
    rw [ins_en e r]
    split <;> rfl
theorem DD_put (E : List Ent) (e : Ent) : (DD E).put (.string e.n) (.held e.val) = DD (putK Ent.n e E) := by
  have h := DD_del E e.n
  simp only [DD, DataW.del, DataW.map.injEq] at h
  simp only [DD, DataW.put]
  rw [h]
  exact congrArg _ (ins_en e _)
theorem find_en (n : Nm) : ∀ E : List Ent, (E.map Ent.en).find? (fun p => p.1.sameKey (.string n)) = (getK Ent.n n E).map Ent.en := by
  intro E
  unfold getK
  rw [List.find?_map]
  congr 1
theorem DD_at (E : List Ent) (n : Nm) (z : DataW Value) : (DD E).atKey (.string n) z = match getK Ent.n n E with | some e => .held e.val | none => z := by
  simp only [DD, DataW.atKey, find_en]
  cases getK Ent.n n E <;> rfl
theorem DD_has (E : List Ent) (n : Nm) : Maps.has (DD E) (.string n) = (getK Ent.n n E).isSome := by
  show (E.map Ent.en).any (fun p => p.1.sameKey (.string n)) = _
  have h := find_en n E
  cases hg : getK Ent.n n E with
  | some e =>
    rw [hg] at h
    have h1 := List.find?_some h
    have h2 := List.mem_of_find?_eq_some h
    exact List.any_eq_true.2 ⟨_, h2, h1⟩
  | none =>
    rw [hg] at h
    have h1 := List.find?_eq_none.1 h
    rw [Option.isSome_none, List.any_eq_false]
    exact h1
theorem strKeys_DD (E : List Ent) : strKeys (DD E) = E.map Ent.n := by
  simp [DD, strKeys, Ent.en, strOf, Function.comp_def]

theorem ownsMap_tight {H : Type} {w : World} {P : Program} {k : TypeId} {R : Value → Option (DataW H × List MemPlace)} {b n : Nat} {D : DataW H} (h : w.ownsMap P k R b n D) : w.ownsMap P k R b (Maps.size D) D := by
  obtain ⟨es, clock, hb, F, hs, rfl⟩ := h
  exact ⟨es, clock, hb, F, by simp [Maps.size, length_sorted], rfl⟩

/-- a disk in memory: at block B, its map, its entries -/
structure DMem (w : World) (B : Nat) (mv : Option Nat) (E : List Ent) (S : Dk) : Prop where
  obj : w.heap[B]? = some (.cells #[.int .i64 (S.size : Int), .map mv, .bool S.down, .int .u64 (S.arm : Int)] 66 (0, 0))
  map : (mv = none ∧ E = []) ∨ ∃ b, mv = some b ∧ w.ownsMap Tryz.prog 9 rawR b E.length (DD E)
  own : ∀ e ∈ E, OwnSl w 5 1 e.v e.d.length (e.d.map (Value.int .u8))
  apart : E.Pairwise (fun x y => ∀ j, x.v.ownBlock = some j → y.v.ownBlock ≠ some j)
  fs : S.fs = E.map Ent.fl
  well : Well S
def DFoot (B : Nat) (mv : Option Nat) (E : List Ent) (j : Nat) : Prop := j = B ∨ mv = some j ∨ ∃ e ∈ E, e.v.ownBlock = some j
/-- a disk whose blocks are some of F -/
def DAt (w : World) (B : Nat) (F : Nat → Prop) (S : Dk) : Prop := ∃ mv E, DMem w B mv E S ∧ ∀ j, DFoot B mv E j → F j

theorem DMem.lt {w : World} {B : Nat} {mv : Option Nat} {E : List Ent} {S : Dk} (h : DMem w B mv E S) : ∀ j, DFoot B mv E j → j < w.heap.size := by
  rintro j (rfl | hj | ⟨e, he, hj⟩)
  · exact (Array.getElem?_eq_some_iff.1 h.obj).1
  · rcases h.map with ⟨h1, _⟩ | ⟨b, h1, h2⟩
    · rw [h1] at hj; cases hj
    · rw [h1] at hj; cases hj; exact h2.lt
  · obtain ⟨cur, hc⟩ := (h.own e he).lt j hj; exact (Array.getElem?_eq_some_iff.1 hc).1
theorem DMem.turn {F : Nat → Prop} {w w' : World} {B : Nat} {mv : Option Nat} {E : List Ent} {S : Dk} (h : DMem w B mv E S) (t : Turn F w w') (hF : ∀ j, DFoot B mv E j → ¬ F j) : DMem w' B mv E S :=
  ⟨t.same h.obj (hF B (.inl rfl)), by
    rcases h.map with h1 | ⟨b, h1, h2⟩
    · exact .inl h1
    · exact .inr ⟨b, h1, t.map h2 (hF b (.inr (.inl h1)))⟩,
    fun e he => (h.own e he).turn t (fun j hj => hF j (.inr (.inr ⟨e, he, hj⟩))), h.apart, h.fs, h.well⟩
theorem DAt.turn {F G : Nat → Prop} {w w' : World} {B : Nat} {S : Dk} (h : DAt w B F S) (t : Turn G w w') (hF : ∀ j, F j → j < w.heap.size → ¬ G j) : DAt w' B F S := by
  obtain ⟨mv, E, m, f⟩ := h
  exact ⟨mv, E, m.turn t (fun j hj => hF j (f j hj) (m.lt j hj)), f⟩
theorem DAt.mono {F G : Nat → Prop} {w : World} {B : Nat} {S : Dk} (h : DAt w B F S) (hF : ∀ j, F j → j < w.heap.size → G j) : DAt w B G S := by
  obtain ⟨mv, E, m, f⟩ := h
  exact ⟨mv, E, m, fun j hj => hF j (f j hj) (m.lt j hj)⟩
theorem DAt.well {F : Nat → Prop} {w : World} {B : Nat} {S : Dk} (h : DAt w B F S) : Well S := by obtain ⟨mv, E, m, f⟩ := h; exact m.well
theorem DAt.lt {F : Nat → Prop} {w : World} {B : Nat} {S : Dk} (h : DAt w B F S) : F B ∧ B < w.heap.size := by obtain ⟨mv, E, m, f⟩ := h; exact ⟨f B (.inl rfl), m.lt B (.inl rfl)⟩

theorem DMem.neB {w : World} {B : Nat} {mv : Option Nat} {E : List Ent} {S : Dk} (h : DMem w B mv E S) : mv ≠ some B := by
  rintro e
  rcases h.map with ⟨h1, _⟩ | ⟨b, h1, es, cl, hb, _⟩
  · rw [h1] at e; cases e
  · rw [h1] at e; cases e; rw [h.obj] at hb; cases hb
theorem OwnSl.neMap {H : Type} {w : World} {e : TypeId} {s : Nat} {v : Value} {n : Nat} {xs : List Value} {P : Program} {kt : TypeId} {R : Value → Option (DataW H × List MemPlace)} {b m : Nat} {D : DataW H}
    (h : OwnSl w e s v n xs) (ho : w.ownsMap P kt R b m D) : ∀ j, v.ownBlock = some j → j ≠ b := by
  rintro j hj rfl
  obtain ⟨cur, hcur⟩ := h.lt j hj
  obtain ⟨es, cl, hb, _⟩ := ho; rw [hcur] at hb; cases hb

theorem dLaw : Keyed Tryz.prog 9 := string_keyed Tryz.underlying9
theorem dKey {s : ByteArray} (h : s.size ≤ maxLen) : keyOf Tryz.prog 9 (.string s) = some (.string s.data.toList) := WideMaps.keyOf_string_mk Tryz.underlying9 h
theorem dZero (w : World) : (zeroValue 84).run Tryz.prog w = .ok (.agg #[.slice none 0 0, .int .i64 0]) w := by kernel_rfl
theorem rawR_eq (v : Value) : rawR v = some (.held v, []) := rfl
theorem rawR_inv {v : Value} {D : DataW Value} {ps : List MemPlace} (h : rawR v = some (D, ps)) : D = .held v := by simp [rawR] at h; exact h.1.symm
end Go.Proofs.YthikiahhochjmaaGreatDoor


namespace Go.Proofs.YthikiahhochjmaaGreatDoor
open Go.RowKit Go.Maps
set_option linter.unusedVariables false

set_option maxHeartbeats 400000 in
theorem byte_walk (c : UInt8) (w : World) : Calls Tryz.prog 79 #[.int .u8 (c.toNat : Int)] w fun e w' => e = .returned (.bool (byteB c.toNat)) ∧ w' = w := by
  have hc : c.toNat < 256 := c.toNat_lt
  generalize c.toNat = n at *
  by_cases h1 : 97 ≤ n
  · by_cases h2 : n ≤ 122
    · go_enter Tryz.func79, Tryz.ntmps79
      go_wp2
      go_ret
      exact ⟨ret_bool (by simp [byteB, h1, h2]), rfl⟩
    · have h3 : 48 ≤ n := by omega
      have h4 : ¬ n ≤ 57 := by omega
      have h5 : ¬ n = 46 := by omega
      go_enter Tryz.func79, Tryz.ntmps79
      go_wp2
      go_ret
      exact ⟨ret_bool (by simp [byteB, h2, h4, h5]; omega), rfl⟩
  · by_cases h2 : 48 ≤ n
    · by_cases h3 : n ≤ 57
      · go_enter Tryz.func79, Tryz.ntmps79
        go_wp2
        go_ret
        exact ⟨ret_bool (by simp [byteB, h2, h3]), rfl⟩
      · have h5 : ¬ n = 46 := by omega
        go_enter Tryz.func79, Tryz.ntmps79
        go_wp2
        go_ret
        exact ⟨ret_bool (by simp [byteB, h1, h3, h5]; omega), rfl⟩
    · by_cases h5 : n = 46
      · subst h5
        clear h1 h2 hc
        go_enter Tryz.func79, Tryz.ntmps79
        go_wp2
        go_ret
        exact ⟨ret_bool rfl, rfl⟩
      · go_enter Tryz.func79, Tryz.ntmps79
        go_wp2
        go_ret
        refine ⟨ret_bool (.trans (b := false) ?_ ?_), rfl⟩
        · show ((n : Int) == 46) = false
          rw [beq_eq_false_iff_ne]; omega
        · unfold byteB; rw [decide_eq_false h1, decide_eq_false h2, decide_eq_false h5]; rfl

theorem goodB_take {n : Nm} (h1 : 1 ≤ n.length) (h2 : n.length ≤ 16) : goodB n = n.all (fun c => byteB c.toNat) := by unfold goodB; rw [decide_eq_true h1, decide_eq_true h2]; rfl
theorem bget (s : ByteArray) (k : Nat) (h : k < s.size) : s.data.toList[k]'(by simpa using h) = s[k] := rfl

set_option maxHeartbeats 400000 in
theorem name_walk (s : ByteArray) (w : World) (hs : s.size ≤ maxLen) : Calls Tryz.prog 63 #[.string s] w fun e w' => e = .returned (.bool (goodB s.data.toList)) ∧ w' = w := by
  unfold maxLen at hs
  have hl : s.data.toList.length = s.size := Array.length_toList
  by_cases h1 : 1 ≤ s.size
  · by_cases h2 : s.size ≤ 16
    · have hg := goodB_take (n := s.data.toList) (by omega) (by omega)
      have Hg := hide hg
      have Hl := hide hl
      clear hg hl
      go_enter Tryz.func63, Tryz.ntmps63
      go_wp2
      go_loop [14] (fun i => ∃ k : Nat, k ≤ s.size ∧ i = .int .i64 k ∧ Hid (∀ j (h : j < s.size), j < k → byteB (s[j]).toNat = true)) (fun i => s.size - (intOf i).toNat)
      case atStart => exact ⟨0, Nat.zero_le _, rfl, hide (fun j h h' => by omega)⟩
      case round =>
        obtain ⟨k, hk, rfl, hall⟩ := hrel
        by_cases hlt : k < s.size
        · cases hb : byteB (s[k]).toNat
          · have Hn : Hid (goodB s.data.toList = false) := by
              refine hide ?_
              rw [unhide Hg, List.all_eq_false]
              exact ⟨s[k], by rw [← bget s k hlt]; exact List.getElem_mem _, by rw [hb]; simp⟩
            go_wp2_with (go_at_call 79; refine (byte_walk _ _).mono ?_; rintro e w' ⟨rfl, rfl⟩)
            go_ret
            exact ⟨ret_bool (unhide Hn).symm, rfl⟩
          · go_wp2_with (go_at_call 79; refine (byte_walk _ _).mono ?_; rintro e w' ⟨rfl, rfl⟩)
            go_round
            case rel =>
              refine ⟨k + 1, by omega, by go_num, hide (fun j h h' => ?_)⟩
              by_cases e : j = k
              · subst e; exact hb
              · exact unhide hall j h (by omega)
            case measure => simp [intOf]; omega
        · have Hn : Hid (goodB s.data.toList = true) := by
            refine hide ?_
            rw [unhide Hg, List.all_eq_true]
            intro x hx
            obtain ⟨j, hj, rfl⟩ := List.getElem_of_mem hx
            have hj' : j < s.size := by rw [← unhide Hl]; exact hj
            rw [bget s j hj']
            exact unhide hall j hj' (by omega)
          go_wp2
          go_ret
          exact ⟨ret_bool (unhide Hn).symm, rfl⟩
    · have Hn : Hid (goodB s.data.toList = false) := hide (by simp [goodB, hl, h2])
      clear hl
      go_enter Tryz.func63, Tryz.ntmps63
      go_wp2
      go_ret
      exact ⟨ret_bool (unhide Hn).symm, rfl⟩
  · have Hn : Hid (goodB s.data.toList = false) := hide (by simp only [goodB, hl, h1]; simp)
    clear hl
    go_enter Tryz.func63, Tryz.ntmps63
    go_wp2
    go_ret
    exact ⟨ret_bool (unhide Hn).symm, rfl⟩

def readyC (S : Dk) : Int := if S.down then 3 else 0
set_option maxHeartbeats 400000 in
theorem ready_walk (w : World) (B : Nat) (mv : Option Nat) (E : List Ent) (S : Dk) (h : DMem w B mv E S) :
    Calls Tryz.prog 41 #[.pointer (some ⟨B, 0, none⟩)] w fun e w' => e = .returned (.int .i64 (readyC S)) ∧ w' = w := by
  have c2 : w.cell? ⟨B, 2, none⟩ = some (.bool S.down) := cell_obj h.obj 2
  clear h
  unfold readyC
  cases hd : S.down
  all_goals
    rw [hd] at c2
    go_enter Tryz.func41, Tryz.ntmps41
    go_wp2
    go_ret
    exact ⟨rfl, rfl⟩

set_option maxHeartbeats 400000 in
theorem refusal_walk (w : World) (B : Nat) (mv : Option Nat) (E : List Ent) (S : Dk) (s : ByteArray) (hs : s.size ≤ maxLen) (h : DMem w B mv E S) :
    Calls Tryz.prog 47 #[.pointer (some ⟨B, 0, none⟩), .string s] w fun e w' => e = .returned (.int .i64 (refuse S s.data.toList)) ∧ w' = w := by
  unfold refuse
  have hr := ready_walk w B mv E S h
  unfold readyC at hr
  clear h
  cases hd : S.down
  · rw [hd] at hr
    cases hg : goodB s.data.toList
    all_goals
      have hn := name_walk s w hs
      rw [hg] at hn
      clear hg hd
      go_enter Tryz.func47, Tryz.ntmps47
      go_wp2_with (first | (go_at_call 41; refine hr.mono ?_; rintro e w' ⟨rfl, rfl⟩) | (go_at_call 63; refine hn.mono ?_; rintro e w' ⟨rfl, rfl⟩))
      go_ret
      exact ⟨rfl, rfl⟩
  · rw [hd] at hr
    clear hd
    go_enter Tryz.func47, Tryz.ntmps47
    go_wp2_with (go_at_call 41; refine hr.mono ?_; rintro e w' ⟨rfl, rfl⟩)
    go_ret
    exact ⟨rfl, rfl⟩

set_option maxHeartbeats 400000 in
theorem down_walk (w : World) (B : Nat) (mv : Option Nat) (E : List Ent) (S : Dk) (h : DMem w B mv E S) :
    Calls Tryz.prog 10 #[.pointer (some ⟨B, 0, none⟩)] w fun e w' => e = .returned (.bool S.down) ∧ w' = w := by
  have c2 : w.cell? ⟨B, 2, none⟩ = some (.bool S.down) := cell_obj h.obj 2
  clear h
  generalize S.down = x at *
  go_enter Tryz.func10, Tryz.ntmps10
  go_wp2
  go_ret
  exact ⟨rfl, rfl⟩

/-- a disk whose files are as they were, and its other cells new ones -/
theorem DMem.re {w w' : World} {B : Nat} {mv : Option Nat} {E : List Ent} {S S' : Dk} (h : DMem w B mv E S) (t : Turn (fun j => j = B) w w')
    (hB : w'.heap[B]? = some (.cells #[.int .i64 (S'.size : Int), .map mv, .bool S'.down, .int .u64 (S'.arm : Int)] 66 (0, 0))) (hf : S'.fs = S.fs) (hw : Well S') : DMem w' B mv E S' := by
  refine ⟨hB, ?_, fun e he => (h.own e he).turn t (fun j hj => (h.own e he).neObj h.obj (by decide) j hj), h.apart, hf.trans h.fs, hw⟩
  rcases h.map with h1 | ⟨b, h1, h2⟩
  · exact .inl h1
  · refine .inr ⟨b, h1, t.map h2 (fun e => h.neB (by rw [h1, e]))⟩

theorem well_hit {S : Dk} (h : Well S) : Well (hitS S) := by
  unfold hitS; split
  · exact h
  · exact ⟨h.rise, h.good, h.room, h.size, h.files, by have := h.arm; simp; omega⟩

set_option maxHeartbeats 1000000 in
theorem hit_walk (w : World) (B : Nat) (mv : Option Nat) (E : List Ent) (S : Dk) (hd : S.down = false) (h : DMem w B mv E S) :
    Calls Tryz.prog 46 #[.pointer (some ⟨B, 0, none⟩)] w fun e w' => e = .returned (.bool (hitB S)) ∧ Turn (fun j => j = B) w w' ∧ DMem w' B mv E (hitS S) := by
  have hB := h.obj
  have c3 : w.cell? ⟨B, 3, none⟩ = some (.int .u64 (S.arm : Int)) := cell_obj hB 3
  have f3 : w.frozen? ⟨B, 3, none⟩ = false := frozen_obj hB 3
  have ha := h.well.arm
  have hwh := well_hit h.well
  by_cases h0 : S.arm = 0
  · have e1 : hitS S = S := by unfold hitS; rw [if_pos h0]
    have e2 : hitB S = false := by simp [hitB, h0]
    rw [e1, e2]
    rw [h0] at c3
    clear hB ha e1 e2 hwh f3 h0
    go_enter Tryz.func46, Tryz.ntmps46
    go_wp2
    go_ret
    exact ⟨rfl, Turn.refl _ _, h⟩
  · have c2 : w.cell? ⟨B, 2, none⟩ = some (.bool S.down) := cell_obj hB 2
    have f2 : w.frozen? ⟨B, 2, none⟩ = false := frozen_obj hB 2
    obtain ⟨k, hk⟩ : ∃ k, S.arm = k + 1 := ⟨S.arm - 1, by omega⟩
    have e1 : hitS S = { S with arm := k, down := decide (k = 0) } := by unfold hitS; rw [if_neg h0, hk]; simp
    have e2 : hitB S = decide (k = 0) := by simp [hitB, hk]
    rw [e1] at hwh ⊢
    rw [e2]
    rw [hk, show ((k + 1 : Nat) : Int) = (k : Int) + 1 by omega] at c3
    rw [hd] at c2
    have hk2 : (k : Int) ≤ 9223372036854775806 := by omega
    clear e1 e2 h0 ha
    have t1 : Turn (fun j => j = B) w (w.setCell ⟨B, 3, none⟩ (.int .u64 (k : Int))) := (Turn.refl (fun j => j = B) w).setCell (p := ⟨B, 3, none⟩) (.inl rfl) _
    have hB1 := heap_setCell_obj (j := 3) hB (.int .u64 (k : Int))
    have t2 : Turn (fun j => j = B) w ((w.setCell ⟨B, 3, none⟩ (.int .u64 (k : Int))).setCell ⟨B, 2, none⟩ (.bool (decide (k = 0)))) := t1.setCell (p := ⟨B, 2, none⟩) (.inl rfl) _
    have hB2 := heap_setCell_obj (j := 2) hB1 (.bool (decide (k = 0)))
    have m2 := h.re (S' := { S with arm := k, down := decide (k = 0) }) t2 (by rw [hB2]; rfl) rfl hwh
    clear hB1 hB2 hwh h hB t1 hk
    generalize hW : (w.setCell ⟨B, 3, none⟩ (.int .u64 (k : Int))).setCell ⟨B, 2, none⟩ (.bool (decide (k = 0))) = W at *
    have HW := hide hW
    clear hW
    have Hm := hide m2
    have Ht := hide t2
    clear m2 t2
    go_enter Tryz.func46, Tryz.ntmps46
    go_wp2
    go_ret
    have eb : ((k : Int) == 0) = decide (k = 0) := by rw [Bool.eq_iff_iff]; simp
    refine ⟨ret_bool eb, ?_⟩
    rw [eb, unhide HW]
    exact ⟨unhide Ht, unhide Hm⟩

/-- Arm -/
theorem well_arm {S : Dk} (h : Well S) (m : Int) (hm : m ≤ 9223372036854775807) : Well (armS S m) := ⟨h.rise, h.good, h.room, h.size, h.files, by simp [armS]; omega⟩
set_option maxHeartbeats 1000000 in
theorem arm_mem (w : World) (B : Nat) (mv : Option Nat) (E : List Ent) (S : Dk) (m : Int) (hm : m ≤ 9223372036854775807) (h : DMem w B mv E S) :
    Calls Tryz.prog 13 #[.pointer (some ⟨B, 0, none⟩), .int .i64 m] w fun e w' => e = .returned (.int .i64 0) ∧ Turn (fun j => j = B) w w' ∧ DMem w' B mv E (armS S m) := by
  have hB := h.obj
  have c3 : w.cell? ⟨B, 3, none⟩ = some (.int .u64 (S.arm : Int)) := cell_obj hB 3
  have f3 : w.frozen? ⟨B, 3, none⟩ = false := frozen_obj hB 3
  have t1 : Turn (fun j => j = B) w (w.setCell ⟨B, 3, none⟩ (.int .u64 (m.toNat : Int))) := (Turn.refl (fun j => j = B) w).setCell (p := ⟨B, 3, none⟩) (.inl rfl) _
  have hB1 := heap_setCell_obj (j := 3) hB (.int .u64 (m.toNat : Int))
  have m1 := h.re (S' := armS S m) t1 (by rw [hB1]; rfl) rfl (well_arm h.well m hm)
  have Hm := hide m1
  have Ht := hide t1
  clear m1 t1 hB1 hB h
  by_cases h0 : 0 ≤ m
  · have e : ((m.toNat : Nat) : Int) = m := by omega
    rw [e] at Hm Ht
    clear e
    go_enter Tryz.func13, Tryz.ntmps13
    go_wp2
    go_ret
    exact ⟨rfl, unhide Ht, unhide Hm⟩
  · have e : ((m.toNat : Nat) : Int) = 0 := by omega
    rw [e] at Hm Ht
    clear e
    go_enter Tryz.func13, Tryz.ntmps13
    go_wp2
    go_ret
    exact ⟨rfl, unhide Ht, unhide Hm⟩

def newS (n : Nat) : Dk := ⟨n, [], false, 0⟩
theorem well_new {n : Nat} (h : n ≤ 16777216) : Well (newS n) := ⟨List.Pairwise.nil, by simp [newS], Nat.zero_le _, h, Nat.zero_le _, Nat.zero_le _⟩
set_option maxHeartbeats 400000 in
theorem new_mem (n : Nat) (w : World) (h1 : 1 ≤ n) (h2 : n ≤ 16777216) :
    Calls Tryz.prog 26 #[.int .i64 (n : Int)] w fun e w' => e = .returned (.tuple #[.pointer (some ⟨w.heap.size, 0, none⟩), .int .i64 0]) ∧ Turn (fun _ => False) w w' ∧ DMem w' w.heap.size none [] (newS n) := by
  have t : Turn (fun _ => False) w (w.alloc (.cells #[.int .i64 (n : Int), .map none, .bool false, .int .u64 0] 66)) := (Turn.refl _ w).alloc _
  have m : DMem (w.alloc (.cells #[.int .i64 (n : Int), .map none, .bool false, .int .u64 0] 66)) w.heap.size none [] (newS n) :=
    ⟨heap_alloc_new w _, .inl ⟨rfl, rfl⟩, by simp, List.Pairwise.nil, rfl, well_new h2⟩
  have Hm := hide m
  have Ht := hide t
  clear m t
  go_enter Tryz.func26, Tryz.ntmps26
  go_wp2
  go_ret2
  exact ⟨rfl, unhide Ht, unhide Hm⟩
set_option maxHeartbeats 400000 in
theorem new_no (n : Int) (w : World) (h : n < 1 ∨ 16777216 < n) :
    Calls Tryz.prog 26 #[.int .i64 n] w fun e w' => e = .returned (.tuple #[.pointer none, .int .i64 1]) ∧ w' = w := by
  rcases h with h | h
  · go_enter Tryz.func26, Tryz.ntmps26
    go_wp2
    go_ret2
    exact ⟨rfl, rfl⟩
  · have h' : 1 ≤ n := by omega
    go_enter Tryz.func26, Tryz.ntmps26
    go_wp2
    go_ret2
    exact ⟨rfl, rfl⟩

set_option maxHeartbeats 400000 in
theorem sector_walk (n : Nat) (w : World) (h : n ≤ 16777216) : Calls Tryz.prog 70 #[.int .i64 (n : Int)] w fun e w' => e = .returned (.int .i64 (secEnd n : Nat)) ∧ w' = w := by
  by_cases h0 : n % 64 = 0
  · have e : secEnd n = n := by unfold secEnd; rw [if_pos h0]
    rw [e]
    have h0' : (n : Int) % 64 = 0 := by omega
    clear e h0
    go_enter Tryz.func70, Tryz.ntmps70
    go_wp2
    all_goals (try omega)
    go_ret
    exact ⟨rfl, rfl⟩
  · have e : ((secEnd n : Nat) : Int) = (n : Int) + 64 - (n : Int) % 64 := by unfold secEnd; rw [if_neg h0]; omega
    have h0' : ¬ (n : Int) % 64 = 0 := by omega
    have He := hide e
    clear e h0
    go_enter Tryz.func70, Tryz.ntmps70
    go_wp2
    all_goals (try omega)
    go_ret
    exact ⟨ret_int (unhide He).symm, rfl⟩
end Go.Proofs.YthikiahhochjmaaGreatDoor
