/- What holds of a disk under slots: between saves, and behind one that was hit; what each call makes of it. -/
import Derived.Test.YtodnnblnchjeiaaVPure
namespace Go.Proofs.Ytodnnblnchjeiaa
set_option linter.unusedVariables false
set_option linter.unusedSimpArgs false

/-- what the other file may be: nothing that is read as a number of n or above -/
def OldV (n : Nat) (b : List Int) : Prop := ∃ m l, bytesV b ((n + 1) % 2) = (0, m, l) ∧ (m = 0 ∨ m < n)
/-- all is safe; the last one is n, of bytes L -/
structure Quiet (S : Dk) (n : Nat) (L : List Int) : Prop where
  rise : Rise Fl.n S.fs
  names : ∀ f ∈ S.fs, f.n = [115, 48] ∨ f.n = [115, 49]
  bytes : ∀ f ∈ S.fs, Bytes f.d
  none : n = 0 → L = [] ∧ getK Fl.n (nmV n) S.fs = none
  cur : 0 < n → getK Fl.n (nmV n) S.fs = some ⟨nmV n, frameV n L, (frameV n L).length⟩
  oth : ∀ f, getK Fl.n (nmV (n + 1)) S.fs = some f → f.s = f.d.length ∧ OldV n f.d
/-- a save of B behind n was hit -/
structure Fell (S : Dk) (n : Nat) (L B : List Int) : Prop where
  rise : Rise Fl.n S.fs
  names : ∀ f ∈ S.fs, f.n = [115, 48] ∨ f.n = [115, 49]
  bytes : ∀ f ∈ S.fs, Bytes f.d
  none : n = 0 → L = [] ∧ getK Fl.n (nmV n) S.fs = none
  cur : 0 < n → getK Fl.n (nmV n) S.fs = some ⟨nmV n, frameV n L, (frameV n L).length⟩
  oth : ∀ f, getK Fl.n (nmV (n + 1)) S.fs = some f → (f.s = f.d.length ∧ OldV n f.d) ∨ (f.d = frameV (n + 1) B ∧ f.s = 0)
theorem Quiet.fell {S : Dk} {n : Nat} {L : List Int} (h : Quiet S n L) (B : List Int) : Fell S n L B := ⟨h.rise, h.names, h.bytes, h.none, h.cur, fun f hf => .inl (h.oth f hf)⟩
/-- bytes that a save may have -/
def Few (n : Nat) (b : List Int) : Prop := Bytes b ∧ b.length ≤ 2000 ∧ n < 1000
theorem few_len {n : Nat} {b : List Int} (h : Few n b) : (numB n ++ b).length ≤ 2010 ∧ (frameV n b).length ≤ b.length + 20 ∧ (frameV n b).length = (numB n ++ b).length + 10 := by
  obtain ⟨_, h1, h2⟩ := h
  have h3 := numB_ten n (by omega)
  have h4 : (frameV n b).length = (numB n ++ b).length + 10 := packB_len _
  rw [List.length_append] at *
  omega
theorem few_bytes {n : Nat} {b : List Int} (h : Few n b) : Bytes (numB n ++ b) ∧ Bytes (frameV n b) := by
  have : Bytes (numB n ++ b) := fun x hx => (List.mem_append.1 hx).elim (numB_bytes n x) (h.1 x)
  exact ⟨this, packB_bytes this⟩
theorem old_empty (n : Nat) : OldV n [] := ⟨0, [], rfl, .inl rfl⟩
theorem old_torn {n m k : Nat} {b : List Int} (h : Few (n + 1) b) (hm : m < (frameV (n + 1) b).length) : OldV n ((frameV (n + 1) b).take m ++ List.replicate k 0) := by
  have ht := take_torn (numB (n + 1) ++ b) m k (by have := few_len h; omega) hm
  refine ⟨0, [], ?_, .inl rfl⟩
  unfold bytesV frameV
  rw [if_neg (by rcases ht with h | h <;> rw [h] <;> decide), if_pos ht]
theorem old_frame {n : Nat} {L : List Int} (h0 : 0 < n) (h : Few n L) : OldV (n + 1) (frameV n L) :=
  ⟨n, L, bytes_frame n L h0 (by have := h.2.2; omega) (by have := few_len h; omega) _ (by omega), .inr (by omega)⟩

theorem getK_name {n : Nm} {l : List Fl} {f : Fl} (h : getK Fl.n n l = some f) : f.n = n := (getK_some h).2
/-- of such files: how much they take -/
theorem two_files {l : List Fl} (hr : Rise Fl.n l) (hn : ∀ f ∈ l, f.n = [115, 48] ∨ f.n = [115, 49]) : l.length ≤ 2 ∧ ∀ k : Nat, (∀ f ∈ l, f.d.length ≤ k) → used l ≤ 2 * k := by
  match l, hr, hn with
  | [], _, _ => exact ⟨by simp, fun k _ => by simp [used]⟩
  | [a], _, _ => exact ⟨by simp, fun k h => by have := h a (by simp); simp [used]; omega⟩
  | [a, b], _, _ => exact ⟨by simp, fun k h => by have h1 := h a (by simp); have h2 := h b (by simp); simp [used]; omega⟩
  | a :: b :: c :: r, hr, hn =>
    exfalso
    unfold Rise at hr
    rw [List.pairwise_cons, List.pairwise_cons] at hr
    have h1 := before_ne (hr.1 b (by simp))
    have h2 := before_ne (hr.1 c (by simp))
    have h3 := before_ne (hr.2.1 c (by simp))
    rcases hn a (by simp) with ha | ha <;> rcases hn b (by simp) with hb | hb <;> rcases hn c (by simp) with hc | hc <;> simp_all
theorem names_put {l : List Fl} {f : Fl} (hn : ∀ f ∈ l, f.n = [115, 48] ∨ f.n = [115, 49]) (hf : f.n = [115, 48] ∨ f.n = [115, 49]) : ∀ g ∈ putK Fl.n f l, g.n = [115, 48] ∨ g.n = [115, 49] := by
  intro g hg
  rcases mem_putK.1 hg with rfl | ⟨h, _⟩
  · exact hf
  · exact hn g h
theorem bytes_put {l : List Fl} {f : Fl} (hn : ∀ f ∈ l, Bytes f.d) (hf : Bytes f.d) : ∀ g ∈ putK Fl.n f l, Bytes g.d := by
  intro g hg
  rcases mem_putK.1 hg with rfl | ⟨h, _⟩
  · exact hf
  · exact hn g h

/-! ### What a disk's calls make of it -/
theorem arm_hit (S : Dk) (hd : S.down = false) : (hitS S).fs = S.fs ∧ (hitS S).size = S.size ∧ (hitS S).down = hitB S ∧ (S.arm = 0 → hitS S = S ∧ hitB S = false) := by
  unfold hitS hitB
  by_cases h : S.arm = 0
  · rw [if_pos h]; simp [h, hd]
  · rw [if_neg h]
    exact ⟨rfl, rfl, rfl, fun h1 => absurd h1 h⟩
/-- the files, and what is said of the rest -/
structure Step (S S' : Dk) (fs : List Fl) (hit : Bool) : Prop where
  fs : S'.fs = fs
  size : S'.size = S.size
  down : S'.down = hit
  calm : S.arm = 0 → S'.arm = 0 ∧ hit = false
theorem step_hit {S S1 : Dk} (hd : S.down = false) (h1 : S1.size = S.size) (h2 : S1.down = S.down) (h3 : S1.arm = S.arm) : Step S (hitS S1) S1.fs (hitB S) := by
  obtain ⟨a, b, c, e⟩ := arm_hit S1 (h2.trans hd)
  have hh : hitB S1 = hitB S := by unfold hitB; rw [h3]
  refine ⟨a, b.trans h1, c.trans hh, fun h => ?_⟩
  obtain ⟨e1, e2⟩ := e (h3.trans h)
  rw [e1, ← hh]
  exact ⟨h3.trans h, e2⟩
theorem sync_here {S : Dk} {n : Nat} {f : Fl} (hd : S.down = false) (hg : getK Fl.n (nmV n) S.fs = some f) :
    syncC S (nmV n) = (if hitB S then 3 else 0) ∧ Step S (syncS S (nmV n)) (if hitB S then S.fs else putK Fl.n ⟨nmV n, f.d, f.d.length⟩ S.fs) (hitB S) := by
  have hr := refuse_nmV hd n
  have st := step_hit (S1 := S) hd rfl rfl rfl
  unfold syncC syncS
  rw [hr, hg]
  simp only [ne_eq, not_true_eq_false, if_false]
  refine ⟨by first | rfl | trivial, ?_⟩
  cases hx : hitB S
  · rw [hx] at st
    exact ⟨rfl, st.size, st.down, st.calm⟩
  · rw [hx] at st
    exact st
theorem sync_gone {S : Dk} {n : Nat} (hd : S.down = false) (hg : getK Fl.n (nmV n) S.fs = none) : syncC S (nmV n) = 6 ∧ syncS S (nmV n) = S := by
  have hr := refuse_nmV hd n
  unfold syncC syncS
  rw [hr, hg]
  simp
theorem remove_here {S : Dk} {n : Nat} {f : Fl} (hd : S.down = false) (hg : getK Fl.n (nmV n) S.fs = some f) :
    removeC S (nmV n) = (if hitB S then 3 else 0) ∧ Step S (removeS S (nmV n)) (if hitB S then S.fs else delK Fl.n (nmV n) S.fs) (hitB S) := by
  have hr := refuse_nmV hd n
  have st := step_hit (S1 := S) hd rfl rfl rfl
  unfold removeC removeS
  rw [hr, hg]
  simp only [ne_eq, not_true_eq_false, if_false]
  refine ⟨by first | rfl | trivial, ?_⟩
  cases hx : hitB S
  · rw [hx] at st
    exact ⟨rfl, st.size, st.down, st.calm⟩
  · rw [hx] at st
    exact st
theorem remove_gone {S : Dk} {n : Nat} (hd : S.down = false) (hg : getK Fl.n (nmV n) S.fs = none) : removeC S (nmV n) = 6 ∧ removeS S (nmV n) = S := by
  have hr := refuse_nmV hd n
  unfold removeC removeS
  rw [hr, hg]
  simp
theorem append_here {S : Dk} {n : Nat} {p : List Int} (hd : S.down = false) (hg : getK Fl.n (nmV n) S.fs = none) (hf : fullB S (nmV n) p = false) :
    appendC S (nmV n) p = (if hitB S then 3 else 0) ∧ Step S (appendS S (nmV n) p) (putK Fl.n ⟨nmV n, p, 0⟩ S.fs) (hitB S) := by
  have hr := refuse_nmV hd n
  have st := step_hit (S1 := appS S (nmV n) p) hd rfl rfl rfl
  have e : (appS S (nmV n) p).fs = putK Fl.n ⟨nmV n, p, 0⟩ S.fs := by unfold appS fileOf; rw [hg]; rfl
  unfold appendC appendS
  rw [hr, hf]
  simp only [ne_eq, not_true_eq_false, if_false, Bool.false_eq_true]
  refine ⟨by first | rfl | trivial, ?_⟩
  rw [e] at st
  exact st

/-! ### Room, and a frame laid -/
theorem remove_calm (S : Dk) (hd : S.down = false) (n : Nat) : (removeS (armS S 0) (nmV n)).fs = delK Fl.n (nmV n) S.fs ∧ (removeS (armS S 0) (nmV n)).size = S.size ∧ (removeS (armS S 0) (nmV n)).down = false ∧ (removeS (armS S 0) (nmV n)).arm = 0 := by
  have ha : (armS S 0).arm = 0 := rfl
  cases hg : getK Fl.n (nmV n) S.fs with
  | none =>
    obtain ⟨_, h2⟩ := remove_gone (S := armS S 0) (n := n) hd hg
    rw [h2]
    exact ⟨(delK_none (getK_none hg)).symm, rfl, hd, rfl⟩
  | some f =>
    obtain ⟨_, h2⟩ := remove_here (S := armS S 0) (n := n) hd hg
    obtain ⟨c1, c2⟩ := h2.calm ha
    rw [c2] at h2
    exact ⟨h2.fs, h2.size, h2.down, c1⟩
theorem used_delV (S : List Fl) (n : Nm) : used (delK Fl.n n S) ≤ used S := by
  unfold delK
  induction S with
  | nil => simp
  | cons f r ih =>
    rw [List.filter_cons]
    split
    · rw [used_cons, used_cons]; omega
    · rw [used_cons]; omega
theorem fits_iff {S : Dk} (n : Nat) (p : List Int) (hw : Rise Fl.n S.fs) (hd : S.down = false) (hn : ∀ f ∈ S.fs, f.n = [115, 48] ∨ f.n = [115, 49]) :
    fitsV S n p = decide (used (delK Fl.n (nmV n) S.fs) + p.length ≤ S.size) := by
  obtain ⟨h1, h2, h3, h4⟩ := remove_calm S hd n
  have hr := refuse_nmV h3 n
  have hl : (delK Fl.n (nmV n) S.fs).length ≤ 2 := (two_files (hw.del _) (fun f hf => hn f (mem_delK.1 hf).1)).1
  have hh : hitB (removeS (armS S 0) (nmV n)) = false := by simp [hitB, h4]
  unfold fitsV appendC
  rw [hr, hh]
  have hf : fullB (removeS (armS S 0) (nmV n)) (nmV n) p = decide (S.size < used (delK Fl.n (nmV n) S.fs) + p.length) := by
    unfold fullB
    rw [h1, h2, decide_eq_false (p := 64 ≤ _) (by omega)]
    simp
  rw [hf]
  by_cases h : used (delK Fl.n (nmV n) S.fs) + p.length ≤ S.size
  · rw [decide_eq_true h, decide_eq_false (p := S.size < _) (by omega)]; simp
  · rw [decide_eq_false h, decide_eq_true (p := S.size < _) (by omega)]; simp
/-- a save's end: done, or hit -/
def LayEnd (S : Dk) (n : Nat) (L B : List Int) (r : Int × Dk) : Prop :=
  r.2.size = S.size ∧ ((r.1 = 0 ∧ Quiet r.2 (n + 1) B ∧ r.2.down = false ∧ (S.arm = 0 → r.2.arm = 0) ∧ getK Fl.n (nmV n) r.2.fs = getK Fl.n (nmV n) S.fs) ∨ (r.1 = 3 ∧ r.2.down = true ∧ S.arm ≠ 0 ∧ Fell r.2 n L B))
theorem hit_arm {S : Dk} (h : hitB S = true) : S.arm ≠ 0 := by simp [hitB] at h; omega
theorem put_same {l : List Fl} {f : Fl} (hr : Rise Fl.n l) (hg : getK Fl.n f.n l = some f) : putK Fl.n f l = l := by
  obtain ⟨X, Y, rfl⟩ := split_of_mem (getK_some hg).1
  exact putK_mid hr rfl
theorem nmV_again (n : Nat) : nmV (n + 1 + 1) = nmV n := by unfold nmV; rw [show (n + 1 + 1) % 2 = n % 2 by omega]
theorem lay_quiet {S : Dk} {n : Nat} {L B : List Int} (h : Quiet S n L) (hd : S.down = false) (hL : Few n L) (hB : Few (n + 1) B) (hu : used (delK Fl.n (nmV (n + 1)) S.fs) + (frameV (n + 1) B).length ≤ S.size) :
    LayEnd S n L B (layV S n (frameV (n + 1) B)) := by
  have hne : nmV n ≠ nmV (n + 1) := nmV_ne n
  -- the first sync
  obtain ⟨S1, hS1, hfs1, hd1, hz1, ha1, hc1⟩ : ∃ S1, S1 = syncS S (nmV n) ∧ S1.fs = S.fs ∧ (thereV (syncC S (nmV n)) = 0 → S1.down = false) ∧ S1.size = S.size ∧ (S.arm = 0 → S1.arm = 0) ∧ (thereV (syncC S (nmV n)) ≠ 0 → syncC S (nmV n) = 3 ∧ S1.down = true ∧ S.arm ≠ 0) := by
    refine ⟨_, rfl, ?_⟩
    by_cases h0 : n = 0
    · obtain ⟨e1, e2⟩ := sync_gone hd (h.none h0).2
      rw [e1, e2]
      exact ⟨rfl, fun _ => hd, rfl, id, fun h => absurd rfl h⟩
    · have hcur := h.cur (by omega)
      obtain ⟨e1, e2⟩ := sync_here hd hcur
      rw [e1]
      cases hx : hitB S
      · rw [hx] at e2
        exact ⟨e2.fs.trans (put_same h.rise hcur), fun _ => e2.down, e2.size, fun h => (e2.calm h).1, fun h => absurd rfl h⟩
      · rw [hx] at e2
        exact ⟨e2.fs, fun h => by simp [thereV] at h, e2.size, fun h => (e2.calm h).1, fun _ => ⟨rfl, e2.down, hit_arm hx⟩⟩
  unfold layV
  rw [← hS1]
  by_cases hc : thereV (syncC S (nmV n)) ≠ 0
  · rw [if_pos hc]
    obtain ⟨c1, c2, c3⟩ := hc1 hc
    refine ⟨hz1, .inr ⟨c1, c2, c3, ?_⟩⟩
    have hf := h.fell B
    exact ⟨by rw [hfs1]; exact hf.rise, by rw [hfs1]; exact hf.names, by rw [hfs1]; exact hf.bytes, by rw [hfs1]; exact hf.none, by rw [hfs1]; exact hf.cur, by rw [hfs1]; exact hf.oth⟩
  rw [if_neg hc]
  have hd1 := hd1 (by simpa using hc)
  clear hc hc1
  -- the elder one goes
  obtain ⟨S2, hS2, hz2, ha2, hd2, hc2⟩ : ∃ S2, S2 = removeS S1 (nmV (n + 1)) ∧ S2.size = S.size ∧ (S.arm = 0 → S2.arm = 0) ∧ (thereV (removeC S1 (nmV (n + 1))) = 0 → S2.down = false ∧ S2.fs = delK Fl.n (nmV (n + 1)) S.fs) ∧ (thereV (removeC S1 (nmV (n + 1))) ≠ 0 → removeC S1 (nmV (n + 1)) = 3 ∧ S2.down = true ∧ S.arm ≠ 0 ∧ S2.fs = S.fs) := by
    refine ⟨_, rfl, ?_⟩
    cases hg : getK Fl.n (nmV (n + 1)) S.fs with
    | none =>
      obtain ⟨e1, e2⟩ := remove_gone (S := S1) (n := n + 1) hd1 (by rw [hfs1]; exact hg)
      rw [e1, e2]
      exact ⟨hz1, ha1, fun _ => ⟨hd1, by rw [hfs1]; exact (delK_none (getK_none hg)).symm⟩, fun h => absurd rfl h⟩
    | some f =>
      obtain ⟨e1, e2⟩ := remove_here (S := S1) (n := n + 1) hd1 (by rw [hfs1]; exact hg)
      rw [e1]
      cases hx : hitB S1
      · rw [hx] at e2
        exact ⟨e2.size.trans hz1, fun h => (e2.calm (ha1 h)).1, fun _ => ⟨e2.down, by rw [e2.fs, hfs1]; rfl⟩, fun h => absurd rfl h⟩
      · rw [hx] at e2
        exact ⟨e2.size.trans hz1, fun h => (e2.calm (ha1 h)).1, fun h => by simp [thereV] at h, fun _ => ⟨rfl, e2.down, fun h => hit_arm hx (ha1 h), by rw [e2.fs]; exact hfs1⟩⟩
  rw [← hS2]
  by_cases hc : thereV (removeC S1 (nmV (n + 1))) ≠ 0
  · rw [if_pos hc]
    obtain ⟨c1, c2, c3, c4⟩ := hc2 hc
    refine ⟨hz2, .inr ⟨c1, c2, c3, ?_⟩⟩
    have hf := h.fell B
    exact ⟨by rw [c4]; exact hf.rise, by rw [c4]; exact hf.names, by rw [c4]; exact hf.bytes, by rw [c4]; exact hf.none, by rw [c4]; exact hf.cur, by rw [c4]; exact hf.oth⟩
  rw [if_neg hc]
  obtain ⟨hd2, hfs2⟩ := hd2 (by simpa using hc)
  clear hc hc2
  have hr2 : Rise Fl.n S2.fs := by rw [hfs2]; exact h.rise.del _
  have hn2 : ∀ f ∈ S2.fs, f.n = [115, 48] ∨ f.n = [115, 49] := by rw [hfs2]; exact fun f hf => h.names f (mem_delK.1 hf).1
  have hb2 : ∀ f ∈ S2.fs, Bytes f.d := by rw [hfs2]; exact fun f hf => h.bytes f (mem_delK.1 hf).1
  have hg2 : getK Fl.n (nmV (n + 1)) S2.fs = none := by rw [hfs2, get_del h.rise, if_pos rfl]
  have hg2n : getK Fl.n (nmV n) S2.fs = getK Fl.n (nmV n) S.fs := by rw [hfs2, get_del h.rise, if_neg hne]
  have hful : fullB S2 (nmV (n + 1)) (frameV (n + 1) B) = false := by
    have hl := (two_files hr2 hn2).1
    unfold fullB
    rw [hz2, decide_eq_false (p := 64 ≤ _) (by omega), hfs2, decide_eq_false (by omega)]; simp
  obtain ⟨e1, e2⟩ := append_here hd2 hg2 hful
  have hbf := (few_bytes hB).2
  -- what is there then
  have key : ∀ (S3 : Dk) (k : Nat), S3.fs = putK Fl.n ⟨nmV (n + 1), frameV (n + 1) B, k⟩ S2.fs → Rise Fl.n S3.fs ∧ (∀ f ∈ S3.fs, f.n = [115, 48] ∨ f.n = [115, 49]) ∧ (∀ f ∈ S3.fs, Bytes f.d) ∧ getK Fl.n (nmV (n + 1)) S3.fs = some ⟨nmV (n + 1), frameV (n + 1) B, k⟩ ∧ getK Fl.n (nmV n) S3.fs = getK Fl.n (nmV n) S.fs := by
    intro S3 k h3
    rw [h3]
    refine ⟨hr2.put, names_put hn2 (nmV_two _), bytes_put hb2 hbf, ?_, ?_⟩
    · rw [get_put _ hr2, if_pos rfl]
    · rw [get_put _ hr2, if_neg hne]; exact hg2n
  have fell : ∀ S3 : Dk, S3.fs = putK Fl.n ⟨nmV (n + 1), frameV (n + 1) B, 0⟩ S2.fs → Fell S3 n L B := by
    intro S3 h3
    obtain ⟨k1, k2, k3, k4, k5⟩ := key S3 0 h3
    exact ⟨k1, k2, k3, fun h0 => by rw [k5]; exact h.none h0, fun h0 => by rw [k5]; exact h.cur h0, fun f hf => .inr (by rw [k4] at hf; cases hf; exact ⟨rfl, rfl⟩)⟩
  rw [e1]
  cases hx : hitB S2
  · rw [hx] at e2
    rw [if_neg (by simp)]
    obtain ⟨k1, k2, k3, k4, k5⟩ := key _ _ e2.fs
    obtain ⟨s1, s2⟩ := sync_here e2.down k4
    rw [s1]
    cases hy : hitB (appendS S2 (nmV (n + 1)) (frameV (n + 1) B))
    · rw [hy] at s2
      have hfs := s2.fs
      simp only [Bool.false_eq_true, if_false] at hfs
      have hgo : getK Fl.n (nmV (n + 1)) (syncS (appendS S2 (nmV (n + 1)) (frameV (n + 1) B)) (nmV (n + 1))).fs = some ⟨nmV (n + 1), frameV (n + 1) B, (frameV (n + 1) B).length⟩ := by rw [hfs, get_put _ k1, if_pos rfl]
      have hgn : getK Fl.n (nmV n) (syncS (appendS S2 (nmV (n + 1)) (frameV (n + 1) B)) (nmV (n + 1))).fs = getK Fl.n (nmV n) S.fs := by rw [hfs, get_put _ k1, if_neg hne, k5]
      refine ⟨s2.size.trans (e2.size.trans hz2), .inl ⟨rfl, ?_, s2.down, fun h => (s2.calm (e2.calm (ha2 h)).1).1, ?_⟩⟩
      · refine ⟨by rw [hfs]; exact k1.put, by rw [hfs]; exact names_put k2 (nmV_two _), by rw [hfs]; exact bytes_put k3 hbf, fun h0 => by omega, fun _ => hgo, fun f hf => ?_⟩
        rw [nmV_again, hgn] at hf
        by_cases h0 : n = 0
        · rw [(h.none h0).2] at hf; cases hf
        · rw [h.cur (by omega)] at hf
          cases hf
          exact ⟨rfl, old_frame (by omega) hL⟩
      · exact hgn
    · rw [hy] at s2
      refine ⟨s2.size.trans (e2.size.trans hz2), .inr ⟨rfl, s2.down, fun h => hit_arm hy (e2.calm (ha2 h)).1, ?_⟩⟩
      exact fell _ (s2.fs.trans e2.fs)
  · rw [hx] at e2
    rw [if_pos (by simp)]
    exact ⟨e2.size.trans hz2, .inr ⟨rfl, e2.down, fun h => hit_arm hx (ha2 h), fell _ e2.fs⟩⟩

/-- what a save answers, and leaves -/
def SaveEnd (S : Dk) (n : Nat) (L B : List Int) (r : Int × Sl × Dk) : Prop :=
  r.2.2.size = S.size ∧ ((r.1 = 0 ∧ r.2.1 = ⟨n + 1, B, false⟩ ∧ Quiet r.2.2 (n + 1) B ∧ r.2.2.down = false ∧ (S.arm = 0 → r.2.2.arm = 0) ∧ getK Fl.n (nmV n) r.2.2.fs = getK Fl.n (nmV n) S.fs) ∨
    (r.1 = 4 ∧ r.2.1 = ⟨n, L, false⟩ ∧ r.2.2 = S ∧ S.size < used S.fs + B.length + 20) ∨
    (r.1 = 3 ∧ r.2.1 = ⟨n, L, true⟩ ∧ r.2.2.down = true ∧ S.arm ≠ 0 ∧ Fell r.2.2 n L B))
theorem save_quiet {S : Dk} {n : Nat} {L B : List Int} (h : Quiet S n L) (hd : S.down = false) (hL : Few n L) (hB : Few (n + 1) B) : SaveEnd S n L B (saveV ⟨n, L, false⟩ S B) := by
  have hl := few_len hB
  unfold saveV
  simp only
  rw [if_neg (by rw [hd]; simp), if_neg (by omega)]
  rw [fits_iff _ _ h.rise hd h.names]
  by_cases hu : used (delK Fl.n (nmV (n + 1)) S.fs) + (frameV (n + 1) B).length ≤ S.size
  · rw [decide_eq_true hu, if_neg (by simp)]
    obtain ⟨z, h1⟩ := lay_quiet h hd hL hB hu
    rcases h1 with ⟨a, b, c, d, e⟩ | ⟨a, b, c, d⟩
    · rw [a, if_neg (by simp)]
      exact ⟨z, .inl ⟨rfl, rfl, b, c, d, e⟩⟩
    · rw [a, if_pos (by simp)]
      exact ⟨z, .inr (.inr ⟨rfl, rfl, b, c, d⟩)⟩
  · rw [decide_eq_false hu, if_pos rfl]
    refine ⟨rfl, .inr (.inl ⟨rfl, rfl, rfl, ?_⟩)⟩
    have := used_delV S.fs (nmV (n + 1))
    omega
theorem save_down {X : Sl} {S : Dk} (B : List Int) (h : X.down = true ∨ S.down = true) : saveV X S B = (3, { X with down := true }, S) := by unfold saveV; rw [if_pos h]

/-! ### Falls, and opening -/
theorem crash_quiet {S : Dk} {n : Nat} {L : List Int} (keep : List Int) (h : Quiet S n L) : Quiet (crashS S keep) n L := by
  have hf := fun m => get_fall keep m S.fs 0 h.rise
  have hmem : ∀ g ∈ fallL keep 0 S.fs, ∃ x, ∃ f ∈ S.fs, g = fallF f x := fun g hg => by
    obtain ⟨x, hx⟩ := hf g.n
    rw [getK_of_mem (rise_fall h.rise) hg] at hx
    cases hk : getK Fl.n g.n S.fs with
    | none => rw [hk] at hx; cases hx
    | some f =>
      rw [hk] at hx
      simp only at hx
      split at hx
      · cases hx
      · cases hx; exact ⟨x, f, (getK_some hk).1, rfl⟩
  have hsafe : ∀ f ∈ S.fs, f.s = f.d.length := fun f hf => by
    have hg := getK_of_mem h.rise hf
    rcases nmV_one n f.n (h.names f hf) with e | e
    · by_cases h0 : n = 0
      · rw [e, (h.none h0).2] at hg; cases hg
      · rw [e, h.cur (by omega)] at hg; cases hg; rfl
    · exact (h.oth f (by rw [← e]; exact hg)).1
  have hsame : ∀ f ∈ S.fs, ∀ x, fallF f x = f := fun f hf x => by
    unfold fallF; rw [fall_safe (hsafe f hf), ← hsafe f hf]
  refine ⟨rise_fall h.rise, fun g hg => ?_, fun g hg => ?_, fun h0 => ⟨(h.none h0).1, ?_⟩, fun h0 => ?_, fun f hg => ?_⟩
  · obtain ⟨x, f, hf, rfl⟩ := hmem g hg; exact h.names f hf
  · obtain ⟨x, f, hf, rfl⟩ := hmem g hg; rw [hsame f hf]; exact h.bytes f hf
  · obtain ⟨x, hx⟩ := hf (nmV n)
    rw [(h.none h0).2] at hx; exact hx
  · obtain ⟨x, hx⟩ := hf (nmV n)
    have hc := h.cur h0
    rw [hc] at hx
    simp only at hx
    have hm := (getK_some hc).1
    have e := hsame _ hm x
    have e2 : fallD ⟨nmV n, frameV n L, (frameV n L).length⟩ x = frameV n L := fall_safe rfl x
    rw [e, e2, if_neg (by unfold frameV; rw [packB_len]; omega)] at hx
    exact hx
  · obtain ⟨x, hx⟩ := hf (nmV (n + 1))
    rw [show (crashS S keep).fs = fallL keep 0 S.fs from rfl, hx] at hg
    cases hk : getK Fl.n (nmV (n + 1)) S.fs with
    | none => rw [hk] at hg; cases hg
    | some g =>
      rw [hk] at hg
      simp only at hg
      split at hg
      · cases hg
      · cases hg
        rw [hsame g (getK_some hk).1]
        exact h.oth g hk
theorem quiet_fs {S S' : Dk} {n : Nat} {L : List Int} (h : Quiet S n L) (e : S'.fs = S.fs) : Quiet S' n L :=
  ⟨by rw [e]; exact h.rise, by rw [e]; exact h.names, by rw [e]; exact h.bytes, by rw [e]; exact h.none, by rw [e]; exact h.cur, by rw [e]; exact h.oth⟩
theorem fell_fs {S S' : Dk} {n : Nat} {L B : List Int} (h : Fell S n L B) (e : S'.fs = S.fs) : Fell S' n L B :=
  ⟨by rw [e]; exact h.rise, by rw [e]; exact h.names, by rw [e]; exact h.bytes, by rw [e]; exact h.none, by rw [e]; exact h.cur, by rw [e]; exact h.oth⟩
theorem start_quiet {S : Dk} {n : Nat} {L : List Int} (h : Quiet S n L) : Quiet (startS S) n L ∧ (startS S).down = false ∧ (startS S).arm = 0 ∧ (startS S).size = S.size := by
  unfold startS
  split
  · exact ⟨quiet_fs (crash_quiet [] h) rfl, rfl, rfl, rfl⟩
  · exact ⟨quiet_fs h rfl, rfl, rfl, rfl⟩
/-- behind a save that was hit: the elder one, or the one that was under way -/
theorem crash_fell {S : Dk} {n : Nat} {L B : List Int} (keep : List Int) (h : Fell S n L B) (hL : Few n L) (hB : Few (n + 1) B) : Quiet (crashS S keep) n L ∨ Quiet (crashS S keep) (n + 1) B := by
  have hf := fun m => get_fall keep m S.fs 0 h.rise
  have hmem : ∀ g ∈ fallL keep 0 S.fs, ∃ f ∈ S.fs, g.n = f.n ∧ ∃ x, g = fallF f x := fun g hg => by
    obtain ⟨x, hx⟩ := hf g.n
    rw [getK_of_mem (rise_fall h.rise) hg] at hx
    cases hk : getK Fl.n g.n S.fs with
    | none => rw [hk] at hx; cases hx
    | some f =>
      rw [hk] at hx
      simp only at hx
      split at hx
      · cases hx
      · cases hx; exact ⟨f, (getK_some hk).1, rfl, x, rfl⟩
  have hbd : ∀ (f : Fl) (x : Int), Bytes f.d → Bytes (fallD f x) := fun f x hb => by
    unfold fallD
    split
    · exact hb
    · intro y hy
      rcases List.mem_append.1 hy with hy | hy
      · exact hb y (List.mem_of_mem_take hy)
      · rw [(List.mem_replicate.1 hy).2]; omega
  have hrise : Rise Fl.n (crashS S keep).fs := rise_fall h.rise
  have hnames : ∀ g ∈ (crashS S keep).fs, g.n = [115, 48] ∨ g.n = [115, 49] := fun g hg => by
    obtain ⟨f, hf, e, _⟩ := hmem g hg; rw [e]; exact h.names f hf
  have hbytes : ∀ g ∈ (crashS S keep).fs, Bytes g.d := fun g hg => by
    obtain ⟨f, hf, _, x, rfl⟩ := hmem g hg; exact hbd f x (h.bytes f hf)
  have hnone : n = 0 → L = [] ∧ getK Fl.n (nmV n) (crashS S keep).fs = none := fun h0 => by
    obtain ⟨x, hx⟩ := hf (nmV n)
    rw [(h.none h0).2] at hx; exact ⟨(h.none h0).1, hx⟩
  have hcur : 0 < n → getK Fl.n (nmV n) (crashS S keep).fs = some ⟨nmV n, frameV n L, (frameV n L).length⟩ := fun h0 => by
    obtain ⟨x, hx⟩ := hf (nmV n)
    have hc := h.cur h0
    rw [hc] at hx
    simp only at hx
    have e2 : fallD ⟨nmV n, frameV n L, (frameV n L).length⟩ x = frameV n L := fall_safe rfl x
    unfold fallF at hx
    rw [e2, if_neg (by unfold frameV; rw [packB_len]; omega)] at hx
    exact hx
  obtain ⟨x, hx⟩ := hf (nmV (n + 1))
  cases hk : getK Fl.n (nmV (n + 1)) S.fs with
  | none =>
    rw [hk] at hx
    exact .inl ⟨hrise, hnames, hbytes, hnone, hcur, fun f hg => by rw [show (crashS S keep).fs = fallL keep 0 S.fs from rfl, hx] at hg; cases hg⟩
  | some f =>
    rw [hk] at hx
    simp only at hx
    have hfn : f.n = nmV (n + 1) := (getK_some hk).2
    rcases h.oth f hk with ⟨e1, e2⟩ | ⟨e1, e2⟩
    · left
      refine ⟨hrise, hnames, hbytes, hnone, hcur, fun g hg => ?_⟩
      rw [show (crashS S keep).fs = fallL keep 0 S.fs from rfl, hx] at hg
      split at hg
      · cases hg
      · cases hg
        rw [show fallF f x = f by unfold fallF; rw [fall_safe e1, ← e1]]
        exact ⟨e1, e2⟩
    · by_cases hw : keepN f x = f.d.length - f.s
      · right
        have ed : fallD f x = frameV (n + 1) B := by unfold fallD; rw [if_pos hw, e1]
        have eF : fallF f x = ⟨nmV (n + 1), frameV (n + 1) B, (frameV (n + 1) B).length⟩ := by unfold fallF; rw [ed, hfn]
        rw [ed, eF, if_neg (by unfold frameV; rw [packB_len]; omega)] at hx
        refine ⟨hrise, hnames, hbytes, fun h0 => by omega, fun _ => hx, fun g hg => ?_⟩
        rw [nmV_again] at hg
        by_cases h0 : n = 0
        · rw [(hnone h0).2] at hg; cases hg
        · rw [hcur (by omega)] at hg
          cases hg
          exact ⟨rfl, old_frame (by omega) hL⟩
      · left
        refine ⟨hrise, hnames, hbytes, hnone, hcur, fun g hg => ?_⟩
        rw [show (crashS S keep).fs = fallL keep 0 S.fs from rfl, hx] at hg
        split at hg
        · cases hg
        · cases hg
          refine ⟨rfl, ?_⟩
          show OldV n (fallD f x)
          have hk2 := keepN_le f x
          unfold fallD
          rw [if_neg hw, e1]
          exact old_torn hB (by rw [e1] at hk2 hw; omega)
theorem start_fell {S : Dk} {n : Nat} {L B : List Int} (h : Fell S n L B) (hd : S.down = true) (hL : Few n L) (hB : Few (n + 1) B) : Quiet (startS S) n L ∨ Quiet (startS S) (n + 1) B := by
  unfold startS
  rw [hd, if_pos rfl]
  rcases crash_fell [] h hL hB with h | h
  · exact .inl (quiet_fs h rfl)
  · exact .inr (quiet_fs h rfl)
theorem read_none {S : Dk} {n : Nat} (hd : S.down = false) (hg : getK Fl.n (nmV n) S.fs = none) (r : Nat) (hr : nmV r = nmV n) : readV S r = (0, 0, []) := by
  have e : readC S (nmV n) = 6 := by unfold readC; rw [refuse_nmV hd, hg]; rfl
  unfold readV
  rw [hr, e, if_pos rfl]
theorem read_some {S : Dk} {n : Nat} {f : Fl} (hd : S.down = false) (hg : getK Fl.n (nmV n) S.fs = some f) (r : Nat) (hr : nmV r = nmV n) : readV S r = bytesV f.d r := by
  have e : readC S (nmV n) = 0 := by unfold readC; rw [refuse_nmV hd, hg]; rfl
  have e2 : readD S (nmV n) = f.d := by unfold readD; rw [refuse_nmV hd, hg]; rfl
  unfold readV
  rw [hr, e, e2]
  simp
/-- the slot of the last one, and the other -/
theorem read_quiet {S : Dk} {n : Nat} {L : List Int} (h : Quiet S n L) (hd : S.down = false) (hL : Few n L) (r : Nat) (hr : r < 2) :
    (r = n % 2 → readV S r = (0, n, L)) ∧ (r ≠ n % 2 → ∃ m l, readV S r = (0, m, l) ∧ (m = 0 ∨ m < n)) := by
  refine ⟨fun e => ?_, fun e => ?_⟩
  · have hnm : nmV r = nmV n := by unfold nmV; rw [show r % 2 = n % 2 by omega]
    by_cases h0 : n = 0
    · rw [read_none hd (h.none h0).2 r hnm, (h.none h0).1, h0]
    · rw [read_some hd (h.cur (by omega)) r hnm]
      exact bytes_frame n L (by omega) (by have := hL.2.2; omega) (by have := few_len hL; omega) r e.symm
  · have hnm : nmV r = nmV (n + 1) := by unfold nmV; rw [show r % 2 = (n + 1) % 2 by omega]
    cases hg : getK Fl.n (nmV (n + 1)) S.fs with
    | none => exact ⟨0, [], read_none hd hg r hnm, .inl rfl⟩
    | some f =>
      rw [read_some hd hg r hnm]
      obtain ⟨m, l, h1, h2⟩ := (h.oth f hg).2
      exact ⟨m, l, by rw [show r = (n + 1) % 2 by omega]; exact h1, h2⟩
theorem open_quiet {S : Dk} {n : Nat} {L : List Int} (h : Quiet S n L) (hd : S.down = false) (hL : Few n L) : openV S = (0, n, L) := by
  have h0 := read_quiet h hd hL 0 (by omega)
  have h1 := read_quiet h hd hL 1 (by omega)
  unfold openV
  by_cases hp : n % 2 = 0
  · rw [h0.1 hp.symm]
    obtain ⟨m, l, e, hm⟩ := h1.2 (by omega)
    rw [e]
    simp only [ne_eq, not_true_eq_false, if_false]
    unfold pickV
    simp only
    by_cases hn : 0 < n
    · rw [if_pos hn, if_neg (by simp only; omega)]
    · have hn0 : n = 0 := by omega
      rw [if_neg hn, if_neg (by simp only; omega), (h.none hn0).1, hn0]
  · rw [h1.1 (by omega)]
    obtain ⟨m, l, e, hm⟩ := h0.2 (by omega)
    rw [e]
    simp only [ne_eq, not_true_eq_false, if_false]
    unfold pickV
    simp only
    by_cases hm0 : 0 < m
    · rw [if_pos hm0, if_pos (by simp only; omega)]
    · rw [if_neg hm0, if_pos (by simp only; omega)]
theorem quiet_new (z : Nat) : Quiet ⟨z, [], false, 0⟩ 0 [] := ⟨List.Pairwise.nil, by simp, by simp, fun _ => ⟨rfl, rfl⟩, fun h => by omega, fun f hf => by simp [getK] at hf⟩
/-- a save on a disk that is not armed, with room -/
theorem save_fine {S : Dk} {n k : Nat} {L B : List Int} (h : Quiet S n L) (hd : S.down = false) (ha : S.arm = 0) (hL : Few n L) (hB : Few (n + 1) B) (hu : used S.fs + B.length + 20 ≤ S.size) (kL : L.length ≤ k) (kB : B.length ≤ k) :
    ∃ S', saveV ⟨n, L, false⟩ S B = (0, ⟨n + 1, B, false⟩, S') ∧ Quiet S' (n + 1) B ∧ S'.down = false ∧ S'.arm = 0 ∧ S'.size = S.size ∧ used S'.fs ≤ 2 * (k + 20) ∧ getK Fl.n (nmV n) S'.fs = getK Fl.n (nmV n) S.fs := by
  obtain ⟨z, h1⟩ := save_quiet h hd hL hB
  rcases h1 with ⟨a, b, c, d, e, g⟩ | ⟨a, b, c, d⟩ | ⟨a, b, c, d, e⟩
  · refine ⟨_, Prod.ext a (Prod.ext b rfl), c, d, e ha, z, (two_files c.rise c.names).2 (k + 20) (fun f hf => ?_), g⟩
    have hg := getK_of_mem c.rise hf
    have h1 := (few_len hL).2.1
    have h2 := (few_len hB).2.1
    rcases nmV_one n f.n (c.names f hf) with e1 | e1
    · rw [e1, g] at hg
      by_cases h0 : n = 0
      · rw [(h.none h0).2] at hg; cases hg
      · rw [h.cur (by omega)] at hg
        cases hg
        simp only; omega
    · rw [e1, c.cur (by omega)] at hg
      cases hg
      simp only; omega
  · omega
  · exact absurd ha d
theorem used_start {S : Dk} (hs : ∀ f ∈ S.fs, f.s ≤ f.d.length) : used (startS S).fs ≤ used S.fs := by
  unfold startS
  split
  · exact (used_fall [] S.fs 0 hs).1
  · exact Nat.le_refl _
theorem used_crash {S : Dk} (keep : List Int) (hs : ∀ f ∈ S.fs, f.s ≤ f.d.length) : used (crashS S keep).fs ≤ used S.fs := (used_fall keep S.fs 0 hs).1
end Go.Proofs.Ytodnnblnchjeiaa
