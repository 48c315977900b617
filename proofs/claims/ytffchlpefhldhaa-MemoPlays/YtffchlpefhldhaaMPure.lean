/- What a memo holds, as a list of pairs with their distances, the eldest first: plain lists. -/
import Derived.Test.YtffchlpefhldhaaMCount
namespace Go.Proofs.Ytffchlpefhldhaa
open Go.RowKit
set_option linter.unusedVariables false

abbrev Ent := Int × Int × Int
def isAt (a b : Int) (e : Ent) : Bool := decide (e.1 = a) && decide (e.2.1 = b)
def keyed (L : List Ent) (a b : Int) : Bool := L.any (isAt a b)
def dist (L : List Ent) (a b : Int) : Int := match L.find? (isAt a b) with | some e => e.2.2 | none => 0
/-- does this pair count for node a on side s? -/
def ends (a s : Int) (e : Ent) : Bool := (decide (s = 0) && decide (e.1 = a)) || (decide (s = 1) && decide (e.2.1 = a) && !decide (e.1 = e.2.1))
def cnt (L : List Ent) (a s : Int) : Int := (L.countP (ends a s) : Nat)
def Good (L : List Ent) : Prop := (∀ e ∈ L, I32 e.1 ∧ I32 e.2.1 ∧ (Lit.int .i64 e.2.2).wf = true) ∧ L.Pairwise (fun e e' => ¬ (e.1 = e'.1 ∧ e.2.1 = e'.2.1))
def qcells (L : List Ent) : List Value := L.flatMap fun e => [.int .i32 e.1, .int .i32 e.2.1]
/-- its distance is another one now -/
def redo (L : List Ent) (a b d : Int) : List Ent := L.map fun e => if isAt a b e then (a, b, d) else e
def putL (most : Nat) (L : List Ent) (a b d : Int) : List Ent := if keyed L a b then redo L a b d else if L.length + 1 ≤ most then L ++ [(a, b, d)] else (L ++ [(a, b, d)]).drop 1
def keep (node : Int) (e : Ent) : Bool := !(decide (e.1 = node)) && !(decide (e.2.1 = node))
def dropL (L : List Ent) (node : Int) : List Ent := L.filter (keep node)

theorem isAt_iff {a b : Int} {e : Ent} : isAt a b e = true ↔ e.1 = a ∧ e.2.1 = b := by simp [isAt]
theorem qcells_length (L : List Ent) : (qcells L).length = L.length * 2 := by
  induction L with
  | nil => rfl
  | cons e L ih => simp [qcells] at ih ⊢; omega
theorem qcells_append (L M : List Ent) : qcells (L ++ M) = qcells L ++ qcells M := by simp [qcells]
theorem qcells_cons (e : Ent) (L : List Ent) : qcells (e :: L) = [.int .i32 e.1, .int .i32 e.2.1] ++ qcells L := rfl
theorem qcells_get (L : List Ent) : ∀ (j : Nat) (e : Ent), L[j]? = some e → (qcells L)[j * 2]? = some (.int .i32 e.1) ∧ (qcells L)[j * 2 + 1]? = some (.int .i32 e.2.1) := by
  induction L with
  | nil => intro j e h; simp at h
  | cons x L ih =>
    intro j e h
    cases j with
    | zero => simp at h; subst h; exact ⟨rfl, rfl⟩
    | succ j =>
      obtain ⟨h1, h2⟩ := ih j e (by simpa using h)
      rw [qcells_cons, show (j + 1) * 2 = j * 2 + 2 by omega]
      exact ⟨by simpa using h1, by simpa using h2⟩
theorem qcells_drop1 (e : Ent) (L : List Ent) : (qcells (e :: L)).drop 2 = qcells L := rfl

theorem find_none {L : List Ent} {a b : Int} (h : keyed L a b = false) : L.find? (isAt a b) = none := by
  rw [List.find?_eq_none]
  intro e he
  unfold keyed at h
  have := List.any_eq_false.1 h e he
  simpa using this
theorem keyed_append (L M : List Ent) (a b : Int) : keyed (L ++ M) a b = (keyed L a b || keyed M a b) := by simp [keyed]
theorem dist_none {L : List Ent} {a b : Int} (h : keyed L a b = false) : dist L a b = 0 := by unfold dist; rw [find_none h]

theorem dist_append (L M : List Ent) (a b : Int) : dist (L ++ M) a b = if keyed L a b then dist L a b else dist M a b := by
  unfold dist keyed
  rw [List.find?_append]
  cases h : L.find? (isAt a b) with
  | none =>
    have : L.any (isAt a b) = false := by
      rw [List.any_eq_false]; exact fun e he => by simpa using List.find?_eq_none.1 h e he
    simp [this]
  | some x =>
    have : L.any (isAt a b) = true := List.any_eq_true.2 ⟨x, List.mem_of_find?_eq_some h, List.find?_some h⟩
    simp [this]

theorem keyed_snoc (L : List Ent) (a b d : Int) : keyed (L ++ [(a, b, d)]) = upd (keyed L) a b true := by
  funext c e
  rw [keyed_append]
  unfold upd
  by_cases h : c = a ∧ e = b
  · rw [if_pos h]; obtain ⟨rfl, rfl⟩ := h; simp [keyed, isAt]
  · rw [if_neg h]
    have : keyed [(a, b, d)] c e = false := by simp [keyed, isAt]; omega
    rw [this]; simp
theorem dist_snoc {L : List Ent} {a b : Int} (d : Int) (h : keyed L a b = false) : dist (L ++ [(a, b, d)]) = upd (dist L) a b d := by
  funext c e
  rw [dist_append]
  unfold upd
  by_cases hh : c = a ∧ e = b
  · rw [if_pos hh]; obtain ⟨rfl, rfl⟩ := hh; rw [h]; simp [dist, isAt]
  · rw [if_neg hh]
    have h1 : keyed [(a, b, d)] c e = false := by simp [keyed, isAt]; omega
    cases h2 : keyed L c e
    · simp [dist_none h1, dist_none h2]
    · simp
theorem cnt_append (L M : List Ent) (a s : Int) : cnt (L ++ M) a s = cnt L a s + cnt M a s := by simp [cnt]
theorem cnt_one (f : Int → Int → Int) (a b d more : Int) (hm : more = 1 ∨ more = -1) : bump f a b more = fun c s => f c s + more * cnt [(a, b, d)] c s := by
  funext c s
  unfold bump
  by_cases e : a = b
  · subst e
    rw [if_pos rfl]
    unfold upd
    by_cases h : c = a ∧ s = 0
    · rw [if_pos h]; obtain ⟨rfl, rfl⟩ := h; simp [cnt, ends]
    · rw [if_neg h]
      have : ends c s (a, a, d) = false := by simp [ends]; omega
      simp [cnt, this]
  · rw [if_neg e]
    unfold upd
    by_cases h1 : c = b ∧ s = 1
    · rw [if_pos h1]; obtain ⟨rfl, rfl⟩ := h1
      have : ends c 1 (a, c, d) = true := by simp [ends, e]
      simp [cnt, this]
    · rw [if_neg h1]
      by_cases h2 : c = a ∧ s = 0
      · rw [if_pos h2]; obtain ⟨rfl, rfl⟩ := h2
        have : ends c 0 (c, b, d) = true := by simp [ends]
        simp [cnt, this]
      · rw [if_neg h2]
        have : ends c s (a, b, d) = false := by simp [ends]; omega
        simp [cnt, this]
theorem cnt_snoc (L : List Ent) (a b d : Int) : cnt (L ++ [(a, b, d)]) = bump (cnt L) a b 1 := by
  rw [cnt_one _ a b d 1 (.inl rfl)]
  funext c s
  rw [cnt_append]; omega
theorem cnt_bd (L : List Ent) (a s : Int) : 0 ≤ cnt L a s ∧ cnt L a s ≤ L.length := by
  unfold cnt
  have := List.countP_le_length (p := ends a s) (l := L)
  omega
/-- without one in the middle -/
theorem cnt_strike (X Y : List Ent) (a b d : Int) : cnt (X ++ Y) = bump (cnt (X ++ (a, b, d) :: Y)) a b (-1) := by
  rw [cnt_one _ a b d (-1) (.inr rfl)]
  funext c s
  rw [cnt_append, cnt_append, show (a, b, d) :: Y = [(a, b, d)] ++ Y from rfl, cnt_append]; omega

theorem Good.not {X Y : List Ent} {a b d : Int} (h : Good (X ++ (a, b, d) :: Y)) : keyed X a b = false ∧ keyed Y a b = false := by
  have hp := h.2
  rw [List.pairwise_append] at hp
  obtain ⟨h1, h2, h3⟩ := hp
  constructor
  · unfold keyed; rw [List.any_eq_false]; intro e he
    have := h3 e he (a, b, d) (by simp)
    rw [isAt_iff]; exact this
  · unfold keyed; rw [List.any_eq_false]; intro e he
    have := (List.pairwise_cons.1 h2).1 e he
    rw [isAt_iff]; intro hh; exact this ⟨hh.1.symm, hh.2.symm⟩
theorem Good.strike {X Y : List Ent} {e : Ent} (h : Good (X ++ e :: Y)) : Good (X ++ Y) := by
  refine ⟨fun x hx => h.1 x (by simp at hx ⊢; rcases hx with hx | hx <;> simp [hx]), ?_⟩
  exact h.2.sublist (List.Sublist.append (List.Sublist.refl _) (List.sublist_cons_self _ _))
theorem keyed_strike {X Y : List Ent} {a b d : Int} (h : Good (X ++ (a, b, d) :: Y)) : keyed (X ++ Y) = upd (keyed (X ++ (a, b, d) :: Y)) a b false := by
  obtain ⟨h1, h2⟩ := h.not
  funext c e
  unfold upd
  by_cases hh : c = a ∧ e = b
  · rw [if_pos hh]; obtain ⟨rfl, rfl⟩ := hh; rw [keyed_append, h1, h2]; rfl
  · rw [if_neg hh, keyed_append, keyed_append]
    have : keyed ((a, b, d) :: Y) c e = keyed Y c e := by
      unfold keyed; rw [List.any_cons]
      have : isAt c e (a, b, d) = false := by simp [isAt]; omega
      rw [this]; rfl
    rw [this]
theorem dist_strike {X Y : List Ent} {a b d : Int} (h : Good (X ++ (a, b, d) :: Y)) : dist (X ++ Y) = upd (dist (X ++ (a, b, d) :: Y)) a b 0 := by
  obtain ⟨h1, h2⟩ := h.not
  funext c e
  unfold upd
  by_cases hh : c = a ∧ e = b
  · rw [if_pos hh]; obtain ⟨rfl, rfl⟩ := hh
    exact dist_none (by rw [keyed_append, h1, h2]; rfl)
  · rw [if_neg hh, dist_append, dist_append]
    have : dist ((a, b, d) :: Y) c e = dist Y c e := by
      unfold dist; rw [List.find?_cons]
      have : isAt c e (a, b, d) = false := by simp [isAt]; omega
      rw [this]
    rw [this]

theorem Good.snoc {L : List Ent} {a b d : Int} (h : Good L) (hk : keyed L a b = false) (wa : I32 a) (wb : I32 b) (wd : (Lit.int .i64 d).wf = true) : Good (L ++ [(a, b, d)]) := by
  refine ⟨fun e he => ?_, ?_⟩
  · simp at he
    rcases he with he | rfl
    · exact h.1 e he
    · exact ⟨wa, wb, wd⟩
  · rw [List.pairwise_append]
    refine ⟨h.2, by simp, fun e he e' he' => ?_⟩
    simp at he'
    subst he'
    have := List.any_eq_false.1 hk e he
    rw [isAt_iff] at this
    exact this

theorem redo_key (a b d : Int) (e : Ent) : (if isAt a b e then (a, b, d) else e).1 = e.1 ∧ (if isAt a b e then (a, b, d) else e).2.1 = e.2.1 := by
  split
  · rename_i h; rw [isAt_iff] at h; exact ⟨h.1.symm, h.2.symm⟩
  · exact ⟨rfl, rfl⟩
theorem redo_length (L : List Ent) (a b d : Int) : (redo L a b d).length = L.length := by simp [redo]
theorem qcells_redo (L : List Ent) (a b d : Int) : qcells (redo L a b d) = qcells L := by
  induction L with
  | nil => rfl
  | cons e L ih =>
    show qcells ((if isAt a b e then (a, b, d) else e) :: redo L a b d) = _
    rw [qcells_cons, qcells_cons, ih, (redo_key a b d e).1, (redo_key a b d e).2]
theorem isAt_redo (a b d c e : Int) (x : Ent) : isAt c e (if isAt a b x then (a, b, d) else x) = isAt c e x := by
  unfold isAt
  have := redo_key a b d x
  unfold isAt at this
  rw [this.1, this.2]
theorem keyed_redo (L : List Ent) (a b d : Int) : keyed (redo L a b d) = keyed L := by
  funext c e
  unfold keyed redo
  rw [List.any_map]
  congr 1
  funext x
  exact isAt_redo a b d c e x
theorem cnt_redo (L : List Ent) (a b d : Int) : cnt (redo L a b d) = cnt L := by
  funext c s
  unfold cnt redo
  rw [List.countP_map]
  congr 2
  funext x
  show ends c s (if isAt a b x then (a, b, d) else x) = ends c s x
  unfold ends
  have := redo_key a b d x
  rw [this.1, this.2]
theorem redo_none {L : List Ent} {a b : Int} (d : Int) (h : keyed L a b = false) : redo L a b d = L := by
  have : redo L a b d = L.map id := by
    unfold redo
    refine List.map_congr_left (fun y hy => ?_)
    have := List.any_eq_false.1 h y hy
    simp [this]
  rw [this, List.map_id]
theorem dist_redo {L : List Ent} {a b : Int} (d : Int) (h : keyed L a b = true) : dist (redo L a b d) = upd (dist L) a b d := by
  funext c e
  unfold upd
  induction L with
  | nil => simp [keyed] at h
  | cons x L ih =>
    show dist ((if isAt a b x then (a, b, d) else x) :: redo L a b d) c e = _
    unfold dist
    rw [List.find?_cons, List.find?_cons, isAt_redo]
    cases hx : isAt c e x
    · by_cases hl : keyed L a b = true
      · have := ih hl
        unfold dist at this
        simpa using this
      · have hl' : keyed L a b = false := by simpa using hl
        have hax : isAt a b x = true := by
          unfold keyed at h hl'; rw [List.any_cons, hl'] at h; simpa using h
        have hne : ¬ (c = a ∧ e = b) := by
          rintro ⟨rfl, rfl⟩; rw [hx] at hax; cases hax
        rw [if_neg hne]
        simp [redo_none d hl']
    · rw [isAt_iff] at hx
      by_cases hne : c = a ∧ e = b
      · rw [if_pos hne]
        have : isAt a b x = true := by rw [isAt_iff]; rw [hx.1, hx.2]; exact hne
        simp [this]
      · rw [if_neg hne]
        have : isAt a b x = false := by
          cases h' : isAt a b x
          · rfl
          · rw [isAt_iff] at h'; exact absurd ⟨hx.1.symm.trans h'.1, hx.2.symm.trans h'.2⟩ hne
        simp [this]
theorem Good.redo {L : List Ent} {a b d : Int} (h : Good L) (wd : (Lit.int .i64 d).wf = true) : Good (redo L a b d) := by
  refine ⟨fun e he => ?_, ?_⟩
  · obtain ⟨x, hx, rfl⟩ := List.mem_map.1 he
    have h1 := h.1 x hx
    have h2 := redo_key a b d x
    refine ⟨by rw [h2.1]; exact h1.1, by rw [h2.2]; exact h1.2.1, ?_⟩
    split
    · exact wd
    · exact h1.2.2
  · unfold Go.Proofs.Ytffchlpefhldhaa.redo
    rw [List.pairwise_map]
    refine h.2.imp (fun {x y} hxy => ?_)
    rw [(redo_key a b d x).1, (redo_key a b d x).2, (redo_key a b d y).1, (redo_key a b d y).2]
    exact hxy
end Go.Proofs.Ytffchlpefhldhaa
