/- Networks, plain: arcs, their order, sorting by halves and by gathering, their bytes. Nothing of the program is named here. -/
import Derived.Test.YtombpfpfeebnpaaCPure
namespace Go.Proofs.Ytombpfpfeebnpaa
set_option linter.unusedVariables false
set_option linter.unusedSimpArgs false

/-- an arc: from, to, weight -/
abbrev Ar := Int × Int × Int
abbrev keyA (a : Ar) : Int × Int := (a.1, a.2.1)
abbrev ltA (a b : Ar) : Prop := a.1 < b.1 ∨ a.1 = b.1 ∧ a.2.1 < b.2.1
abbrev leA (a b : Ar) : Prop := ¬ ltA b a
abbrev okA (n : Int) (a : Ar) : Prop := 0 ≤ a.1 ∧ a.1 < n ∧ 0 ≤ a.2.1 ∧ a.2.1 < n ∧ a.1 ≠ a.2.1 ∧ 1 ≤ a.2.2 ∧ a.2.2 ≤ 1048576
abbrev BoundedN (n : Int) (l : List Ar) : Prop := 1 ≤ n ∧ n ≤ 4194304 ∧ l.length ≤ 4194304 ∧ ∀ a ∈ l, okA n a
/-- no two arcs have the same ends -/
abbrev Dist (l : List Ar) : Prop := (l.map keyA).Nodup
abbrev MayA (n : Int) (l : List Ar) : Prop := BoundedN n l ∧ Dist l

theorem ltA_trans {a b c : Ar} (h : ltA a b) (k : ltA b c) : ltA a c := by unfold ltA at *; omega
theorem leA_trans {a b c : Ar} (h : leA a b) (k : leA b c) : leA a c := by unfold leA ltA at *; omega
theorem ltA_irr (a : Ar) : ¬ ltA a a := by unfold ltA; omega
theorem ltA_leA {a b : Ar} (h : ltA a b) : leA a b := by unfold leA ltA at *; omega
theorem leA_ne {a b : Ar} (h : leA a b) (k : keyA a ≠ keyA b) : ltA a b := by
  unfold leA ltA at *
  have : ¬ (a.1 = b.1 ∧ a.2.1 = b.2.1) := fun e => k (by unfold keyA; rw [e.1, e.2])
  omega
theorem ltA_ne {a b : Ar} (h : ltA a b) : keyA a ≠ keyA b := by
  intro e
  unfold keyA at e
  simp only [Prod.mk.injEq] at e
  unfold ltA at h
  omega

/-- each arc is ahead of its neighbour -/
def Rising (l : List Ar) : Prop := ∀ i a b, l[i]? = some a → l[i + 1]? = some b → ltA a b
theorem adj_pairwise {R : Ar → Ar → Prop} (ht : ∀ a b c, R a b → R b c → R a c) : ∀ {l : List Ar}, (∀ i a b, l[i]? = some a → l[i + 1]? = some b → R a b) → l.Pairwise R
  | [], _ => List.Pairwise.nil
  | [a], _ => List.pairwise_singleton _ _
  | a :: b :: r, h => by
    have hb : (b :: r).Pairwise R := adj_pairwise ht (fun i x y hx hy => h (i + 1) x y (by simpa using hx) (by simpa using hy))
    have hab : R a b := h 0 a b rfl rfl
    refine List.Pairwise.cons ?_ hb
    intro x hx
    rcases List.mem_cons.1 hx with rfl | hx
    · exact hab
    · exact ht _ _ _ hab ((List.pairwise_cons.1 hb).1 x hx)
theorem pairwise_adj {R : Ar → Ar → Prop} {l : List Ar} (h : l.Pairwise R) : ∀ i a b, l[i]? = some a → l[i + 1]? = some b → R a b := by
  intro i a b ha hb
  obtain ⟨h1, rfl⟩ := List.getElem?_eq_some_iff.1 ha
  obtain ⟨h2, rfl⟩ := List.getElem?_eq_some_iff.1 hb
  exact List.pairwise_iff_getElem.1 h i (i + 1) h1 h2 (by omega)
theorem rising_iff {l : List Ar} : Rising l ↔ l.Pairwise ltA := ⟨fun h => adj_pairwise (R := ltA) (fun _ _ _ a b => ltA_trans a b) h, fun h => pairwise_adj h⟩

theorem lt_dist {l : List Ar} (h : l.Pairwise ltA) : Dist l := by
  unfold Dist List.Nodup
  rw [List.pairwise_map]
  exact h.imp (fun h => ltA_ne h)
theorem sorted_dist {l : List Ar} (h : l.Pairwise leA) (d : Dist l) : l.Pairwise ltA := by
  unfold Dist List.Nodup at d
  rw [List.pairwise_map] at d
  exact (h.and d).imp (fun h => leA_ne h.1 h.2)
theorem lt_unique {a b : List Ar} (h : a.Perm b) (ha : a.Pairwise ltA) (hb : b.Pairwise ltA) : a = b :=
  List.Perm.eq_of_pairwise (le := ltA) (fun x y _ _ h1 h2 => absurd (ltA_trans h1 h2) (ltA_irr x)) ha hb h
theorem dist_perm {a b : List Ar} (h : a.Perm b) : Dist a ↔ Dist b := (h.map keyA).nodup_iff

/-- two rising lists, together -/
def mergeA (a b : List Ar) : List Ar :=
  match a, b with
  | [], b => b
  | a, [] => a
  | x :: a, y :: b => if ltA y x then y :: mergeA (x :: a) b else x :: mergeA a (y :: b)
termination_by a.length + b.length
theorem mergeA_nil (b : List Ar) : mergeA [] b = b := by unfold mergeA; rfl
theorem mergeA_none (a : List Ar) : mergeA a [] = a := by cases a <;> (unfold mergeA; rfl)
theorem mergeA_cons (x y : Ar) (a b : List Ar) : mergeA (x :: a) (y :: b) = if ltA y x then y :: mergeA (x :: a) b else x :: mergeA a (y :: b) := by rw [mergeA]
theorem mergeA_perm : ∀ (n : Nat) (a b : List Ar), a.length + b.length = n → (mergeA a b).Perm (a ++ b)
  | n, [], b, _ => by rw [mergeA_nil]; simp
  | n, x :: a, [], _ => by rw [mergeA_none]; simp
  | 0, x :: a, y :: b, h => by simp at h
  | n + 1, x :: a, y :: b, h => by
    rw [mergeA_cons]
    simp only [List.length_cons] at h
    split
    · have := mergeA_perm n (x :: a) b (by simp only [List.length_cons]; omega)
      exact (this.cons y).trans (List.perm_middle (a := y) (l₁ := x :: a) (l₂ := b)).symm
    · have := mergeA_perm n a (y :: b) (by simp only [List.length_cons]; omega)
      exact this.cons x
theorem mergeA_sorted : ∀ (n : Nat) (a b : List Ar), a.length + b.length = n → a.Pairwise leA → b.Pairwise leA → (mergeA a b).Pairwise leA
  | n, [], b, _, _, hb => by rw [mergeA_nil]; exact hb
  | n, x :: a, [], _, ha, _ => by rw [mergeA_none]; exact ha
  | 0, x :: a, y :: b, h, _, _ => by simp at h
  | n + 1, x :: a, y :: b, h, ha, hb => by
    rw [mergeA_cons]
    simp only [List.length_cons] at h
    have ha' := List.pairwise_cons.1 ha
    have hb' := List.pairwise_cons.1 hb
    split
    · rename_i hlt
      refine List.Pairwise.cons ?_ (mergeA_sorted n (x :: a) b (by simp only [List.length_cons]; omega) ha hb'.2)
      intro z hz
      rcases List.mem_append.1 ((mergeA_perm _ (x :: a) b rfl).mem_iff.1 hz) with hz | hz
      · rcases List.mem_cons.1 hz with rfl | hz
        · exact ltA_leA hlt
        · exact leA_trans (ltA_leA hlt) (ha'.1 z hz)
      · exact hb'.1 z hz
    · rename_i hlt
      refine List.Pairwise.cons ?_ (mergeA_sorted n a (y :: b) (by simp only [List.length_cons]; omega) ha'.2 hb)
      intro z hz
      rcases List.mem_append.1 ((mergeA_perm _ a (y :: b) rfl).mem_iff.1 hz) with hz | hz
      · exact ha'.1 z hz
      · rcases List.mem_cons.1 hz with rfl | hz
        · exact hlt
        · exact leA_trans hlt (hb'.1 z hz)
/-- sorting by halves -/
def sortA (l : List Ar) : List Ar :=
  if h : l.length < 2 then l else mergeA (sortA (l.take (l.length / 2))) (sortA (l.drop (l.length / 2)))
termination_by l.length
decreasing_by all_goals simp; omega
theorem sortA_short {l : List Ar} (h : l.length < 2) : sortA l = l := by rw [sortA, dif_pos h]
theorem sortA_long {l : List Ar} (h : ¬ l.length < 2) : sortA l = mergeA (sortA (l.take (l.length / 2))) (sortA (l.drop (l.length / 2))) := by rw [sortA, dif_neg h]
theorem sortA_perm : ∀ (n : Nat) (l : List Ar), l.length ≤ n → (sortA l).Perm l
  | 0, l, h => by rw [sortA_short (by omega)]
  | n + 1, l, h => by
    by_cases h2 : l.length < 2
    · rw [sortA_short h2]
    · rw [sortA_long h2]
      refine (mergeA_perm _ _ _ rfl).trans ?_
      have h1 := sortA_perm n (l.take (l.length / 2)) (by rw [List.length_take]; omega)
      have h3 := sortA_perm n (l.drop (l.length / 2)) (by rw [List.length_drop]; omega)
      have := h1.append h3
      rwa [List.take_append_drop] at this
theorem sortA_sorted : ∀ (n : Nat) (l : List Ar), l.length ≤ n → (sortA l).Pairwise leA
  | 0, l, h => by rw [sortA_short (by omega)]; obtain rfl := List.eq_nil_of_length_eq_zero (by omega : l.length = 0); exact List.Pairwise.nil
  | n + 1, l, h => by
    by_cases h2 : l.length < 2
    · rw [sortA_short h2]
      match l, h2 with
      | [], _ => exact List.Pairwise.nil
      | [a], _ => exact List.pairwise_singleton _ _
    · rw [sortA_long h2]
      exact mergeA_sorted _ _ _ rfl (sortA_perm_sorted n _ (by rw [List.length_take]; omega)) (sortA_perm_sorted n _ (by rw [List.length_drop]; omega))
where sortA_perm_sorted (n : Nat) (l : List Ar) (h : l.length ≤ n) : (sortA l).Pairwise leA := sortA_sorted n l h
theorem perm_sort (l : List Ar) : (sortA l).Perm l := sortA_perm l.length l (Nat.le_refl _)
theorem sort_sorted (l : List Ar) : (sortA l).Pairwise leA := sortA_sorted l.length l (Nat.le_refl _)
theorem sort_len (l : List Ar) : (sortA l).length = l.length := (perm_sort l).length_eq
theorem sort_mem {l : List Ar} {a : Ar} : a ∈ sortA l ↔ a ∈ l := (perm_sort l).mem_iff
theorem sort_dist {l : List Ar} (h : Dist l) : (sortA l).Pairwise ltA := sorted_dist (sort_sorted l) ((dist_perm (perm_sort l)).2 h)
theorem sort_rising {l : List Ar} (h : Rising l) : sortA l = l := lt_unique (perm_sort l) (sort_dist (lt_dist (rising_iff.1 h))) (rising_iff.1 h)
/-- neighbours of other ends in what is sorted: no two of the same ends at all -/
theorem dist_iff (l : List Ar) : Dist l ↔ ∀ i a b, (sortA l)[i]? = some a → (sortA l)[i + 1]? = some b → ¬ (a.1 = b.1 ∧ a.2.1 = b.2.1) := by
  constructor
  · intro h i a b ha hb e
    exact ltA_ne (pairwise_adj (sort_dist h) i a b ha hb) (by unfold keyA; rw [e.1, e.2])
  · intro h
    refine (dist_perm (perm_sort l)).1 (lt_dist (adj_pairwise (R := ltA) (fun _ _ _ a b => ltA_trans a b) (fun i a b ha hb => leA_ne (pairwise_adj (sort_sorted l) i a b ha hb) (fun e => h i a b ha hb ?_))))
    unfold keyA at e
    simpa using e
theorem rising_dist {l : List Ar} (h : Rising l) : Dist l := lt_dist (rising_iff.1 h)

/-- a network's bytes -/
def arcB (a : Ar) : List Int := numB a.1.toNat ++ numB a.2.1.toNat ++ numB a.2.2.toNat
def encB (n : Int) (l : List Ar) : List Int := 7 :: (numB n.toNat ++ numB l.length ++ l.flatMap arcB)
/-- an arc that is read -/
def arcT (r : List Int) (e : Int) : Ar × List Int × Int :=
  ((((smallT 4194304 r e).1 : Int), ((smallT 4194304 (smallT 4194304 r e).2.1 (smallT 4194304 r e).2.2).1 : Int),
    ((smallT 1048576 (smallT 4194304 (smallT 4194304 r e).2.1 (smallT 4194304 r e).2.2).2.1 (smallT 4194304 (smallT 4194304 r e).2.1 (smallT 4194304 r e).2.2).2.2).1 : Int)),
   (smallT 1048576 (smallT 4194304 (smallT 4194304 r e).2.1 (smallT 4194304 r e).2.2).2.1 (smallT 4194304 (smallT 4194304 r e).2.1 (smallT 4194304 r e).2.2).2.2).2)
def arcsT : Nat → List Int → Int → List Ar × List Int × Int
  | 0, r, e => ([], r, e)
  | k + 1, r, e => if (arcT r e).2.2 ≠ 0 then ([], (arcT r e).2) else ((arcT r e).1 :: (arcsT k (arcT r e).2.1 0).1, (arcsT k (arcT r e).2.1 0).2)
/-- what a reader tells: the number of nodes, the arcs, what is left, the fault -/
def netT (r : List Int) : Int × List Ar × List Int × Int :=
  (((smallT 4194304 r 0).1 : Int), arcsT (smallT 4194304 (smallT 4194304 r 0).2.1 (smallT 4194304 r 0).2.2).1 (smallT 4194304 (smallT 4194304 r 0).2.1 (smallT 4194304 r 0).2.2).2.1 (smallT 4194304 (smallT 4194304 r 0).2.1 (smallT 4194304 r 0).2.2).2.2)

theorem small_fault {m : Nat} {r : List Int} {e : Int} (h : e ≠ 0) : smallT m r e = (0, r, e) := by unfold smallT; rw [if_pos h]
theorem small_num (m v : Nat) (r : List Int) (h : v ≤ m) (hm : m < 18446744073709551616) : smallT m (numB v ++ r) 0 = (v, r, 0) := by
  unfold smallT
  rw [if_neg (by simp), dec_zero v r (by omega), if_neg (by simp), if_neg (by show ¬ m < v; omega)]
  simp
theorem small_ok {m : Nat} {r : List Int} {v : Nat} {r' : List Int} (hb : Bytes r) (h : smallT m r 0 = (v, r', 0)) : r = numB v ++ r' ∧ v ≤ m ∧ Bytes r' := by
  unfold smallT at h
  rw [if_neg (by simp)] at h
  generalize hd : dec 0 0 r = D at h
  obtain ⟨y, n, f⟩ := D
  simp only at h
  by_cases hf : f ≠ 0
  · rw [if_pos hf] at h; simp at h; exact absurd h.2.2 hf
  rw [if_neg hf] at h
  by_cases hm : m < y
  · rw [if_pos hm] at h; simp at h
  rw [if_neg hm] at h
  obtain rfl : f = 0 := by omega
  simp only [Prod.mk.injEq] at h
  obtain ⟨rfl, rfl, _⟩ := h
  obtain ⟨h1, h2, h3, h4, h5⟩ := dec_ok hb hd
  refine ⟨by rw [← h1, List.take_append_drop], by omega, fun x hx => hb x (List.mem_of_mem_drop hx)⟩
theorem bytes_append {a b : List Int} (h : Bytes a) (k : Bytes b) : Bytes (a ++ b) := by
  intro x hx
  rcases List.mem_append.1 hx with h1 | h1
  · exact h x h1
  · exact k x h1
theorem arcT_num (n : Int) (a : Ar) (r : List Int) (hn : n ≤ 4194304) (h : okA n a) : arcT (arcB a ++ r) 0 = (a, r, 0) := by
  obtain ⟨f, t, v⟩ := a
  unfold okA at h
  simp only at h
  unfold arcT arcB
  simp only [List.append_assoc]
  rw [small_num 4194304 f.toNat _ (by omega) (by omega)]
  simp only
  rw [small_num 4194304 t.toNat _ (by omega) (by omega)]
  simp only
  rw [small_num 1048576 v.toNat _ (by omega) (by omega)]
  simp only [Prod.mk.injEq]
  refine ⟨⟨by omega, by omega, by omega⟩, ?_⟩; simp
theorem arcsT_num (n : Int) (hn : n ≤ 4194304) : ∀ (l : List Ar) (r : List Int), (∀ a ∈ l, okA n a) → arcsT l.length (l.flatMap arcB ++ r) 0 = (l, r, 0)
  | [], r, _ => by simp [arcsT]
  | a :: l, r, h => by
    rw [List.length_cons, List.flatMap_cons, List.append_assoc]
    unfold arcsT
    rw [arcT_num n a _ hn (h a (by simp))]
    simp only
    rw [if_neg (by simp), arcsT_num n hn l r (fun x hx => h x (by simp [hx]))]
theorem netT_num {n : Int} {l : List Ar} (h : BoundedN n l) : netT (numB n.toNat ++ numB l.length ++ l.flatMap arcB) = (n, l, [], 0) := by
  obtain ⟨h1, h2, h3, h4⟩ := h
  unfold netT
  rw [List.append_assoc, small_num 4194304 n.toNat _ (by omega) (by omega)]
  simp only
  rw [small_num 4194304 l.length _ (by omega) (by omega)]
  simp only
  have := arcsT_num n h2 l [] h4
  rw [List.append_nil] at this
  rw [this]
  simp only [Prod.mk.injEq, and_true]
  omega
theorem arcT_ok {r : List Int} {a : Ar} {r' : List Int} (hb : Bytes r) (h : arcT r 0 = (a, r', 0)) : r = arcB a ++ r' ∧ Bytes r' := by
  unfold arcT at h
  generalize h1 : smallT 4194304 r 0 = S1 at h
  obtain ⟨v1, r1, e1⟩ := S1
  simp only at h
  generalize h2 : smallT 4194304 r1 e1 = S2 at h
  obtain ⟨v2, r2, e2⟩ := S2
  simp only at h
  generalize h3 : smallT 1048576 r2 e2 = S3 at h
  obtain ⟨v3, r3, e3⟩ := S3
  simp only [Prod.mk.injEq] at h
  obtain ⟨rfl, rfl, rfl⟩ := h
  have he2 : e2 = 0 := by
    rcases Decidable.em (e2 = 0) with h | h
    · exact h
    · rw [small_fault h] at h3; simp at h3; exact h3.2.2
  subst he2
  have he1 : e1 = 0 := by
    rcases Decidable.em (e1 = 0) with h | h
    · exact h
    · rw [small_fault h] at h2; simp at h2; exact h2.2.2
  subst he1
  obtain ⟨rfl, _, b1⟩ := small_ok hb h1
  obtain ⟨rfl, _, b2⟩ := small_ok b1 h2
  obtain ⟨rfl, _, b3⟩ := small_ok b2 h3
  refine ⟨?_, b3⟩
  unfold arcB
  simp only [List.append_assoc, Int.toNat_natCast]
theorem arcsT_ok : ∀ (k : Nat) (r : List Int) (l : List Ar) (r' : List Int), Bytes r → arcsT k r 0 = (l, r', 0) → r = l.flatMap arcB ++ r' ∧ l.length = k
  | 0, r, l, r', hb, h => by
    simp only [arcsT, Prod.mk.injEq] at h
    obtain ⟨rfl, rfl, _⟩ := h
    simp
  | k + 1, r, l, r', hb, h => by
    unfold arcsT at h
    generalize h1 : arcT r 0 = S1 at h
    obtain ⟨a, r1, e1⟩ := S1
    simp only at h
    by_cases he : e1 ≠ 0
    · rw [if_pos he] at h
      simp only [Prod.mk.injEq] at h
      exact absurd h.2.2 he
    rw [if_neg he] at h
    obtain rfl : e1 = 0 := by omega
    obtain ⟨hr, hb1⟩ := arcT_ok hb h1
    generalize h2 : arcsT k r1 0 = S2 at h
    obtain ⟨l2, r2, e2⟩ := S2
    simp only [Prod.mk.injEq] at h
    obtain ⟨rfl, rfl, rfl⟩ := h
    obtain ⟨hr2, hl2⟩ := arcsT_ok k r1 l2 r2 hb1 h2
    refine ⟨?_, by simp [hl2]⟩
    rw [hr, hr2, List.flatMap_cons, List.append_assoc]
theorem arcsT_fault (k : Nat) (r : List Int) (e : Int) (h : e ≠ 0) : (arcsT k r e).1 = [] ∧ (arcsT k r e).2.2 = e := by
  cases k with
  | zero => exact ⟨rfl, rfl⟩
  | succ k =>
    unfold arcsT
    have : arcT r e = ((0, 0, 0), r, e) := by
      unfold arcT
      rw [small_fault h]
      simp only
      rw [small_fault h]
      simp only
      rw [small_fault h]
      rfl
    rw [this]
    simp [h]
theorem netT_ok {r : List Int} {n : Int} {l : List Ar} (hb : Bytes r) (h : netT r = (n, l, [], 0)) : r = numB n.toNat ++ numB l.length ++ l.flatMap arcB := by
  unfold netT at h
  generalize h1 : smallT 4194304 r 0 = S1 at h
  obtain ⟨v1, r1, e1⟩ := S1
  simp only at h
  generalize h2 : smallT 4194304 r1 e1 = S2 at h
  obtain ⟨v2, r2, e2⟩ := S2
  simp only [Prod.mk.injEq] at h
  obtain ⟨rfl, h⟩ := h
  have he2 : e2 = 0 := by
    rcases Decidable.em (e2 = 0) with h' | h'
    · exact h'
    · have := (arcsT_fault v2 r2 e2 h').2
      rw [h] at this
      exact this.symm
  subst he2
  have he1 : e1 = 0 := by
    rcases Decidable.em (e1 = 0) with h | h
    · exact h
    · rw [small_fault h] at h2; simp at h2; exact h2.2.2
  subst he1
  obtain ⟨rfl, _, b1⟩ := small_ok hb h1
  obtain ⟨rfl, _, b2⟩ := small_ok b1 h2
  obtain ⟨hr, hl⟩ := arcsT_ok v2 r2 l [] b2 h
  rw [hr, hl]
  simp
/-- what any bytes are: nodes, arcs, the fault -/
def decodeT (b : List Int) : Int × List Ar × Int :=
  match b with
  | [] => (0, [], 9)
  | x :: r => if x ≠ 7 then (0, [], 10) else if (netT r).2.2.2 ≠ 0 then (0, [], (netT r).2.2.2)
    else if BoundedN (netT r).1 (netT r).2.1 ∧ (netT r).2.1.Pairwise ltA ∧ (netT r).2.2.1 = [] then ((netT r).1, (netT r).2.1, 0) else (0, [], 10)
theorem decode_encode {n : Int} {l : List Ar} (h : BoundedN n l) (hr : Rising l) : decodeT (encB n l) = (n, l, 0) := by
  unfold encB decodeT
  simp only
  rw [if_neg (by simp), netT_num h]
  simp only
  rw [if_neg (by simp), if_pos (by exact ⟨h, rising_iff.1 hr, by simp⟩)]
theorem encode_decode {b : List Int} {n : Int} {l : List Ar} (hb : Bytes b) (h : decodeT b = (n, l, 0)) : BoundedN n l ∧ Rising l ∧ encB n l = b := by
  match b, hb, h with
  | [], _, h => simp [decodeT] at h
  | x :: r, hb, h =>
    unfold decodeT at h
    simp only at h
    by_cases hx : x ≠ 7
    · rw [if_pos hx] at h; simp at h
    rw [if_neg hx] at h
    generalize hN : netT r = N at h
    obtain ⟨n', l', r', e'⟩ := N
    simp only at h
    by_cases he : e' ≠ 0
    · rw [if_pos he] at h; simp only [Prod.mk.injEq] at h; exact absurd h.2.2 he
    rw [if_neg he] at h
    obtain rfl : e' = 0 := by omega
    by_cases hc : BoundedN n' l' ∧ l'.Pairwise ltA ∧ r' = []
    · rw [if_pos hc] at h
      simp only [Prod.mk.injEq] at h
      obtain ⟨rfl, rfl, _⟩ := h
      obtain ⟨h1, h2, rfl⟩ := hc
      refine ⟨h1, rising_iff.2 h2, ?_⟩
      have := netT_ok (fun z hz => hb z (by simp [hz])) hN
      obtain rfl : x = 7 := by omega
      rw [this]; rfl
    · rw [if_neg hc] at h; simp at h
theorem arcB_bytes (a : Ar) : Bytes (arcB a) := by
  unfold arcB; exact bytes_append (bytes_append (numB_bytes _) (numB_bytes _)) (numB_bytes _)
theorem arcB_len (n : Int) (a : Ar) (hn : n ≤ 4194304) (h : okA n a) : (arcB a).length ≤ 12 := by
  obtain ⟨f, t, v⟩ := a
  unfold okA at h
  simp only at h
  unfold arcB
  have h1 := numB_len 3 f.toNat (by omega)
  have h2 := numB_len 3 t.toNat (by omega)
  have h3 := numB_len 2 v.toNat (by omega)
  simp only [List.length_append]
  omega
theorem arcsB_len (n : Int) (hn : n ≤ 4194304) : ∀ (l : List Ar), (∀ a ∈ l, okA n a) → (l.flatMap arcB).length ≤ 12 * l.length
  | [], _ => by simp
  | a :: l, h => by
    have h1 := arcB_len n a hn (h a (by simp))
    have h2 := arcsB_len n hn l (fun x hx => h x (by simp [hx]))
    rw [List.flatMap_cons, List.length_append, List.length_cons]
    omega
end Go.Proofs.Ytombpfpfeebnpaa
