/- Distances by going over all arcs till nothing gets less: plain. -/
import Derived.Test.YtombpfpfeebnpaaPack2
namespace Go.Proofs.Ytombpfpfeebnpaa
set_option linter.unusedVariables false
set_option linter.unusedSimpArgs false

/-- what a list says of a node -/
def val (L : List Int) (u : Int) : Int := (L[u.toNat]?).getD INF
theorem val_set {L : List Int} {t : Nat} {x : Int} (ht : t < L.length) (u : Int) : val (L.set t x) u = if u.toNat = t then x else val L u := by
  unfold val
  rw [List.getElem?_set]
  by_cases e : u.toNat = t
  · rw [if_pos e.symm, if_pos e, if_pos ht]; rfl
  · rw [if_neg (fun h => e h.symm), if_neg e]
theorem val_at {L : List Int} {u : Nat} {x : Int} (h : L[u]? = some x) : val L (u : Int) = x := by unfold val; rw [Int.toNat_natCast, h]; rfl
/-- a list of sums of ways -/
structure BF (n : Nat) (E : Goes) (s : Int) (L : List Int) : Prop where
  len : L.length = n
  rng : ∀ u, 0 ≤ val L u ∧ val L u ≤ INF
  walk : ∀ u, 0 ≤ u → val L u < INF → Walk n E s u (val L u)
  start : 0 ≤ s → s < n → val L s = 0
theorem BF.see {n : Nat} {E : Goes} {s : Int} {L : List Int} (hE : Fair n E) (h : BF n E s L) {u t : Nat} {y : Int} (ha : E u t y) (h1 : val L u < INF) (h2 : val L u + y < val L t) : BF n E s (L.set t (val L u + y)) := by
  have he := hE _ _ _ ha
  have ht : t < L.length := by rw [h.len]; omega
  have hu := h.rng u
  have h0 := h.rng t
  refine ⟨by rw [List.length_set]; exact h.len, fun x => ?_, fun x hx h3 => ?_, fun hs hs2 => ?_⟩
  · rw [val_set ht]
    split
    · omega
    · exact h.rng x
  · rw [val_set ht] at h3 ⊢
    by_cases e : x.toNat = t
    · rw [if_pos e]
      obtain rfl : x = t := by omega
      exact .more (h.walk u (by omega) h1) ha
    · rw [if_neg e] at h3 ⊢; exact h.walk x hx h3
  · rw [val_set ht]
    by_cases e : s.toNat = t
    · have := h.start hs hs2
      obtain rfl : s = t := by omega
      omega
    · rw [if_neg e]; exact h.start hs hs2
/-- a round over some arcs, from L0 on -/
structure Rnd (L0 L : List Int) (A : List Ar) (less : Bool) : Prop where
  le : ∀ u, val L u ≤ val L0 u
  arcs : ∀ a ∈ A, val L a.2.1 ≤ val L0 a.1 + a.2.2
  same : less = false → L = L0
theorem Rnd.begin (L : List Int) : Rnd L L [] false := ⟨fun _ => Int.le_refl _, by simp, fun _ => rfl⟩
theorem Rnd.keep {n : Nat} {E : Goes} {s : Int} {L0 L : List Int} {A : List Ar} {less : Bool} {a : Ar} (h : Rnd L0 L A less) (h0 : BF n E s L0) (hL : BF n E s L) (hp : 0 ≤ a.2.2) (hn : ¬ (val L a.1 < INF ∧ val L a.1 + a.2.2 < val L a.2.1)) : Rnd L0 L (A ++ [a]) less := by
  refine ⟨h.le, fun b hb => ?_, h.same⟩
  rcases List.mem_append.1 hb with hb | hb
  · exact h.arcs b hb
  · rw [List.mem_singleton] at hb
    subst hb
    have h1 := h.le b.1
    have h2 := (hL.rng b.2.1).2
    have h3 := (hL.rng b.1).2
    omega
theorem Rnd.put {n : Nat} {E : Goes} {s : Int} {L0 L : List Int} {A : List Ar} {less : Bool} {a : Ar} {t : Nat} (h : Rnd L0 L A less) (ht : a.2.1 = t) (hl : t < L.length) (hn : val L a.1 + a.2.2 < val L a.2.1) : Rnd L0 (L.set t (val L a.1 + a.2.2)) (A ++ [a]) true := by
  have hv : ∀ u, val (L.set t (val L a.1 + a.2.2)) u ≤ val L u := by
    intro u
    rw [val_set hl]
    split
    · rename_i e
      have : val L u = val L a.2.1 := by unfold val; rw [e, ht, Int.toNat_natCast]
      omega
    · exact Int.le_refl _
  refine ⟨fun u => Int.le_trans (hv u) (h.le u), fun b hb => ?_, fun h => by cases h⟩
  rcases List.mem_append.1 hb with hb | hb
  · exact Int.le_trans (hv _) (h.arcs b hb)
  · rw [List.mem_singleton] at hb
    subst hb
    rw [val_set hl, ht, Int.toNat_natCast, if_pos rfl]
    have := h.le b.1
    omega
/-- nothing got less: these are the distances -/
theorem BF.fix {n : Nat} {E : Goes} {s : Int} {L : List Int} (hE : Fair n E) (h : BF n E s L) (ha : ∀ u t y, E u t y → val L t ≤ val L u + y) : IsDs n E s L := by
  refine ⟨h.len, fun u d hu => ?_⟩
  have hul := (List.getElem?_eq_some_iff.1 hu).1
  rw [h.len] at hul
  rw [← val_at hu]
  exact isD_fix hE (val L) (fun u _ _ => h.rng u) h.start (fun u h0 _ h2 => h.walk u h0 h2) ha u (by omega) (by omega)
/-- how many nodes are nearer -/
def nearer (D : Int → Int) (n : Nat) (d : Int) : Nat := ((List.range n).filter (fun x : Nat => decide (D (x : Int) < d))).length
theorem filter_lt {α : Type} {p q : α → Bool} : ∀ {l : List α}, (∀ x ∈ l, p x = true → q x = true) → (∃ a ∈ l, q a = true ∧ p a = false) → (l.filter p).length < (l.filter q).length
  | [], _, h => by obtain ⟨a, ha, _⟩ := h; simp at ha
  | x :: l, h1, h2 => by
    have hle : (l.filter p).length ≤ (l.filter q).length := by
      clear h2
      induction l with
      | nil => simp
      | cons y l ih =>
        have h3 := ih (fun z hz => h1 z (by
          rcases List.mem_cons.1 hz with rfl | hz
          · simp
          · simp [hz]))
        have h4 := h1 y (by simp)
        simp only [List.filter_cons]
        cases hp : p y
        · cases hq : q y
          · simpa using h3
          · simp; omega
        · rw [h4 hp]; simpa using h3
    obtain ⟨a, ha, hqa, hpa⟩ := h2
    simp only [List.filter_cons]
    rcases List.mem_cons.1 ha with rfl | ha
    · rw [hqa, hpa]; simp; omega
    · have h3 := filter_lt (fun z hz => h1 z (by simp [hz])) ⟨a, ha, hqa, hpa⟩
      have h4 := h1 x (by simp)
      cases hp : p x
      · cases hq : q x
        · simpa using h3
        · simp; omega
      · rw [h4 hp]; simpa using h3
theorem nearer_lt {D : Int → Int} {n p : Nat} {d : Int} (hp : p < n) (h : D p < d) : nearer D n (D p) < nearer D n d := by
  unfold nearer
  refine filter_lt (fun x _ hx => ?_) ⟨p, by simp [hp], by simpa using h, by simp⟩
  simp only [decide_eq_true_eq] at hx ⊢
  omega
theorem nearer_le (D : Int → Int) (n : Nat) (d : Int) : nearer D n d ≤ n := by
  unfold nearer
  have := List.length_filter_le (fun x => decide (D ((x : Nat) : Int) < d)) (List.range n)
  rw [List.length_range] at this
  exact this
/-- nodes to which at most k others are nearer have their distance -/
def Lev (n : Nat) (D : Int → Int) (k : Nat) (L : List Int) : Prop := ∀ u : Nat, u < n → nearer D n (D u) ≤ k → val L u ≤ D u
theorem lev_more {n : Nat} {E : Goes} {s : Int} {D : Int → Int} {L : List Int} {k : Nat} (hE : Fair n E) (hs : 0 ≤ s) (hs2 : s < n) (hD : ∀ u, IsD n E s u (D u)) (h : BF n E s L) (hp : ∀ p u y, E p u y → nearer D n (D p) < k → val L u ≤ D p + y) : Lev n D k L := by
  intro u hu hk
  have h1 := h.rng u
  by_cases h2 : D u < INF
  · by_cases h3 : (u : Int) = s
    · rw [h3, h.start hs hs2]; exact (hD s).ge
    · obtain ⟨p, y, e, h4, h5, h6⟩ := (hD u).made hE h2 h3
      have h7 := hE _ _ _ h4
      obtain ⟨p', rfl⟩ : ∃ p' : Nat, p = p' := ⟨p.toNat, by omega⟩
      have h8 := h5.uniq (hD p')
      subst h8
      have h9 := nearer_lt (D := D) (n := n) (p := p') (d := D u) (by omega) (by omega)
      have := hp p' u y h4 (by omega)
      omega
  · have := (hD u).le; omega
theorem lev_zero {n : Nat} {E : Goes} {s : Int} {D : Int → Int} {L : List Int} (hE : Fair n E) (hs : 0 ≤ s) (hs2 : s < n) (hD : ∀ u, IsD n E s u (D u)) (h : BF n E s L) : Lev n D 0 L := lev_more hE hs hs2 hD h (fun _ _ _ _ h => by omega)
theorem lev_step {n : Nat} {E : Goes} {s : Int} {D : Int → Int} {L0 L : List Int} {A : List Ar} {less : Bool} {k : Nat} (hE : Fair n E) (hs : 0 ≤ s) (hs2 : s < n) (hD : ∀ u, IsD n E s u (D u)) (h : BF n E s L) (hr : Rnd L0 L A less) (hA : ∀ u t y, E u t y → (u, t, y) ∈ A) (hl : Lev n D k L0) : Lev n D (k + 1) L := by
  refine lev_more hE hs hs2 hD h (fun p u y ha hk => ?_)
  have h7 := hE _ _ _ ha
  obtain ⟨p', rfl⟩ : ∃ p' : Nat, p = p' := ⟨p.toNat, by omega⟩
  have h1 := hr.arcs _ (hA _ _ _ ha)
  have h2 := hl p' (by omega) (by omega)
  simp only at h1
  omega
theorem lev_all {n : Nat} {E : Goes} {s : Int} {D : Int → Int} {L : List Int} (hE : Fair n E) (hD : ∀ u, IsD n E s u (D u)) (h : BF n E s L) (hl : Lev n D n L) : IsDs n E s L := by
  refine ⟨h.len, fun u d hu => ?_⟩
  have hul := (List.getElem?_eq_some_iff.1 hu).1
  rw [h.len] at hul
  have h1 := hl u hul (nearer_le D n _)
  have h2 : D u ≤ val L u := by
    by_cases h3 : val L u < INF
    · exact (hD u).least _ (h.walk u (by omega) h3)
    · have := (hD u).le; have := (h.rng u).2; omega
  rw [← val_at hu, show val L u = D u by omega]
  exact hD u
theorem all_dists {n : Nat} {E : Goes} (hE : Fair n E) (s : Int) : ∃ D : Int → Int, ∀ u, IsD n E s u (D u) := Classical.axiomOfChoice (fun u => isD_exists hE s u)
theorem bf_start {n s : Nat} {E : Goes} (hs : s < n) : BF n E (s : Int) ((List.replicate n INF).set s 0) := by
  have hv : ∀ u : Int, val ((List.replicate n INF).set s 0) u = if u.toNat = s then 0 else INF := by
    intro u
    rw [val_set (by simpa using hs)]
    split
    · rfl
    · unfold val
      rw [List.getElem?_replicate]
      split <;> rfl
  refine ⟨by simp, fun u => ?_, fun u hu h => ?_, fun _ _ => by rw [hv]; simp⟩
  · rw [hv]; split <;> decide
  · rw [hv] at h ⊢
    split at h
    · rename_i e
      rw [if_pos e]
      obtain rfl : u = (s : Int) := by omega
      exact .none (by omega) (by omega)
    · exact absurd h (by decide)
/-- distances are no more than so many arcs are long -/
theorem dist_bound {n : Nat} {E : Goes} {s : Int} {D : Int → Int} {m : Int} (hE : Fair n E) (hm : ∀ u t y, E u t y → y ≤ m) (hm0 : 0 ≤ m) (hD : ∀ u, IsD n E s u (D u)) : ∀ (k : Nat) (u : Nat), u < n → nearer D n (D u) ≤ k → D u < INF → D u ≤ k * m := by
  intro k
  induction k with
  | zero =>
    intro u hu hk h2
    by_cases h3 : (u : Int) = s
    · have h4 := (hD u).walk h2
      have h5 := isD_self hE (s := s) ⟨(h4.nonneg hE).2.2.2.1, (h4.nonneg hE).2.2.2.2⟩
      have h6 := hD u
      rw [h3] at h6 ⊢
      have := h5.uniq h6
      omega
    · obtain ⟨p, y, e, h4, h5, h6⟩ := (hD u).made hE h2 h3
      have h7 := hE _ _ _ h4
      obtain ⟨p', rfl⟩ : ∃ p' : Nat, p = p' := ⟨p.toNat, by omega⟩
      have h8 := h5.uniq (hD p')
      subst h8
      have h9 := nearer_lt (D := D) (n := n) (p := p') (d := D u) (by omega) (by omega)
      omega
  | succ k ih =>
    intro u hu hk h2
    by_cases h3 : (u : Int) = s
    · have h4 := (hD u).walk h2
      have h5 := isD_self hE (s := s) ⟨(h4.nonneg hE).2.2.2.1, (h4.nonneg hE).2.2.2.2⟩
      have h6 := hD u
      rw [h3] at h6 ⊢
      have := h5.uniq h6
      have : 0 ≤ ((k + 1 : Nat) : Int) * m := Int.mul_nonneg (by omega) hm0
      omega
    · obtain ⟨p, y, e, h4, h5, h6⟩ := (hD u).made hE h2 h3
      have h7 := hE _ _ _ h4
      obtain ⟨p', rfl⟩ : ∃ p' : Nat, p = p' := ⟨p.toNat, by omega⟩
      have h8 := h5.uniq (hD p')
      subst h8
      have h9 := nearer_lt (D := D) (n := n) (p := p') (d := D u) (by omega) (by omega)
      have h10 := ih p' (by omega) (by omega) (by omega)
      have h11 := hm _ _ _ h4
      rw [show ((k + 1 : Nat) : Int) * m = k * m + m by rw [Int.natCast_add, Int.add_mul]; simp]
      omega
end Go.Proofs.Ytombpfpfeebnpaa
